import Derived.Test.YtckallochdegiaaGreatLaw
namespace Go.Proofs.YtckallochdegiaaGreat
set_option linter.unusedVariables false
set_option linter.unusedSimpArgs false
open Go.RowKit

theorem PBk.x {w w' : World} {b x g : Nat} {p : Pr} (h : PBk w b x g) (hp : p.At w) (k : But p.own w w') : PBk w' b x g := by
  refine row_but h k (fun q => ?_)
  obtain ⟨t, ht, c⟩ := hp.ty q
  have e := ht.same (rowIs_ty h)
  subst e
  revert c; decide

set_option maxRecDepth 100000 in
set_option maxHeartbeats 1000000 in
/-- A change that is refused for its ends. -/
theorem changed_bad (w : World) (b : Nat) (p : Pr) (kind u v : Int) (hk : kind = 2 ∨ kind = 3) (hp : p.At w) (hb : PBk w b p.x p.g) (h : ends p.G.N u v ≠ 0) :
    Calls Tryz.prog 34 #[ptr b, .int .i64 kind, .int .i64 u, .int .i64 v] w (ChR p w) := by
  have b0 := hb.c0
  have b1 := hb.c1
  have g0 := hp.gr.c0
  have HP := hid hp
  have HE := hid h
  clear h hb
  have HI : Hid (∀ (kk : Int), kk = 2 → Calls Tryz.prog 63 #[ptr p.x, .int .i64 u, .int .i64 v] w fun e w' => e = .returned (.int .i64 (ends p.G.N u v)) ∧ w' = w) := fun _ _ => Insert_bad p.x p.G.N u v w HP.out.ix.cn HE.out
  have HD : Hid (∀ (kk : Int), kk = 3 → Calls Tryz.prog 64 #[ptr p.x, .int .i64 u, .int .i64 v] w fun e w' => e = .returned (.int .i64 (ends p.G.N u v)) ∧ w' = w) := fun _ _ => Delete_bad p.x p.G.N u v w HP.out.ix.cn HE.out
  cases h0 : vtx p.G.N u
  · have H0 := hid h0
    have e : Hid (ends p.G.N u v = 1) := by show _ = _; simp [ends, h0]
    clear h0 hp
    rcases hk with rfl | rfl
    · go_enter Tryz.func34, Tryz.ntmps34
      go_wp2_with fail
      refine (vertex_any w b p.g p.G.N u b1 g0).mono ?_
      rintro _ w' ⟨rfl, rfl⟩
      rw [H0.out]
      go_wp2_with fail
      refine (HI.out 2 rfl).mono ?_
      rintro _ w' ⟨rfl, rfl⟩
      rw [e.out]
      go_wp2_with fail
      go_ret
      exact ChR.same HP.out (Below.refl _ _)
    · go_enter Tryz.func34, Tryz.ntmps34
      go_wp2_with fail
      refine (vertex_any w b p.g p.G.N u b1 g0).mono ?_
      rintro _ w' ⟨rfl, rfl⟩
      rw [H0.out]
      go_wp2_with fail
      refine (HD.out 3 rfl).mono ?_
      rintro _ w' ⟨rfl, rfl⟩
      rw [e.out]
      go_wp2_with fail
      go_ret
      exact ChR.same HP.out (Below.refl _ _)
  · have H0 := hid h0
    cases h1 : vtx p.G.N v
    · have H1 := hid h1
      have e : Hid (ends p.G.N u v = 1) := by show _ = _; simp [ends, h1]
      clear h0 h1 hp
      rcases hk with rfl | rfl
      · go_enter Tryz.func34, Tryz.ntmps34
        go_wp2_with fail
        refine (vertex_any w b p.g p.G.N u b1 g0).mono ?_
        rintro _ w' ⟨rfl, rfl⟩
        rw [H0.out]
        go_wp2_with fail
        refine (vertex_any _ b p.g p.G.N v b1 g0).mono ?_
        rintro _ w' ⟨rfl, rfl⟩
        rw [H1.out]
        go_wp2_with fail
        refine (HI.out 2 rfl).mono ?_
        rintro _ w' ⟨rfl, rfl⟩
        rw [e.out]
        go_wp2_with fail
        go_ret
        exact ChR.same HP.out (Below.refl _ _)
      · go_enter Tryz.func34, Tryz.ntmps34
        go_wp2_with fail
        refine (vertex_any w b p.g p.G.N u b1 g0).mono ?_
        rintro _ w' ⟨rfl, rfl⟩
        rw [H0.out]
        go_wp2_with fail
        refine (vertex_any _ b p.g p.G.N v b1 g0).mono ?_
        rintro _ w' ⟨rfl, rfl⟩
        rw [H1.out]
        go_wp2_with fail
        refine (HD.out 3 rfl).mono ?_
        rintro _ w' ⟨rfl, rfl⟩
        rw [e.out]
        go_wp2_with fail
        go_ret
        exact ChR.same HP.out (Below.refl _ _)
    · have H1 := hid h1
      have huv : u = v := by
        by_cases c : u = v
        · exact c
        · exact absurd (ends_ok h0 h1 c) HE.out
      subst huv
      have e : Hid (ends p.G.N u u = 2) := by show _ = _; simp [ends, h0]
      clear h0 h1 hp
      rcases hk with rfl | rfl
      · go_enter Tryz.func34, Tryz.ntmps34
        go_wp2_with fail
        refine (vertex_any w b p.g p.G.N u b1 g0).mono ?_
        rintro _ w' ⟨rfl, rfl⟩
        rw [H0.out]
        go_wp2_with fail
        refine (vertex_any _ b p.g p.G.N u b1 g0).mono ?_
        rintro _ w' ⟨rfl, rfl⟩
        rw [H0.out]
        go_wp2_with fail
        refine (HI.out 2 rfl).mono ?_
        rintro _ w' ⟨rfl, rfl⟩
        rw [e.out]
        go_wp2_with fail
        go_ret
        exact ChR.same HP.out (Below.refl _ _)
      · go_enter Tryz.func34, Tryz.ntmps34
        go_wp2_with fail
        refine (vertex_any w b p.g p.G.N u b1 g0).mono ?_
        rintro _ w' ⟨rfl, rfl⟩
        rw [H0.out]
        go_wp2_with fail
        refine (vertex_any _ b p.g p.G.N u b1 g0).mono ?_
        rintro _ w' ⟨rfl, rfl⟩
        rw [H0.out]
        go_wp2_with fail
        refine (HD.out 3 rfl).mono ?_
        rintro _ w' ⟨rfl, rfl⟩
        rw [e.out]
        go_wp2_with fail
        go_ret
        exact ChR.same HP.out (Below.refl _ _)

set_option maxRecDepth 100000 in
set_option maxHeartbeats 1000000 in
/-- A change between two vertices. -/
theorem changed_ok (w : World) (b : Nat) (p : Pr) (kind : Int) (u v : Nat) (hk : kind = 2 ∨ kind = 3) (hp : p.At w) (hb : PBk w b p.x p.g) (hu : u < p.G.N) (hv : v < p.G.N) (hne : u ≠ v) :
    Calls Tryz.prog 34 #[ptr b, .int .i64 kind, .int .i64 u, .int .i64 v] w (ChR p w) := by
  have b0 := hb.c0
  have b1 := hb.c1
  have g0 := hp.gr.c0
  have HP := hid hp
  have HBk := hid hb
  have H0 : Hid (vtx p.G.N u = true) := by show _ = _; simp [vtx]; omega
  have H1 : Hid (vtx p.G.N v = true) := by show _ = _; simp [vtx]; omega
  have hne' : ((u : Int) == (v : Int)) = false := by simp; omega
  have huI : (u : Int) < p.G.N := by omega
  have hvI : (v : Int) < p.G.N := by omega
  have HX := hid hp.ix
  clear hb hp
  rcases findIx_has p.G.edges (min (u : Int) v) (max (u : Int) v) with ⟨f1, f2⟩ | ⟨k, f1, f2, f3, f4⟩
  · have HF := hid f1
    clear f1 f2
    rcases hk with rfl | rfl
    · go_enter Tryz.func34, Tryz.ntmps34
      go_wp2_with fail
      refine (vertex_any w b p.g p.G.N u b1 g0).mono ?_
      rintro _ w' ⟨rfl, rfl⟩
      rw [H0.out]
      go_wp2_with fail
      refine (vertex_any _ b p.g p.G.N v b1 g0).mono ?_
      rintro _ w' ⟨rfl, rfl⟩
      rw [H1.out]
      go_wp2_with fail
      refine (Find_any p.g u v p.G.edges p.ev _ HP.out.gr.c1 HP.out.gr.ed).mono ?_
      rintro _ w1 ⟨rfl, hb1⟩
      rw [HF.out]
      have HB1 := hid hb1
      have HP1 := hid (HP.out.below hb1)
      have c0 := (HBk.out.below hb1).c0
      have HK1 := hid (HBk.out.below hb1)
      clear hb1 b0 b1 g0
      go_wp2_with fail
      classical
      obtain ⟨c, hc⟩ : ∃ c : Bool, c = true ↔ Rch p.G.edges false 0 u v := ⟨decide (Rch p.G.edges false 0 u v), by simp⟩
      have HC := hid hc
      clear hc
      refine (Insert_new p.x p.G p.pr u v c _ HP1.out.ix HP.out.gi HP.out.ns hu hv hne HF.out HC.out).mono ?_
      rintro _ w2 ⟨rfl, hi, hb2⟩
      have HB2 := hid hb2
      have HI2 := hid hi
      have HK2 : Hid (PBk w2 b p.x p.g) := HK1.out.x HP1.out (hb2.wide (fun _ _ q => Or.inl q))
      have d1 := HK2.out.c1
      have HG2 : Hid (GRep w2 p.g p.G p.ev p.tb p.tcap p.F p.pr) := HP1.out.gr.but hb2 (fun k hk q => by
        have hx := HP1.out.ix.ty
        rcases hk with rfl | rfl | hk
        · exact (rowIs_ty HP1.out.gr.rg).ne hx (by decide) q
        · exact (rowIs_ty HP1.out.gr.rt).ne hx (by decide) q
        · exact HP1.out.gr.ed.notIn hx (by decide) k hk q) (noTour_one HP1.out.ix.ty (by decide) (by decide))
      clear hi hb2 c0
      go_wp2_with fail
      refine (Insert_G _ p.g p.tb p.tcap p.G p.ev p.F p.pr u v HG2.out HP.out.gi HP.out.ns (by omega) huI (by omega) hvI (by omega) HF.out).mono ?_
      rintro _ w3 ⟨rfl, ⟨c', ev', F', h1, h2, h3⟩, hb3⟩
      have hcc : c' = c := Bool.eq_iff_iff.2 (h1.trans HC.out.symm)
      subst hcc
      have HR := hid (ChR.came HP.out hu hv hne HF.out HB1.out HB2.out HI2.out h1 h2 h3 hb3 (own_noIt HG2.out))
      clear h1 h2 h3 hb3 d1
      go_wp2_with fail
      go_ret
      exact HR.out
    · go_enter Tryz.func34, Tryz.ntmps34
      go_wp2_with fail
      refine (vertex_any w b p.g p.G.N u b1 g0).mono ?_
      rintro _ w' ⟨rfl, rfl⟩
      rw [H0.out]
      go_wp2_with fail
      refine (vertex_any _ b p.g p.G.N v b1 g0).mono ?_
      rintro _ w' ⟨rfl, rfl⟩
      rw [H1.out]
      go_wp2_with fail
      refine (Find_any p.g u v p.G.edges p.ev _ HP.out.gr.c1 HP.out.gr.ed).mono ?_
      rintro _ w1 ⟨rfl, hb1⟩
      rw [HF.out]
      have HB1 := hid hb1
      have HP1 := hid (HP.out.below hb1)
      have c0 := (HBk.out.below hb1).c0
      clear hb1 b0 b1 g0
      go_wp2_with fail
      refine (Delete_none p.x p.G p.pr u v _ HP1.out.ix HP.out.gi hu hv hne HF.out).mono ?_
      rintro _ w2 ⟨rfl, hb2⟩
      have HB2 := hid (HB1.out.trans (hb2.mono HB1.out.size))
      clear hb2 c0
      go_wp2_with fail
      go_ret
      exact ChR.same HP.out HB2.out
  · have HF := hid f1
    have hk0 : (0 : Int) ≤ (k : Int) := by omega
    have hk1 : ¬ (k : Int) < 0 := by omega
    clear f1 f2 f3 f4
    rcases hk with rfl | rfl
    · go_enter Tryz.func34, Tryz.ntmps34
      go_wp2_with fail
      refine (vertex_any w b p.g p.G.N u b1 g0).mono ?_
      rintro _ w' ⟨rfl, rfl⟩
      rw [H0.out]
      go_wp2_with fail
      refine (vertex_any _ b p.g p.G.N v b1 g0).mono ?_
      rintro _ w' ⟨rfl, rfl⟩
      rw [H1.out]
      go_wp2_with fail
      refine (Find_any p.g u v p.G.edges p.ev _ HP.out.gr.c1 HP.out.gr.ed).mono ?_
      rintro _ w1 ⟨rfl, hb1⟩
      rw [HF.out]
      have HB1 := hid hb1
      have HP1 := hid (HP.out.below hb1)
      have c0 := (HBk.out.below hb1).c0
      clear hb1 b0 b1 g0
      go_wp2_with fail
      refine (Insert_there p.x p.G p.pr u v k _ HP1.out.ix HP.out.gi hu hv hne HF.out).mono ?_
      rintro _ w2 ⟨rfl, rfl⟩
      go_wp2_with fail
      go_ret
      exact ChR.same HP.out HB1.out
    · go_enter Tryz.func34, Tryz.ntmps34
      go_wp2_with fail
      refine (vertex_any w b p.g p.G.N u b1 g0).mono ?_
      rintro _ w' ⟨rfl, rfl⟩
      rw [H0.out]
      go_wp2_with fail
      refine (vertex_any _ b p.g p.G.N v b1 g0).mono ?_
      rintro _ w' ⟨rfl, rfl⟩
      rw [H1.out]
      go_wp2_with fail
      refine (Find_any p.g u v p.G.edges p.ev _ HP.out.gr.c1 HP.out.gr.ed).mono ?_
      rintro _ w1 ⟨rfl, hb1⟩
      rw [HF.out]
      have HB1 := hid hb1
      have HP1 := hid (HP.out.below hb1)
      have c0 := (HBk.out.below hb1).c0
      have HK1 := hid (HBk.out.below hb1)
      clear hb1 b0 b1 g0
      go_wp2_with fail
      refine (Delete_old p.x p.G p.pr u v k _ HP1.out.ix HP.out.gi HP.out.ns hu hv hne HF.out).mono ?_
      rintro _ w2 ⟨rfl, ⟨Gd, prd, hi, hd, _⟩, hb2⟩
      have HDl := hid hd
      clear hd
      have HB2 := hid hb2
      have HI2 := hid hi
      have HK2 : Hid (PBk w2 b p.x p.g) := HK1.out.x HP1.out (hb2.wide (fun _ _ q => Or.inl q))
      have d1 := HK2.out.c1
      have HG2 : Hid (GRep w2 p.g p.G p.ev p.tb p.tcap p.F p.pr) := HP1.out.gr.but hb2 (fun k hk q => by
        have hx := HP1.out.ix.ty
        rcases hk with rfl | rfl | hk
        · exact (rowIs_ty HP1.out.gr.rg).ne hx (by decide) q
        · exact (rowIs_ty HP1.out.gr.rt).ne hx (by decide) q
        · exact HP1.out.gr.ed.notIn hx (by decide) k hk q) (noTour_one HP1.out.ix.ty (by decide) (by decide))
      clear hi hb2 c0
      go_wp2_with fail
      refine (Delete_F _ p.g p.tb p.tcap k p.G p.ev p.F p.pr u v HG2.out HP.out.gi HP.out.ns (by omega) HF.out).mono ?_
      rintro _ w3 ⟨rfl, ⟨G', ev', F', pr', h1, hd2, h2, h3⟩, hb3⟩
      have hgg : (Gd, prd) = (G', pr') := HDl.out.symm.trans hd2
      have hg1 : Gd = G' := congrArg Prod.fst hgg
      have hg2 : prd = pr' := congrArg Prod.snd hgg
      clear hgg hd2 HDl
      subst hg1 hg2
      have HR := hid (ChR.went HP.out HF.out HB1.out HB2.out HI2.out h1 h2 h3 hb3 (own_noIt HG2.out))
      clear h1 h2 h3 hb3 d1
      go_wp2_with fail
      go_ret
      exact HR.out

/-- A change, whatever its ends are. -/
theorem changed_any (w : World) (b : Nat) (p : Pr) (kind u v : Int) (hk : kind = 2 ∨ kind = 3) (hp : p.At w) (hb : PBk w b p.x p.g) :
    Calls Tryz.prog 34 #[ptr b, .int .i64 kind, .int .i64 u, .int .i64 v] w (ChR p w) := by
  by_cases h : ends p.G.N u v = 0
  · have hh : vtx p.G.N u = true ∧ vtx p.G.N v = true ∧ u ≠ v := by
      unfold ends at h
      split at h
      · rename_i c
        split at h
        · simp at h
        · rename_i d; exact ⟨c.1, c.2, d⟩
      · simp at h
    obtain ⟨h1, h2, h3⟩ := hh
    simp only [vtx, Bool.and_eq_true, decide_eq_true_eq] at h1 h2
    obtain ⟨x, rfl⟩ : ∃ x : Nat, u = x := ⟨u.toNat, by omega⟩
    obtain ⟨y, rfl⟩ : ∃ y : Nat, v = y := ⟨v.toNat, by omega⟩
    exact changed_ok w b p kind x y hk hp hb (by omega) (by omega) (by omega)
  · exact changed_bad w b p kind u v hk hp hb h

end Go.Proofs.YtckallochdegiaaGreat
namespace Go.Proofs.YtckallochdegiaaGreat
set_option linter.unusedVariables false
set_option linter.unusedSimpArgs false
open Go.RowKit

set_option maxRecDepth 100000 in
set_option maxHeartbeats 1000000 in
theorem moved_any (w : World) (b : Nat) (p : Pr) (x y : Int) (hp : p.At w) (hb : PBk w b p.x p.g) (hx0 : -9223372036854775808 ≤ x) (hx1 : x ≤ 9223372036854775807) (hy0 : -9223372036854775808 ≤ y) (hy1 : y ≤ 9223372036854775807) :
    Calls Tryz.prog 19 #[ptr b, .int .i64 x, .int .i64 y] w (ChR p w) := by
  have b1 := hb.c1
  have g0 := hp.gr.c0
  have HP := hid hp
  have HBk := hid hb
  have n1 := hp.gi.n1
  have n48 := hp.gi.n48
  clear hp hb
  go_enter Tryz.func19, Tryz.ntmps19
  go_wp2_with fail
  refine (pick_any w x p.G.N (by omega) hx0 hx1 (by omega)).mono ?_
  rintro _ w' ⟨rfl, hw⟩
  replace hw := hw.symm
  subst hw
  go_wp2_with fail
  refine (pick_any _ y p.G.N (by omega) hy0 hy1 (by omega)).mono ?_
  rintro _ w' ⟨rfl, hw⟩
  replace hw := hw.symm
  subst hw
  go_wp2_with fail
  obtain ⟨u, hu⟩ : ∃ u, u = pk x p.G.N := ⟨_, rfl⟩
  obtain ⟨v, hv⟩ : ∃ v, v = pk y p.G.N := ⟨_, rfl⟩
  rw [← hu, ← hv]
  clear hu hv
  refine (Find_any p.g u v p.G.edges p.ev _ HP.out.gr.c1 HP.out.gr.ed).mono ?_
  rintro _ w1 ⟨rfl, hb1⟩
  have HB1 := hid hb1
  have HP1 := hid (HP.out.below hb1)
  have HK1 := hid (HBk.out.below hb1)
  have HS := hid hb1.size
  have HR : Hid (∀ e w', ChR p w1 e w' → ∃ v, e = .returned v ∧ ChR p w e w' ∧ v = .bool true) := by
    rintro e w' ⟨p', rfl, h1, h2, h3, h4, h5⟩
    refine ⟨_, rfl, ⟨p', rfl, h1, h2, h3, fun k hk => ?_, (But.of HB1.out).trans h5 (fun _ _ q => q)⟩, rfl⟩
    rcases h4 k hk with q | q
    · exact Or.inl q
    · exact Or.inr (by have := HS.out; omega)
  generalize findIx p.G.edges (min (u : Int) v) (max (u : Int) v) = f
  clear hb1 b1 g0
  by_cases c : 0 ≤ f
  · go_wp2_with fail
    refine (changed_any _ b p 3 u v (Or.inr rfl) HP1.out HK1.out).mono ?_
    intro e w2 h2
    obtain ⟨v, rfl, h3, rfl⟩ := HR.out e w2 h2
    have H3 := hid h3
    clear h2 h3
    go_wp2_with fail
    go_ret
    exact H3.out
  · go_wp2_with fail
    refine (changed_any _ b p 2 u v (Or.inl rfl) HP1.out HK1.out).mono ?_
    intro e w2 h2
    obtain ⟨v, rfl, h3, rfl⟩ := HR.out e w2 h2
    have H3 := hid h3
    clear h2 h3
    go_wp2_with fail
    go_ret
    exact H3.out

/-- The answer was right; nothing has turned. -/
def AskR (w : World) (e : Ending) (w' : World) : Prop := e = .returned (.bool true) ∧ Below w.heap.size w w'

set_option maxRecDepth 100000 in
set_option maxHeartbeats 1000000 in
theorem asked_conn (w : World) (b : Nat) (p : Pr) (u v : Int) (hp : p.At w) (hb : PBk w b p.x p.g) : Calls Tryz.prog 23 #[ptr b, .int .i64 4, .int .i64 u, .int .i64 v] w (AskR w) := by
  have b0 := hb.c0
  have HP := hid hp
  have HBk := hid hb
  have n48 := hp.gi.n48
  clear hp hb
  go_enter Tryz.func23, Tryz.ntmps23
  go_wp2_with fail
  refine (iConn_any w p.x p.G p.pr u v HP.out.ix HP.out.gi HP.out.ns).mono ?_
  rintro e w1 (⟨hv, rfl, rfl⟩ | ⟨h0, h1, bb, rfl, hbb, hb1⟩)
  · have b1 := HBk.out.c1
    have g0 := HP.out.gr.c0
    have HV := hid hv
    clear hv
    go_wp2_with fail
    refine (vertex_any w1 b p.g p.G.N u b1 g0).mono ?_
    rintro _ w' ⟨rfl, rfl⟩
    cases h0 : vtx p.G.N u
    · clear h0
      go_wp2_with fail
      go_ret
      exact ⟨rfl, Below.refl _ _⟩
    · have h1 : vtx p.G.N v = false := by
        rcases HV.out with q | q
        · rw [h0] at q; simp at q
        · exact q
      have H1 := hid h1
      clear h0 h1
      go_wp2_with fail
      refine (vertex_any _ b p.g p.G.N v b1 g0).mono ?_
      rintro _ w' ⟨rfl, rfl⟩
      rw [H1.out]
      go_wp2_with fail
      go_ret
      exact ⟨rfl, Below.refl _ _⟩
  · have HP1 := hid (HP.out.below hb1)
    have b1 := (HBk.out.below hb1).c1
    have g0 := HP1.out.gr.c0
    have H0 := hid h0
    have H1 := hid h1
    have HB1 := hid hb1
    have HBb := hid hbb
    simp only [vtx, Bool.and_eq_true, decide_eq_true_eq] at h0 h1
    obtain ⟨x, rfl⟩ : ∃ x : Nat, u = x := ⟨u.toNat, by omega⟩
    obtain ⟨y, rfl⟩ : ∃ y : Nat, v = y := ⟨v.toNat, by omega⟩
    have hxn : (x : Int) < p.G.N := h0.2
    have hyn : (y : Int) < p.G.N := h1.2
    clear h0 h1 hb1 hbb
    go_wp2_with fail
    refine (vertex_any w1 b p.g p.G.N x b1 g0).mono ?_
    rintro _ w' ⟨rfl, rfl⟩
    rw [H0.out]
    go_wp2_with fail
    refine (vertex_any _ b p.g p.G.N y b1 g0).mono ?_
    rintro _ w' ⟨rfl, rfl⟩
    rw [H1.out]
    go_wp2_with fail
    refine (Connected_any p.g p.G.N x y p.G.edges p.ev _ HP1.out.gr.c0 HP1.out.gr.c1 HP1.out.gr.ed n48 (by omega) hxn (by omega) hyn (fun e he => ⟨⟨(HP.out.gi.rngE e he).1, (HP.out.gi.rngE e he).2.1⟩, (HP.out.gi.rngE e he).2.2⟩)).mono ?_
    rintro _ w2 ⟨c, rfl, hc, hb2⟩
    have hbc : bb = c := by
      rw [Bool.eq_iff_iff, hc, HBb.out]
    subst hbc
    have HB2 : Hid (Below w.heap.size w w2) := HB1.out.trans (hb2.mono HB1.out.size)
    clear hc hb2 b1 g0
    cases bb
    · go_wp2_with fail
      go_ret
      exact ⟨rfl, HB2.out⟩
    · go_wp2_with fail
      go_ret
      exact ⟨rfl, HB2.out⟩

set_option maxRecDepth 100000 in
set_option maxHeartbeats 1000000 in
theorem asked_size (w : World) (b : Nat) (p : Pr) (u v : Int) (hp : p.At w) (hb : PBk w b p.x p.g) : Calls Tryz.prog 23 #[ptr b, .int .i64 5, .int .i64 u, .int .i64 v] w (AskR w) := by
  have b0 := hb.c0
  have HP := hid hp
  have HBk := hid hb
  have n48 := hp.gi.n48
  clear hp hb
  go_enter Tryz.func23, Tryz.ntmps23
  go_wp2_with fail
  refine (iSize_any w p.x p.G p.pr u HP.out.ix HP.out.gi HP.out.ns).mono ?_
  rintro e w1 (⟨hv, rfl, rfl⟩ | ⟨h0, kk, rfl, hC, hb1⟩)
  · have b1 := HBk.out.c1
    have g0 := HP.out.gr.c0
    have HV := hid hv
    clear hv
    go_wp2_with fail
    refine (vertex_any w1 b p.g p.G.N u b1 g0).mono ?_
    rintro _ w' ⟨rfl, rfl⟩
    rw [HV.out]
    go_wp2_with fail
    go_ret
    exact ⟨rfl, Below.refl _ _⟩
  · have HP1 := hid (HP.out.below hb1)
    have b1 := (HBk.out.below hb1).c1
    have g0 := HP1.out.gr.c0
    have H0 := hid h0
    have HB1 := hid hb1
    have HC := hid hC
    simp only [vtx, Bool.and_eq_true, decide_eq_true_eq] at h0
    obtain ⟨x, rfl⟩ : ∃ x : Nat, u = x := ⟨u.toNat, by omega⟩
    have hxn : (x : Int) < p.G.N := h0.2
    clear h0 hb1 hC
    go_wp2_with fail
    refine (vertex_any w1 b p.g p.G.N x b1 g0).mono ?_
    rintro _ w' ⟨rfl, rfl⟩
    rw [H0.out]
    go_wp2_with fail
    refine (Size_any p.g p.G.N x p.G.edges p.ev _ HP1.out.gr.c0 HP1.out.gr.c1 HP1.out.gr.ed n48 (by omega) hxn (fun e he => ⟨⟨(HP.out.gi.rngE e he).1, (HP.out.gi.rngE e he).2.1⟩, (HP.out.gi.rngE e he).2.2⟩)).mono ?_
    rintro _ w2 ⟨k, rfl, ⟨r, hr, hk⟩, hb2⟩
    have hlk : kk = k := by
      rw [hk]
      exact HC.out r (by simpa using hr)
    have hlk' : ((kk : Int) == (k : Int)) = true := by simp [hlk]
    have HB2 : Hid (Below w.heap.size w w2) := HB1.out.trans (hb2.mono HB1.out.size)
    clear hr hk hb2 b1 g0 hlk
    go_wp2_with fail
    go_ret
    exact ⟨rfl, HB2.out⟩

set_option maxRecDepth 100000 in
set_option maxHeartbeats 1000000 in
theorem told_any (w : World) (b : Nat) (p : Pr) (hp : p.At w) (hb : PBk w b p.x p.g) : Calls Tryz.prog 20 #[ptr b] w (AskR w) := by
  have b0 := hb.c0
  have HP := hid hp
  have HBk := hid hb
  clear hp hb
  go_enter Tryz.func20, Tryz.ntmps20
  go_wp2_with fail
  refine (Told_any w p.x p.G p.pr HP.out.ix HP.out.gi HP.out.ns).mono ?_
  rintro e w1 ⟨c, rfl, hc, hb1⟩
  have HC := hid hc
  have HB1 := hid hb1
  have HP1 := hid (HP.out.below hb1)
  have HK1 := hid (HBk.out.below hb1)
  have b1 := HK1.out.c1
  have g0 := HP1.out.gr.c0
  clear hb1 b0 hc
  go_wp2_with fail
  refine (Count_F _ p.g p.G.N p.G.edges p.ev p.tb p.G.tours.length p.tcap p.pr (HP1.out.gr.weak HP.out.gi)).mono ?_
  rintro e w2 ⟨k, r, rfl, hr, hk, hb2⟩
  have hck : c = k := by rw [hk]; exact HC.out r hr
  subst hck
  have HB2 : Hid (Below w.heap.size w w2) := HB1.out.trans (hb2.mono HB1.out.size)
  have HP2 := hid (HP1.out.below hb2)
  have e1 := (HK1.out.below hb2).c1
  have f1 := HP2.out.gr.c1
  have f3 := HP2.out.gr.c3
  clear hb2 b1 g0 hr hk HC
  obtain ⟨ep, ec, hev⟩ : ∃ ep ec, p.ev = .slice ep p.G.edges.length ec := by
    rcases HP.out.gr.ed with ⟨q, q2⟩ | ⟨eb, cap, q⟩
    · exact ⟨none, 0, by rw [q, q2]; rfl⟩
    · exact ⟨_, _, q.hv⟩
  rw [hev] at f1
  have el := HP.out.gi.elen
  clear hev
  generalize p.pr = pr at f3 ⊢
  generalize p.G.edges.length = el' at f1 el ⊢
  go_wp2_with fail
  go_ret
  exact ⟨rfl, HB2.out⟩

end Go.Proofs.YtckallochdegiaaGreat
