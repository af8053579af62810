import Derived.Test.YtckallochdegiaaGreatIxA
import Derived.Test.YtckallochdegiaaGreatPgP
namespace Go.Proofs.YtckallochdegiaaGreat
set_option linter.unusedVariables false
set_option linter.unusedSimpArgs false
open Go.RowKit

/-- Block b is the index of the graph G, with its rises. -/
def IdxG (w : World) (b : Nat) (G : Gr) (pr : Int) : Prop := ∃ R F, IdxP w b G.N (look G.edges) R pr F ∧ Sim G R

section
variable {w w' : World} {b : Nat} {G : Gr} {pr : Int} {S : Nat → Prop}
theorem IdxG.but (h : IdxG w b G pr) (k : But S w w') (hS : ¬ S b) (hn : NoIt S w) : IdxG w' b G pr := by
  obtain ⟨R, F, h1, h2⟩ := h
  exact ⟨R, F, h1.but k hS hn, h2⟩
theorem IdxG.below (h : IdxG w b G pr) (k : Below w.heap.size w w') : IdxG w' b G pr := by
  obtain ⟨R, F, h1, h2⟩ := h
  exact ⟨R, F, h1.below k, h2⟩
theorem IdxG.ty (h : IdxG w b G pr) : TyAt w b 104 := by
  obtain ⟨R, F, h1, h2⟩ := h
  exact h1.ty
theorem IdxG.cn (h : IdxG w b G pr) : w.cell? ⟨b, 0, none⟩ = some (.int .i64 G.N) := by
  obtain ⟨R, F, h1, h2⟩ := h
  exact h1.hn
theorem IdxG.noIt (h : IdxG w b G pr) : NoIt (fun k => k = b) w := noIt_one h.ty (by decide)
end

set_option maxRecDepth 100000 in
set_option maxHeartbeats 1000000 in
theorem joined_at (w : World) (b n : Nat) (E : Nat → Nat → E3) (R : Nat → Nat → List Itm) (r : Int) (F : Nat → Value) (u v k : Nat) (h : IdxP w b n E R r F) (hk : k < 6) :
    Calls Tryz.prog 77 #[ptr b, .int .i64 u, .int .i64 v, .int .i64 k] w fun e w' => e = .returned (.bool (holdX (R k) (u, u) == holdX (R k) (v, v))) ∧ Below w.heap.size w w' := by
  have H1 := hid h
  have hk6 : (k : Int) < 6 := by omega
  clear h
  go_enter Tryz.func77, Tryz.ntmps77
  go_wp2_with fail
  refine (Least_any w b _ F (R k) u (H1.out.fo (k := k) (by omega))).mono ?_
  rintro e w1 ⟨rfl, hb1⟩
  have HB1 := hid hb1
  have H2 := hid (H1.out.below hb1)
  clear hb1
  generalize hp : holdX (R k) ((u : Int), (u : Int)) = p
  have HPe := hid hp
  clear hp
  go_wp2_with fail
  refine (Least_any w1 b _ F (R k) v (H2.out.fo (k := k) (by omega))).mono ?_
  rintro e w2 ⟨rfl, hb2⟩
  have HB2 : Hid (Below w.heap.size w w2) := HB1.out.trans (hb2.mono HB1.out.size)
  clear hb2
  generalize hq : holdX (R k) ((v : Int), (v : Int)) = q
  have HQe := hid hq
  clear hq
  go_wp2_with fail
  go_ret
  exact ⟨by rw [HPe.out, HQe.out]; rfl, HB2.out⟩

theorem joined_any (w : World) (b : Nat) (G : Gr) (pr : Int) (u v : Nat) (h : IdxG w b G pr) (hI : GI G) (hu : u < G.N) (hv : v < G.N) :
    Calls Tryz.prog 77 #[ptr b, .int .i64 u, .int .i64 v, .int .i64 0] w fun e w' => (∃ c : Bool, e = .returned (.bool c) ∧ (c = true ↔ Same (lv G 0) u v)) ∧ Below w.heap.size w w' := by
  obtain ⟨R, F, h1, h2⟩ := h
  have n48 := hI.n48
  have L := hI.li 0 (by omega)
  obtain ⟨tu, zu, u1, u2, u3, u4, u5, u6, u7⟩ := h2.at_ (i := 0) hI (by omega) (v := (u : Int)) (by omega) (by omega)
  obtain ⟨tv, zv, v1, v2, v3, v4, v5, v6, v7⟩ := h2.at_ (i := 0) hI (by omega) (v := (v : Int)) (by omega) (by omega)
  have hHu := holdX_some (by omega) u5 u6
  have hHv := holdX_some (by omega) v5 v6
  have hS : zu = zv ↔ Same (lv G 0) u v := by
    constructor
    · rintro rfl
      have := L.uniq u1 v1 u4.1 v4.1 rfl
      subst this
      exact ⟨tu, u1, u2, v2⟩
    · rintro ⟨t, t1, t2, t3⟩
      have e1 := L.uniq u1 t1 u2 t2 rfl
      have e2 := L.uniq v1 t1 v2 t3 rfl
      rw [e1] at u4
      rw [e2] at v4
      have := u4.uniq v4
      omega
  refine (joined_at w b G.N _ R pr F u v 0 h1 (by omega)).mono ?_
  rintro e w1 ⟨rfl, hb1⟩
  refine ⟨⟨_, rfl, ?_⟩, hb1⟩
  rw [← hS, hHu, hHv]
  simp only [beq_iff_eq]
  omega

set_option maxRecDepth 100000 in
set_option maxHeartbeats 1000000 in
/-- The vertices of a tree of level 0. -/
theorem vertices_any (w : World) (b : Nat) (G : Gr) (pr : Int) (v : Nat) (t : List Itm) (h : IdxG w b G pr) (hI : GI G) (hv : v < G.N) (ht : t ∈ lv G 0) (hvt : ((v : Int), (-1 : Int)) ∈ t) :
    Calls Tryz.prog 74 #[ptr b, .int .i64 v, .int .i64 0] w fun e w' => ∃ val, e = .returned val ∧ NumsAt w' w.heap.size val (verts (fromX t (leastV t v, -1))) ∧ Below w.heap.size w w' := by
  obtain ⟨R, F, h1, h2⟩ := h
  have H1 := hid h1
  have n48 := hI.n48
  have L := hI.li 0 (by omega)
  obtain ⟨tu, zu, u1, u2, u3, u4, u5, u6, u7⟩ := h2.at_ (i := 0) hI (by omega) (v := (v : Int)) (by omega) (by omega)
  have e1 := L.uniq u1 ht u2 hvt rfl
  subst e1
  have ok := hI.okI (i := 0) (by omega) u1
  have ezu : leastV tu v = zu := (leastV_at (L.tr tu u1) ok u2).uniq u4
  have okf : ∀ x, x ∈ fromX tu (zu, -1) → OkI x := fun x hx => ok x ((fromX_mem _ _ _).1 hx)
  have HV : Hid (vtxs (R 0 zu) = verts (fromX tu (leastV tu v, -1))) := by
    show _ = _
    rw [u7, ezu, vtxs, verts]
    generalize fromX tu (zu, -1) = l at okf
    clear u7 ezu
    induction l with
    | nil => rfl
    | cons x l ih =>
      have o := okf x (by simp)
      have i := ih (fun y hy => okf y (by simp [hy]))
      simp only [List.map_cons, List.filter_cons]
      by_cases c : x.2 = -1
      · have c1 : ((pv x).1 == (pv x).2) = true := by simp [(pv_self o).2 c]
        have c2 : decide (x.2 < 0) = true := by simp [o.neg.2 c]
        rw [if_pos c1, if_pos c2, List.map_cons, List.map_cons, i, pv_fst]
      · have c1 : ¬ ((pv x).1 == (pv x).2) = true := by simp only [beq_iff_eq]; exact fun q => c ((pv_self o).1 q)
        have c2 : ¬ decide (x.2 < 0) = true := by simp only [decide_eq_true_eq]; exact fun q => c (o.neg.1 q)
        rw [if_neg c1, if_neg c2, i]
  obtain ⟨b1, o1, c1, e1, hp⟩ := (h1.fo (k := 0) (by omega)).at_ (show zu < 48 by omega) u5
  have HP := hid hp
  have HE1 := hid e1
  have HLen : Hid ((R 0 zu).length ≤ 3000) := by
    show _ ≤ _
    rw [u7, List.length_map, fromX_length]
    exact Nat.le_trans (L.len n48 hI.rngE u1) (by omega)
  have HOk : Hid (∀ x, x ∈ R 0 zu → 0 ≤ x.1 ∧ x.1 < 48) := by
    intro x hx
    rw [u7] at hx
    obtain ⟨y, hy, rfl⟩ := List.mem_map.1 hx
    rw [pv_fst]
    exact ⟨(okf y hy).1, (okf y hy).2.1⟩
  have HU5 := hid u5
  have HU6 := hid u6
  clear h1 h2 L u1 u2 u4 u5 u6 u7 ht hvt ok ezu okf e1 hp
  go_enter Tryz.func74, Tryz.ntmps74
  go_wp2_with fail
  refine (Round_fany w b 6913 F (R 0) v zu (H1.out.fo (k := 0) (by omega)) (by omega) HU5.out HU6.out).mono ?_
  rintro e w1 ⟨rfl, hb1⟩
  rw [HE1.out]
  have HB1 := hid hb1
  have HP1 := hid (HP.out.below hb1 (Nat.le_refl _))
  clear hb1
  go_wp2_with fail
  refine (Vertices_any w1 b1 o1 c1 (R 0 zu) HP1.out HLen.out HOk.out).mono ?_
  rintro e w2 ⟨val, rfl, hn, hb2⟩
  have HR : Hid (NumsAt w2 w.heap.size val (verts (fromX tu (leastV tu v, -1))) ∧ Below w.heap.size w w2) := by
    rw [HV.out] at hn
    exact ⟨⟨owns_mono hn.1 HB1.out.size, hn.2⟩, HB1.out.trans (hb2.mono HB1.out.size)⟩
  clear hn hb2
  go_wp2_with fail
  go_ret
  exact ⟨val, rfl, HR.out.1, HR.out.2⟩

set_option maxHeartbeats 400000 in
/-- Insert, refused: nothing turns. -/
theorem Insert_bad (b n : Nat) (u v : Int) (w : World) (hn : w.cell? ⟨b, 0, none⟩ = some (.int .i64 n)) (h : ends n u v ≠ 0) :
    Calls Tryz.prog 63 #[ptr b, .int .i64 u, .int .i64 v] w fun e w' => e = .returned (.int .i64 (ends n u v)) ∧ w' = w := by
  generalize he : ends n u v = r at h ⊢
  have He : Hid (ends n u v = r) := he
  clear he
  have hr : (r != 0) = true := by simpa using h
  go_enter Tryz.func63, Tryz.ntmps63
  go_wp2_with fail
  refine (checkEnds_any b n u v _ hn).mono ?_
  rintro e w' ⟨rfl, rfl⟩
  rw [He.out]
  go_wp2_with fail
  go_ret
  exact ⟨rfl, rfl⟩

set_option maxHeartbeats 400000 in
/-- Insert of an edge that is there: nothing turns. -/
theorem Insert_there (b : Nat) (G : Gr) (pr : Int) (u v k : Nat) (w : World) (h : IdxG w b G pr) (hI : GI G) (hu : u < G.N) (hv : v < G.N) (huv : u ≠ v) (hf : findIx G.edges (min (u : Int) v) (max (u : Int) v) = k) :
    Calls Tryz.prog 63 #[ptr b, .int .i64 u, .int .i64 v] w fun e w' => e = .returned (.int .i64 3) ∧ w' = w := by
  obtain ⟨R, F, h1, h2⟩ := h
  have n48 := hI.n48
  have Hok : Hid (ends G.N u v = 0) := ends_ok (vtx_yes (by omega) (by omega)) (vtx_yes (by omega) (by omega)) (by omega)
  have c1 := h1.c0 u v (by omega) (by omega)
  rw [look_at hf] at c1
  have cn := h1.hn
  have hu' : (u : Int) < 48 := by omega
  have hv' : (v : Int) < 48 := by omega
  simp only at c1
  clear h1 h2 hI hf
  go_enter Tryz.func63, Tryz.ntmps63
  go_wp2_with fail
  refine (checkEnds_any b G.N u v _ cn).mono ?_
  rintro e w' ⟨rfl, rfl⟩
  rw [Hok.out]
  go_wp2_with fail
  go_ret
  exact ⟨rfl, rfl⟩

set_option maxRecDepth 100000 in
set_option maxHeartbeats 1000000 in
/-- Insert of an edge that is not there. -/
theorem Insert_new (b : Nat) (G : Gr) (pr : Int) (u v : Nat) (c : Bool) (w : World) (h : IdxG w b G pr) (hI : GI G) (hns : NS G) (hu : u < G.N) (hv : v < G.N) (huv : u ≠ v) (hf : findIx G.edges (min (u : Int) v) (max (u : Int) v) = -1) (hc : c = true ↔ Rch G.edges false 0 u v) :
    Calls Tryz.prog 63 #[ptr b, .int .i64 u, .int .i64 v] w fun e w' => e = .returned (.int .i64 0) ∧ IdxG w' b (insG G u v (!c)) pr ∧ But (fun k => k = b) w w' := by
  have HG := hid h
  have hsm := hI.conn hns (a := (u : Int)) (b := (v : Int)) (by omega) (by omega) (by omega) (by omega)
  have n48 := hI.n48
  have HI := hid hI
  have HJ : Hid (∀ w', IdxG w' b G pr → Calls Tryz.prog 77 #[ptr b, .int .i64 u, .int .i64 v, .int .i64 0] w' fun e w'' => e = .returned (.bool c) ∧ Below w'.heap.size w' w'') := by
    intro w' h'
    refine (joined_any w' b G pr u v h' hI hu hv).mono ?_
    rintro e w'' ⟨⟨d, rfl, hd⟩, hb⟩
    have : d = c := by
      cases d <;> cases c
      · rfl
      · exact absurd (hd.2 (hsm.1 (hc.1 rfl))) (by simp)
      · exact absurd (hc.2 (hsm.2 (hd.1 rfl))) (by simp)
      · rfl
    subst this
    exact ⟨rfl, hb⟩
  obtain ⟨R, F, h1, h2⟩ := h
  have Hok : Hid (ends G.N u v = 0) := ends_ok (vtx_yes (by omega) (by omega)) (vtx_yes (by omega) (by omega)) (by omega)
  have c1 := h1.c0 u v (by omega) (by omega)
  rw [look_no hf] at c1
  simp only at c1
  have cn := h1.hn
  have hu' : (u : Int) < 48 := by omega
  have hv' : (v : Int) < 48 := by omega
  have H1 := hid h1
  have H2 := hid h2
  have HF := hid hf
  have HSm : Hid (c = false → ¬ Same (lv G 0) u v) := fun q s => by have := hc.2 (hsm.2 s); rw [q] at this; simp at this
  clear h1 h2 hI hf hsm hc hns
  go_enter Tryz.func63, Tryz.ntmps63
  go_wp2_with fail
  refine (checkEnds_any b G.N u v _ cn).mono ?_
  rintro e w' ⟨rfl, hw⟩
  replace hw := hw.symm
  subst hw
  rw [Hok.out]
  go_wp2_with fail
  refine (HJ.out _ HG.out).mono ?_
  rintro e w1 ⟨rfl, hb1⟩
  have HB1 := hid hb1
  have H11 := hid (H1.out.below hb1)
  clear hb1 c1 cn HJ
  cases c
  · go_wp2_with fail
    refine (plantEdge_any w1 b G.N (look G.edges) R pr F u v 0 (fun k Q => FR Q (linkT (lv G k) (tourIx (lv G k) u).toNat (tourIx (lv G k) v).toNat u v)) H11.out (by omega) (by omega) (by omega) (fun k hk => by
      have : k = 0 := by omega
      subst this
      exact (H2.out.fr 0 (by omega)).link (HI.out.li 0 (by omega)) n48 HI.out.edE (by omega) (by omega) (by omega) (by omega) (HSm.out trivial))).mono ?_
    rintro e w2 ⟨rfl, ⟨R', F', r1, r2, r3⟩, hb2⟩
    have HR : Hid (IdxG w2 b (insG G u v true) pr ∧ But (fun k => k = b) w w2) := by
      refine ⟨⟨R', F', ?_, ?_⟩, (But.of HB1.out).trans hb2 (fun _ _ q => q)⟩
      · have e1 : (insG G u v true).N = G.N := by rw [insG, if_pos rfl, lnks_N]; rfl
        have e2 : (insG G u v true).edges = G.edges ++ [⟨min (u : Int) v, max (u : Int) v, 0, true⟩] := by
          rw [insG, if_pos rfl, lnks_edges]; simp [setE, addE]
        rw [e1, e2]
        refine r3.congr (fun x y _ _ => ?_) (fun _ _ _ _ => rfl)
        rw [look_add HI.out.nd HF.out (e' := ⟨min (u : Int) v, max (u : Int) v, 0, true⟩) rfl]
        rfl
      · rw [insG, if_pos rfl]
        have hl : 0 + 1 ≤ (setE (addE G u v) G.edges.length ⟨min (u : Int) v, max (u : Int) v, 0, true⟩).tours.length := by
          show 0 + 1 ≤ G.tours.length
          rw [HI.out.tl]; omega
        exact ((H2.out.addE u v).setE _ _).lnks hl r1 r2 (by omega)
    clear r1 r2 r3 hb2
    go_wp2_with fail
    go_ret
    exact ⟨rfl, HR.out.1, HR.out.2⟩
  · go_wp2_with fail
    refine (setEdge_any w1 b G.N (look G.edges) R pr F u v true false 0 H11.out (by omega) (by omega)).mono ?_
    rintro e w2 ⟨rfl, ⟨F', r3⟩, hb2⟩
    have HR : Hid (IdxG w2 b (insG G u v false) pr ∧ But (fun k => k = b) w w2) := by
      refine ⟨⟨R, F', ?_, ?_⟩, (But.of HB1.out).trans hb2 (fun _ _ q => q)⟩
      · have e1 : (insG G u v false).N = G.N := rfl
        have e2 : (insG G u v false).edges = G.edges ++ [⟨min (u : Int) v, max (u : Int) v, 0, false⟩] := rfl
        rw [e1, e2]
        refine r3.congr (fun x y _ _ => ?_) (fun _ _ _ _ => rfl)
        rw [look_add HI.out.nd HF.out (e' := ⟨min (u : Int) v, max (u : Int) v, 0, false⟩) rfl]
      · exact H2.out.addE u v
    clear r3 hb2
    go_wp2_with fail
    go_ret
    exact ⟨rfl, HR.out.1, HR.out.2⟩

end Go.Proofs.YtckallochdegiaaGreat
namespace Go.Proofs.YtckallochdegiaaGreat
set_option linter.unusedVariables false
set_option linter.unusedSimpArgs false
open Go.RowKit

/-- The items of the round of s's tree, as the program has them. -/
abbrev hT (t : List Itm) (s : Int) : List Itm := (fromX t (leastV t s, -1)).map pv

/-- A round of a level, as it lies in the index. -/
theorem round_at {w : World} {b : Nat} {G : Gr} {pr : Int} {R : Nat → Nat → List Itm} {F : Nat → Value} {i : Nat} (h1 : IdxP w b G.N (look G.edges) R pr F) (h2 : Sim G R) (hI : GI G) (hi : i ≤ Nat.log2 G.N) {s : Int} {t : List Itm} (ht : t ∈ lv G i) (hs : (s, -1) ∈ t) :
    ∃ z b1 o1 c1, z < 48 ∧ (s, s) ∈ R i z ∧ (∀ y, y < z → (s, s) ∉ R i y) ∧ F (6913 + i * 48 + z) = .slice (some ⟨b1, o1, none⟩) (hT t s).length c1 ∧ PAt w (.slice (some ⟨b1, o1, none⟩) (hT t s).length c1) (hT t s) b1 o1 c1 := by
  have L := hI.li i hi
  have n48 := hI.n48
  have l5 := log2_le5 hI.n1 hI.n48
  have rg := (L.rng t ht _ hs).1
  simp only at rg
  obtain ⟨tu, z, u1, u2, u3, u4, u5, u6, u7⟩ := h2.at_ (i := i) hI hi (v := s) rg.1 rg.2
  have e1 := L.uniq u1 ht u2 hs rfl
  subst e1
  have ok := hI.okI hi u1
  have ez : leastV tu s = z := (leastV_at (L.tr tu u1) ok u2).uniq u4
  have eR : R i z = hT tu s := by rw [u7, hT, ez]
  obtain ⟨b1, o1, c1, e1, hp⟩ := (h1.fo (k := i) (by omega)).at_ (show z < 48 by omega) u5
  rw [eR] at e1 hp
  exact ⟨z, b1, o1, c1, by omega, u5, u6, e1, hp⟩

set_option maxRecDepth 100000 in
set_option maxHeartbeats 1000000 in
/-- The lesser half's round. -/
theorem lesserHalf_any (w : World) (b : Nat) (G : Gr) (pr : Int) (i : Nat) (u v : Nat) (tu tv : List Itm) (h : IdxG w b G pr) (hI : GI G) (hi : i ≤ Nat.log2 G.N) (hu : tu ∈ lv G i) (hut : ((u : Int), (-1 : Int)) ∈ tu) (hv : tv ∈ lv G i) (hvt : ((v : Int), (-1 : Int)) ∈ tv) :
    Calls Tryz.prog 116 #[ptr b, .int .i64 u, .int .i64 v, .int .i64 i] w fun e w' => Below w.heap.size w w' ∧
      ((sizeV tu < sizeV tv ∨ (sizeV tu = sizeV tv ∧ u < v)) → ∃ b1 o1 c1, e = .returned (.slice (some ⟨b1, o1, none⟩) (hT tu u).length c1) ∧ PAt w' (.slice (some ⟨b1, o1, none⟩) (hT tu u).length c1) (hT tu u) b1 o1 c1) ∧
      (¬ (sizeV tu < sizeV tv ∨ (sizeV tu = sizeV tv ∧ u < v)) → ∃ b1 o1 c1, e = .returned (.slice (some ⟨b1, o1, none⟩) (hT tv v).length c1) ∧ PAt w' (.slice (some ⟨b1, o1, none⟩) (hT tv v).length c1) (hT tv v) b1 o1 c1) := by
  obtain ⟨R, F, h1, h2⟩ := h
  have l5 := log2_le5 hI.n1 hI.n48
  have hi6 : (i : Int) < 6 := by omega
  obtain ⟨zu, bu, ou, cu, u1, u2, u3, u4, u5⟩ := round_at h1 h2 hI hi hu hut
  obtain ⟨zv, bv, ov, cv, v1, v2, v3, v4, v5⟩ := round_at h1 h2 hI hi hv hvt
  have lu : (hT tu u).length + 2 = 3 * sizeV tu := by rw [List.length_map, fromX_length]; exact hI.len3 hi hu
  have lv' : (hT tv v).length + 2 = 3 * sizeV tv := by rw [List.length_map, fromX_length]; exact hI.len3 hi hv
  have mu := u5.mx
  have mv := v5.mx
  have eu := u5.le
  have ev := v5.le
  unfold maxLen at mu mv
  have H1 := hid h1
  have HU := hid (And.intro u2 u3)
  have HV := hid (And.intro v2 v3)
  have HU4 := hid u4
  have HV4 := hid v4
  have HU5 := hid u5
  have HV5 := hid v5
  clear h1 h2 u2 u3 u4 u5 v2 v3 v4 v5 hu hv hut hvt
  generalize hT tu u = Tu at *
  generalize hT tv v = Tv at *
  go_enter Tryz.func116, Tryz.ntmps116
  go_wp2_with fail
  refine (Round_fany w b _ F (R i) u zu (H1.out.fo (k := i) (by omega)) u1 HU.out.1 HU.out.2).mono ?_
  rintro e w1 ⟨rfl, hb1⟩
  rw [HU4.out]
  have HB1 := hid hb1
  have H11 := hid (H1.out.below hb1)
  clear hb1
  go_wp2_with fail
  refine (Round_fany w1 b _ F (R i) v zv (H11.out.fo (k := i) (by omega)) v1 HV.out.1 HV.out.2).mono ?_
  rintro e w2 ⟨rfl, hb2⟩
  rw [HV4.out]
  have HB2 : Hid (Below w.heap.size w w2) := HB1.out.trans (hb2.mono HB1.out.size)
  clear hb2
  by_cases c1 : Tu.length < Tv.length
  · have c1' : (Tu.length : Int) < (Tv.length : Int) := by omega
    go_wp2
    go_ret
    exact ⟨HB2.out, fun _ => ⟨bu, ou, cu, rfl, HU5.out.below HB2.out (Nat.le_refl _)⟩, fun q => absurd (Or.inl (by omega)) q⟩
  · have c1' : ¬ (Tu.length : Int) < (Tv.length : Int) := by omega
    by_cases c2 : Tu.length = Tv.length
    · have c2' : ((Tu.length : Int) == (Tv.length : Int)) = true := by simp [c2]
      by_cases c3 : u < v
      · have c3' : (u : Int) < (v : Int) := by omega
        have HC : Hid (sizeV tu = sizeV tv) := by show _ = _; omega
        clear c2
        go_wp2
        go_ret
        exact ⟨HB2.out, fun _ => ⟨bu, ou, cu, rfl, HU5.out.below HB2.out (Nat.le_refl _)⟩, fun q => absurd (Or.inr ⟨HC.out, c3⟩) q⟩
      · have c3' : ¬ (u : Int) < (v : Int) := by omega
        have HC : Hid (sizeV tu = sizeV tv) := by show _ = _; omega
        clear c2
        go_wp2
        go_ret
        refine ⟨HB2.out, fun q => ?_, fun _ => ⟨bv, ov, cv, rfl, HV5.out.below HB2.out (Nat.le_refl _)⟩⟩
        have := HC.out
        omega
    · have c2' : ((Tu.length : Int) == (Tv.length : Int)) = false := by simp; omega
      have HC : Hid (¬ sizeV tu = sizeV tv ∧ ¬ sizeV tu < sizeV tv) := by show _ ∧ _; omega
      clear c2
      go_wp2
      go_ret
      refine ⟨HB2.out, fun q => ?_, fun _ => ⟨bv, ov, cv, rfl, HV5.out.below HB2.out (Nat.le_refl _)⟩⟩
      have := HC.out
      omega

theorem but_drew {S : Nat → Prop} {w w' : World} (h : But S w.drew w') : But S w w' := ⟨h.os, h.tape, h.output, h.size, h.block⟩

/-- What a way that rises leads to. -/
theorem rise_sim {G : Gr} {R : Nat → Nat → List Itm} {i k y1 y2 : Nat} {e : Edg} (h2 : Sim G R) (hI : GI G) (hi : i + 1 ≤ Nat.log2 G.N) (hk : k < G.edges.length) (he : G.edges[k]?.getD e0 = e) (hu : e.u = y1) (hv : e.v = y2) (hlt : y1 < y2) (ht : e.tree = true) (hl : e.lev = i) (hns : ¬ Same (lv G (i + 1)) y1 y2) :
    (∀ x y, updE (look G.edges) y1 y2 (true, true, ((i + 1 : Nat) : Int)) x y = look (setE G k { e with lev := e.lev + 1 }).edges x y) ∧
    ∃ va vb vm, LinkP (R (i + 1)) va vb vm y1 y2 ∧ Sim (lnk (setE G k { e with lev := e.lev + 1 }) (i + 1) y1 y2) (fun j => if j = i + 1 then linkR (R (i + 1)) va vb vm y1 y2 else R j) := by
  have hem : e ∈ G.edges := by rw [← he, get_eq hk]; exact List.getElem_mem hk
  have be := hI.ed e hem
  refine ⟨fun x y => ?_, ?_⟩
  · show _ = look (G.edges.set k { e with lev := e.lev + 1 }) x y
    rw [look_set hI.nd hk (u := y1) (v := y2) (by rw [he]; exact Prod.ext (by show e.u = _; omega) (by show e.v = _; omega)) (e' := { e with lev := e.lev + 1 }) (by rw [he]; rfl)]
    simp only [ht, hl]
    rw [show ((i + 1 : Nat) : Int) = (i : Int) + 1 by omega]
  · obtain ⟨va, vb, vm, p1, p2⟩ := (h2.fr (i + 1) hi).link (hI.li (i + 1) hi) hI.n48 hI.edE (u := (y1 : Int)) (v := (y2 : Int)) (by omega) (by omega) (by omega) (by omega) hns
    refine ⟨va, vb, vm, p1, ?_⟩
    exact (h2.setE k _).setT (by show i + 1 < G.tours.length; rw [hI.tl]; omega) hi p2

set_option maxRecDepth 100000 in
set_option maxHeartbeats 4000000 in
theorem raiseForest_any (w : World) (b : Nat) (G : Gr) (pr : Int) (i xb xo xc : Nat) (s o : Int) (t0 T : List Itm) (h : IdxG w b G pr) (hM : MI G s o i) (hs : t0 ∈ lv G i) (hsv : (s, -1) ∈ t0) (hsz : sizeV t0 * 2 ^ (i + 1) ≤ G.N) (hrot : Rot t0 T)
    (hp : PAt w (.slice (some ⟨xb, xo, none⟩) (T.map pv).length xc) (T.map pv) xb xo xc) :
    Calls Tryz.prog 117 #[ptr b, .slice (some ⟨xb, xo, none⟩) (T.map pv).length xc, .int .i64 i] w fun e w' => e = .returned (.tuple #[]) ∧ (∃ G' pr', IdxG w' b G' pr' ∧ T.foldl (riseP i) (G, pr) = (G', pr') ∧ PA G G' s o i t0 T T.length) ∧ But (fun k => k = b) w w' := by
  have hlog := lesser_log (G := G) (i := i) hM.gi.n1 hsv hsz
  have l5 := log2_le5 hM.gi.n1 hM.gi.n48
  have n48 := hM.gi.n48
  have hi6 : (i : Int) + 1 < 6 := by omega
  have h1 := hp.le
  have h2 := hp.mx
  unfold maxLen at h2
  rw [List.length_map] at h1 hp ⊢
  have HG := hid h
  have HS : Hid (t0 ∈ lv G i ∧ (s, -1) ∈ t0 ∧ sizeV t0 * 2 ^ (i + 1) ≤ G.N) := ⟨hs, hsv, hsz⟩
  have HRot := hid hrot
  have HP := hid hp
  have HPA0 : Hid (PA G G s o i t0 T 0) := ⟨hM, rfl, fun _ _ => rfl, rfl, Up.refl _, fun j hj => by omega⟩
  clear h hM hs hsv hsz hrot hp
  go_enter Tryz.func117, Tryz.ntmps117
  go_wp2_with fail
  go_loopw [10] (fun q wr => ∃ m : Nat, m ≤ T.length ∧ q = .int .i64 m ∧ Hid (∃ G' pr', IdxG wr b G' pr' ∧ (T.take m).foldl (riseP i) (G, pr) = (G', pr') ∧ PA G G' s o i t0 T m) ∧ Hid (PAt wr (.slice (some ⟨xb, xo, none⟩) T.length xc) (T.map pv) xb xo xc) ∧ Hid (But (fun k => k = b) w wr)) (fun q _ => T.length - (intOf q).toNat)
  case atStart => exact ⟨0, by omega, rfl, ⟨G, pr, HG.out, rfl, HPA0.out⟩, HP, But.refl _ _⟩
  case round =>
    obtain ⟨m, hm, rfl, hG, hX, hB⟩ := hrel
    by_cases hlt : m < T.length
    · have hlt' : (m : Int) < (T.length : Int) := by omega
      obtain ⟨G', pr', hG', hXA, hPA⟩ := hG.out
      have hst := hPA.step HS.out.1 HS.out.2.2 HRot.out hlt
      have hxm : T[m]?.getD (0, 0) ∈ t0 := by rw [get_eq hlt]; exact (HRot.out.mem _).2 (List.getElem_mem hlt)
      have ht0' : t0 ∈ lv G' i := by rw [hPA.lvi i (Nat.le_refl _)]; exact HS.out.1
      obtain ⟨_, _, _, _, hrise⟩ := hPA.mi.rise_step (t0 := t0) ht0' (by rw [hPA.n]; exact HS.out.2.2) hxm
      have okx := hPA.mi.gi.okI hPA.mi.il ht0' _ hxm
      have HXs : Hid (∀ q, riseP i (G', pr') (T[m]?.getD (0, 0)) = q → (T.take (m + 1)).foldl (riseP i) (G, pr) = q) := fun q hq => by rw [take_fold hlt hXA]; exact hq
      have e0 := hX.out.c0 m (by rw [List.length_map]; exact hlt)
      have e1 := hX.out.c1 m (by rw [List.length_map]; exact hlt)
      have gm : (T.map pv)[m]?.getD (0, 0) = pv (T[m]?.getD (0, 0)) := by rw [List.getElem?_map, List.getElem?_eq_getElem hlt]; rfl
      rw [gm] at e0 e1
      have HST := hid hst
      have HPA := hid hPA
      have HGr := hid hG'
      have HRise := hid hrise
      clear hG hst hPA hG' hxm hrise hXA ht0' gm
      obtain ⟨x, hx⟩ : ∃ x, x = T[m]?.getD (0, 0) := ⟨_, rfl⟩
      rw [← hx] at e0 e1 HST HRise HXs okx
      clear hx
      by_cases hlt2 : x.1 < x.2
      · obtain ⟨k, e, k1, k2, k3, k4, k5, k6, _, k8⟩ := HRise.out hlt2
        have px : pv x = x := by obtain ⟨x1, x2⟩ := x; exact pv_way (by have := okx.1; simp only at this hlt2; omega)
        rw [px] at e0 e1
        obtain ⟨x1, x2⟩ := x
        simp only at e0 e1 k4 k5 k2 hlt2
        have o1 := okx.1
        have o2 := okx.2.1
        have o3 : x2 < 48 := by
          rcases okx.2.2 with q | ⟨_, q, _⟩
          · simp only at q; omega
          · exact q
        simp only at o1 o2
        clear okx px
        obtain ⟨y1, rfl⟩ : ∃ y1 : Nat, x1 = y1 := ⟨x1.toNat, by omega⟩
        obtain ⟨y2, rfl⟩ : ∃ y2 : Nat, x2 = y2 := ⟨x2.toNat, by omega⟩
        have hlk : look G'.edges y1 y2 = (true, e.tree, e.lev) := by
          rw [look_at (k := k) (by rw [Int.min_eq_left (by omega), Int.max_eq_right (by omega)]; exact k2), k3]
        have HPr : Hid (riseP i (G', pr') ((y1 : Int), (y2 : Int)) = if e.lev = i then (riseT i G' ((y1 : Int), (y2 : Int)), wrap64 (pr' + 1)) else (G', pr')) := by show _ = _; simp only [riseP]; rw [if_pos hlt2, k2, Int.toNat_natCast, k3]
        have HER : Hid (riseT i G' ((y1 : Int), (y2 : Int)) = if e.lev = i then lnk (setE G' k { e with lev := e.lev + 1 }) (i + 1) y1 y2 else G') := by show _ = _; simp only [riseT]; rw [if_pos hlt2, k2, Int.toNat_natCast, k3]
        obtain ⟨R, F, p1, p2⟩ := HGr.out
        have c2 := p1.c2 y1 y2 (by omega) (by omega)
        rw [hlk] at c2
        simp only at c2
        have HP1 := hid p1
        have HP2 := hid p2
        have HK := hid (And.intro k3 (And.intro k4 (And.intro k5 k6)))
        have HK8 := hid k8
        have hg1 : decide (y2 ≤ y1) = false := by simp; omega
        have hg2 : ¬ y2 ≤ y1 := by omega
        have C2 := fun ob => ((p1.below ((Below.refl _ _).alloc (Nat.le_refl _) ob)).c2 y1 y2 (by omega) (by omega))
        rw [hlk] at C2
        simp only at C2
        clear p1 p2 k2 k3 k4 k5 k6 k8 HRise hlk
        by_cases hl : e.lev = i
        · have HL := hid hl
          rw [hl] at c2 C2
          clear hl
          have hq : ((i : Int) != (i : Int)) = false := by simp
          go_wp2_with fail
          go_quiet (fail)
          go_wp2_with fail
          have HB1 : Hid (Below wr.heap.size wr ((wr.alloc (.cells #[.int .i64 y1, .int .i64 y2] 146)).drewN nq)) := Below.drewN' _ ((Below.refl _ _).alloc (Nat.le_refl _) _)
          have HW1 : Hid (∀ j, ((wr.alloc (.cells #[.int .i64 y1, .int .i64 y2] 146)).drewN nq).cell? ⟨wr.heap.size, j, none⟩ = #[Value.int .i64 y1, .int .i64 y2][j]?) := fun j => by
            have hh : ∀ q : Nat, ∀ W : World, (W.drewN q).heap = W.heap := fun q => by induction q with | zero => intro W; rfl | succ q ih => intro W; exact (ih W.drew).trans rfl
            rw [World.cell?_of_block (w := wr.alloc (.cells #[.int .i64 y1, .int .i64 y2] 146)) (a := ⟨wr.heap.size, j, none⟩) (by rw [hh])]
            exact new_cell _ _ _ _
          have HS1 : Hid (wr.heap.size < ((wr.alloc (.cells #[.int .i64 y1, .int .i64 y2] 146)).drewN nq).heap.size) := by
            have hh : ∀ q : Nat, ∀ W : World, (W.drewN q).heap = W.heap := fun q => by induction q with | zero => intro W; rfl | succ q ih => intro W; exact (ih W.drew).trans rfl
            show _ < _
            rw [hh]; simp
          generalize (wr.alloc (.cells #[.int .i64 y1, .int .i64 y2] 146)).drewN nq = w1 at HB1 HW1 HS1 ⊢
          have blt := HP1.out.row.lt
          clear c2 C2 e0 e1
          refine (setEdge_any w1 b G'.N (look G'.edges) R pr' F y1 y2 true true ((i : Int) + 1) (HP1.out.below HB1.out) (by omega) (by omega)).mono ?_
          rintro e' w2 ⟨rfl, ⟨F2, hi2⟩, hb2⟩
          have z0 : w2.cell? ⟨wr.heap.size, 0, none⟩ = some (.int .i64 y1) := by rw [World.cell?_of_block (w := w1) (a := ⟨wr.heap.size, 0, none⟩) (hb2.block wr.heap.size HS1.out (fun q : wr.heap.size = b => by omega))]; exact HW1.out 0
          have z1 : w2.cell? ⟨wr.heap.size, 1, none⟩ = some (.int .i64 y2) := by rw [World.cell?_of_block (w := w1) (a := ⟨wr.heap.size, 1, none⟩) (hb2.block wr.heap.size HS1.out (fun q : wr.heap.size = b => by omega))]; exact HW1.out 1
          obtain ⟨s1, va, vb, vm, s2, s3⟩ := rise_sim HP2.out HPA.out.mi.gi (show i + 1 ≤ Nat.log2 G'.N by rw [HPA.out.n]; exact hlog) k1 HK.out.1 HK.out.2.1 HK.out.2.2.1 (by omega) HK.out.2.2.2 HL.out (HK8.out HL.out).2.2
          have HI2 := hid (hi2.congr (E' := look (setE G' k { e with lev := e.lev + 1 }).edges) (R' := R) (fun x y _ _ => by rw [← s1 x y, show ((i + 1 : Nat) : Int) = (i : Int) + 1 by omega]) (fun _ _ _ _ => rfl))
          have HS2 := hid s2
          have HS3 := hid s3
          have HB2 : Hid (But (fun k => k = b) wr w2) := (But.of HB1.out).trans hb2 (fun _ _ q => q)
          clear hi2 hb2 s1 s2 s3 HW1 HS1 HB1
          go_wp2_with fail
          have hq8 : (0 : Int) ≤ (i : Int) + 1 := by omega
          have hq6 : ((i : Int) + 1).toNat = i + 1 := by omega
          have hq7 : IntKind.i64.wrap ((i : Int) + 1) = (i : Int) + 1 := by rw [IntKind.wrap_i64]; omega
          go_region_with (go_at_call 114; refine (fLink_any _ b (6913 + (i + 1) * 48) F2 (R (i + 1)) y1 y2 va vb vm ((HI2.out.below ((Below.refl _ _).drew)).fo (k := i + 1) (by omega)) HS2.out).mono ?_; rintro e' w3 ⟨F3, rfl, hf3, hm3, hb3⟩; have HI3 := hid ((HI2.out.below ((Below.refl _ _).drew)).forest (k := i + 1) (by omega) hf3 hm3 hb3); have HB3 : Hid (But (fun k => k = b) w2 w3) := but_drew hb3; clear hf3 hm3 hb3)
          all_goals
            obtain ⟨F3', hi3⟩ := HI3.out.setR (wrap64 (pr' + 1))
            have HI4 := hid hi3
            have r0 := HI3.out.hr
            have rf := HI3.out.fz
            have HBs : Hid (But (fun k => k = b) wr (w3.setCell ⟨b, 7201, none⟩ (.int .i64 (wrap64 (pr' + 1))))) := (HB2.out.same HB3.out).same (But.setCell w3 ⟨b, 7201, none⟩ (.int .i64 (wrap64 (pr' + 1))))
            clear hi3 HI3
            go_wp2
            have HRS : riseT i G' ((y1 : Int), (y2 : Int)) = lnk (setE G' k { e with lev := e.lev + 1 }) (i + 1) y1 y2 := by rw [HER.out, if_pos HL.out]
            refine ⟨⟨m + 1, by omega, by go_num, ⟨_, _, ⟨_, F3', ?_, HS3.out⟩, HXs.out _ (by rw [HPr.out, if_pos HL.out, HRS]), HRS ▸ HST.out⟩, hX.out.block (HBs.out.block xb hX.out.lt (fun q => HP1.out.noIt xb q hX.out.lt hX.out.ty)), hB.out.same HBs.out⟩, by simp [intOf]; omega⟩
            exact HI4.out
        · have hl2 : (e.lev != (i : Int)) = true := by simpa using hl
          have HE2 : Hid (riseT i G' ((y1 : Int), (y2 : Int)) = G') := by show _ = _; rw [HER.out, if_neg hl]
          have HPn : Hid (riseP i (G', pr') ((y1 : Int), (y2 : Int)) = (G', pr')) := by show _ = _; rw [HPr.out, if_neg hl]
          clear hl
          go_wp2_with fail
          go_quiet (fail)
          go_wp2
          refine ⟨⟨m + 1, by omega, by go_num, ⟨G', pr', HGr.out.below ?_, HXs.out _ HPn.out, HE2.out ▸ HST.out⟩, hX.out.below ?_ (Nat.le_refl _), (hB.out.trans (S' := fun k => k = b) (But.of ?_) (fun _ _ q => q))⟩, by simp [intOf]; omega⟩
          all_goals exact Below.drewN' _ ((Below.refl _ _).alloc (Nat.le_refl _) _)
      · have HE2 : Hid (riseT i G' x = G') := by show _ = _; simp only [riseT]; rw [if_neg hlt2]
        have HPn : Hid (riseP i (G', pr') x = (G', pr')) := by show _ = _; simp only [riseP]; rw [if_neg hlt2]
        have hge : (pv x).2 ≤ (pv x).1 := by
          simp only [pv]
          split
          · exact Int.le_refl _
          · omega
        generalize (pv x).1 = p1 at e0 hge
        generalize (pv x).2 = p2 at e1 hge
        go_wp2_with fail
        go_quiet (fail)
        go_wp2
        refine ⟨⟨m + 1, by omega, by go_num, ⟨G', pr', HGr.out.below ?_, HXs.out _ HPn.out, HE2.out ▸ HST.out⟩, hX.out.below ?_ (Nat.le_refl _), (hB.out.trans (S' := fun k => k = b) (But.of ?_) (fun _ _ q => q))⟩, by simp [intOf]; omega⟩
        all_goals exact Below.drewN' _ ((Below.refl _ _).alloc (Nat.le_refl _) _)
    · go_wp2
      go_end0
      have hme : m = T.length := by omega
      subst hme
      have := hG.out
      rw [List.take_length] at this
      exact ⟨rfl, this, hB.out⟩

end Go.Proofs.YtckallochdegiaaGreat
