import Derived.Test.YtckallochdegiaaGreatLawC
import Derived.Test.YtckallochdegiaaGreatBytesX
import Derived.Test.YtckallochdegiaaGreatSvA
import Derived.Test.YtckallochdegiaaGreatByP
namespace Go.Proofs.YtckallochdegiaaGreat
set_option linter.unusedVariables false
set_option linter.unusedSimpArgs false
open Go.RowKit

theorem Tryz.info25 : (Tryz.prog.info? 25).map (fun i => (i.zero, i.size, i.bytes)) = some (some (.slice none 0 0), 1, 24) := by kernel_rfl
theorem Tryz.info37 : (Tryz.prog.info? 37).map (fun i => (i.zero, i.size, i.bytes)) = some (some (.agg #[.pointer none, .pointer none]), 2, 16) := by kernel_rfl

section
variable {w w0 wx w3 : World} {B W n m : Nat} {ps : Nat → Pr} {ts : List ByteArray} {ys : List Value} {iv tv lv : Value} {row : Option Nat}

theorem butG (b : Below w.heap.size w wx) (g : wx.grownBy w3 row) : But (fun k => some k = row) w w3 := (But.of b).trans (But.grown g) (fun _ _ q => q)
theorem Law.rowG (h : Law w B W n m ps ts ys iv tv lv) (b : But (fun k => some k = row) w w3) {t : Nat} (hr : ∀ k, row = some k → TyAt w k t) (ht : t ≠ 31) : w3.rowIs W 31 4 (wf iv tv lv) :=
  row_but h.row b (fun q => (hr W q.symm).ne h.tyW ht rfl)
theorem Law.fin (h : Law w B W n m ps ts ys iv tv lv) (b : But (fun k => some k = row) w w3) (hr : ∀ k, row = some k → B ≤ k) (hB : B ≤ w.heap.size) (i : Nat) (v : Value) : Below B w (w3.setCell ⟨W, i, none⟩ v) :=
  (b.below (fun k hk => hr k hk.symm) hB).setCell h.bW v
end

/-- The law's world went on. -/
def Goes (B W n : Nat) (w w' : World) : Prop := LawX w' B W n ∧ Below B w w'

/-- Pairs that lie elsewhere stay. -/
def KeepP (w w' : World) : Prop := ∀ b x g, PBk w b x g → PBk w' b x g
theorem KeepP.below {w w' : World} {B : Nat} (h : Below B w w') (hB : w.heap.size ≤ B) : KeepP w w' := fun _ _ _ q => q.below (h.mono hB)
theorem KeepP.trans {w w1 w2 : World} (h : KeepP w w1) (k : KeepP w1 w2) : KeepP w w2 := fun b x g q => k b x g (h b x g q)
/-- The law's world went on, its pairs as they were. -/
def GoesP (B W n m : Nat) (ps : Nat → Pr) (iv : Value) (w w' : World) : Prop := (∃ ts ys tv lv, Law w' B W n m ps ts ys iv tv lv) ∧ Below B w w' ∧ KeepP w w'
theorem GoesP.goes {B W n m : Nat} {ps : Nat → Pr} {iv : Value} {w w' : World} (h : GoesP B W n m ps iv w w') : Goes B W n w w' := by
  obtain ⟨⟨ts, ys, tv, lv, h1⟩, h2, _⟩ := h
  exact ⟨⟨m, ps, ts, ys, iv, tv, lv, h1⟩, h2⟩
theorem PBk.wr {w w3 : World} {b x g W i : Nat} {v : Value} {row : Option Nat} {t : Nat} (h : PBk w b x g) (k : But (fun k => some k = row) w w3) (hr : ∀ k, row = some k → TyAt w k t) (ht : t ≠ 37) (hW : TyAt w3 W 31) : PBk (w3.setCell ⟨W, i, none⟩ v) b x g := by
  have h3 : PBk w3 b x g := row_but h k (fun q => (hr b q.symm).ne (rowIs_ty h) ht rfl)
  exact row_but h3 (But.setCell w3 ⟨W, i, none⟩ v) (fun q => (rowIs_ty h3).ne hW (by decide) q)

set_option maxRecDepth 100000 in
set_option maxHeartbeats 1000000 in
/-- A list that was handed out is written full, and kept. -/
theorem mine_any (w0 w : World) (B W n m : Nat) (ps : Nat → Pr) (ts : List ByteArray) (ys : List Value) (iv tv lv : Value) (g len cap : Nat) (f : Nat → Value) (h : Law w0 B W n m ps ts ys iv tv lv) (hb : Below w0.heap.size w0 w) (hn : n ≤ 2 ^ 22) (hB : B ≤ w0.heap.size) (hr : w.rowIs g 3 cap f) (hg : w0.heap.size ≤ g) (hl : len ≤ cap) (hc : cap ≤ maxLen) :
    Calls Tryz.prog 41 #[ptr W, .slice (some ⟨g, 0, none⟩) len cap] w fun e w' => e = .returned (.tuple #[]) ∧ GoesP B W (n + 1) m ps iv w0 w' := by
  obtain ⟨i45, q0, q1, q2, q3⟩ := info_parts Tryz.info25
  have HL0 := hid h
  have hyl := h.ll
  have HM : Hid (ys.length + 1 ≤ maxLen) := by show _ ≤ _; unfold maxLen; omega
  have HC := hid hc
  unfold maxLen at hc
  obtain ⟨lp, lc, hlv⟩ : ∃ lp lc, lv = .slice lp ys.length lc := by
    rcases h.lO.2 with ⟨q, q2⟩ | ⟨gb, cp, cur, q, _⟩
    · exact ⟨none, 0, by rw [q, q2]⟩
    · exact ⟨_, _, q⟩
  have HLv := hid hlv
  have HR := hid hr
  have HB0 := hid hb
  have wl := h.row.lt
  clear h hr hb hlv
  go_enter Tryz.func41, Tryz.ntmps41
  go_wp2_with fail
  go_loopw [12] (fun c wr => ∃ k : Nat, k ≤ cap ∧ c = .int .i64 k ∧ Hid (∃ f', wr.rowIs g 3 cap f' ∧ ∀ j, j < k → f' j = .int .i64 (-1 - (ys.length : Int))) ∧ Hid (Below w0.heap.size w0 wr)) (fun c _ => cap - (intOf c).toNat)
  case atStart => exact ⟨0, by omega, rfl, ⟨f, HR.out, fun j hj => by omega⟩, HB0⟩
  case round =>
    obtain ⟨k, hk, rfl, hF, hB1⟩ := hrel
    have HL := hid (HL0.out.below hB1.out)
    have d2 := HL.out.c2
    rw [HLv.out] at d2
    by_cases ck : k < cap
    · have ck' : (k : Int) < (cap : Int) := by omega
      obtain ⟨f', f1, f2⟩ := hF.out
      have ce := f1.cell (i := k) ck
      have fz := f1.frozen
      have HF1 := hid f1
      have HF2 := hid f2
      clear hF f1 f2
      go_wp2
      refine ⟨⟨k + 1, by omega, by go_num, ⟨_, HF1.out.set k _, fun j hj => ?_⟩, hB1.out.setCell hg _⟩, by simp [intOf]; omega⟩
      by_cases e : j = k
      · rw [if_pos e]
      · rw [if_neg e]; exact HF2.out j (by omega)
    · have hke : k = cap := by omega
      have HY : Hid (ListIs wr (.slice (some ⟨g, 0, none⟩) cap cap) ys.length) := by
        obtain ⟨f', f1, f2⟩ := hF.out
        exact ⟨g, cap, rfl, HC.out, f1.congr (fun j hj => f2 j (by omega))⟩
      have hBs := hB1.out.size
      clear hke hF
      go_wp2_with (at_builtin; refine wpList_append_own _ rfl (.tmp 28) (.tmp 30) 29 rfl B 25 i45 (.slice none 0 0) 1 24 Tryz.underlying29 q0 q1 q2 q3 rfl (by decide) _ ys.length ys rfl (by have q := HL.out.lO.alloc (.cells #[.slice (some ⟨g, 0, none⟩) cap cap] 25); rw [HLv.out] at q; exact q) ⟨wr.heap.size, 0, none⟩ 1 1 [.slice (some ⟨g, 0, none⟩) cap cap] rfl rfl (one_cell wr _ _) (fun y hy => by simp at hy; subst hy; rfl) HM.out (by omega) (by simp; omega) ?_; intro v' w3 ho hg3 _; have HBt : Hid (But (fun k => some k = lv.ownBlock) wr w3) := (by have q := butG ((Below.refl _ _).alloc (Nat.le_refl _) _) hg3; rw [HLv.out]; exact q); have HO := hid ho; have r3 := HL.out.rowG HBt.out (fun k hk => owns_ty HL.out.lO hk) (by decide); have c2 := r3.cell (i := 2) (by omega); have fz := r3.frozen; have HR3 := hid r3; clear ho hg3 r3; obtain ⟨p2, n2, cc2, hv2⟩ := owns_form HO.out; subst hv2)
      go_end0
      exact ⟨rfl, ⟨ts, ys ++ [.slice (some ⟨g, 0, none⟩) cap cap], tv, _, HL.out.list HY.out HBt.out HO.out⟩, (hB1.out.mono hB).trans (HL.out.fin HBt.out (fun k hk => (HL.out.lO.lt k hk).1) (by omega) _ _), (KeepP.below hB1.out (Nat.le_refl _)).trans (fun b x y q => q.wr HBt.out (fun k hk => owns_ty HL.out.lO hk) (by decide) (rowIs_ty HR3.out))⟩

theorem Law.pairBlock {w : World} {B W n m j : Nat} {ps : Nat → Pr} {ts : List ByteArray} {ys : List Value} {iv tv lv : Value} (h : Law w B W n m ps ts ys iv tv lv) (hj : j < m) : ∃ w1 : World, w1 = w.alloc (.cells #[ptr (ps j).x, ptr (ps j).g] 37) ∧ Below w.heap.size w w1 ∧ Law w1 B W n m ps ts ys iv tv lv ∧ PBk w1 w.heap.size (ps j).x (ps j).g ∧ (ps j).At w1 ∧ w.heap.size ≤ w1.heap.size ∧ w1.heap.size = w.heap.size + 1 := by
  have b : Below w.heap.size w (w.alloc (.cells #[ptr (ps j).x, ptr (ps j).g] 37)) := (Below.refl _ _).alloc (Nat.le_refl _) _
  refine ⟨_, rfl, b, h.below b, ?_, (h.below b).at_ j hj, b.size, by simp⟩
  refine World.rowIs_alloc w #[ptr (ps j).x, ptr (ps j).g] 37 _ ?_
  intro i hi
  match i, hi with
  | 0, _ => rfl
  | 1, _ => rfl

set_option maxRecDepth 100000 in
set_option maxHeartbeats 1000000 in
theorem saved_any (w : World) (B W n m j : Nat) (ps : Nat → Pr) (ts : List ByteArray) (ys : List Value) (iv tv lv : Value) (h : Law w B W n m ps ts ys iv tv lv) (hj : j < m) (hn : n ≤ 2 ^ 22) (hB : B ≤ w.heap.size) :
    Calls Tryz.prog 21 #[ptr W, .agg #[ptr (ps j).x, ptr (ps j).g]] w fun e w' => e = .returned (.bool true) ∧ GoesP B W (n + 1) m ps iv w w' := by
  obtain ⟨i9, q0, q1, q2, q3⟩ := info_parts Tryz.info9
  have htl := h.tl
  have HM : Hid (ts.length + 1 ≤ maxLen) := by show _ ≤ _; unfold maxLen; omega
  obtain ⟨w1, hw1, hb1, hl1, hk1, hp1, hs1, -⟩ := h.pairBlock hj
  have HG : Hid (∀ w', (∃ ts ys tv lv, Law w' B W (n + 1) m ps ts ys iv tv lv) → Below B w1 w' → KeepP w1 w' → GoesP B W (n + 1) m ps iv w w') := fun w' x y z => ⟨x, (hb1.mono hB).trans y, (KeepP.below hb1 (Nat.le_refl _)).trans z⟩
  have HW1 := hid hw1
  have HL := hid hl1
  have HK := hid hk1
  have HP := hid hp1
  have hB1 : B ≤ w1.heap.size := by omega
  clear h hw1 hb1 hl1 hk1 hp1
  go_enter Tryz.func21, Tryz.ntmps21
  go_wp2_with fail
  rw [← HW1.out]
  generalize w.heap.size = pb at HK hs1 hB ⊢
  clear HW1
  refine (Save_any w1 (ps j).x (ps j).G (ps j).pr HP.out.ix HP.out.gi).mono ?_
  rintro _ w1' ⟨rfl, hbs⟩
  have HSz := hid (bytesB_size HP.out.gi)
  have HLs := hid (HL.out.below hbs)
  have HKs : Hid (PBk w1' pb (ps j).x (ps j).g) := HK.out.below hbs
  have HBs := hid hbs
  have hB1' : B ≤ w1'.heap.size := Nat.le_trans hB1 hbs.size
  have d1 := HLs.out.c1
  obtain ⟨bs, hbs2⟩ : ∃ bs, bs = bytesB (ps j).G := ⟨_, rfl⟩
  have HBy := hid hbs2
  rw [← hbs2] at HSz ⊢
  clear hbs hbs2 HL HK HP
  go_wp2_with (at_builtin; refine wpList_append_own _ rfl (.tmp 13) (.tmp 15) 28 rfl B 9 i9 _ 1 16 Tryz.underlying28 q0 q1 q2 q3 rfl (by decide) _ ts.length _ rfl (HLs.out.tO.alloc _) ⟨w1'.heap.size, 0, none⟩ 1 1 [.string bs] rfl rfl (one_cell w1' _ _) (fun y hy => by simp at hy; subst hy; rfl) HM.out (by omega) (by simp; omega) ?_; intro v' w3 ho hg _; have HBt := hid (butG ((Below.refl _ _).alloc (Nat.le_refl _) _) hg); have HO := hid ho; have r3 := HLs.out.rowG HBt.out (fun k hk => owns_ty HLs.out.tO hk) (by decide); have c1 := r3.cell (i := 1) (by omega); have fz := r3.frozen; have e1 := ((HKs.out.wr (W := W) (i := 1) (v := v') HBt.out (fun k hk => owns_ty HLs.out.tO hk) (by decide) (rowIs_ty r3)).c1); have HR3 := hid r3; clear ho hg r3; obtain ⟨p2, n2, cc2, hv2⟩ := owns_form HO.out; subst hv2)
  have HL4 := hid (HLs.out.text (t := bs) HSz.out HBt.out HO.out)
  have HB4 := hid (HLs.out.fin HBt.out (fun k hk => (HLs.out.tO.lt k hk).1) hB1' 1 (.slice p2 n2 cc2))
  have HP4 := hid (HL4.out.at_ j hj)
  have HKw : Hid (KeepP w1' (w3.setCell ⟨W, 1, none⟩ (.slice p2 n2 cc2))) := fun b x y q => q.wr HBt.out (fun k hk => owns_ty HLs.out.tO hk) (by decide) (rowIs_ty HR3.out)
  generalize w3.setCell ⟨W, 1, none⟩ (.slice p2 n2 cc2) = w4 at HL4 HB4 HP4 HKw ⊢
  refine (Bytes_F w4 (ps j).g (ps j).tb (ps j).tcap (ps j).G (ps j).ev (ps j).F (ps j).pr HP4.out.gr HP4.out.gi).mono ?_
  rintro _ w5 ⟨rfl, hb5⟩
  rw [← HBy.out]
  have HB5 := hid hb5
  clear hb5 d1 c1 fz e1
  go_wp2
  go_ret
  exact ⟨rfl, HG.out _ ⟨_, ys, _, lv, HL4.out.below HB5.out⟩ ((HBs.out.mono hB1).trans (HB4.out.trans (HB5.out.mono (Nat.le_trans hB1' HB4.out.size)))) ((KeepP.below HBs.out (Nat.le_refl _)).trans (HKw.out.trans (KeepP.below HB5.out (Nat.le_refl _))))⟩

end Go.Proofs.YtckallochdegiaaGreat
namespace Go.Proofs.YtckallochdegiaaGreat
set_option linter.unusedVariables false
set_option linter.unusedSimpArgs false
open Go.RowKit

theorem nil_eq (w : World) : Sem.run Tryz.prog (binOp BinOp.eql 25 (.slice none 0 0) (.slice none 0 0)) w = .ok (.bool true) w := by kernel_rfl

/-- A list of numbers lies in a whole row. -/
theorem NumsAt.whole {w : World} {B : Nat} {v : Value} {l : List Nat} (h : NumsAt w B v l) (hl : 0 < l.length) : ∃ g c f, v = .slice (some ⟨g, 0, none⟩) l.length c ∧ B ≤ g ∧ l.length ≤ c ∧ c ≤ maxLen ∧ w.rowIs g 3 c f := by
  rcases h.1.2 with ⟨_, h2⟩ | ⟨g, cap, cur, h1, hB, h3, h4, h5, h6, h7⟩
  · omega
  · refine ⟨g, cap, fun i => cur[i]?.getD undef, h1, hB, h4, h5, cur, h3, by omega, fun i hi => ?_⟩
    have : i < cur.size := by omega
    simp [this]

set_option maxRecDepth 100000 in
set_option maxHeartbeats 4000000 in
theorem members_any (w : World) (B W n m j : Nat) (ps : Nat → Pr) (ts : List ByteArray) (ys : List Value) (iv tv lv : Value) (v : Int) (h : Law w B W n m ps ts ys iv tv lv) (hj : j < m) (hn : n ≤ 2 ^ 22) (hB : B ≤ w.heap.size) :
    Calls Tryz.prog 22 #[ptr W, .agg #[ptr (ps j).x, ptr (ps j).g], .int .i64 v] w fun e w' => e = .returned (.bool true) ∧ GoesP B W (n + 1) m ps iv w w' := by
  obtain ⟨i3, q0, q1, q2, q3⟩ := info_parts Tryz.info3
  obtain ⟨w1, hw1, hb1, hl1, hk1, hp1, hs1, -⟩ := h.pairBlock hj
  have HG : Hid (∀ w', (∃ ts ys tv lv, Law w' B W (n + 1) m ps ts ys iv tv lv) → Below B w1 w' → KeepP w1 w' → GoesP B W (n + 1) m ps iv w w') := fun w' x y z => ⟨x, (hb1.mono hB).trans y, (KeepP.below hb1 (Nat.le_refl _)).trans z⟩
  have HW1 := hid hw1
  have HL := hid hl1
  have HK := hid hk1
  have HP := hid hp1
  have hB1 : B ≤ w1.heap.size := by omega
  clear h hw1 hb1 hl1 hk1 hp1
  go_enter Tryz.func22, Tryz.ntmps22
  go_wp2_with fail
  rw [← HW1.out]
  generalize w.heap.size = pb at HK hs1 hB ⊢
  clear HW1
  generalize ps j = p at HK HP ⊢
  refine (Members_any w1 p.x p.G p.pr v HP.out.ix HP.out.gi).mono ?_
  rintro _ w2 (⟨hv, rfl, hw⟩ | ⟨hv, val, t, rfl, ht, hvt, hN, hLn, hb2⟩)
  · replace hw := hw.symm
    subst hw
    have c1 := HK.out.c1
    have g0 := HP.out.gr.c0
    have HV := hid hv
    clear hv
    go_wp2_with fail
    refine (vertex_any w1 pb p.g p.G.N v c1 g0).mono ?_
    rintro _ w' ⟨rfl, hw⟩
    replace hw := hw.symm
    subst hw
    rw [HV.out]
    have hnil := nil_eq
    go_wp2
    go_ret
    exact ⟨rfl, HG.out _ ⟨ts, ys, tv, lv, HL.out.mono (by omega)⟩ (Below.refl _ _) (fun _ _ _ q => q)⟩
  · have HV := hid hv
    simp only [vtx, Bool.and_eq_true, decide_eq_true_eq] at hv
    obtain ⟨vn, rfl⟩ : ∃ y : Nat, v = y := ⟨v.toNat, by omega⟩
    have hvn : (vn : Int) < p.G.N := hv.2
    have n48 := HP.out.gi.n48
    have HI := hid HP.out.gi
    have L0 := HI.out.li 0 (by omega)
    have ok := HI.out.okI (i := 0) (by omega) ht
    have HOk : Hid (∀ x, x ∈ fromX t (leastV t vn, -1) → OkI x) := fun x hx => ok x ((fromX_mem _ _ _).1 hx)
    have ht5 : (fromX t (leastV t vn, -1)).length ≤ 3000 := by rw [fromX_length]; exact Nat.le_trans (L0.len n48 HI.out.rngE ht) (by omega)
    have HP2 := hid (HP.out.below hb2)
    have HK2 := hid (HK.out.below hb2)
    have HT : Hid (∀ W', Below w2.heap.size w2 W' → Calls Tryz.prog 40 #[ptr p.g, .int .i64 0, .int .i64 vn] W' fun e w' => ∃ v', e = .returned v' ∧ Items w' v' (fromX t (leastV t vn, -1)) ∧ Below W'.heap.size W' w') := by
      intro W' hb'
      have P' := HP2.out.below hb'
      have ci : 0 < p.G.tours.length := by rw [HI.out.tl]; omega
      obtain ⟨ka, ta, a1, a2, a3, a4, a5⟩ := L0.ix_of (v := (vn : Int)) (by omega) hvn
      have et := L0.uniq a4 ht a5 hvt rfl
      subst et
      obtain ⟨lb, lcap, f, _, hLv⟩ := P'.gr.lvl ci
      exact Tour_any p.g p.tb p.tcap p.G.tours.length 0 lb lcap (Go.Proofs.YtckallochdegiaaGreat.lv p.G 0) f vn ka ta W' hLv a2 a1 a3 (by have := L0.len n48 HI.out.rngE a4; omega)
    generalize fromX t (leastV t vn, -1) = t5 at hN hLn HOk ht5 HT
    obtain ⟨L, hL⟩ : ∃ L, L = verts t5 := ⟨_, rfl⟩
    have HLe := hid hL
    rw [← hL] at hN hLn
    have HN2 := hid hN
    obtain ⟨g, cp, gf, hval, gB, gc, gm, grow⟩ := hN.whole hLn
    have HGr := hid grow
    have HGm := hid gm
    have hLl : L.length ≤ 3000 := by rw [hL, verts_length]; exact Nat.le_trans (sizeV_le _) ht5
    unfold maxLen at gm
    have HB2 := hid hb2
    have hs2 := hb2.size
    subst hval
    clear hN hb2 hv ht hvt L0 ok hL grow
    have c1 := HK2.out.c1
    have g0 := HP2.out.gr.c0
    go_wp2_with fail
    refine (vertex_any w2 pb p.g p.G.N vn c1 g0).mono ?_
    rintro _ w' ⟨rfl, hw⟩
    replace hw := hw.symm
    subst hw
    rw [HV.out]
    go_wp2_with fail
    refine (HT.out _ (Below.refl _ _)).mono ?_
    rintro _ w3 ⟨v5, rfl, hI5, hb3⟩
    obtain ⟨xb, xo, xc, hx⟩ := hI5
    have hxv := hx.hv
    subst hxv
    have HX := hid hx
    have x1 := hx.le
    have x2 := hx.mx
    unfold maxLen at x2
    have HB3 := hid hb3
    have hs3 := hb3.size
    clear hx hb3 HT c1 g0
    go_wp2_with fail
    go_loopw [9, 35] (fun a c wr => ∃ k : Nat, k ≤ t5.length ∧ c = .int .i64 k ∧ Hid (NumsAt wr w3.heap.size a (verts (t5.take k))) ∧ Hid (Below w3.heap.size w3 wr)) (fun _ c _ => t5.length - (intOf c).toNat)
    case atStart => exact ⟨0, by omega, rfl, ⟨by simpa [verts] using World.ownsRow_nil _ _ _ _, fun n hn => by simp [verts] at hn⟩, Below.refl _ _⟩
    case round =>
      obtain ⟨k, hk, rfl, hO, hB3⟩ := hrel
      have hB3s := hB3.out.size
      by_cases ck : k < t5.length
      · have ck' : (k : Int) < (t5.length : Int) := by omega
        have hI := HX.out.below hB3.out (Nat.le_refl _)
        have y0 := hI.c0 k ck
        have y1 := hI.c1 k ck
        have ox := HOk.out (t5[k]?.getD (0, 0)) (by rw [get_eq ck]; exact List.getElem_mem ck)
        have o1 := ox.1
        have o2 := ox.2.1
        have HVs := hid (verts_step t5 k ck)
        have hvl : (verts (t5.take k)).length ≤ 3000 := by
          rw [verts_length]
          exact Nat.le_trans (sizeV_le _) (by rw [List.length_take]; omega)
        clear hI ox
        obtain ⟨x, hx⟩ : ∃ x, x = t5[k]?.getD (0, 0) := ⟨_, rfl⟩
        rw [← hx] at y0 y1 HVs o1 o2
        clear hx
        obtain ⟨xa, xe⟩ := x
        simp only at y0 y1 o1 o2 HVs
        have HBx : Hid (∀ o, Below w3.heap.size w3 (wr.alloc o)) := fun o => hB3.out.alloc hB3s o
        have HOx : Hid (∀ o, NumsAt (wr.alloc o) w3.heap.size u9 (verts (t5.take k))) := fun o => ⟨hO.out.1.alloc o, hO.out.2⟩
        clear hO
        by_cases cx : xe < 0
        · have HVe : Hid (verts (t5.take (k + 1)) = verts (t5.take k) ++ [xa.toNat]) := by show _ = _; rw [HVs.out, if_pos cx]
          obtain ⟨M, hM⟩ : ∃ M, M = verts (t5.take k) := ⟨_, rfl⟩
          rw [← hM] at HOx HVe hvl
          clear hM HVs
          obtain ⟨xn, rfl⟩ : ∃ xn : Nat, xa = xn := ⟨xa.toNat, by omega⟩
          have HM : Hid (M.length + 1 ≤ maxLen) := by show _ ≤ _; unfold maxLen; omega
          go_wp2_with (at_builtin; refine wpList_append_own _ rfl (.tmp 42) (.tmp 45) 25 rfl w3.heap.size 3 i3 _ 1 8 Tryz.underlying25 q0 q1 q2 q3 rfl (by decide) _ M.length _ rfl ((HOx.out _).1.alloc _) ⟨wr.heap.size + 1, 0, none⟩ 1 1 [.int .i64 xn] rfl rfl (by rw [show wr.heap.size + 1 = (wr.alloc (.cells #[.int .i64 xn, .int .i64 xe] 71)).heap.size by simp]; exact one_cell _ _ _) (fun y hy => by simp at hy; subst hy; rfl) HM.out (by omega) (by simp; omega) ?_; intro v' w4 ho hg _)
          have R2 : Below w3.heap.size w3 w4 := ((HBx.out _).alloc (by simp; omega) _).grown hg (by simp; omega) (fun k hk => ((HOx.out (.cells #[] 0)).1.lt k hk).1)
          have R1 : NumsAt w4 w3.heap.size v' (M ++ [xn]) := by
            refine ⟨by rw [List.length_append, List.map_append]; exact ho, fun z hz => ?_⟩
            rcases List.mem_append.1 hz with q | q
            · exact (HOx.out (.cells #[] 0)).2 z q
            · simp at q; omega
          exact ⟨⟨k + 1, by omega, by go_num, by rw [HVe.out, Int.toNat_natCast]; exact R1, R2⟩, by simp [intOf]; omega⟩
        · have HVe : Hid (verts (t5.take (k + 1)) = verts (t5.take k)) := by show _ = _; rw [HVs.out, if_neg cx, List.append_nil]
          clear HVs
          go_wp2
          exact ⟨⟨k + 1, by omega, by go_num, by rw [HVe.out]; exact HOx.out _, HBx.out _⟩, by simp [intOf]; omega⟩
      · have hke : k = t5.length := by omega
        have hO2 := hO.out
        rw [hke, List.take_length, ← HLe.out] at hO2
        have HO2 := hid hO2
        obtain ⟨g', cp', hw', gl', -, gc', gm', -, gcl'⟩ := hO2.at_ hLn
        unfold maxLen at gm'
        subst hw'
        have HB13 : Hid (Below w1.heap.size w1 wr) := (HB2.out.trans (HB3.out.mono hs2)).trans (hB3.out.mono (by omega))
        have HNw : Hid (NumsAt wr w1.heap.size (.slice (some ⟨g, 0, none⟩) L.length cp) L) := by
          have q1 := owns_below HN2.out.1 HB3.out (Nat.le_refl _)
          exact ⟨owns_below q1 hB3.out (Nat.le_refl _), HN2.out.2⟩
        have HGw : Hid (wr.rowIs g 3 cp gf) := row_but (S := fun _ => False) (row_but (S := fun _ => False) HGr.out (But.of HB3.out) (fun q => q)) (But.of hB3.out) (fun q => q)
        clear hke hO hO2 gcl' HN2 HGr
        obtain ⟨w6, hw6⟩ : ∃ w6 : World, w6 = wr := ⟨_, rfl⟩
        rw [← hw6] at HB13 HNw HGw HO2 ⊢
        clear hw6 hB3 hB3s gl' wr
        have hB6 : B ≤ w6.heap.size := Nat.le_trans hB1 HB13.out.size
        go_wp2_with fail
        go_loopw [12, 13] (fun a c wr => ∃ k : Nat, k ≤ L.length ∧ a = .bool true ∧ c = .int .i64 k ∧ Hid (Below w6.heap.size w6 wr)) (fun _ c _ => L.length - (intOf c).toNat)
        case atStart => exact ⟨0, by omega, by simp, rfl, Below.refl _ _⟩
        case round =>
          obtain ⟨k, hk, rfl, rfl, hB7⟩ := hrel
          have hB7s := hB7.out.size
          by_cases ck : k < L.length
          · have ck' : (k : Int) < (L.length : Int) := by omega
            have N1 : NumsAt wr w1.heap.size (.slice (some ⟨g, 0, none⟩) L.length cp) L := ⟨owns_below HNw.out.1 hB7.out (Nat.le_refl _), HNw.out.2⟩
            have N2 : NumsAt wr w3.heap.size (.slice (some ⟨g', 0, none⟩) L.length cp') L := ⟨owns_below HO2.out.1 hB7.out (Nat.le_refl _), HO2.out.2⟩
            obtain ⟨h1, h2, h3, _, _, _, _, _, h4⟩ := N1.at_ hLn
            obtain ⟨j1, j2, j3, _, _, _, _, _, j4⟩ := N2.at_ hLn
            simp only [Value.slice.injEq, Option.some.injEq, Addr.mk.injEq, and_true, true_and] at h3 j3
            obtain ⟨rfl, rfl⟩ := h3
            obtain ⟨rfl, rfl⟩ := j3
            have d1 := h4 k ck
            have d2 := j4 k ck
            clear h4 j4 N1 N2
            generalize L[k]?.getD 0 = z at d1 d2
            go_wp2_with fail
            go_quiet (fail)
            go_wp2
            exact ⟨⟨k + 1, by omega, by simp, by go_num, Below.drewN' _ hB7.out⟩, by simp [intOf]; omega⟩
          · have HB17 : Hid (Below w1.heap.size w1 wr) := HB13.out.trans (hB7.out.mono HB13.out.size)
            have HM6 := hid (mine_any w1 wr B W n m ps ts ys iv tv lv g L.length cp gf HL.out HB17.out hn hB1 (row_but (S := fun _ => False) HGw.out (But.of hB7.out) (fun q => q)) gB gc HGm.out)
            go_wp2_with fail
            refine HM6.out.mono ?_
            rintro _ w7 ⟨rfl, hg7, hb7, hk7⟩
            have HG7 := hid hg7
            have HB7 := hid hb7
            have HK7 := hid hk7
            clear hg7 hb7 hk7
            go_wp2
            go_ret
            exact ⟨rfl, HG.out _ HG7.out HB7.out HK7.out⟩

end Go.Proofs.YtckallochdegiaaGreat
namespace Go.Proofs.YtckallochdegiaaGreat
set_option linter.unusedVariables false
set_option linter.unusedSimpArgs false
open Go.RowKit

/-- A new index is the new graph's. -/
theorem new_idxG {w : World} {b n : Nat} (h1 : 1 ≤ n) (h48 : n ≤ 48) (h : ∃ F, IdxP w b n (fun _ _ => (false, false, 0)) (newR n) 0 F) : IdxG w b (newG n) 0 := by
  obtain ⟨F, h⟩ := h
  have mem : ∀ t, t ∈ baseT n → ∃ v : Nat, v < n ∧ t = [((v : Int), (-1 : Int))] := by
    intro t ht
    simp only [baseT, List.mem_map, List.mem_range] at ht
    obtain ⟨v, hv, rfl⟩ := ht
    exact ⟨v, hv, rfl⟩
  refine ⟨newR n, F, h.congr (fun u v _ _ => ?_) (fun _ _ _ _ => rfl), fun k hk => ?_, fun k v hk h6 hv => ?_⟩
  · exact (look_no (by simp [newG, findIx])).symm
  · have hk' : k ≤ Nat.log2 n := hk
    rw [newG_lv n k hk', newR, if_pos hk']
    refine ⟨fun t ht z hz => ?_, fun z hz hne => ?_⟩
    · obtain ⟨v, hv, rfl⟩ := mem t ht
      have e := hz.1
      simp only [List.mem_singleton, Prod.mk.injEq, and_true] at e
      have e' : z = v := by omega
      subst e'
      rw [baseR, if_pos hv]
      have f := fromX_at (a := []) (b := []) (x := ((z : Int), (-1 : Int))) (by simp)
      simp only [List.nil_append, List.append_nil] at f
      rw [f]
      simp [pv]
    · by_cases c : z < n
      · refine ⟨[((z : Int), (-1 : Int))], ?_, by simp, fun x hx => by simp at hx; subst hx; exact Int.le_refl _⟩
        simp only [baseT, List.mem_map, List.mem_range]
        exact ⟨z, c, rfl⟩
      · rw [baseR, if_neg c] at hne; exact absurd rfl hne
  · have hk' : Nat.log2 n < k := hk
    rw [newR, if_neg (by omega)]

/-- An answer that is right; the law's world goes on. -/
def MadeR (B W n : Nat) (w : World) (e : Ending) (w' : World) : Prop := e = .returned (.bool true) ∧ Goes B W n w w'

theorem pair_cells (w : World) (x g j : Nat) (y : Value) (h : [ptr x, ptr g][j]? = some y) : (w.alloc (.cells #[ptr x, ptr g] 37)).cell? ((⟨w.heap.size, 0, none⟩ : Addr).add j) = some y := by
  rw [addr_add, Nat.zero_add, new_cell]
  simpa using h

/-- What the append of a pair and the store of the new slice leave. -/
theorem made_done {w w1 w2 w3 : World} {B W n m g tb tcap N : Nat} {ps : Nat → Pr} {ts : List ByteArray} {ys : List Value} {iv tv lv v' : Value} {F : Nat → Value} {o : Obj} (h : Law w B W n m ps ts ys iv tv lv) (hB : B ≤ w.heap.size) (h1 : 1 ≤ N) (h48 : N ≤ 48)
    (b1 : Below w.heap.size w w1) (hi : IdxG w1 w.heap.size (newG N) 0) (hs1 : w.heap.size < w1.heap.size) (b2 : Below w1.heap.size w1 w2) (hg1 : w1.heap.size ≤ g) (hg2 : w1.heap.size ≤ tb) (hG : GRep w2 g (newG N) (.slice none 0 0) tb tcap F 0)
    (ho : w3.ownsRow B 37 2 v' (m + 1) (pcells ps m ++ [ptr w.heap.size, ptr g])) (hg : (w2.alloc o).grownBy w3 iv.ownBlock) :
    LawX (w3.setCell ⟨W, 0, none⟩ v') B W (n + 1) ∧ Below B w (w3.setCell ⟨W, 0, none⟩ v') := by
  have b12 : Below w.heap.size w w2 := b1.trans (b2.mono (by omega))
  have h2 := h.below b12
  have bt := butG ((Below.refl _ _).alloc (Nat.le_refl _) o) hg
  have hp : (⟨w.heap.size, g, tb, tcap, .slice none 0 0, F, 0, newG N⟩ : Pr).At w2 := by
    exact ⟨hi.below b2, hG, (newG_ok h1 h48).1, (newG_ok h1 h48).2⟩
  have hnew : ∀ k, (⟨w.heap.size, g, tb, tcap, .slice none 0 0, F, 0, newG N⟩ : Pr).own k → w.heap.size ≤ k := by
    intro k hk
    rcases hk with q | q | q | q
    · simp only at q; omega
    · simp only at q; omega
    · simp only at q; omega
    · simp [Value.ownBlock] at q
  have r := h2.pair h hp hnew hB bt ho
  refine ⟨⟨_, _, _, _, _, _, _, r⟩, ?_⟩
  have f := h2.fin bt (fun k hk => (h2.iO.lt k hk).1) (Nat.le_trans hB b12.size) 0 v'
  exact (b12.mono hB).trans f

set_option maxRecDepth 100000 in
set_option maxHeartbeats 1000000 in
theorem made_any (w : World) (B W n m : Nat) (ps : Nat → Pr) (ts : List ByteArray) (ys : List Value) (iv tv lv : Value) (x s : Int) (h : Law w B W n m ps ts ys iv tv lv) (hn : n ≤ 2 ^ 22) (hB : B ≤ w.heap.size) :
    Calls Tryz.prog 47 #[ptr W, .int .i64 x, .int .i64 s] w (MadeR B W (n + 1) w) := by
  obtain ⟨i41, q0, q1, q2, q3⟩ := info_parts Tryz.info37
  have HL := hid h
  have hil := h.il
  have HM : Hid (m + 1 ≤ maxLen) := by show _ ≤ _; unfold maxLen; omega
  clear h
  by_cases hx : x < 1 ∨ 48 < x
  · have HX := hid hx
    have hx' : (x < 1) ∨ (¬ x < 1 ∧ 48 < x) := by omega
    clear hx
    rcases hx' with c1 | ⟨c1, c2⟩
    all_goals
      go_enter Tryz.func47, Tryz.ntmps47
      go_wp2_with fail
      refine (New_bad x s w HX.out).mono ?_
      rintro _ w' ⟨rfl, hw⟩
      replace hw := hw.symm
      subst hw
      go_wp2
      go_ret
      exact ⟨rfl, ⟨m, ps, ts, ys, iv, tv, lv, HL.out.mono (by omega)⟩, Below.refl _ _⟩
  · obtain ⟨N, rfl⟩ : ∃ N : Nat, x = N := ⟨x.toNat, by omega⟩
    have c1 : ¬ (N : Int) < 1 := by omega
    have c2 : ¬ (48 : Int) < (N : Int) := by omega
    have n1 : 1 ≤ N := by omega
    have n48 : N ≤ 48 := by omega
    clear hx
    go_enter Tryz.func47, Tryz.ntmps47
    go_wp2_with fail
    refine (New_ok N s w n1 n48).mono ?_
    rintro _ w1 ⟨rfl, hi0, hs1, hb1⟩
    have hi := new_idxG n1 n48 hi0
    have HI := hid hi
    have HS1 := hid hs1
    have HB1 := hid hb1
    have HL1 := hid (HL.out.below hb1)
    have hB1 : B ≤ w1.heap.size := by omega
    have d0 := HL1.out.c0
    clear hi hi0 hs1 hb1
    obtain ⟨xb, hxb⟩ : ∃ xb, xb = w.heap.size := ⟨_, rfl⟩
    have HXb := hid hxb
    rw [← hxb] at HI ⊢
    clear hxb
    have HD : Hid (∀ w2 v3 w3 g tb tcap F o, Below w1.heap.size w1 w2 → w1.heap.size ≤ g → w1.heap.size ≤ tb → GRep w2 g (newG N) (.slice none 0 0) tb tcap F 0 → w3.ownsRow B 37 2 v3 (m + 1) (pcells ps m ++ [ptr xb, ptr g]) → (w2.alloc o).grownBy w3 iv.ownBlock → LawX (w3.setCell ⟨W, 0, none⟩ v3) B W (n + 1) ∧ Below B w (w3.setCell ⟨W, 0, none⟩ v3)) := by
      intro w2 v3 w3 g tb tcap F o b2 hg1 hg2 hG ho hg
      rw [HXb.out] at ho
      have hi := HI.out
      rw [HXb.out] at hi
      exact made_done HL.out hB n1 n48 HB1.out hi HS1.out b2 hg1 hg2 hG ho hg
    clear HXb HS1
    go_wp2_with fail
    go_region_law (first
      | (refine step_call_mine rfl 55 #[.int .i64 N] (by go_simp) (New_any _ N n1 n48) ?_; rintro _ w2 ⟨g, tb, tcap, F, rfl, hg1, hg2, hG, hb2⟩; refine ⟨ptr g, rfl, ?_⟩; have HB2 := hid (below_drew hb2); have HG2 := hid hG; have HG3 : Hid (w1.heap.size ≤ g ∧ w1.heap.size ≤ tb) := ⟨hg1, hg2⟩; have e0 := (HL1.out.below HB2.out).c0; have HL2 := hid (HL1.out.below HB2.out); have hs2 : B ≤ w2.heap.size := Nat.le_trans hB1 HB2.out.size; have E0 := fun o => ((HL2.out.below ((Below.refl _ _).alloc (Nat.le_refl _) o)).c0); clear hb2 hG hg1 hg2)
      | (refine step_append_mine rfl (.tmp 40) (.tmp 45) 27 rfl B 37 i41 _ 2 16 Tryz.underlying27 q0 q1 q2 q3 rfl (by decide) iv m (pcells ps m) (by simp [Act.eval, Act.put]) (HL2.out.iO.alloc _) ⟨w2.heap.size, 0, none⟩ 1 1 [ptr xb, ptr g] (by simp [Act.eval, Act.put]) rfl (pair_cells w2 xb g) (fun y hy => by simp at hy; rcases hy with rfl | rfl <;> rfl) HM.out (by omega) (by simp; omega) ?_; intro v' w3 ho hg; have HO := hid ho; have HR := hid (HD.out w2 v' w3 g tb tcap F _ HB2.out HG3.out.1 HG3.out.2 HG2.out ho hg); have r3 := HL2.out.rowG (butG ((Below.refl _ _).alloc (Nat.le_refl _) _) hg) (fun k hk => owns_ty HL2.out.iO hk) (by decide); have c0 := r3.cell (i := 0) (by omega); have fz := r3.frozen; clear ho hg r3; obtain ⟨p2, n2, cc2, hv2⟩ := owns_form HO.out; subst hv2))
    all_goals
      go_wp2
      go_ret
      exact ⟨rfl, HR.out⟩

end Go.Proofs.YtckallochdegiaaGreat
