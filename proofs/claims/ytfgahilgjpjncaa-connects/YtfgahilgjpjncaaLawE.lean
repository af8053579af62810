import Derived.Test.YtfgahilgjpjncaaLawD
import Derived.Test.YtfgahilgjpjncaaBytesW
namespace Go.Proofs.Ytfgahilgjpjncaa
set_option linter.unusedVariables false
set_option linter.unusedSimpArgs false
open Go.RowKit

theorem Try.info45 : (Try.prog.info? 45).map (fun i => (i.zero, i.size, i.bytes)) = some (some (.slice none 0 0), 1, 24) := by kernel_rfl
theorem Try.info41 : (Try.prog.info? 41).map (fun i => (i.zero, i.size, i.bytes)) = some (some (.agg #[.pointer none, .pointer none]), 2, 16) := by kernel_rfl

section
variable {w w0 wx w3 : World} {B W n m : Nat} {ps : Nat → Pr} {ts : List ByteArray} {ys : List Value} {iv tv lv : Value} {row : Option Nat}

theorem butG (b : Below w.heap.size w wx) (g : wx.grownBy w3 row) : But (fun k => some k = row) w w3 := (But.of b).trans (But.grown g) (fun _ _ q => q)
theorem Law.rowG (h : Law w B W n m ps ts ys iv tv lv) (b : But (fun k => some k = row) w w3) {t : Nat} (hr : ∀ k, row = some k → TyAt w k t) (ht : t ≠ 32) : w3.rowIs W 32 4 (wf iv tv lv) :=
  row_but h.row b (fun q => (hr W q.symm).ne h.tyW ht rfl)
theorem Law.fin (h : Law w B W n m ps ts ys iv tv lv) (b : But (fun k => some k = row) w w3) (hr : ∀ k, row = some k → B ≤ k) (hB : B ≤ w.heap.size) (i : Nat) (v : Value) : Below B w (w3.setCell ⟨W, i, none⟩ v) :=
  (b.below (fun k hk => hr k hk.symm) hB).setCell h.bW v
end

/-- The law's world went on. -/
def Goes (B W n : Nat) (w w' : World) : Prop := LawX w' B W n ∧ Below B w w'

set_option maxRecDepth 100000 in
set_option maxHeartbeats 1000000 in
theorem mine_any (w : World) (B W n m : Nat) (ps : Nat → Pr) (ts : List ByteArray) (ys : List Value) (iv tv lv : Value) (h : Law w B W n m ps ts ys iv tv lv) (hn : n ≤ 2 ^ 22) (hB : B ≤ w.heap.size) :
    Calls Try.prog 43 #[ptr W, .slice none 0 0] w fun e w' => e = .returned (.tuple #[]) ∧ Goes B W (n + 1) w w' := by
  obtain ⟨i45, q0, q1, q2, q3⟩ := info_parts Try.info45
  have HL := hid h
  have d2 := h.c2
  have hyl := h.ll
  have HM : Hid (ys.length + 1 ≤ maxLen) := by show _ ≤ _; unfold maxLen; omega
  clear h
  go_enter Try.func43, Try.ntmps43
  go_wp2_with fail
  go_loopw [12] (fun a wr => a = .int .i64 0 ∧ wr = w) (fun _ _ => 0)
  case atStart => exact ⟨rfl, rfl⟩
  case round =>
    obtain ⟨rfl, hw⟩ := hrel
    replace hw := hw.symm
    subst hw
    go_wp2_with (at_builtin; refine wpList_append_own _ rfl (.tmp 28) (.tmp 30) 30 rfl B 45 i45 (.slice none 0 0) 1 24 Try.underlying30 q0 q1 q2 q3 rfl (by decide) _ ys.length ys rfl (HL.out.lO.alloc _) ⟨w.heap.size, 0, none⟩ 1 1 [.slice none 0 0] rfl rfl (one_cell w _ _) (fun y hy => by simp at hy; subst hy; rfl) HM.out (by omega) (by simp; omega) ?_; intro v' w3 ho hg _; have HBt := hid (butG ((Below.refl _ _).alloc (Nat.le_refl _) _) hg); have HO := hid ho; have r3 := HL.out.rowG HBt.out (fun k hk => owns_ty HL.out.lO hk) (by decide); have c2 := r3.cell (i := 2) (by omega); have fz := r3.frozen; clear ho hg r3; obtain ⟨p2, n2, cc2, hv2⟩ := owns_form HO.out; subst hv2)
    go_end0
    exact ⟨rfl, ⟨m, ps, ts, ys ++ [.slice none 0 0], iv, tv, _, HL.out.list HBt.out HO.out⟩, HL.out.fin HBt.out (fun k hk => (HL.out.lO.lt k hk).1) hB _ _⟩

theorem Law.pairBlock {w : World} {B W n m j : Nat} {ps : Nat → Pr} {ts : List ByteArray} {ys : List Value} {iv tv lv : Value} (h : Law w B W n m ps ts ys iv tv lv) (hj : j < m) : ∃ w1 : World, w1 = w.alloc (.cells #[ptr (ps j).x, ptr (ps j).g] 41) ∧ Below w.heap.size w w1 ∧ Law w1 B W n m ps ts ys iv tv lv ∧ PBk w1 w.heap.size (ps j).x (ps j).g ∧ (ps j).At w1 ∧ w.heap.size ≤ w1.heap.size ∧ w1.heap.size = w.heap.size + 1 := by
  have b : Below w.heap.size w (w.alloc (.cells #[ptr (ps j).x, ptr (ps j).g] 41)) := (Below.refl _ _).alloc (Nat.le_refl _) _
  refine ⟨_, rfl, b, h.below b, ?_, (h.below b).at_ j hj, b.size, by simp⟩
  refine World.rowIs_alloc w #[ptr (ps j).x, ptr (ps j).g] 41 _ ?_
  intro i hi
  match i, hi with
  | 0, _ => rfl
  | 1, _ => rfl

theorem PBk.wr {w w3 : World} {b x g W i : Nat} {v : Value} {row : Option Nat} {t : Nat} (h : PBk w b x g) (k : But (fun k => some k = row) w w3) (hr : ∀ k, row = some k → TyAt w k t) (ht : t ≠ 41) (hW : TyAt w3 W 32) : PBk (w3.setCell ⟨W, i, none⟩ v) b x g := by
  have h3 : PBk w3 b x g := row_but h k (fun q => (hr b q.symm).ne (rowIs_ty h) ht rfl)
  exact row_but h3 (But.setCell w3 ⟨W, i, none⟩ v) (fun q => (rowIs_ty h3).ne hW (by decide) q)

set_option maxRecDepth 100000 in
set_option maxHeartbeats 1000000 in
theorem saved_any (w : World) (B W n m j : Nat) (ps : Nat → Pr) (ts : List ByteArray) (ys : List Value) (iv tv lv : Value) (h : Law w B W n m ps ts ys iv tv lv) (hj : j < m) (hn : n ≤ 2 ^ 22) (hB : B ≤ w.heap.size) :
    Calls Try.prog 23 #[ptr W, .agg #[ptr (ps j).x, ptr (ps j).g]] w fun e w' => (∃ b : Bool, e = .returned (.bool b)) ∧ Goes B W (n + 1) w w' := by
  obtain ⟨i9, q0, q1, q2, q3⟩ := info_parts Try.info9
  have htl := h.tl
  have HM : Hid (ts.length + 1 ≤ maxLen) := by show _ ≤ _; unfold maxLen; omega
  obtain ⟨w1, hw1, hb1, hl1, hk1, hp1, hs1, -⟩ := h.pairBlock hj
  have HG : Hid (∀ w', LawX w' B W (n + 1) → Below B w1 w' → Goes B W (n + 1) w w') := fun w' x y => ⟨x, (hb1.mono hB).trans y⟩
  have HW1 := hid hw1
  have HL := hid hl1
  have HK := hid hk1
  have HP := hid hp1
  have hB1 : B ≤ w1.heap.size := by omega
  clear h hw1 hb1 hl1 hk1 hp1
  go_enter Try.func23, Try.ntmps23
  go_wp2_with fail
  rw [← HW1.out]
  generalize w.heap.size = pb at HK hs1 hB ⊢
  clear HW1
  refine (Save_any w1 (ps j).x).mono ?_
  rintro _ w' ⟨rfl, hw⟩
  replace hw := hw.symm
  subst hw
  have d1 := HL.out.c1
  go_wp2_with (at_builtin; refine wpList_append_own _ rfl (.tmp 13) (.tmp 15) 29 rfl B 9 i9 _ 1 16 Try.underlying29 q0 q1 q2 q3 rfl (by decide) _ ts.length _ rfl (HL.out.tO.alloc _) ⟨w1.heap.size, 0, none⟩ 1 1 [.string ⟨#[]⟩] rfl rfl (one_cell w1 _ _) (fun y hy => by simp at hy; subst hy; rfl) HM.out (by omega) (by simp; omega) ?_; intro v' w3 ho hg _; have HBt := hid (butG ((Below.refl _ _).alloc (Nat.le_refl _) _) hg); have HO := hid ho; have r3 := HL.out.rowG HBt.out (fun k hk => owns_ty HL.out.tO hk) (by decide); have c1 := r3.cell (i := 1) (by omega); have fz := r3.frozen; have e1 := ((HK.out.wr (W := W) (i := 1) (v := v') HBt.out (fun k hk => owns_ty HL.out.tO hk) (by decide) (rowIs_ty r3)).c1); have HR3 := hid r3; clear ho hg r3; obtain ⟨p2, n2, cc2, hv2⟩ := owns_form HO.out; subst hv2)
  have HL4 := hid (HL.out.text (t := ⟨#[]⟩) (by simp [ByteArray.size]) HBt.out HO.out)
  have HB4 := hid (HL.out.fin HBt.out (fun k hk => (HL.out.tO.lt k hk).1) hB1 1 (.slice p2 n2 cc2))
  have HP4 := hid (HL4.out.at_ j hj)
  generalize w3.setCell ⟨W, 1, none⟩ (.slice p2 n2 cc2) = w4 at HL4 HB4 HP4 ⊢
  refine (Bytes_any w4 (ps j).g (ps j).tb (ps j).tcap (ps j).G (ps j).ev (ps j).F (ps j).pr HP4.out.gr HP4.out.gi).mono ?_
  rintro _ w5 ⟨s, rfl, hb5⟩
  have HB5 := hid hb5
  clear hb5 d1 c1 fz e1
  go_wp2
  go_ret
  exact ⟨⟨_, rfl⟩, HG.out _ ⟨m, ps, _, ys, iv, _, lv, HL4.out.below HB5.out⟩ (HB4.out.trans (HB5.out.mono (Nat.le_trans hB1 HB4.out.size)))⟩

end Go.Proofs.Ytfgahilgjpjncaa
namespace Go.Proofs.Ytfgahilgjpjncaa
set_option linter.unusedVariables false
set_option linter.unusedSimpArgs false
open Go.RowKit

theorem nil_eq (w : World) : Sem.run Try.prog (binOp BinOp.eql 45 (.slice none 0 0) (.slice none 0 0)) w = .ok (.bool true) w := by kernel_rfl

set_option maxRecDepth 100000 in
set_option maxHeartbeats 2000000 in
theorem members_any (w : World) (B W n m j : Nat) (ps : Nat → Pr) (ts : List ByteArray) (ys : List Value) (iv tv lv : Value) (v : Int) (h : Law w B W n m ps ts ys iv tv lv) (hj : j < m) (hn : n ≤ 2 ^ 22) (hB : B ≤ w.heap.size) :
    Calls Try.prog 21 #[ptr W, .agg #[ptr (ps j).x, ptr (ps j).g], .int .i64 v] w fun e w' => (∃ b : Bool, e = .returned (.bool b)) ∧ Goes B W (n + 1) w w' := by
  obtain ⟨i3, q0, q1, q2, q3⟩ := info_parts Try.info3
  obtain ⟨w1, hw1, hb1, hl1, hk1, hp1, hs1, -⟩ := h.pairBlock hj
  have HG : Hid (∀ w', LawX w' B W (n + 1) → Below B w1 w' → Goes B W (n + 1) w w') := fun w' x y => ⟨x, (hb1.mono hB).trans y⟩
  have HW1 := hid hw1
  have HL := hid hl1
  have HK := hid hk1
  have HP := hid hp1
  have hB1 : B ≤ w1.heap.size := by omega
  clear h hw1 hb1 hl1 hk1 hp1
  go_enter Try.func21, Try.ntmps21
  go_wp2_with fail
  rw [← HW1.out]
  generalize w.heap.size = pb at HK hs1 hB ⊢
  clear HW1
  generalize ps j = p at HK HP ⊢
  refine (Members_any w1 p.x v).mono ?_
  rintro _ w' ⟨rfl, hw⟩
  replace hw := hw.symm
  subst hw
  have c1 := HK.out.c1
  have g0 := HP.out.gr.c0
  go_wp2_with fail
  refine (vertex_any w1 pb p.g p.G.N v c1 g0).mono ?_
  rintro _ w' ⟨rfl, hw⟩
  replace hw := hw.symm
  subst hw
  cases hv : vtx p.G.N v
  · clear hv
    have hnil := nil_eq
    go_wp2
    go_ret
    exact ⟨⟨_, rfl⟩, HG.out _ ⟨m, ps, ts, ys, iv, tv, lv, HL.out.mono (by omega)⟩ (Below.refl _ _)⟩
  · simp only [vtx, Bool.and_eq_true, decide_eq_true_eq] at hv
    obtain ⟨vn, rfl⟩ : ∃ y : Nat, v = y := ⟨v.toNat, by omega⟩
    have hvn : (vn : Int) < p.G.N := hv.2
    clear hv
    have n48 := HP.out.gi.n48
    have HI := hid HP.out.gi
    have ci : 0 < p.G.tours.length := by rw [HI.out.tl]; omega
    have L := HI.out.li 0 (by omega)
    obtain ⟨ka, ta, a1, a2, a3, a4, a5⟩ := L.ix_of (v := (vn : Int)) (by omega) hvn
    obtain ⟨lb, lcap, f, _, hLv⟩ := HP.out.gr.lvl ci
    have tlen := L.len n48 HI.out.rngE a4
    have HT := hid (Tour_any p.g p.tb p.tcap p.G.tours.length 0 lb lcap (Go.Proofs.Ytfgahilgjpjncaa.lv p.G 0) f vn ka ta w1 hLv a2 a1 a3 (by omega))
    have ht5 : (fromX ta (leastV ta vn, -1)).length ≤ 3000 := by rw [(fromX_rot' _ _).length]; omega
    clear L a1 a2 a3 a4 a5 hLv ci
    go_wp2_with fail
    refine HT.out.mono ?_
    rintro _ w2 ⟨v5, rfl, hI5, hb2⟩
    obtain ⟨xb, xo, xc, hx⟩ := hI5
    have hxv := hx.hv
    subst hxv
    generalize fromX ta (leastV ta vn, -1) = t5 at hx ht5 ⊢
    have HX := hid hx
    have x1 := hx.le
    have x2 := hx.mx
    unfold maxLen at x2
    have HB2 := hid hb2
    have hs2 := hb2.size
    clear hx hb2 HT c1 g0
    go_wp2_with fail
    go_loopw [9, 35] (fun a c wr => ∃ k q : Nat, k ≤ t5.length ∧ c = .int .i64 k ∧ q ≤ k ∧ Hid (∃ xs, wr.ownsRow w2.heap.size 3 1 a q xs) ∧ Hid (Below w2.heap.size w2 wr)) (fun _ c _ => t5.length - (intOf c).toNat)
    case atStart => exact ⟨0, 0, by omega, rfl, by omega, ⟨[], World.ownsRow_nil _ _ _ _⟩, Below.refl _ _⟩
    case round =>
      obtain ⟨k, q, hk, rfl, hq, hO, hB3⟩ := hrel
      have hB3s := hB3.out.size
      by_cases ck : k < t5.length
      · have ck' : (k : Int) < (t5.length : Int) := by omega
        have hI := HX.out.below hB3.out (Nat.le_refl _)
        have y0 := hI.c0 k ck
        have y1 := hI.c1 k ck
        clear hI
        obtain ⟨x, hx⟩ : ∃ x, x = t5[k]?.getD (0, 0) := ⟨_, rfl⟩
        rw [← hx] at y0 y1
        clear hx
        obtain ⟨xa, xe⟩ := x
        simp only at y0 y1
        have HBx : Hid (∀ o, Below w2.heap.size w2 (wr.alloc o)) := fun o => hB3.out.alloc hB3s o
        have HOx : Hid (∀ o, ∃ xs, (wr.alloc o).ownsRow w2.heap.size 3 1 u9 q xs) := fun o => by
          obtain ⟨xs, hxs⟩ := hO.out
          exact ⟨xs, hxs.alloc o⟩
        by_cases cx : xe < 0
        · obtain ⟨xs, hxs⟩ := hO.out
          have HXs := hid hxs
          have HM : Hid (q + 1 ≤ maxLen) := by show _ ≤ _; unfold maxLen; omega
          clear hxs
          go_wp2_with (at_builtin; refine wpList_append_own _ rfl (.tmp 42) (.tmp 45) 45 rfl w2.heap.size 3 i3 _ 1 8 Try.underlying45 q0 q1 q2 q3 rfl (by decide) _ q xs rfl ((HXs.out.alloc _).alloc _) ⟨wr.heap.size + 1, 0, none⟩ 1 1 [.int .i64 xa] rfl rfl (by rw [show wr.heap.size + 1 = (wr.alloc (.cells #[.int .i64 xa, .int .i64 xe] 74)).heap.size by simp]; exact one_cell _ _ _) (fun y hy => by simp at hy; subst hy; rfl) HM.out (by omega) (by simp; omega) ?_; intro v' w3 ho hg _)
          have R2 : Below w2.heap.size w2 w3 := ((HBx.out _).alloc (by simp; omega) _).grown hg (by simp; omega) (fun k hk => (HXs.out.lt k hk).1)
          exact ⟨⟨k + 1, q + 1, by omega, by go_num, by omega, ⟨_, ho⟩, R2⟩, by simp [intOf]; omega⟩
        · go_wp2
          exact ⟨⟨k + 1, q, by omega, by go_num, by omega, HOx.out _, HBx.out _⟩, by simp [intOf]; omega⟩
      · have ck' : ¬ (k : Int) < (t5.length : Int) := by omega
        obtain ⟨xs, hxs⟩ := hO.out
        obtain ⟨wp, wc, hwv⟩ : ∃ p c, u9 = .slice p q c := by
          rcases hxs.2 with ⟨z, z2⟩ | ⟨gb, cap, cur, z, _⟩
          · exact ⟨none, 0, by rw [z, z2]⟩
          · exact ⟨_, _, z⟩
        subst hwv
        clear hxs hO
        have HB13 : Hid (Below w1.heap.size w1 wr) := HB2.out.trans (hB3.out.mono hs2)
        obtain ⟨w6, hw6⟩ : ∃ w6 : World, w6 = wr := ⟨_, rfl⟩
        rw [← hw6] at HB13 hB3s ⊢
        clear hw6 hB3 wr
        have HL6 := hid (HL.out.below HB13.out)
        have hB6 : B ≤ w6.heap.size := by omega
        have HM6 := hid (mine_any w6 B W n m ps ts ys iv tv lv HL6.out hn hB6)
        generalize hok : ((0 : Int) == (q : Int)) = okv
        go_wp2_with fail
        go_loopw [12, 13] (fun a c wr => (∃ o : Bool, a = .bool o) ∧ c = .int .i64 0 ∧ wr = w6) (fun _ _ _ => 0)
        case atStart => exact ⟨⟨_, rfl⟩, rfl, rfl⟩
        case round =>
          obtain ⟨⟨o, rfl⟩, rfl, hw⟩ := hrel
          replace hw := hw.symm
          subst hw
          cases o
          all_goals
            go_wp2_with fail
            refine HM6.out.mono ?_
            rintro _ w7 ⟨rfl, hg7, hb7⟩
            have HG7 := hid hg7
            have HB7 := hid hb7
            clear hg7 hb7
            go_wp2
            go_ret
            exact ⟨⟨_, rfl⟩, HG.out _ HG7.out ((HB13.out.mono hB1).trans HB7.out)⟩

end Go.Proofs.Ytfgahilgjpjncaa
namespace Go.Proofs.Ytfgahilgjpjncaa
set_option linter.unusedVariables false
set_option linter.unusedSimpArgs false
open Go.RowKit

/-- An answer that is right; the law's world goes on. -/
def MadeR (B W n : Nat) (w : World) (e : Ending) (w' : World) : Prop := e = .returned (.bool true) ∧ Goes B W n w w'

theorem pair_cells (w : World) (x g j : Nat) (y : Value) (h : [ptr x, ptr g][j]? = some y) : (w.alloc (.cells #[ptr x, ptr g] 41)).cell? ((⟨w.heap.size, 0, none⟩ : Addr).add j) = some y := by
  rw [addr_add, Nat.zero_add, new_cell]
  simpa using h

/-- What the append of a pair and the store of the new slice leave. -/
theorem made_done {w w1 w2 w3 : World} {B W n m g tb tcap N : Nat} {ps : Nat → Pr} {ts : List ByteArray} {ys : List Value} {iv tv lv v' : Value} {F : Nat → Value} {o : Obj} (h : Law w B W n m ps ts ys iv tv lv) (hB : B ≤ w.heap.size) (h1 : 1 ≤ N) (h48 : N ≤ 48)
    (b1 : Below w.heap.size w w1) (hi : IdxAt w1 w.heap.size N (fun _ _ => false)) (hs1 : w1.heap.size = w.heap.size + 1) (b2 : Below w1.heap.size w1 w2) (hg1 : w1.heap.size ≤ g) (hg2 : w1.heap.size ≤ tb) (hG : GRep w2 g (newG N) (.slice none 0 0) tb tcap F 0)
    (ho : w3.ownsRow B 41 2 v' (m + 1) (pcells ps m ++ [ptr w.heap.size, ptr g])) (hg : (w2.alloc o).grownBy w3 iv.ownBlock) :
    LawX (w3.setCell ⟨W, 0, none⟩ v') B W (n + 1) ∧ Below B w (w3.setCell ⟨W, 0, none⟩ v') := by
  have b12 : Below w.heap.size w w2 := b1.trans (b2.mono (by omega))
  have h2 := h.below b12
  have bt := butG ((Below.refl _ _).alloc (Nat.le_refl _) o) hg
  have hp : (⟨w.heap.size, g, tb, tcap, .slice none 0 0, F, 0, newG N, fun _ _ => false⟩ : Pr).At w2 := by
    refine ⟨?_, hG, (newG_ok h1 h48).1, (newG_ok h1 h48).2, Adj.new N⟩
    exact hi.but (S := fun _ => False) (But.of b2) (fun q => q)
  have hnew : ∀ k, (⟨w.heap.size, g, tb, tcap, .slice none 0 0, F, 0, newG N, fun _ _ => false⟩ : Pr).own k → w.heap.size ≤ k := by
    intro k hk
    rcases hk with q | q | q | q
    · simp only at q; omega
    · simp only at q; omega
    · simp only at q; omega
    · simp [Value.ownBlock] at q
  have r := h2.pair h hp hnew hB bt ho
  refine ⟨⟨_, _, _, _, _, _, _, r⟩, ?_⟩
  have f := h2.fin bt (fun k hk => (h2.iO.lt k hk).1) (Nat.le_trans hB b12.size) 0 v'
  exact (b12.mono hB).trans f

set_option maxRecDepth 100000 in
set_option maxHeartbeats 1000000 in
theorem made_any (w : World) (B W n m : Nat) (ps : Nat → Pr) (ts : List ByteArray) (ys : List Value) (iv tv lv : Value) (x s : Int) (h : Law w B W n m ps ts ys iv tv lv) (hn : n ≤ 2 ^ 22) (hB : B ≤ w.heap.size) :
    Calls Try.prog 15 #[ptr W, .int .i64 x, .int .i64 s] w (MadeR B W (n + 1) w) := by
  obtain ⟨i41, q0, q1, q2, q3⟩ := info_parts Try.info41
  have HL := hid h
  have hil := h.il
  have HM : Hid (m + 1 ≤ maxLen) := by show _ ≤ _; unfold maxLen; omega
  clear h
  by_cases hx : x < 1 ∨ 48 < x
  · have HX := hid hx
    have hx' : (x < 1) ∨ (¬ x < 1 ∧ 48 < x) := by omega
    clear hx
    rcases hx' with c1 | ⟨c1, c2⟩
    all_goals
      go_enter Try.func15, Try.ntmps15
      go_wp2_with fail
      refine (New_bad x s w HX.out).mono ?_
      rintro _ w' ⟨rfl, hw⟩
      replace hw := hw.symm
      subst hw
      go_wp2
      go_ret
      exact ⟨rfl, ⟨m, ps, ts, ys, iv, tv, lv, HL.out.mono (by omega)⟩, Below.refl _ _⟩
  · obtain ⟨N, rfl⟩ : ∃ N : Nat, x = N := ⟨x.toNat, by omega⟩
    have c1 : ¬ (N : Int) < 1 := by omega
    have c2 : ¬ (48 : Int) < (N : Int) := by omega
    have n1 : 1 ≤ N := by omega
    have n48 : N ≤ 48 := by omega
    clear hx
    go_enter Try.func15, Try.ntmps15
    go_wp2_with fail
    refine (New_ok N s w n1 n48).mono ?_
    rintro _ w1 ⟨rfl, hi, hs1, hb1⟩
    have HI := hid hi
    have HS1 := hid hs1
    have HB1 := hid hb1
    have HL1 := hid (HL.out.below hb1)
    have hB1 : B ≤ w1.heap.size := by omega
    have d0 := HL1.out.c0
    clear hi hs1 hb1
    obtain ⟨xb, hxb⟩ : ∃ xb, xb = w.heap.size := ⟨_, rfl⟩
    have HXb := hid hxb
    rw [← hxb] at HI ⊢
    clear hxb
    have HD : Hid (∀ w2 v3 w3 g tb tcap F o, Below w1.heap.size w1 w2 → w1.heap.size ≤ g → w1.heap.size ≤ tb → GRep w2 g (newG N) (.slice none 0 0) tb tcap F 0 → w3.ownsRow B 41 2 v3 (m + 1) (pcells ps m ++ [ptr xb, ptr g]) → (w2.alloc o).grownBy w3 iv.ownBlock → LawX (w3.setCell ⟨W, 0, none⟩ v3) B W (n + 1) ∧ Below B w (w3.setCell ⟨W, 0, none⟩ v3)) := by
      intro w2 v3 w3 g tb tcap F o b2 hg1 hg2 hG ho hg
      rw [HXb.out] at ho
      have hi := HI.out
      rw [HXb.out] at hi
      exact made_done HL.out hB n1 n48 HB1.out hi HS1.out b2 hg1 hg2 hG ho hg
    clear HXb HS1
    go_wp2_with fail
    go_region_law (first
      | (refine step_call_mine rfl 27 #[.int .i64 N] (by go_simp) (New_any _ N n1 n48) ?_; rintro _ w2 ⟨g, tb, tcap, F, rfl, hg1, hg2, hG, hb2⟩; refine ⟨ptr g, rfl, ?_⟩; have HB2 := hid (below_drew hb2); have HG2 := hid hG; have HG3 : Hid (w1.heap.size ≤ g ∧ w1.heap.size ≤ tb) := ⟨hg1, hg2⟩; have e0 := (HL1.out.below HB2.out).c0; have HL2 := hid (HL1.out.below HB2.out); have hs2 : B ≤ w2.heap.size := Nat.le_trans hB1 HB2.out.size; have E0 := fun o => ((HL2.out.below ((Below.refl _ _).alloc (Nat.le_refl _) o)).c0); clear hb2 hG hg1 hg2)
      | (refine step_append_mine rfl (.tmp 40) (.tmp 45) 28 rfl B 41 i41 _ 2 16 Try.underlying28 q0 q1 q2 q3 rfl (by decide) iv m (pcells ps m) (by simp [Act.eval, Act.put]) (HL2.out.iO.alloc _) ⟨w2.heap.size, 0, none⟩ 1 1 [ptr xb, ptr g] (by simp [Act.eval, Act.put]) rfl (pair_cells w2 xb g) (fun y hy => by simp at hy; rcases hy with rfl | rfl <;> rfl) HM.out (by omega) (by simp; omega) ?_; intro v' w3 ho hg; have HO := hid ho; have HR := hid (HD.out w2 v' w3 g tb tcap F _ HB2.out HG3.out.1 HG3.out.2 HG2.out ho hg); have r3 := HL2.out.rowG (butG ((Below.refl _ _).alloc (Nat.le_refl _) _) hg) (fun k hk => owns_ty HL2.out.iO hk) (by decide); have c0 := r3.cell (i := 0) (by omega); have fz := r3.frozen; clear ho hg r3; obtain ⟨p2, n2, cc2, hv2⟩ := owns_form HO.out; subst hv2))
    all_goals
      go_wp2
      go_ret
      exact ⟨rfl, HR.out⟩

end Go.Proofs.Ytfgahilgjpjncaa
