import Derived.Test.YtfgahilgjpjncabGone
namespace Go.Proofs.Ytfgahilgjpjncab
open Go.RowKit

/-- The five stores of a move that lets an edge come. -/
def five (w : World) (g : Gh) (W u v : Nat) (c : Int) : World :=
  (((((w.setCell ⟨g.er u, v, none⟩ (.bool true)).setCell ⟨g.er v, u, none⟩ (.bool true)).setCell ⟨g.lr u, v, none⟩ (.int .i64 0)).setCell ⟨g.lr v, u, none⟩ (.int .i64 0)).setCell ⟨W, 5, none⟩ (.int .i64 (wrap64 (c + 1))))

theorem five_keep {w : World} {g : Gh} {W B n : Nat} {E : Nat → Nat → Bool} (ap : Apart g W B n) {u v : Nat} (hu : u < n) (hv : v < n) (c : Int) (h : Inv w g W n E) :
    Core (five w g W u v c) g W n (upd E u v true) ∧ IdxAt (five w g W u v c) g.a n E ∧ IdxAt (five w g W u v c) g.b n E ∧ Below B w (five w g W u v c) := by
  unfold five
  have C := (((h.core.edges ap hu hv true).level (v := v) ap hu 0).level (v := u) ap hv 0).came ap (wrap64 (c + 1))
  obtain ⟨A2, B2, L2⟩ := edges_keep (w := w) ap hu hv (.bool true)
  have A2 := A2 n E h.ia
  have B2 := B2 n E h.ib
  generalize (w.setCell ⟨g.er u, v, none⟩ (.bool true)).setCell ⟨g.er v, u, none⟩ (.bool true) = z at *
  have o1 := Only.setCell z ⟨g.lr u, v, none⟩ (.int .i64 0)
  generalize z.setCell ⟨g.lr u, v, none⟩ (.int .i64 0) = z1 at *
  have o2 := Only.setCell z1 ⟨g.lr v, u, none⟩ (.int .i64 0)
  generalize z1.setCell ⟨g.lr v, u, none⟩ (.int .i64 0) = z2 at *
  have o3 := Only.setCell z2 ⟨W, 5, none⟩ (.int .i64 (wrap64 (c + 1)))
  have n48 := ap.n48
  refine ⟨C, ?_, ?_, ((L2.trans (o1.below (ap.blr u hu))).trans (o2.below (ap.blr v hv))).trans (o3.below ap.bW)⟩
  · exact ((A2.only o1 (ne_of_tag g.T (by show g.T g.a ≠ g.T (g.lr u); rw [ap.ta, ap.tlr u hu]; omega))).only o2 (ne_of_tag g.T (by show g.T g.a ≠ g.T (g.lr v); rw [ap.ta, ap.tlr v hv]; omega))).only o3 (ne_of_tag g.T (by show g.T g.a ≠ g.T W; rw [ap.ta, ap.tW]; omega))
  · exact ((B2.only o1 (ne_of_tag g.T (by show g.T g.b ≠ g.T (g.lr u); rw [ap.tb, ap.tlr u hu]; omega))).only o2 (ne_of_tag g.T (by show g.T g.b ≠ g.T (g.lr v); rw [ap.tb, ap.tlr v hv]; omega))).only o3 (ne_of_tag g.T (by show g.T g.b ≠ g.T W; rw [ap.tb, ap.tW]; omega))

set_option maxRecDepth 100000 in
set_option maxHeartbeats 1000000 in
/-- A move of an edge that is not there. -/
theorem moved_come (W B : Nat) (g : Gh) (n u v : Nat) (E : Nat → Nat → Bool) (x y : Int) (w : World) (h : Inv w g W n E) (ap : Apart g W B n)
    (hx0 : 0 ≤ x) (hx1 : x ≤ 255) (hy0 : 0 ≤ y) (hy1 : y ≤ 255) (hxu : pk x n = u) (hyu : pk y n = v) (hu : u < n) (hv : v < n) (huv : u ≠ v) (ht : E u v = false) :
    Calls Try.prog 11 #[ptr W, .int .i64 x, .int .i64 y] w fun e w' => e = .returned (.bool true) ∧ Inv w' g W n (upd E u v true) ∧ Below B w w' := by
  have hn := ap.n48
  have hne : ((u : Int) == (v : Int)) = false := by simp; omega
  have w0 := h.core.w0
  have w1 := h.core.w1
  have w2 := h.core.w2
  have w3 := h.core.w3
  have w4 := h.core.w4
  obtain ⟨c, w5⟩ := h.core.w5
  have ru := h.core.re u hu
  have rv := h.core.re v hv
  have lu := h.core.rl u hu
  have lv := h.core.rl v hv
  have c1 := h.core.ce u v hu hv
  have c2 := h.core.ce v u hv hu
  obtain ⟨l1, c3⟩ := h.core.cl u v hu hv
  obtain ⟨l2, c4⟩ := h.core.cl v u hv hu
  rw [ht] at c1
  rw [← h.sym u v, ht] at c2
  have fu := h.core.fe u hu
  have fv := h.core.fe v hv
  have gu := h.core.fl u hu
  have gv := h.core.fl v hv
  have fW := h.core.fW
  have k1 := far (ne_of_tag g.T (x := g.er u) (y := W) (by rw [ap.tW, ap.ter u hu]; omega))
  have k2 := far (ne_of_tag g.T (x := g.er v) (y := W) (by rw [ap.tW, ap.ter v hv]; omega))
  have k3 := far (ne_of_tag g.T (x := g.er u) (y := g.eb) (by rw [ap.te, ap.ter u hu]; omega))
  have k4 := far (ne_of_tag g.T (x := g.er u) (y := g.er v) (by rw [ap.ter v hv, ap.ter u hu]; omega))
  have k5 := far (ne_of_tag g.T (x := g.er u) (y := g.lb) (by rw [ap.tl, ap.ter u hu]; omega))
  have k6 := far (ne_of_tag g.T (x := g.er v) (y := g.lb) (by rw [ap.tl, ap.ter v hv]; omega))
  have k7 := far (ne_of_tag g.T (x := g.er u) (y := g.lr u) (by rw [ap.tlr u hu, ap.ter u hu]; omega))
  have k8 := far (ne_of_tag g.T (x := g.er v) (y := g.lr u) (by rw [ap.tlr u hu, ap.ter v hv]; omega))
  have k9 := far (ne_of_tag g.T (x := g.er u) (y := g.lr v) (by rw [ap.tlr v hv, ap.ter u hu]; omega))
  have k10 := far (ne_of_tag g.T (x := g.er v) (y := g.lr v) (by rw [ap.tlr v hv, ap.ter v hv]; omega))
  have k11 := far (ne_of_tag g.T (x := g.lr u) (y := W) (by rw [ap.tW, ap.tlr u hu]; omega))
  have k12 := far (ne_of_tag g.T (x := g.lr v) (y := W) (by rw [ap.tW, ap.tlr v hv]; omega))
  have k13 := far (ne_of_tag g.T (x := g.lr u) (y := g.lb) (by rw [ap.tl, ap.tlr u hu]; omega))
  have k14 := far (ne_of_tag g.T (x := g.lr u) (y := g.lr v) (by rw [ap.tlr v hv, ap.tlr u hu]; omega))
  have Hx : Hid (pk x n = u) := hxu
  have Hy : Hid (pk y n = v) := hyu
  have HI : Hid (Inv w g W n E) := h
  have HT : Hid (E u v = false) := ht
  clear hxu hyu h ht
  go_enter Try.func11, Try.ntmps11
  go_wp2_with fail
  refine (pick_any x n _ (by omega) (by omega) (by omega)).mono ?_
  rintro e w ⟨rfl, rfl⟩
  rw [Hx.out]
  go_wp2_with fail
  refine (pick_any y n _ (by omega) (by omega) (by omega)).mono ?_
  rintro e w ⟨rfl, rfl⟩
  rw [Hy.out]
  go_wp2_with fail
  clear w0 w1 w2 w3 w4 w5 ru rv lu lv c1 c2 c3 c4 fu fv gu gv fW k1 k2 k3 k4 k5 k6 k7 k8 k9 k10 k11 k12 k13 k14
  obtain ⟨C2, A2, B2, L2⟩ := five_keep ap hu hv c HI.out
  rw [five] at C2 A2 B2 L2
  generalize (((((w.setCell ⟨g.er u, v, none⟩ (.bool true)).setCell ⟨g.er v, u, none⟩ (.bool true)).setCell ⟨g.lr u, v, none⟩ (.int .i64 0)).setCell ⟨g.lr v, u, none⟩ (.int .i64 0)).setCell ⟨W, 5, none⟩ (.int .i64 (wrap64 (c + 1)))) = z at C2 A2 B2 L2 ⊢
  refine (Delete_none g.b n E u v z B2 (by omega) (by omega) huv HT.out).mono ?_
  rintro e z ⟨rfl, rfl⟩
  have w1 := C2.w1
  have w2 := C2.w2
  have HC : Hid (Core z g W n (upd E u v true)) := C2
  clear C2
  go_wp2_with fail
  clear w1 w2
  refine (Insert_new g.a n E u v z A2 (by omega) (by omega) huv HT.out).mono ?_
  rintro e z1 ⟨rfl, A3, o3⟩
  have C3 := HC.out.onlyA ap o3
  have B3 := B2.only o3 (ne_ab ap).symm
  have L3 := L2.trans (o3.below ap.ba)
  clear HC A2 B2 L2 o3
  have w1 := C3.w1
  have w2 := C3.w2
  have HC : Hid (Core z1 g W n (upd E u v true)) := C3
  clear C3
  go_wp2_with fail
  clear w1 w2
  refine (Insert_new g.b n E u v z1 B3 (by omega) (by omega) huv HT.out).mono ?_
  rintro e z2 ⟨rfl, B4, o4⟩
  have C4 := HC.out.onlyB ap o4
  have A4 := A3.only o4 (ne_ab ap)
  have L4 := L3.trans (o4.below ap.bb)
  clear HC A3 B3 L3 o4
  have w1 := C4.w1
  have w2 := C4.w2
  have HC : Hid (Core z2 g W n (upd E u v true)) := C4
  clear C4
  go_wp2_with fail
  clear w1 w2
  refine (Insert_there g.a n (upd E u v true) u v z2 A4 (by omega) (by omega) huv (upd_at E u v true)).mono ?_
  rintro e z2 ⟨rfl, rfl⟩
  go_wp2_with fail
  go_ret
  exact ⟨rfl, ⟨HC.out, A4, B4, upd_sym HI.out.sym u v true⟩, L4⟩

end Go.Proofs.Ytfgahilgjpjncab
