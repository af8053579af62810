import Derived.Test.YtfgahilgjpjncabMoved
namespace Go.Proofs.Ytfgahilgjpjncab
open Go.RowKit

/-- Both cells of an edge are written: what the two indexes hold stays; below B nothing turns. -/
theorem edges_keep {w : World} {g : Gh} {W B n : Nat} (ap : Apart g W B n) {u v : Nat} (hu : u < n) (hv : v < n) (t : Value) :
    (∀ (m : Int) (F : Nat → Nat → Bool), IdxAt w g.a m F → IdxAt ((w.setCell ⟨g.er u, v, none⟩ t).setCell ⟨g.er v, u, none⟩ t) g.a m F) ∧
    (∀ (m : Int) (F : Nat → Nat → Bool), IdxAt w g.b m F → IdxAt ((w.setCell ⟨g.er u, v, none⟩ t).setCell ⟨g.er v, u, none⟩ t) g.b m F) ∧
    Below B w ((w.setCell ⟨g.er u, v, none⟩ t).setCell ⟨g.er v, u, none⟩ t) := by
  have o1 := Only.setCell w ⟨g.er u, v, none⟩ t
  have o2 := Only.setCell (w.setCell ⟨g.er u, v, none⟩ t) ⟨g.er v, u, none⟩ t
  refine ⟨fun m F h => ?_, fun m F h => ?_, (o1.below (ap.ber u hu)).trans (o2.below (ap.ber v hv))⟩
  · exact (h.only o1 (ne_of_tag g.T (by show g.T g.a ≠ g.T (g.er u); rw [ap.ta, ap.ter u hu]; omega))).only o2 (ne_of_tag g.T (by show g.T g.a ≠ g.T (g.er v); rw [ap.ta, ap.ter v hv]; omega))
  · exact (h.only o1 (ne_of_tag g.T (by show g.T g.b ≠ g.T (g.er u); rw [ap.tb, ap.ter u hu]; omega))).only o2 (ne_of_tag g.T (by show g.T g.b ≠ g.T (g.er v); rw [ap.tb, ap.ter v hv]; omega))

theorem ne_ab {g : Gh} {W B n : Nat} (ap : Apart g W B n) : g.a ≠ g.b := ne_of_tag g.T (by rw [ap.ta, ap.tb]; omega)

set_option maxRecDepth 100000 in
set_option maxHeartbeats 1000000 in
/-- A move of an edge that is there. -/
theorem moved_gone (W B : Nat) (g : Gh) (n u v : Nat) (E : Nat → Nat → Bool) (x y : Int) (w : World) (h : Inv w g W n E) (ap : Apart g W B n)
    (hx0 : 0 ≤ x) (hx1 : x ≤ 255) (hy0 : 0 ≤ y) (hy1 : y ≤ 255) (hxu : pk x n = u) (hyu : pk y n = v) (hu : u < n) (hv : v < n) (huv : u ≠ v) (ht : E u v = true) :
    Calls Try.prog 11 #[ptr W, .int .i64 x, .int .i64 y] w fun e w' => e = .returned (.bool true) ∧ Inv w' g W n (upd E u v false) ∧ Below B w w' := by
  have hn := ap.n48
  have hne : ((u : Int) == (v : Int)) = false := by simp; omega
  have w0 := h.core.w0
  have w1 := h.core.w1
  have w2 := h.core.w2
  have w3 := h.core.w3
  have ru := h.core.re u hu
  have rv := h.core.re v hv
  have c1 := h.core.ce u v hu hv
  have c2 := h.core.ce v u hv hu
  rw [ht] at c1
  rw [← h.sym u v, ht] at c2
  have fu := h.core.fe u hu
  have fv := h.core.fe v hv
  have k1 := far (ne_of_tag g.T (x := g.er u) (y := W) (by rw [ap.tW, ap.ter u hu]; omega))
  have k2 := far (ne_of_tag g.T (x := g.er v) (y := W) (by rw [ap.tW, ap.ter v hv]; omega))
  have k3 := far (ne_of_tag g.T (x := g.er u) (y := g.eb) (by rw [ap.te, ap.ter u hu]; omega))
  have k4 := far (ne_of_tag g.T (x := g.er u) (y := g.er v) (by rw [ap.ter v hv, ap.ter u hu]; omega))
  have Hx : Hid (pk x n = u) := hxu
  have Hy : Hid (pk y n = v) := hyu
  have HI : Hid (Inv w g W n E) := h
  have HT : Hid (E u v = true) := ht
  clear hxu hyu h ht
  go_enter Try.func11, Try.ntmps11
  go_wp2_with fail
  refine (pick_any x n _ (by omega) (by omega) (by omega)).mono ?_
  rintro e w ⟨rfl, rfl⟩
  rw [Hx.out]
  go_wp2_with fail
  refine (pick_any y n _ (by omega) (by omega) (by omega)).mono ?_
  rintro e w ⟨rfl, rfl⟩
  rw [Hy.out]
  go_wp2_with fail
  clear w0 w1 w2 w3 ru rv c1 c2 fu fv k1 k2 k3 k4
  have C2 := HI.out.core.edges ap hu hv false
  obtain ⟨A2, B2, L2⟩ := edges_keep (w := w) ap hu hv (.bool false)
  have A2 := A2 n E HI.out.ia
  have B2 := B2 n E HI.out.ib
  generalize (w.setCell ⟨g.er u, v, none⟩ (.bool false)).setCell ⟨g.er v, u, none⟩ (.bool false) = z at C2 A2 B2 L2 ⊢
  have hvu : E v u = true := by rw [HI.out.sym v u]; exact HT.out
  refine (Insert_there g.a n E v u z A2 (by omega) (by omega) (Ne.symm huv) hvu).mono ?_
  rintro e z ⟨rfl, rfl⟩
  have w1 := C2.w1
  have w2 := C2.w2
  have HC : Hid (Core z g W n (upd E u v false)) := C2
  clear C2
  go_wp2_with fail
  clear w1 w2
  refine (Delete_old g.a n E u v z A2 (by omega) (by omega) huv HT.out).mono ?_
  rintro e z1 ⟨rfl, A3, o3⟩
  have C3 := HC.out.onlyA ap o3
  have B3 := B2.only o3 (ne_ab ap).symm
  have L3 := L2.trans (o3.below ap.ba)
  clear HC A2 B2 L2 o3
  have w1 := C3.w1
  have w2 := C3.w2
  have HC : Hid (Core z1 g W n (upd E u v false)) := C3
  clear C3
  go_wp2_with fail
  clear w1 w2
  refine (Delete_old g.b n E v u z1 B3 (by omega) (by omega) (Ne.symm huv) hvu).mono ?_
  rintro e z2 ⟨rfl, B4, o4⟩
  have C4 := HC.out.onlyB ap o4
  have A4 := A3.only o4 (ne_ab ap)
  have L4 := L3.trans (o4.below ap.bb)
  clear HC A3 B3 L3 o4
  have w1 := C4.w1
  have w2 := C4.w2
  have HC : Hid (Core z2 g W n (upd E u v false)) := C4
  clear C4
  go_wp2_with fail
  clear w1 w2
  refine (Delete_none g.a n (upd E u v false) u v z2 A4 (by omega) (by omega) huv (upd_at E u v false)).mono ?_
  rintro e z2 ⟨rfl, rfl⟩
  go_wp2_with fail
  go_ret
  exact ⟨rfl, ⟨HC.out, A4, idx_congr B4 (upd_flip E u v false), upd_sym HI.out.sym u v false⟩, L4⟩

end Go.Proofs.Ytfgahilgjpjncab
