import Derived.Test.YtfgahilgjpjncabNil
namespace Go.Proofs.Ytfgahilgjpjncab
set_option linter.unusedVariables false
set_option linter.unusedSimpArgs false
open Go.RowKit

set_option maxRecDepth 100000 in
set_option maxHeartbeats 1000000 in
theorem nil_come (W B : Nat) (g : Gh) (n u v : Nat) (E : Nat → Nat → Bool) (x y : Int) (w : World) (h : Kn w g W n E) (ap : Apart g W B n)
    (hx0 : 0 ≤ x) (hx1 : x ≤ 255) (hy0 : 0 ≤ y) (hy1 : y ≤ 255) (hxu : pk x n = u) (hyu : pk y n = v) (hu : u < n) (hv : v < n) (huv : u ≠ v) (ht : E u v = false) :
    Calls Try.prog 11 #[ptr W, .int .i64 x, .int .i64 y] w (NilR g W B n E w) := by
  have hn := ap.n48
  have hne : ((u : Int) == (v : Int)) = false := by simp; omega
  have w0 := h.w0
  have w1 := h.w1
  have w2 := h.w2
  have w3 := h.w3
  have w4 := h.w4
  obtain ⟨c, w5⟩ := h.w5
  have ru := h.re u hu
  have rv := h.re v hv
  have lu := h.rl u hu
  have lv := h.rl v hv
  have c1 := h.ce u v hu hv
  have c2 := h.ce v u hv hu
  obtain ⟨l1, c3⟩ := h.cl u v hu hv
  obtain ⟨l2, c4⟩ := h.cl v u hv hu
  rw [ht] at c1
  rw [← h.sym u v, ht] at c2
  have fu := h.fe u hu
  have fv := h.fe v hv
  have gu := h.fl u hu
  have gv := h.fl v hv
  have fW := h.fW
  have k1 := far (ne_of_tag g.T (x := g.er u) (y := W) (by rw [ap.tW, ap.ter u hu]; omega))
  have k2 := far (ne_of_tag g.T (x := g.er v) (y := W) (by rw [ap.tW, ap.ter v hv]; omega))
  have k3 := far (ne_of_tag g.T (x := g.er u) (y := g.eb) (by rw [ap.te, ap.ter u hu]; omega))
  have k4 := far (ne_of_tag g.T (x := g.er u) (y := g.er v) (by rw [ap.ter v hv, ap.ter u hu]; omega))
  have k5 := far (ne_of_tag g.T (x := g.er u) (y := g.lb) (by rw [ap.tl, ap.ter u hu]; omega))
  have k6 := far (ne_of_tag g.T (x := g.er v) (y := g.lb) (by rw [ap.tl, ap.ter v hv]; omega))
  have k7 := far (ne_of_tag g.T (x := g.er u) (y := g.lr u) (by rw [ap.tlr u hu, ap.ter u hu]; omega))
  have k8 := far (ne_of_tag g.T (x := g.er v) (y := g.lr u) (by rw [ap.tlr u hu, ap.ter v hv]; omega))
  have k9 := far (ne_of_tag g.T (x := g.er u) (y := g.lr v) (by rw [ap.tlr v hv, ap.ter u hu]; omega))
  have k10 := far (ne_of_tag g.T (x := g.er v) (y := g.lr v) (by rw [ap.tlr v hv, ap.ter v hv]; omega))
  have k11 := far (ne_of_tag g.T (x := g.lr u) (y := W) (by rw [ap.tW, ap.tlr u hu]; omega))
  have k12 := far (ne_of_tag g.T (x := g.lr v) (y := W) (by rw [ap.tW, ap.tlr v hv]; omega))
  have k13 := far (ne_of_tag g.T (x := g.lr u) (y := g.lb) (by rw [ap.tl, ap.tlr u hu]; omega))
  have k14 := far (ne_of_tag g.T (x := g.lr u) (y := g.lr v) (by rw [ap.tlr v hv, ap.tlr u hu]; omega))
  have Hx : Hid (pk x n = u) := hxu
  have Hy : Hid (pk y n = v) := hyu
  have HZ : Hid (∀ t i, i ≠ 5 → (((((w.setCell ⟨g.er u, v, none⟩ (.bool true)).setCell ⟨g.er v, u, none⟩ (.bool true)).setCell ⟨g.lr u, v, none⟩ (.int .i64 0)).setCell ⟨g.lr v, u, none⟩ (.int .i64 0)).setCell ⟨W, 5, none⟩ (.int .i64 t)).cell? ⟨W, i, none⟩ = w.cell? ⟨W, i, none⟩) := fun t i hi => by
    rw [World.cell?_setCell_other (h := fun e => hi (congrArg Addr.off e).symm), k12, k11, k2, k1]
  have HI : Hid (Kn w g W n E) := h
  clear hxu hyu h ht
  go_enter Try.func11, Try.ntmps11
  go_wp2_with fail
  refine (pick_any x n _ (by omega) (by omega) (by omega)).mono ?_
  rintro e w' ⟨rfl, hw⟩
  replace hw := hw.symm
  subst hw
  rw [Hx.out]
  go_wp2_with fail
  refine (pick_any y n _ (by omega) (by omega) (by omega)).mono ?_
  rintro e w' ⟨rfl, hw⟩
  replace hw := hw.symm
  subst hw
  rw [Hy.out]
  go_wp2_with fail
  clear w0 w1 w2 w3 w4 w5 ru rv lu lv c1 c2 c3 c4 fu fv gu gv fW k1 k2 k3 k4 k5 k6 k7 k8 k9 k10 k11 k12 k13 k14
  have HV : Hid ((((((w.setCell ⟨g.er u, v, none⟩ (.bool true)).setCell ⟨g.er v, u, none⟩ (.bool true)).setCell ⟨g.lr u, v, none⟩ (.int .i64 0)).setCell ⟨g.lr v, u, none⟩ (.int .i64 0)).setCell ⟨W, 5, none⟩ (.int .i64 (wrap64 (c + 1)))).cell? ⟨W, 1, none⟩ = some (ptr g.a) ∧ (((((w.setCell ⟨g.er u, v, none⟩ (.bool true)).setCell ⟨g.er v, u, none⟩ (.bool true)).setCell ⟨g.lr u, v, none⟩ (.int .i64 0)).setCell ⟨g.lr v, u, none⟩ (.int .i64 0)).setCell ⟨W, 5, none⟩ (.int .i64 (wrap64 (c + 1)))).cell? ⟨W, 2, none⟩ = some (.pointer none)) := ⟨by rw [HZ.out _ 1 (by omega)]; exact HI.out.w1, by rw [HZ.out _ 2 (by omega)]; exact HI.out.w2⟩
  have L2 : Hid (Below B w (((((w.setCell ⟨g.er u, v, none⟩ (.bool true)).setCell ⟨g.er v, u, none⟩ (.bool true)).setCell ⟨g.lr u, v, none⟩ (.int .i64 0)).setCell ⟨g.lr v, u, none⟩ (.int .i64 0)).setCell ⟨W, 5, none⟩ (.int .i64 (wrap64 (c + 1))))) := (((((Below.refl _ _).setCell (ap.ber u hu) _).setCell (ap.ber v hv) _).setCell (ap.blr u hu) _).setCell (ap.blr v hv) _).setCell ap.bW _
  generalize (((((w.setCell ⟨g.er u, v, none⟩ (.bool true)).setCell ⟨g.er v, u, none⟩ (.bool true)).setCell ⟨g.lr u, v, none⟩ (.int .i64 0)).setCell ⟨g.lr v, u, none⟩ (.int .i64 0)).setCell ⟨W, 5, none⟩ (.int .i64 (wrap64 (c + 1)))) = z at HV L2 ⊢
  refine (Delete_nil u v z).mono ?_
  rintro e z' ⟨rfl, hw⟩
  replace hw := hw.symm
  subst hw
  go_wp2
  go_ret
  exact ⟨false, rfl, fun q => by simp at q, HV.out, L2.out⟩

theorem nil_any (W B : Nat) (g : Gh) (n : Nat) (E : Nat → Nat → Bool) (x y : Int) (w : World) (h : Kn w g W n E) (ap : Apart g W B n)
    (hx0 : 0 ≤ x) (hx1 : x ≤ 255) (hy0 : 0 ≤ y) (hy1 : y ≤ 255) : Calls Try.prog 11 #[ptr W, .int .i64 x, .int .i64 y] w (NilR g W B n E w) := by
  have n1 := ap.n1
  obtain ⟨a0, a1⟩ := pk_range x n (by omega)
  obtain ⟨b0, b1⟩ := pk_range y n (by omega)
  obtain ⟨u, hu⟩ := Int.eq_ofNat_of_zero_le a0
  obtain ⟨v, hv⟩ := Int.eq_ofNat_of_zero_le b0
  by_cases huv : u = v
  · subst huv
    exact nil_loop W B g n u E x y w h hx0 hx1 hy0 hy1 hu hv (by omega) ap.n48
  · cases ht : E u v
    · exact nil_come W B g n u v E x y w h ap hx0 hx1 hy0 hy1 hu hv (by omega) (by omega) huv ht
    · exact nil_gone W B g n u v E x y w h ap hx0 hx1 hy0 hy1 hu hv (by omega) (by omega) huv ht

/-- The law's own pointers, the second nil. -/
def NilM (g : Gh) (W B : Nat) (w : World) (e : Ending) (w' : World) : Prop := ∃ b : Bool, e = .returned (.bool b) ∧ (w'.cell? ⟨W, 1, none⟩ = some (ptr g.a) ∧ w'.cell? ⟨W, 2, none⟩ = some (.pointer none)) ∧ Below B w w'

set_option maxRecDepth 100000 in
set_option maxHeartbeats 1000000 in
theorem many_nil (W B : Nat) (g : Gh) (n : Nat) (E : Nat → Nat → Bool) (s : ByteArray) (w : World) (h : Kn w g W n E) (ap : Apart g W B n) (hs : s.size ≤ 1048576) :
    Calls Try.prog 6 #[ptr W, .string s] w (NilM g W B w) := by
  have HI : Hid (Kn w g W n E) := h
  clear h
  go_enter Try.func6, Try.ntmps6
  go_wp2
  go_loopw [5] (fun i wr => ∃ k : Nat, k ≤ s.size + 1 ∧ i = .int .i64 k ∧ Hid (Kn wr g W n E) ∧ Hid (Below B w wr)) (fun i _ => s.size + 2 - (intOf i).toNat)
  case atStart => exact ⟨0, by omega, rfl, HI, Below.refl _ _⟩
  case round =>
    obtain ⟨k, hk, rfl, hE, hL⟩ := hrel
    clear HI
    by_cases hlt : k + 1 < s.size
    · have hlt' : k < s.size := by omega
      go_wp2_with fail
      have hlt2 : (k : Int) + 1 < (s.size : Int) := by omega
      have hlt3 : ((k : Int) + 1).toNat = k + 1 := by omega
      have hlt4 : 0 ≤ (k : Int) + 1 := by omega
      have hlt5 : IntKind.i64.wrap ((k : Int) + 1) = (k : Int) + 1 := by rw [IntKind.wrap_i64]; omega
      go_region_with (go_at_call 11; refine (nil_any W B g n E _ _ _ hE.out.drew ap (byte_range _).1 (byte_range _).2 (byte_range _).1 (byte_range _).2).mono ?_; rintro e w1 ⟨b, rfl, hb, hc, hL2⟩)
      all_goals
        have HL2 : Hid (Below B w w1) := (hL.out.drew).trans hL2
        have HC : Hid (w1.cell? ⟨W, 1, none⟩ = some (ptr g.a) ∧ w1.cell? ⟨W, 2, none⟩ = some (.pointer none)) := hc
        clear hL2 hc hL
        cases b
        · clear hb
          go_wp2
          go_ret
          exact ⟨false, rfl, HC.out, HL2.out⟩
        · have HE2 : Hid (Kn w1 g W n E) := hb rfl
          clear hb
          first
            | exact ⟨⟨k + 2, by omega, by go_num, HE2, HL2⟩, by simp [intOf]; omega⟩
            | (go_wp2
               exact ⟨⟨k + 2, by omega, by go_num, HE2, HL2⟩, by simp [intOf]; omega⟩)
            | (go_wp2
               go_roundw
               case rel => exact ⟨k + 2, by omega, by go_num, HE2, HL2⟩
               case measure => simp [intOf]; omega)
    · go_wp2
      go_ret
      exact ⟨true, rfl, ⟨hE.out.w1, hE.out.w2⟩, hL.out⟩

end Go.Proofs.Ytfgahilgjpjncab
