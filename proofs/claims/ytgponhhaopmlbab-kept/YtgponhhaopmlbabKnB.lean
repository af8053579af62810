import Derived.Test.YtgponhhaopmlbabKnA
namespace Go.Proofs.Ytgponhhaopmlbab
set_option linter.unusedVariables false
set_option linter.unusedSimpArgs false
open Go.RowKit

set_option maxRecDepth 100000 in
set_option maxHeartbeats 1000000 in
theorem nil_come (W B : Nat) (g : Gh) (n u v : Nat) (E : Nat → Nat → Bool) (G : Gr) (pr : Int) (x y : Int) (w : World) (h : Kn w g W n E G pr) (ap : Apart g W B n)
    (hx0 : 0 ≤ x) (hx1 : x ≤ 255) (hy0 : 0 ≤ y) (hy1 : y ≤ 255) (hxu : pk x n = u) (hyu : pk y n = v) (hu : u < n) (hv : v < n) (huv : u ≠ v) (ht : E u v = false) :
    Calls Try.prog 13 #[ptr W, .int .i64 x, .int .i64 y] w (NilR g W B n E G pr w) := by
  have hn := ap.n48
  have hec := ap.ec
  have hlc := ap.lc
  unfold maxLen at hec hlc
  have hne : ((u : Int) == (v : Int)) = false := by simp; omega
  have w0 := h.w0
  have w1 := h.w1
  have w2 := h.w2
  have w3 := h.w3
  have w4 := h.w4
  obtain ⟨c, w5⟩ := h.w5
  have ru := h.re u hu
  have rv := h.re v hv
  have lu := h.rl u hu
  have lv := h.rl v hv
  have gN := h.gn
  have c1 := (h.ce u hu).cell (i := v) hv
  have c2 := (h.ce v hv).cell (i := u) hu
  obtain ⟨fl1, hf1⟩ := h.cl u hu
  obtain ⟨fl2, hf2⟩ := h.cl v hv
  have c3 := hf1.cell (i := v) hv
  have c4 := hf2.cell (i := u) hu
  have hs := h.ad.sym (u := u) (v := v) (by omega) (by omega)
  rw [ht] at c1
  rw [← hs, ht] at c2
  have fu := (h.ce u hu).frozen
  have fv := (h.ce v hv).frozen
  have gu := hf1.frozen
  have gv := hf2.frozen
  have fW := h.fW
  have teu := rowIs_ty (h.ce u hu)
  have tev := rowIs_ty (h.ce v hv)
  have tlu := rowIs_ty hf1
  have tlv := rowIs_ty hf2
  have k1 := far (show g.er u ≠ W from teu.ne h.tW (by decide))
  have k2 := far (show g.er v ≠ W from tev.ne h.tW (by decide))
  have k3 := far (show g.er u ≠ g.eb from teu.ne h.te (by decide))
  have k4 := far (show g.er u ≠ g.er v from fun q => huv (ap.ie u v hu hv q))
  have k5 := far (show g.er u ≠ g.lb from teu.ne h.tl (by decide))
  have k6 := far (show g.er v ≠ g.lb from tev.ne h.tl (by decide))
  have k7 := far (show g.er u ≠ g.lr u from teu.ne tlu (by decide))
  have k8 := far (show g.er v ≠ g.lr u from tev.ne tlu (by decide))
  have k9 := far (show g.er u ≠ g.lr v from teu.ne tlv (by decide))
  have k10 := far (show g.er v ≠ g.lr v from tev.ne tlv (by decide))
  have k11 := far (show g.lr u ≠ W from tlu.ne h.tW (by decide))
  have k12 := far (show g.lr v ≠ W from tlv.ne h.tW (by decide))
  have k13 := far (show g.lr u ≠ g.lb from tlu.ne h.tl (by decide))
  have k14 := far (show g.lr u ≠ g.lr v from fun q => huv (ap.il u v hu hv q))
  have Hx : Hid (pk x n = u) := hxu
  have Hy : Hid (pk y n = v) := hyu
  have HZ : Hid (∀ t i, i ≠ 5 → (((((w.setCell ⟨g.er u, v, none⟩ (.bool true)).setCell ⟨g.er v, u, none⟩ (.bool true)).setCell ⟨g.lr u, v, none⟩ (.int .i64 0)).setCell ⟨g.lr v, u, none⟩ (.int .i64 0)).setCell ⟨W, 5, none⟩ (.int .i64 t)).cell? ⟨W, i, none⟩ = w.cell? ⟨W, i, none⟩) := fun t i hi => by
    rw [World.cell?_setCell_other (h := fun e => hi (congrArg Addr.off e).symm), k12, k11, k2, k1]
  have HI := hid h
  clear hxu hyu h ht hs teu tev tlu tlv hf1 hf2
  go_enter Try.func13, Try.ntmps13
  go_wp2_with fail
  refine (pick_any x n _ (by omega) (by omega) (by omega)).mono ?_
  rintro e w' ⟨rfl, hw⟩
  replace hw := hw.symm
  subst hw
  rw [Hx.out]
  go_wp2_with fail
  refine (pick_any y n _ (by omega) (by omega) (by omega)).mono ?_
  rintro e w' ⟨rfl, hw⟩
  replace hw := hw.symm
  subst hw
  rw [Hy.out]
  go_wp2_with fail
  clear w0 w1 w2 w3 w4 w5 ru rv lu lv c1 c2 c3 c4 fu fv gu gv fW k1 k2 k3 k4 k5 k6 k7 k8 k9 k10 k11 k12 k13 k14
  have HV : Hid ((((((w.setCell ⟨g.er u, v, none⟩ (.bool true)).setCell ⟨g.er v, u, none⟩ (.bool true)).setCell ⟨g.lr u, v, none⟩ (.int .i64 0)).setCell ⟨g.lr v, u, none⟩ (.int .i64 0)).setCell ⟨W, 5, none⟩ (.int .i64 (wrap64 (c + 1)))).cell? ⟨W, 1, none⟩ = some (ptr g.a) ∧ (((((w.setCell ⟨g.er u, v, none⟩ (.bool true)).setCell ⟨g.er v, u, none⟩ (.bool true)).setCell ⟨g.lr u, v, none⟩ (.int .i64 0)).setCell ⟨g.lr v, u, none⟩ (.int .i64 0)).setCell ⟨W, 5, none⟩ (.int .i64 (wrap64 (c + 1)))).cell? ⟨W, 2, none⟩ = some (.pointer none)) := ⟨by rw [HZ.out _ 1 (by omega)]; exact HI.out.w1, by rw [HZ.out _ 2 (by omega)]; exact HI.out.w2⟩
  have L2 : Hid (Below B w (((((w.setCell ⟨g.er u, v, none⟩ (.bool true)).setCell ⟨g.er v, u, none⟩ (.bool true)).setCell ⟨g.lr u, v, none⟩ (.int .i64 0)).setCell ⟨g.lr v, u, none⟩ (.int .i64 0)).setCell ⟨W, 5, none⟩ (.int .i64 (wrap64 (c + 1))))) := (((((Below.refl _ _).setCell (ap.ber u hu) _).setCell (ap.ber v hv) _).setCell (ap.blr u hu) _).setCell (ap.blr v hv) _).setCell ap.bW _
  generalize (((((w.setCell ⟨g.er u, v, none⟩ (.bool true)).setCell ⟨g.er v, u, none⟩ (.bool true)).setCell ⟨g.lr u, v, none⟩ (.int .i64 0)).setCell ⟨g.lr v, u, none⟩ (.int .i64 0)).setCell ⟨W, 5, none⟩ (.int .i64 (wrap64 (c + 1)))) = z at HV L2 ⊢
  refine (Delete_nil u v z).mono ?_
  rintro e z' ⟨rfl, hw⟩
  replace hw := hw.symm
  subst hw
  go_wp2
  go_ret
  exact ⟨false, rfl, fun q => by simp at q, HV.out, L2.out⟩

theorem nil_any (W B : Nat) (g : Gh) (n : Nat) (E : Nat → Nat → Bool) (G : Gr) (pr : Int) (x y : Int) (w : World) (h : Kn w g W n E G pr) (ap : Apart g W B n) (hB : B ≤ w.heap.size)
    (hx0 : 0 ≤ x) (hx1 : x ≤ 255) (hy0 : 0 ≤ y) (hy1 : y ≤ 255) : Calls Try.prog 13 #[ptr W, .int .i64 x, .int .i64 y] w (NilR g W B n E G pr w) := by
  have n1 := ap.n1
  obtain ⟨a0, a1⟩ := pk_range x n (by omega)
  obtain ⟨b0, b1⟩ := pk_range y n (by omega)
  obtain ⟨u, hu⟩ := Int.eq_ofNat_of_zero_le a0
  obtain ⟨v, hv⟩ := Int.eq_ofNat_of_zero_le b0
  by_cases huv : u = v
  · subst huv
    exact nil_loop W B g n u E G pr x y w h hx0 hx1 hy0 hy1 hu hv (by omega) ap.n48
  · cases ht : E u v
    · exact nil_come W B g n u v E G pr x y w h ap hx0 hx1 hy0 hy1 hu hv (by omega) (by omega) huv ht
    · exact nil_gone W B g n u v E G pr x y w h ap hB hx0 hx1 hy0 hy1 hu hv (by omega) (by omega) huv ht

/-- The law's own pointers, the second nil. -/
def NilM (g : Gh) (W B : Nat) (w : World) (e : Ending) (w' : World) : Prop := ∃ b : Bool, e = .returned (.bool b) ∧ (w'.cell? ⟨W, 1, none⟩ = some (ptr g.a) ∧ w'.cell? ⟨W, 2, none⟩ = some (.pointer none)) ∧ Below B w w'

set_option maxRecDepth 100000 in
set_option maxHeartbeats 1000000 in
theorem many_nil (W B : Nat) (g : Gh) (n : Nat) (E : Nat → Nat → Bool) (G : Gr) (pr : Int) (s : ByteArray) (w : World) (h : Kn w g W n E G pr) (ap : Apart g W B n) (hB : B ≤ w.heap.size) (hs : s.size ≤ 1048576) :
    Calls Try.prog 7 #[ptr W, .string s] w (NilM g W B w) := by
  have HI := hid h
  clear h
  go_enter Try.func7, Try.ntmps7
  go_wp2
  go_loopw [5] (fun i wr => ∃ k : Nat, k ≤ s.size + 1 ∧ i = .int .i64 k ∧ Hid (Kn wr g W n E G pr) ∧ Hid (Below B w wr)) (fun i _ => s.size + 2 - (intOf i).toNat)
  case atStart => exact ⟨0, by omega, rfl, HI, Below.refl _ _⟩
  case round =>
    obtain ⟨k, hk, rfl, hE, hL⟩ := hrel
    clear HI
    by_cases hlt : k + 1 < s.size
    · have hlt' : k < s.size := by omega
      go_wp2_with fail
      have hlt2 : (k : Int) + 1 < (s.size : Int) := by omega
      have hlt3 : ((k : Int) + 1).toNat = k + 1 := by omega
      have hlt4 : 0 ≤ (k : Int) + 1 := by omega
      have hlt5 : IntKind.i64.wrap ((k : Int) + 1) = (k : Int) + 1 := by rw [IntKind.wrap_i64]; omega
      have HE := hid (hE.out.below (Below.refl _ _).drew)
      have hBr : B ≤ wr.drew.heap.size := Nat.le_trans hB hL.out.size
      clear hE
      go_region_with (go_at_call 13; refine (nil_any W B g n E G pr _ _ _ HE.out ap hBr (byte_range _).1 (byte_range _).2 (byte_range _).1 (byte_range _).2).mono ?_; rintro e w1 ⟨b, rfl, hb, hc, hL2⟩)
      all_goals
        have HL2 : Hid (Below B w w1) := (hL.out.drew).trans hL2
        have HC : Hid (w1.cell? ⟨W, 1, none⟩ = some (ptr g.a) ∧ w1.cell? ⟨W, 2, none⟩ = some (.pointer none)) := hc
        clear hL2 hc hL HE
        cases b
        · clear hb
          go_wp2
          go_ret
          exact ⟨false, rfl, HC.out, HL2.out⟩
        · have HE2 : Hid (Kn w1 g W n E G pr) := hb rfl
          clear hb
          first
            | exact ⟨⟨k + 2, by omega, by go_num, HE2, HL2⟩, by simp [intOf]; omega⟩
            | (go_wp2
               exact ⟨⟨k + 2, by omega, by go_num, HE2, HL2⟩, by simp [intOf]; omega⟩)
            | (go_wp2
               go_roundw
               case rel => exact ⟨k + 2, by omega, by go_num, HE2, HL2⟩
               case measure => simp [intOf]; omega)
    · go_wp2
      go_ret
      exact ⟨true, rfl, ⟨hE.out.w1, hE.out.w2⟩, hL.out⟩

end Go.Proofs.Ytgponhhaopmlbab
