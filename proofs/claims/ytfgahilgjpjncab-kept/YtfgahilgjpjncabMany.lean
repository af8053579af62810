import Derived.Test.YtfgahilgjpjncabCome
import Derived.BigRegion
namespace Go.Proofs.Ytfgahilgjpjncab
open Go.RowKit

theorem Inv.drew {w : World} {g : Gh} {W n : Nat} {E : Nat → Nat → Bool} (h : Inv w g W n E) : Inv w.drew g W n E :=
  ⟨⟨h.core.w0, h.core.w1, h.core.w2, h.core.w3, h.core.w4, h.core.w5, h.core.fW, h.core.re, h.core.rl, h.core.ce, h.core.cl, h.core.fe, h.core.fl⟩,
    ⟨h.ia.n0, h.ia.n1, h.ia.cn, h.ia.ce, h.ia.fz⟩, ⟨h.ib.n0, h.ib.n1, h.ib.cn, h.ib.ce, h.ib.fz⟩, h.sym⟩

theorem Inv.drewN {w : World} {g : Gh} {W n : Nat} {E : Nat → Nat → Bool} (k : Nat) (h : Inv w g W n E) : Inv (w.drewN k) g W n E := by
  induction k with
  | zero => exact h
  | succ k ih => exact ih.drew

theorem Below.drewN' {B : Nat} {a w : World} (k : Nat) (h : Below B a w) : Below B a (w.drewN k) := by
  induction k with
  | zero => exact h
  | succ k ih => exact ih.drew

theorem moved_any (W B : Nat) (g : Gh) (n : Nat) (E : Nat → Nat → Bool) (x y : Int) (w : World) (h : Inv w g W n E) (ap : Apart g W B n)
    (hx0 : 0 ≤ x) (hx1 : x ≤ 255) (hy0 : 0 ≤ y) (hy1 : y ≤ 255) :
    Calls Try.prog 11 #[ptr W, .int .i64 x, .int .i64 y] w fun e w' => e = .returned (.bool true) ∧ (∃ E', Inv w' g W n E') ∧ Below B w w' := by
  have n1 := ap.n1
  obtain ⟨a0, a1⟩ := pk_range x n (by omega)
  obtain ⟨b0, b1⟩ := pk_range y n (by omega)
  obtain ⟨u, hu⟩ := Int.eq_ofNat_of_zero_le a0
  obtain ⟨v, hv⟩ := Int.eq_ofNat_of_zero_le b0
  by_cases huv : u = v
  · subst huv
    refine (moved_loop W g n u E x y w h.core h.ia h.ib hx0 hx1 hy0 hy1 hu hv (by omega) ap.n48).mono ?_
    rintro e w' ⟨rfl, k, rfl⟩
    exact ⟨rfl, ⟨E, h.drewN k⟩, Below.drewN' k (Below.refl _ _)⟩
  · cases ht : E u v
    · refine (moved_come W B g n u v E x y w h ap hx0 hx1 hy0 hy1 hu hv (by omega) (by omega) huv ht).mono ?_
      rintro e w' ⟨rfl, h1, h2⟩
      exact ⟨rfl, ⟨_, h1⟩, h2⟩
    · refine (moved_gone W B g n u v E x y w h ap hx0 hx1 hy0 hy1 hu hv (by omega) (by omega) huv ht).mono ?_
      rintro e w' ⟨rfl, h1, h2⟩
      exact ⟨rfl, ⟨_, h1⟩, h2⟩

theorem byte_range (b : UInt8) : 0 ≤ IntKind.i64.wrap (b.toNat : Int) ∧ IntKind.i64.wrap (b.toNat : Int) ≤ 255 := by
  have := b.toNat_lt
  rw [IntKind.wrap_i64]; omega

set_option maxRecDepth 100000 in
set_option maxHeartbeats 1000000 in
theorem many_any (W B : Nat) (g : Gh) (n : Nat) (E : Nat → Nat → Bool) (s : ByteArray) (w : World) (h : Inv w g W n E) (ap : Apart g W B n) (hs : s.size ≤ 1048576) :
    Calls Try.prog 6 #[ptr W, .string s] w fun e w' => e = .returned (.bool true) ∧ (∃ E', Inv w' g W n E') ∧ Below B w w' := by
  have HI : Hid (Inv w g W n E) := h
  clear h
  go_enter Try.func6, Try.ntmps6
  go_wp2
  go_loopw [5] (fun i wr => ∃ k : Nat, k ≤ s.size + 1 ∧ i = .int .i64 k ∧ Hid (∃ E', Inv wr g W n E') ∧ Hid (Below B w wr)) (fun i _ => s.size + 2 - (intOf i).toNat)
  case atStart => exact ⟨0, by omega, rfl, ⟨E, HI.out⟩, Below.refl _ _⟩
  case round =>
    obtain ⟨k, hk, rfl, hE, hL⟩ := hrel
    clear HI
    by_cases hlt : k + 1 < s.size
    · have hlt' : k < s.size := by omega
      go_wp2_with fail
      have hlt2 : (k : Int) + 1 < (s.size : Int) := by omega
      have hlt3 : ((k : Int) + 1).toNat = k + 1 := by omega
      have hlt4 : 0 ≤ (k : Int) + 1 := by omega
      have hlt5 : IntKind.i64.wrap ((k : Int) + 1) = (k : Int) + 1 := by rw [IntKind.wrap_i64]; omega
      obtain ⟨E1, hE1⟩ := hE.out
      have HE : Hid (Inv wr g W n E1) := hE1
      clear hE hE1
      go_region_with (go_at_call 11; refine (moved_any W B g n E1 _ _ _ HE.out.drew ap (byte_range _).1 (byte_range _).2 (byte_range _).1 (byte_range _).2).mono ?_; rintro e w1 ⟨rfl, hE2, hL2⟩)
      all_goals
        have HE2 : Hid (∃ E', Inv w1 g W n E') := hE2
        have HL2 : Hid (Below B w w1) := (hL.out.drew).trans hL2
        clear hE2 hL2 hL HE
        first
          | exact ⟨⟨k + 2, by omega, by go_num, HE2, HL2⟩, by simp [intOf]; omega⟩
          | (go_wp2
             go_roundw
             case rel => exact ⟨k + 2, by omega, by go_num, HE2, HL2⟩
             case measure => simp [intOf]; omega)
    · go_wp2
      go_ret
      exact ⟨rfl, hE.out, hL.out⟩

end Go.Proofs.Ytfgahilgjpjncab
