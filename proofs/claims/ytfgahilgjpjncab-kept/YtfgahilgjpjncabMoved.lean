import Derived.Test.YtfgahilgjpjncabCore
import Derived.Deep.RegionWith
namespace Go.Proofs.Ytfgahilgjpjncab
open Go.RowKit

def pk (c n : Int) : Int := (if c < 0 then -(c + 1) else c) % n

theorem pk_range (c n : Int) (h : 0 < n) : 0 ≤ pk c n ∧ pk c n < n := ⟨Int.emod_nonneg _ (by omega), Int.emod_lt_of_pos _ h⟩

theorem ret_int {k : IntKind} {a b : Int} (h : a = b) : Ending.returned (.int k a) = .returned (.int k b) := by rw [h]
theorem pk_neg {c n : Int} (h0 : c < 0) : -((c + 1).tmod n) = pk c n := by
  rw [pk, if_pos h0, ← Int.neg_tmod, Int.tmod_eq_emod_of_nonneg (by omega)]
theorem pk_pos {c n : Int} (h0 : ¬ c < 0) : c % n = pk c n := by rw [pk, if_neg h0]

set_option maxHeartbeats 400000 in
theorem pick_any (c n : Int) (w : World) (h : 0 < n) (h1 : -9223372036854775808 ≤ c) (h2 : c ≤ 9223372036854775807) :
    Calls Try.prog 9 #[.int .i64 c, .int .i64 n] w fun e w' => e = .returned (.int .i64 (pk c n)) ∧ w' = w := by
  by_cases h0 : c < 0
  · go_enter Try.func9, Try.ntmps9
    go_wp2
    go_ret
    exact ⟨ret_int (pk_neg h0), rfl⟩
  · go_enter Try.func9, Try.ntmps9
    go_wp2
    go_ret
    exact ⟨ret_int (pk_pos (by omega)), rfl⟩

theorem ends_loop {n : Nat} {u : Nat} (hu : u < n) : ends n u u = 2 := by simp [ends, vtx]; omega
theorem ends_far {n : Nat} {u : Int} : ends n u n = 1 := by simp [ends, vtx]
theorem ends_less {n : Nat} {u : Int} : ends n (-1) u = 1 := by simp [ends, vtx]

theorem Insert_loop {b : Nat} {n u : Nat} (w : World) (hn : w.cell? ⟨b, 0, none⟩ = some (.int .i64 n)) (hu : u < n) :
    Calls Try.prog 12 #[ptr b, .int .i64 u, .int .i64 u] w fun e w' => e = .returned (.int .i64 2) ∧ w' = w := by
  have := Insert_bad b n u u w hn (by rw [ends_loop hu]; omega); rw [ends_loop hu] at this; exact this
theorem Delete_loop {b : Nat} {n u : Nat} (w : World) (hn : w.cell? ⟨b, 0, none⟩ = some (.int .i64 n)) (hu : u < n) :
    Calls Try.prog 13 #[ptr b, .int .i64 u, .int .i64 u] w fun e w' => e = .returned (.int .i64 2) ∧ w' = w := by
  have := Delete_bad b n u u w hn (by rw [ends_loop hu]; omega); rw [ends_loop hu] at this; exact this
theorem Insert_far {b : Nat} {n u : Nat} (w : World) (hn : w.cell? ⟨b, 0, none⟩ = some (.int .i64 n)) :
    Calls Try.prog 12 #[ptr b, .int .i64 u, .int .i64 n] w fun e w' => e = .returned (.int .i64 1) ∧ w' = w := by
  have := Insert_bad b n u n w hn (by rw [ends_far]; omega); rw [ends_far] at this; exact this
theorem Delete_less {b : Nat} {n u : Nat} (w : World) (hn : w.cell? ⟨b, 0, none⟩ = some (.int .i64 n)) :
    Calls Try.prog 13 #[ptr b, .int .i64 (-1), .int .i64 u] w fun e w' => e = .returned (.int .i64 1) ∧ w' = w := by
  have := Delete_bad b n (-1) u w hn (by rw [ends_less]; omega); rw [ends_less] at this; exact this

theorem cell_drewN (w : World) (k : Nat) (p : Addr) : (w.drewN k).cell? p = w.cell? p := by
  induction k with
  | zero => rfl
  | succ k ih => exact ih

set_option maxRecDepth 100000 in
set_option maxHeartbeats 1000000 in
/-- A move from a vertex to itself: refused four times. -/
theorem moved_loop (W : Nat) (g : Gh) (n u : Nat) (E : Nat → Nat → Bool) (x y : Int) (w : World) (h : Core w g W n E) (ia : IdxAt w g.a n E) (ib : IdxAt w g.b n E)
    (hx0 : 0 ≤ x) (hx1 : x ≤ 255) (hy0 : 0 ≤ y) (hy1 : y ≤ 255) (hxu : pk x n = u) (hyu : pk y n = u) (hu : u < n) (hn : n ≤ 48) :
    Calls Try.prog 11 #[ptr W, .int .i64 x, .int .i64 y] w fun e w' => e = .returned (.bool true) ∧ ∃ k, w' = w.drewN k := by
  have w0 := h.w0
  have w1 := h.w1
  have w2 := h.w2
  have ca := ia.cn
  have cb := ib.cn
  have Hx : Hid (pk x n = u) := hxu
  have Hy : Hid (pk y n = u) := hyu
  clear hxu hyu h ia ib
  go_enter Try.func11, Try.ntmps11
  go_wp2_with fail
  refine (pick_any x n _ (by omega) (by omega) (by omega)).mono ?_
  rintro e w' ⟨rfl, rfl⟩
  rw [Hx.out]
  go_wp2_with fail
  refine (pick_any y n _ (by omega) (by omega) (by omega)).mono ?_
  rintro e w' ⟨rfl, rfl⟩
  rw [Hy.out]
  go_wp2_with fail
  go_quiet (first
    | (go_at_call_of 12 (Value.int IntKind.i64 (n : Int)); exact Calls.quiet_of_same (Insert_far _ (by rw [cell_drewN]; exact ca)))
    | (go_at_call 12; exact Calls.quiet_of_same (Insert_loop _ (by rw [cell_drewN]; exact ca) hu))
    | (go_at_call_of 13 (ptr g.b); exact Calls.quiet_of_same (Delete_less _ (by rw [cell_drewN]; exact cb)))
    | (go_at_call 13; exact Calls.quiet_of_same (Delete_loop _ (by rw [cell_drewN]; exact ca) hu)))
  go_wp2
  go_ret
  exact ⟨rfl, _, rfl⟩

end Go.Proofs.Ytfgahilgjpjncab
