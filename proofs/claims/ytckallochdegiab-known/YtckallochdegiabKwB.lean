import Derived.Test.YtckallochdegiabKwA
import Derived.Deep.RegionHeld
namespace Go.Proofs.Ytckallochdegiab
set_option linter.unusedVariables false
set_option linter.unusedSimpArgs false
open Go.RowKit

def lotL : Nat → Lot
  | 0 => ⟨1, [], ⟨#[72, 68, 84, 49, 1, 1, 27, 223, 5, 165, 1, 0, 141, 239, 2, 210, 1, 0, 141, 239, 2, 210]⟩⟩
  | 1 => ⟨3, [(0, 1), (1, 2), (2, 0)], ⟨#[72, 68, 84, 49, 1, 3, 55, 190, 11, 75, 10, 3, 0, 1, 1, 0, 2, 0, 1, 2, 1, 28, 179, 83, 92, 10, 1, 0, 3, 2, 3, 0, 2, 0, 1, 0, 230, 158, 222, 32]⟩⟩
  | _ => ⟨4, [(0, 1), (1, 2), (2, 3), (3, 0), (2, 1)], ⟨#[72, 68, 84, 49, 1, 4, 148, 43, 111, 213, 10, 3, 0, 1, 3, 0, 3, 1, 2, 3, 1, 248, 99, 77, 85, 19, 1, 0, 4, 2, 0, 1, 4, 0, 3, 0, 4, 1, 1, 0, 2, 2, 0, 1, 0, 246, 86, 245, 195]⟩⟩
set_option maxRecDepth 100000 in
theorem lotL_ok (i : Nat) (hi : i < 3) : (lotL i).Ok := by
  match i, hi with
  | 0, _ => exact ⟨by decide, by decide, by decide, by decide, by decide +kernel⟩
  | 1, _ => exact ⟨by decide, by decide, by decide, by decide, by decide +kernel⟩
  | 2, _ => exact ⟨by decide, by decide, by decide, by decide, by decide +kernel⟩

/-- What lots answers. -/
def LotsR (w : World) (e : Ending) (w' : World) : Prop := ∃ (lb : Nat) (mv : Nat → Value), e = .returned (.slice (some ⟨lb, 0, none⟩) 3 3) ∧ lb < w'.heap.size ∧ (∀ i, i < 3 → (w'.cell? ⟨lb, i * 3, none⟩ = some (.int .i64 ((lotL i).n : Nat)) ∧ w'.cell? ⟨lb, i * 3 + 1, none⟩ = some (mv i) ∧ w'.cell? ⟨lb, i * 3 + 1 + 1, none⟩ = some (.string (lotL i).file)) ∧ MvAt w' (mv i) (lotL i).M) ∧ Below w.heap.size w w'

theorem mv_lit (w : World) (cs : Array Value) (M : List (Nat × Nat)) (hm : 2 * M.length ≤ maxLen) (hc : ∀ j, j < M.length → cs[2 * j]? = some (.int .i64 ((M[j]?.getD (0, 0)).1 : Nat)) ∧ cs[2 * j + 1]? = some (.int .i64 ((M[j]?.getD (0, 0)).2 : Nat))) : MvAt (w.alloc (.cells cs 3)) (.slice (some ⟨w.heap.size, 0, none⟩) (2 * M.length) (2 * M.length)) M := by
  refine ⟨_, _, rfl, Nat.le_refl _, hm, fun _ => ⟨w.heap.size, rfl, ⟨cs, ?_⟩, fun j hj => ⟨?_, ?_⟩⟩⟩
  · show (w.heap.push _)[w.heap.size]? = _
    simp
  · rw [new_cell]; exact (hc j hj).1
  · rw [new_cell]; exact (hc j hj).2

set_option maxRecDepth 100000 in
set_option maxHeartbeats 1000000 in
theorem lots_any (w : World) : Calls Try.prog 44 #[] w (LotsR w) := by
  go_enter Try.func44, Try.ntmps44
  go_wp2
  go_ret
  have m1 := mv_lit w #[.int .i64 0, .int .i64 1, .int .i64 1, .int .i64 2, .int .i64 2, .int .i64 0] (lotL 1).M (by unfold maxLen; decide) (fun j hj => by
    match j, hj with
    | 0, _ => exact ⟨rfl, rfl⟩
    | 1, _ => exact ⟨rfl, rfl⟩
    | 2, _ => exact ⟨rfl, rfl⟩)
  generalize hw1 : w.alloc (.cells #[.int .i64 0, .int .i64 1, .int .i64 1, .int .i64 2, .int .i64 2, .int .i64 0] 3) = w1 at m1 ⊢
  have s1 : w1.heap.size = w.heap.size + 1 := by rw [← hw1]; simp
  have b1 : Below w.heap.size w w1 := by rw [← hw1]; exact (Below.refl _ _).alloc (Nat.le_refl _) _
  have m2 := mv_lit w1 #[.int .i64 0, .int .i64 1, .int .i64 1, .int .i64 2, .int .i64 2, .int .i64 3, .int .i64 3, .int .i64 0, .int .i64 2, .int .i64 1] (lotL 2).M (by unfold maxLen; decide) (fun j hj => by
    match j, hj with
    | 0, _ => exact ⟨rfl, rfl⟩
    | 1, _ => exact ⟨rfl, rfl⟩
    | 2, _ => exact ⟨rfl, rfl⟩
    | 3, _ => exact ⟨rfl, rfl⟩
    | 4, _ => exact ⟨rfl, rfl⟩)
  rw [s1] at m2
  generalize hw2 : w1.alloc (.cells #[.int .i64 0, .int .i64 1, .int .i64 1, .int .i64 2, .int .i64 2, .int .i64 3, .int .i64 3, .int .i64 0, .int .i64 2, .int .i64 1] 3) = w2 at m2 ⊢
  have s2 : w2.heap.size = w.heap.size + 1 + 1 := by rw [← hw2, ← s1]; simp
  have b2 : Below w1.heap.size w1 w2 := by rw [← hw2]; exact (Below.refl _ _).alloc (Nat.le_refl _) _
  have m1' := m1.below b2
  have nc := fun cs j => new_cell w2 cs 85 j
  have b3 := fun o => (Below.refl w2.heap.size w2).alloc (Nat.le_refl _) o
  rw [s2] at nc
  refine ⟨w.heap.size + 1 + 1, fun i => if i = 0 then .slice none 0 0 else if i = 1 then .slice (some ⟨w.heap.size, 0, none⟩) 6 6 else .slice (some ⟨w.heap.size + 1, 0, none⟩) 10 10, rfl, ?_, fun i hi => ?_, (b1.trans (b2.mono (by omega))).trans ((b3 _).mono (by omega))⟩
  · show _ < (w2.alloc _).heap.size
    simp; omega
  · match i, hi with
    | 0, _ => exact ⟨⟨by rw [nc]; rfl, by rw [nc]; rfl, by rw [nc]; rfl⟩, none, 0, rfl, by simp [lotL], by unfold maxLen; omega, fun q => by simp [lotL] at q⟩
    | 1, _ => exact ⟨⟨by rw [nc]; rfl, by rw [nc]; rfl, by rw [nc]; rfl⟩, m1'.below (b3 _)⟩
    | 2, _ => exact ⟨⟨by rw [nc]; rfl, by rw [nc]; rfl, by rw [nc]; rfl⟩, m2.below (b3 _)⟩

end Go.Proofs.Ytckallochdegiab
