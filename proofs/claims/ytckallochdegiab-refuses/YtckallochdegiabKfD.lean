import Derived.Test.YtckallochdegiabKfC
namespace Go.Proofs.Ytckallochdegiab
set_option linter.unusedVariables false
set_option linter.unusedSimpArgs false
open Go.RowKit

/-- The block of a list of numbers. -/
def litObj (L : List Nat) : Obj := .cells (L.map fun x : Nat => Value.int .i64 (x : Int)).toArray 3
/-- Lists, one behind the other. -/
def litW (w : World) : List (List Nat) → World
  | [] => w
  | L :: Ls => litW (w.alloc (litObj L)) Ls
theorem litW_size (w : World) (Ls : List (List Nat)) : (litW w Ls).heap.size = w.heap.size + Ls.length := by
  induction Ls generalizing w with
  | nil => rfl
  | cons L Ls ih => rw [litW, ih]; simp; omega
theorem litW_below (w : World) (Ls : List (List Nat)) : Below w.heap.size w (litW w Ls) := by
  induction Ls generalizing w with
  | nil => exact Below.refl _ _
  | cons L Ls ih =>
    have b1 : Below w.heap.size w (w.alloc (litObj L)) := (Below.refl _ _).alloc (Nat.le_refl _) _
    exact b1.trans ((ih (w.alloc (litObj L))).mono b1.size)
theorem litW_at (w : World) (Ls : List (List Nat)) (k : Nat) (L : List Nat) (hk : Ls[k]? = some L) (hm : L.length ≤ maxLen) : LiAt (litW w Ls) (.slice (some ⟨w.heap.size + k, 0, none⟩) L.length L.length) L := by
  induction Ls generalizing w k with
  | nil => simp at hk
  | cons M Ls ih =>
    cases k with
    | zero =>
      obtain rfl : M = L := by simpa using hk
      have h0 : LiAt (w.alloc (litObj M)) (.slice (some ⟨w.heap.size + 0, 0, none⟩) M.length M.length) M := by
        refine ⟨_, _, rfl, Nat.le_refl _, hm, fun _ => ⟨w.heap.size, rfl, fun j hj => ?_⟩⟩
        rw [litObj, new_cell]
        simp [hj]
      exact h0.below (litW_below _ _)
    | succ k =>
      have := ih (w.alloc (litObj M)) k (by simpa using hk)
      rw [show (w.alloc (litObj M)).heap.size + k = w.heap.size + (k + 1) by simp; omega] at this
      exact this

/-- The lists, in the order in which they come. -/
def rfLs : List (List Nat) := [[3], [3, 0, 1, 1, 0, 2, 0, 1, 2, 1], [1, 0, 3, 2, 3, 0, 2, 0, 1, 0], [0], [0], [0], [49], [0], [0, 0, 0, 0, 0, 0], [3, 0], [131, 0], [4, 0, 1, 1, 0, 2, 0, 1, 2, 1], [2, 0, 1, 1, 0, 2, 0, 1, 2, 1], [3, 0, 2, 0, 0, 1, 1, 1, 2, 1], [3, 0, 1, 1, 0, 1, 0, 1, 2, 1], [3, 1, 0, 1, 0, 2, 0, 1, 2, 1], [3, 0, 1, 1, 0, 3, 0, 1, 2, 1], [3, 0, 1, 1, 0, 2, 0, 1, 2, 5], [3, 0, 1, 1, 1, 1, 0, 1, 2, 1], [1, 0, 3, 2, 3, 0, 2, 0, 1], [1, 0, 3, 2, 3, 0, 2, 0, 1, 0, 0], [0, 0], [1, 1, 3, 0, 1, 2, 3, 0, 2, 0], [1, 0, 3, 2, 0, 3, 0, 1, 2, 0], [1, 0, 3, 2, 3, 0, 2, 1, 0, 0], [1, 0, 3, 3, 0, 2, 0, 1, 2, 0], [1, 0, 2, 2, 0, 1, 0], [3, 0, 1, 1, 0, 2, 1, 1, 2, 1], [3, 0, 1, 3, 0, 2, 0, 1, 2, 1], [3, 0, 1, 3, 0, 2, 0, 1, 2, 1], [1, 0, 3, 2, 3, 0, 2, 0, 1, 1, 0, 2, 2, 0, 1], [3, 0, 1, 1, 0, 2, 2, 1, 2, 1], [2, 0, 1, 1, 1, 2, 0], [1, 0, 2, 2, 0, 1, 0]]
/-- Which of them make each refusal. -/
def rfIx : List (Option Nat × Option Nat × Option Nat × Nat) := [(some 0, some 1, some 2, 0), (some 3, some 4, some 5, 8), (some 6, some 7, some 8, 8), (some 9, some 1, some 2, 8), (some 10, some 1, some 2, 8), (none, some 1, some 2, 8), (some 0, some 11, some 2, 8), (some 0, some 12, some 2, 8), (some 0, some 13, some 2, 8), (some 0, some 14, some 2, 8), (some 0, some 15, some 2, 8), (some 0, some 16, some 2, 8), (some 0, some 17, some 2, 8), (some 0, some 18, some 2, 8), (some 0, some 1, some 19, 9), (some 0, some 1, some 20, 9), (some 0, some 1, some 21, 9), (some 0, some 1, some 22, 9), (some 0, some 1, some 23, 9), (some 0, some 1, some 24, 9), (some 0, some 1, some 25, 9), (some 0, some 1, some 26, 9), (some 0, some 27, some 2, 9), (some 0, some 28, some 2, 9), (some 0, some 29, some 30, 10), (some 0, some 31, some 2, 10), (some 0, some 32, some 33, 10)]
def slv (h : Nat) : Option Nat → Value
  | none => .slice none 0 0
  | some k => .slice (some ⟨h + k, 0, none⟩) (rfLs[k]?.getD []).length (rfLs[k]?.getD []).length
def rfCells (h : Nat) : List (Option Nat × Option Nat × Option Nat × Nat) → List Value
  | [] => []
  | x :: l => slv h x.1 :: slv h x.2.1 :: slv h x.2.2.1 :: .int .i64 (x.2.2.2 : Nat) :: rfCells h l

set_option maxRecDepth 100000 in
set_option maxHeartbeats 4000000 in
theorem refusals_any (w : World) : Calls Try.prog 48 #[] w fun e w' => e = .returned (.slice (some ⟨w.heap.size + 34, 0, none⟩) 27 27) ∧ w' = (litW w rfLs).alloc (.cells (rfCells w.heap.size rfIx).toArray 91) := by
  go_enter Try.func48, Try.ntmps48
  go_wp2
  go_ret
  refine ⟨?_, ?_⟩
  · rfl
  · rfl
end Go.Proofs.Ytckallochdegiab
