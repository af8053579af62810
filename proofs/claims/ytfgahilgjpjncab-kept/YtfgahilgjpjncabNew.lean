import Derived.Test.YtfgahilgjpjncabIdx
import Derived.Great.BuildSlice
namespace Go.Proofs.Ytfgahilgjpjncab
open Go.RowKit

set_option maxHeartbeats 400000 in
theorem New_bad (n s : Int) (w : World) (h : n < 1 ∨ 48 < n) :
    Calls Try.prog 10 #[.int .i64 n, .int .i64 s] w fun e w' => e = .returned (.tuple #[.pointer none, .int .i64 1]) ∧ w' = w := by
  by_cases h1 : n < 1
  · go_enter Try.func10, Try.ntmps10
    go_wp2
    go_ret2
    exact ⟨rfl, rfl⟩
  · have h2 : 48 < n := by omega
    go_enter Try.func10, Try.ntmps10
    go_wp2
    go_ret2
    exact ⟨rfl, rfl⟩

def z45 : Array Value := (Value.int .i64 0 :: List.replicate 2304 (Value.bool false)).toArray
theorem zero45 (w : World) : Sem.run Try.prog (zeroValue 45) w = .ok (.agg z45) w := by kernel_rfl
theorem z45_size : z45.size = 2305 := by simp [z45, -List.reduceReplicate]
theorem z45_ne : ¬ z45 = #[] := by intro h; have := congrArg Array.size h; rw [z45_size] at this; simp at this

set_option maxRecDepth 100000 in
set_option maxHeartbeats 400000 in
theorem New_ok0 (n s : Int) (w : World) (h1 : 1 ≤ n) (h2 : n ≤ 48) :
    Calls Try.prog 10 #[.int .i64 n, .int .i64 s] w fun e w' => e = .returned (.tuple #[ptr w.heap.size, .int .i64 0]) ∧ w' = w.alloc (.cells (z45.setIfInBounds 0 (.int .i64 n)) 45) := by
  have hz := zero45
  have hz1 := z45_ne
  go_enter Try.func10, Try.ntmps10
  go_wp2
  go_ret2
  exact ⟨rfl, rfl⟩

theorem z45_get (k : Nat) (h : k < 2304) : z45[1 + k]? = some (Value.bool false) := by
  simp [z45, Nat.add_comm 1 k, h, -List.reduceReplicate]

theorem New_idx (n : Int) (w : World) (h1 : 1 ≤ n) (h2 : n ≤ 48) : IdxAt (w.alloc (.cells (z45.setIfInBounds 0 (.int .i64 n)) 45)) w.heap.size n (fun _ _ => false) := by
  have hb : (w.alloc (.cells (z45.setIfInBounds 0 (.int .i64 n)) 45)).heap[w.heap.size]? = some (.cells (z45.setIfInBounds 0 (.int .i64 n)) 45) := by
    show (w.heap.push _)[w.heap.size]? = _
    simp
  have hs : 0 < z45.size := by rw [z45_size]; omega
  refine ⟨h1, h2, ?_, ?_, ?_⟩
  · simp only [World.cell?, hb]
    simp [hs]
  · intro u v hu hv
    simp only [World.cell?, hb]
    simp only [Option.isSome_none, Bool.false_eq_true, if_false]
    rw [Array.getElem?_setIfInBounds_ne (by omega), show 1 + u * 48 + v = 1 + (u * 48 + v) from by omega]
    exact z45_get _ (by omega)
  · intro o
    simp only [World.frozen?, hb]
    simp

/-- New, where it may be: a new block, nothing else. -/
theorem New_ok (n s : Int) (w : World) (h1 : 1 ≤ n) (h2 : n ≤ 48) :
    Calls Try.prog 10 #[.int .i64 n, .int .i64 s] w fun e w' => e = .returned (.tuple #[ptr w.heap.size, .int .i64 0]) ∧ IdxAt w' w.heap.size n (fun _ _ => false) ∧ w'.heap.size = w.heap.size + 1 ∧ Below w.heap.size w w' := by
  refine (New_ok0 n s w h1 h2).mono ?_
  rintro e w' ⟨rfl, rfl⟩
  exact ⟨rfl, New_idx n w h1 h2, by simp, (Below.refl _ _).alloc (Nat.le_refl _) _⟩

end Go.Proofs.Ytfgahilgjpjncab
