import Derived.Test.YtckallochdegiaaGreatRep
namespace Go.Proofs.YtckallochdegiaaGreat
set_option linter.unusedVariables false
set_option linter.unusedSimpArgs false
open Go.RowKit

set_option maxRecDepth 100000 in
set_option maxHeartbeats 1000000 in
theorem Find_at (g b cap : Nat) (u v : Int) (es : List Edg) (w : World)
    (c1 : w.cell? ⟨g, 1, none⟩ = some (.slice (some ⟨b, 0, none⟩) es.length cap)) (hE : EAt w (.slice (some ⟨b, 0, none⟩) es.length cap) es b cap) :
    Calls Tryz.prog 33 #[ptr g, .int .i64 u, .int .i64 v] w fun e w' => e = .returned (.int .i64 (findIx es (min u v) (max u v))) ∧ Below w.heap.size w w' := by
  have HE : Hid (EAt w (.slice (some ⟨b, 0, none⟩) es.length cap) es b cap) := hE
  have h1 := hE.le
  have h2 := hE.mx
  unfold maxLen at h2
  clear hE
  go_enter Tryz.func33, Tryz.ntmps33
  go_wp2_with fail
  go_loopw [14] (fun i wr => ∃ k : Nat, k ≤ es.length ∧ i = .int .i64 k ∧ Hid (∀ j, j < k → ¬ ((es[j]?.getD e0).u = min u v ∧ (es[j]?.getD e0).v = max u v)) ∧ Hid (Below w.heap.size w wr)) (fun i _ => es.length - (intOf i).toNat)
  case atStart => exact ⟨0, by omega, rfl, fun j hj => by omega, Below.refl _ _⟩
  case round =>
    obtain ⟨k, hk, rfl, hno, hL⟩ := hrel
    by_cases hlt : k < es.length
    · have hlt' : (k : Int) < (es.length : Int) := by omega
      have E2 := HE.out.below hL.out (Nat.le_refl _)
      have d0 := E2.c0 k hlt
      have d1 := E2.c1 k hlt
      have d2 := E2.c2 k hlt
      have d3 := E2.c3 k hlt
      obtain ⟨x, hx⟩ : ∃ x, x = es[k]?.getD e0 := ⟨_, rfl⟩
      rw [← hx] at d0 d1 d2 d3
      have Hx : Hid (x = es[k]?.getD e0) := hx
      clear hx E2
      obtain ⟨x1, x2, x3, x4⟩ := x
      simp only at d0 d1 d2 d3
      have hB := hL.out.size
      rcases Int.lt_trichotomy u v with huv | huv | huv
      · go_wp2
        all_goals try simp only [beq_iff_eq, beq_eq_false_iff_ne, ne_eq] at *
        all_goals first
          | exact ⟨⟨k + 1, by omega, by go_num, find_step hno.out Hx.out (by simp only; omega), hL.out.alloc hB _⟩, by simp [intOf]; omega⟩
          | (go_ret; exact ⟨ret_int (findIx_some hlt (by rw [← Hx.out]; simp only; omega) (by rw [← Hx.out]; simp only; omega) hno.out).symm, hL.out.alloc hB _⟩)
      · have h3 : ¬ u < v := by omega
        have h4 : ¬ v < u := by omega
        have h5 : Hid (u = v) := huv
        clear huv
        go_wp2
        all_goals try simp only [beq_iff_eq, beq_eq_false_iff_ne, ne_eq] at *
        all_goals have h6 := h5.out
        all_goals first
          | exact ⟨⟨k + 1, by omega, by go_num, find_step hno.out Hx.out (by simp only; omega), hL.out.alloc hB _⟩, by simp [intOf]; omega⟩
          | (go_ret; exact ⟨ret_int (findIx_some hlt (by rw [← Hx.out]; simp only; omega) (by rw [← Hx.out]; simp only; omega) hno.out).symm, hL.out.alloc hB _⟩)
      · have h3 : ¬ u < v := by omega
        go_wp2
        all_goals try simp only [beq_iff_eq, beq_eq_false_iff_ne, ne_eq] at *
        all_goals first
          | exact ⟨⟨k + 1, by omega, by go_num, find_step hno.out Hx.out (by simp only; omega), hL.out.alloc hB _⟩, by simp [intOf]; omega⟩
          | (go_ret; exact ⟨ret_int (findIx_some hlt (by rw [← Hx.out]; simp only; omega) (by rw [← Hx.out]; simp only; omega) hno.out).symm, hL.out.alloc hB _⟩)
    · go_wp2
      go_ret
      exact ⟨ret_int (findIx_none (fun j hj => hno.out j (by omega))).symm, hL.out⟩

set_option maxRecDepth 100000 in
set_option maxHeartbeats 1000000 in
theorem Find_nil (g : Nat) (u v : Int) (w : World) (c1 : w.cell? ⟨g, 1, none⟩ = some (.slice none 0 0)) :
    Calls Tryz.prog 33 #[ptr g, .int .i64 u, .int .i64 v] w fun e w' => e = .returned (.int .i64 (findIx [] (min u v) (max u v))) ∧ Below w.heap.size w w' := by
  go_enter Tryz.func33, Tryz.ntmps33
  go_wp2_with fail
  go_loopw [14] (fun i wr => i = .int .i64 0 ∧ Hid (Below w.heap.size w wr)) (fun _ _ => 0)
  case atStart => exact ⟨rfl, Below.refl _ _⟩
  case round =>
    obtain ⟨rfl, hL⟩ := hrel
    go_wp2
    go_ret
    exact ⟨rfl, hL.out⟩

/-- Find: the place of the edge between u and v; -1. -/
theorem Find_any (g : Nat) (u v : Int) (es : List Edg) (ev : Value) (w : World) (c1 : w.cell? ⟨g, 1, none⟩ = some ev) (hE : Edges w ev es) :
    Calls Tryz.prog 33 #[ptr g, .int .i64 u, .int .i64 v] w fun e w' => e = .returned (.int .i64 (findIx es (min u v) (max u v))) ∧ Below w.heap.size w w' := by
  rcases hE with ⟨rfl, rfl⟩ | ⟨b, cap, hE⟩
  · exact Find_nil g u v w c1
  · have := hE.hv; subst this; exact Find_at g b cap u v es w c1 hE

end Go.Proofs.YtckallochdegiaaGreat
