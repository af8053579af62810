import Derived.Test.YtckallochdegiabKcB
namespace Go.Proofs.Ytckallochdegiab
set_option linter.unusedVariables false
set_option linter.unusedSimpArgs false
open Go.RowKit

/-- What members asks of a list. -/
structure MemL (n : Nat) (r : Nat → Bool) (l : List Nat) : Prop where
  ne : 0 < l.length
  lt : ∀ x, x ∈ l → x < n ∧ r x = true
  nd : l.Nodup
  le : ∀ x, x ∈ l → l[0]?.getD 0 ≤ x
  ct : l.length = cnt r n

theorem take_not {l : List Nat} (nd : l.Nodup) {k : Nat} (hk : k < l.length) : l[k]?.getD 0 ∉ l.take k := by
  intro q
  rw [List.getElem?_eq_getElem hk] at q
  obtain ⟨j, hj, e⟩ := List.mem_iff_getElem.1 q
  rw [List.getElem_take] at e
  rw [List.length_take] at hj
  rw [List.Nodup, List.pairwise_iff_getElem] at nd
  exact nd j k (by omega) hk (by omega) e
theorem take_more {l : List Nat} {k : Nat} (hk : k < l.length) (y : Nat) : y ∈ l.take (k + 1) ↔ y = l[k]?.getD 0 ∨ y ∈ l.take k := by
  rw [List.take_succ_eq_append_getElem hk, List.mem_append, List.getElem?_eq_getElem hk]
  simp [or_comm]

set_option maxRecDepth 100000 in
set_option maxHeartbeats 2000000 in
/-- members: each once, the least first. -/
theorem members_any (w : World) (q n B : Nat) (val : Value) (r : Nat → Bool) (l : List Nat) (h : w.rowIs q 4 n (fun y => .bool (r y))) (hn : n ≤ 48) (hN : NumsAt w B val l) (hl : MemL n r l) :
    Calls Try.prog 29 #[val, .slice (some ⟨q, 0, none⟩) n n] w fun e w' => e = .returned (.bool true) ∧ Below w.heap.size w w' := by
  obtain ⟨g, c, rfl, gl, _, lc, cm, _, cl⟩ := hN.at_ hl.ne
  have HR := hid h
  have HL := hid hl
  have HC := hid cl
  have l0 := hl.ne
  have l48 : l.length ≤ 48 := by rw [hl.ct]; exact Nat.le_trans (cnt_le _ _) hn
  have HCt := hid hl.ct
  unfold maxLen at cm
  clear h hN hl cl
  generalize hlm : l.length = m at *
  have hmb := run_make_row' (P := Try.prog) 44 4 (.bool false) 1 Try.underlying44 Try.info4 rfl .i64 .i64 n (by omega) (by omega)
  go_enter Try.func29, Try.ntmps29
  go_wp2_with fail
  go_loopw [13] (fun b wr => ∃ k : Nat, k ≤ m ∧ b = .int .i64 k ∧ Hid (wr.rowIs w.heap.size 4 n (fun y => .bool (decide (y ∈ l.take k)))) ∧ Hid (Below w.heap.size w wr)) (fun b _ => m - (intOf b).toNat)
  case atStart => exact ⟨0, by omega, rfl, (World.rowIs_made w (.bool false) n 4).congr (fun y _ => by simp), (Below.refl _ _).alloc (Nat.le_refl _) _⟩
  case round =>
    obtain ⟨k, hk, rfl, hS, hB⟩ := hrel
    by_cases ck : k < m
    · have ck' : (k : Int) < (m : Int) := by omega
      have m0 : (0 : Int) < (m : Int) := by omega
      have HRw := hid (row_but (S := fun _ => False) HR.out (But.of hB.out) (fun q => q))
      have d0 := cell_but (S := fun _ => False) (HC.out 0 l0) (But.of hB.out) (fun q => q)
      have d1 := cell_but (S := fun _ => False) (HC.out k ck) (But.of hB.out) (fun q => q)
      have xm : l[k]?.getD 0 ∈ l := by rw [List.getElem?_eq_getElem (by omega)]; exact List.getElem_mem _
      obtain ⟨x1, x2⟩ := HL.out.lt _ xm
      have x3 := HL.out.le _ xm
      have x4 := take_not HL.out.nd (k := k) (by omega)
      have d2 := HRw.out.cell (i := l[k]?.getD 0) x1
      rw [x2] at d2
      have d3 := hS.out.cell (i := l[k]?.getD 0) x1
      rw [decide_eq_false x4] at d3
      have HT := hid (fun y => take_more (l := l) (k := k) (by omega) y)
      have d4 := hS.out.frozen
      generalize l[k]?.getD 0 = x at *
      generalize l[0]?.getD 0 = x0 at *
      clear x2 x4 xm
      have x1' : (x : Int) < (n : Int) := by omega
      have x3' : ¬ (x : Int) < (x0 : Int) := by omega
      go_wp2
      exact ⟨⟨k + 1, by omega, by go_num, (hS.out.set x (.bool true)).congr (fun y _ => by
        by_cases f : y = x
        · subst f; simp [HT.out]
        · simp [f, HT.out]), hB.out.setCell (Nat.le_refl _) _⟩, by simp [intOf]; omega⟩
    · have hke : k = m := by omega
      have HRw := hid (row_but (S := fun _ => False) HR.out (But.of hB.out) (fun q => q))
      clear hke
      go_wp2_with fail
      refine (count_any wr q n r HRw.out hn).mono ?_
      rintro e w1 ⟨rfl, hw⟩
      replace hw := hw.symm
      subst hw
      rw [← HCt.out]
      go_wp2
      go_ret
      exact ⟨rfl, hB.out⟩

theorem rch_comm {es : List Edg} {fo : Bool} {lev a b : Int} (h : Rch es fo lev a b) : Rch es fo lev b a := by
  intro S h1 h2
  cases q : S a
  · have := h (fun x => !S x) (by simp [q]) (fun e he ha => by show (!S e.u) = (!S e.v); rw [h2 e he ha])
    simp [h1] at this
  · rfl

end Go.Proofs.Ytckallochdegiab
