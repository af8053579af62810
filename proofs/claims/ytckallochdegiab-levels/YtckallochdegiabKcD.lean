import Derived.Test.YtckallochdegiabKcC
namespace Go.Proofs.Ytckallochdegiab
set_option linter.unusedVariables false
set_option linter.unusedSimpArgs false
open Go.RowKit

/-- In the midst of components: which have been coloured from those below k. -/
structure CS (w wr : World) (n : Nat) (E : Nat → Nat → Bool) (k : Nat) (d : Nat → Bool) : Prop where
  row : wr.rowIs w.heap.size 4 n (fun y => .bool (d y))
  dn : ∀ y, y < n → (d y = true ↔ ∃ x, x < k ∧ RE n E x y)
  bel : Below w.heap.size w wr

/-- In the midst of one colour. -/
structure CT (w wr : World) (n : Nat) (d r : Nat → Bool) (q j : Nat) : Prop where
  row : wr.rowIs w.heap.size 4 n (fun y => .bool (d y || (decide (y < j) && r y)))
  rr : wr.rowIs q 4 n (fun y => .bool (r y))
  bel : Below w.heap.size w wr

theorem CT.step {w wr : World} {n q j : Nat} {d r : Nat → Bool} (h : CT w wr n d r q j) (hq : w.heap.size < q) : CT w (wr.setCell ⟨w.heap.size, j, none⟩ (.bool (d j || r j))) n d r q (j + 1) := by
  refine ⟨(h.row.set j _).congr (fun y _ => ?_), h.rr.setOther (by show q ≠ w.heap.size; omega) _, h.bel.setCell (Nat.le_refl _) _⟩
  by_cases f : y = j
  · subst f; simp
  · have : (y < j + 1) = (y < j) := by apply propext; omega
    simp [f, this]

theorem CT.done {w wr : World} {n k q : Nat} {E : Nat → Nat → Bool} {d r : Nat → Bool} (h : CT w wr n d r q n) (hd : ∀ y, y < n → (d y = true ↔ ∃ x, x < k ∧ RE n E x y)) (hr : ∀ y, y < n → (r y = true ↔ RE n E k y)) : CS w wr n E (k + 1) (fun y => d y || (decide (y < n) && r y)) := by
  refine ⟨h.row, fun y hy => ?_, h.bel⟩
  simp only [hy, decide_true, Bool.true_and, Bool.or_eq_true]
  rw [hd y hy, hr y hy]
  constructor
  · rintro (⟨x, h1, h2⟩ | h2)
    · exact ⟨x, by omega, h2⟩
    · exact ⟨k, by omega, h2⟩
  · rintro ⟨x, h1, h2⟩
    by_cases f : x = k
    · subst f; exact Or.inr h2
    · exact Or.inl ⟨x, by omega, h2⟩

theorem CS.skip {w wr : World} {n k : Nat} {E : Nat → Nat → Bool} {d : Nat → Bool} (h : CS w wr n E k d) (hk : k < n) (hd : d k = true) : CS w wr n E (k + 1) d := by
  refine ⟨h.row, fun y hy => ?_, h.bel⟩
  rw [h.dn y hy]
  constructor
  · rintro ⟨x, h1, h2⟩; exact ⟨x, by omega, h2⟩
  · rintro ⟨x, h1, h2⟩
    by_cases f : x = k
    · subst f
      obtain ⟨z, z1, z2⟩ := (h.dn x hk).1 hd
      exact ⟨z, z1, fun S s1 s2 => h2 S (z2 S s1 s2) s2⟩
    · exact ⟨x, by omega, h2⟩

/-- What components answers. -/
def CompsR (n : Nat) (E : Nat → Nat → Bool) (w : World) (e : Ending) (w' : World) : Prop :=
  ∃ p : Nat, e = .returned (.int .i64 p) ∧ (∀ ld : Nat → Bool, (∀ v, v < n → (ld v = true ↔ ∀ u, u < v → ¬ RE n E u v)) → p = cnt ld n) ∧ Below w.heap.size w w'

set_option maxRecDepth 100000 in
set_option maxHeartbeats 2000000 in
theorem components_any (w : World) (g : Gh) (W B n : Nat) (E : Nat → Nat → Bool) (h : Core w g W n E) (ap : Apart g W B n) :
    Calls Try.prog 31 #[ptr W] w (CompsR n E w) := by
  have hn := ap.n48
  have hec := ap.ec
  have hec2 := ap.ec
  unfold maxLen at hec
  have w0 := h.w0
  have HC := hid h
  clear h
  have hmb := run_make_row' (P := Try.prog) 44 4 (.bool false) 1 Try.underlying44 Try.info4 rfl .i64 .i64 n (by omega) (by omega)
  go_enter Try.func31, Try.ntmps31
  go_wp2_with fail
  go_loopw [3, 5] (fun a b wr => ∃ p k : Nat, k ≤ n ∧ a = .int .i64 p ∧ b = .int .i64 k ∧ p ≤ k ∧ Hid (∃ d, CS w wr n E k d) ∧ Hid (∀ ld : Nat → Bool, (∀ v, v < n → (ld v = true ↔ ∀ u, u < v → ¬ RE n E u v)) → p = cnt ld k)) (fun _ b _ => n - (intOf b).toNat)
  case atStart => exact ⟨0, 0, by omega, rfl, rfl, by omega, ⟨fun _ => false, World.rowIs_made w (.bool false) n 4, fun y _ => by simp, (Below.refl _ _).alloc (Nat.le_refl _) _⟩, fun _ _ => rfl⟩
  case round =>
    clear w0
    obtain ⟨p, k, hk, rfl, rfl, hpk, hS, hP⟩ := hrel
    obtain ⟨d, hS1⟩ := hS.out
    have HS := hid hS1
    have HW := hid (HC.out.below hS1.bel)
    have w0 := HW.out.w0
    have w3 := HW.out.w3
    clear hS hS1
    by_cases c : k < n
    · have c' : (k : Int) < (n : Int) := by omega
      have d1 := HS.out.row.cell (i := k) c
      cases hd : d k
      · rw [hd] at d1
        have HP2 : Hid (∀ ld : Nat → Bool, (∀ v, v < n → (ld v = true ↔ ∀ u, u < v → ¬ RE n E u v)) → p + 1 = cnt ld (k + 1)) := by
          intro ld hld
          have : ld k = true := (hld k c).2 (fun u hu q => by
            have := (HS.out.dn k c).2 ⟨u, hu, q⟩
            rw [hd] at this; simp at this)
          rw [cnt_succ, this, hP.out ld hld]; simp
        clear hd hP
        go_wp2_with fail
        refine (reach_any wr g.eb g.er n g.ecap k E HW.out.mat hn hec2 c).mono ?_
        rintro e w1 ⟨r, rfl, hr1, hr2, hr3⟩
        have hq : w.heap.size < wr.heap.size := HS.out.row.lt
        have HT : Hid (CT w w1 n d r wr.heap.size 0) := ⟨(row_but (S := fun _ => False) HS.out.row (But.of hr3) (fun q => q)).congr (fun y _ => by simp), hr1, HS.out.bel.trans (hr3.mono (by omega))⟩
        have HR2 := hid hr2
        have HDn := hid HS.out.dn
        clear hr1 hr2 hr3 d1 w0 w3 HW HS
        generalize wr.heap.size = q at *
        go_wp2_with fail
        go_loopw [34] (fun b wr => ∃ j : Nat, j ≤ n ∧ b = .int .i64 j ∧ Hid (CT w wr n d r q j)) (fun b _ => n - (intOf b).toNat)
        case atStart => exact ⟨0, by omega, rfl, HT⟩
        case round =>
          clear HT
          obtain ⟨j, hj, rfl, hT⟩ := hrel
          by_cases cj : j < n
          · have cj' : (j : Int) < (n : Int) := by omega
            have e1 := hT.out.rr.cell (i := j) cj
            have e2 := hT.out.row.cell (i := j) cj
            simp only [Nat.lt_irrefl, decide_false, Bool.false_and, Bool.or_false] at e2
            have e3 := hT.out.row.frozen
            have HN := hid (hT.out.step hq)
            cases hd : d j <;> cases hr : r j <;> (
              rw [hd] at e2
              rw [hr] at e1
              rw [hd, hr] at HN
              clear hd hr
              go_wp2
              exact ⟨⟨j + 1, by omega, by go_num, HN⟩, by simp [intOf]; omega⟩)
          · have hje : j = n := by omega
            have HT2 : Hid (CT w wr n d r q n) := by have := hT.out; rw [hje] at this; exact this
            have HF := hid (HT2.out.done HDn.out HR2.out)
            clear hje
            go_wp2
            exact ⟨⟨p + 1, k + 1, by omega, by go_num, by go_num, by omega, ⟨_, HF.out⟩, HP2⟩, by simp [intOf]; omega⟩
      · rw [hd] at d1
        have HF := hid (HS.out.skip c hd)
        have HP2 : Hid (∀ ld : Nat → Bool, (∀ v, v < n → (ld v = true ↔ ∀ u, u < v → ¬ RE n E u v)) → p = cnt ld (k + 1)) := by
          intro ld hld
          have : ld k = false := by
            cases q : ld k
            · rfl
            · obtain ⟨x, x1, x2⟩ := (HS.out.dn k c).1 hd
              exact absurd x2 ((hld k c).1 q x x1)
          rw [cnt_succ, this, hP.out ld hld]; simp
        clear hd hP
        go_wp2
        exact ⟨⟨p, k + 1, by omega, rfl, by go_num, by omega, ⟨_, HF.out⟩, HP2⟩, by simp [intOf]; omega⟩
    · have hke : k = n := by omega
      have HP2 : Hid (∀ ld : Nat → Bool, (∀ v, v < n → (ld v = true ↔ ∀ u, u < v → ¬ RE n E u v)) → p = cnt ld n) := by have := hP.out; rw [hke] at this; exact this
      clear hke
      go_wp2
      go_ret
      exact ⟨p, rfl, HP2.out, HS.out.bel⟩

end Go.Proofs.Ytckallochdegiab
