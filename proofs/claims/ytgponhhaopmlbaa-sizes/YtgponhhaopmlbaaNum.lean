import Derived.Test.YtgponhhaopmlbaaOwns
import Derived.Test.YtgponhhaopmlbaaLink
import Derived.Laws.BytesArg
import Derived.Laws.IdiomStrings
namespace Go.Proofs.Ytgponhhaopmlbaa
set_option linter.unusedVariables false
set_option linter.unusedSimpArgs false
open Go.RowKit

theorem strOfNums_size (xs : List Int) : (strOfNums xs).size = xs.length := by
  simp [strOfNums, ByteArray.size]

theorem conv_at (w : World) (b n : Nat) (xs : List Int) (hl : xs.length = n) (h : ∀ i, i < n → w.cell? ⟨b, i, none⟩ = some (.int .u8 (xs.getD i 0))) :
    (convert 80 9 (.slice (some ⟨b, 0, none⟩) n n)).run Try.prog w = .ok (.string (strOfNums xs)) w :=
  run_convert_bytes_arg w 80 5 (by kernel_rfl) (by kernel_rfl) b 0 n n xs hl (fun i hi => by rw [Nat.zero_add]; exact h i hi) 9 (by kernel_rfl)
theorem conv1 (w : World) (x : Int) :
    (convert 80 9 (.slice (some ⟨w.heap.size, 0, none⟩) 1 1)).run Try.prog (w.alloc (.cells #[.int .u8 x] 5)) = .ok (.string (strOfNums [x])) (w.alloc (.cells #[.int .u8 x] 5)) :=
  conv_at _ _ 1 [x] rfl (fun i hi => by rw [new_cell]; match i, hi with | 0, _ => rfl)
theorem conv1b (w w' : World) (x : Int) (h : w'.cell? ⟨w.heap.size, 0, none⟩ = some (.int .u8 x)) :
    (convert 80 9 (.slice (some ⟨w.heap.size, 0, none⟩) 1 1)).run Try.prog w' = .ok (.string (strOfNums [x])) w' :=
  conv_at _ _ 1 [x] rfl (fun i hi => by match i, hi with | 0, _ => exact h)
theorem conv1d (w : World) (x : Int) :
    (convert 80 9 (.slice (some ⟨w.heap.size, 0, none⟩) 1 1)).run Try.prog (w.alloc (.cells #[.int .u8 x] 5)).drew = .ok (.string (strOfNums [x])) (w.alloc (.cells #[.int .u8 x] 5)).drew :=
  conv1b w _ x (by show (w.alloc (.cells #[.int .u8 x] 5)).cell? ⟨w.heap.size, 0, none⟩ = _; rw [new_cell]; rfl)
theorem num_sum {s : ByteArray} (h : s.size ≤ 100) : ∀ x : Int, ¬ 9223372036854775807 < (strOfNums [x]).size + s.size := fun x => by rw [strOfNums_size]; simp; omega
theorem num_cell {w w1 : World} {x : Int} (hb : Below (w.alloc (.cells #[.int .u8 x] 5)).drew.heap.size (w.alloc (.cells #[.int .u8 x] 5)).drew w1) : w1.cell? ⟨w.heap.size, 0, none⟩ = some (.int .u8 x) := by
  rw [below_acell hb 0, new_cell]; rfl
set_option maxRecDepth 100000 in
set_option maxHeartbeats 1000000 in
theorem number_any (k : Nat) : ∀ (w : World) (n : Nat), n < 128 * 2 ^ k → k ≤ 56 → Calls Try.prog 76 #[.int .i64 n] w fun e w' => ∃ s : ByteArray, e = .returned (.string s) ∧ 1 ≤ s.size ∧ s.size ≤ k + 1 ∧ Below w.heap.size w w' := by
  induction k with
  | zero =>
    intro w n hn hk
    have c' : (n : Int) < 128 := by omega
    have hcv := conv1 w n
    have HS : Hid ((strOfNums [(n : Int)]).size = 1) := strOfNums_size _
    generalize strOfNums [(n : Int)] = s at hcv HS
    go_enter Try.func76, Try.ntmps76
    go_wp2
    go_ret
    exact ⟨s, rfl, by rw [HS.out]; omega, by rw [HS.out]; omega, (Below.refl _ _).alloc (Nat.le_refl _) _⟩
  | succ k ih =>
    intro w n hn hk
    by_cases c : n < 128
    · have c' : (n : Int) < 128 := by omega
      have hcv := conv1 w n
      have HS : Hid ((strOfNums [(n : Int)]).size = 1) := strOfNums_size _
      generalize strOfNums [(n : Int)] = s at hcv HS
      go_enter Try.func76, Try.ntmps76
      go_wp2
      go_ret
      exact ⟨s, rfl, by rw [HS.out]; omega, by rw [HS.out]; omega, (Below.refl _ _).alloc (Nat.le_refl _) _⟩
    · have c' : ¬ (n : Int) < 128 := by omega
      have n63 : n < 2 ^ 63 := by
        have : 2 ^ (k + 1) ≤ 2 ^ 56 := Nat.pow_le_pow_right (by omega) hk
        omega
      have hq : (n : Int).tdiv 128 = ((n / 128 : Nat) : Int) := by rw [Int.tdiv_eq_ediv_of_nonneg (by omega)]; omega
      have hr : (n : Int).tmod 128 = ((n % 128 : Nat) : Int) := by rw [Int.tmod_eq_emod_of_nonneg (by omega)]; omega
      have HN : Hid (n / 128 < 128 * 2 ^ k) := by show _ < _; have : 2 ^ (k + 1) = 2 * 2 ^ k := by rw [Nat.pow_succ, Nat.mul_comm]
                                                  omega
      have HK : Hid (k ≤ 56) := by show _ ≤ _; omega
      have HIH := hid ih
      clear ih hn hk
      have m1 : n / 128 < 2 ^ 60 := by omega
      have m2 : n % 128 < 128 := by omega
      generalize n / 128 = q at hq HN m1
      generalize n % 128 = r at hr m2
      have hw1 : IntKind.i64.wrap (128 + (r : Int)) = 128 + r := by rw [IntKind.wrap_i64]; omega
      have hw2 : IntKind.i64.wrap (q : Int) = q := by rw [IntKind.wrap_i64]; omega
      have hcv := fun x => conv1d w x
      go_enter Try.func76, Try.ntmps76
      go_wp2_with fail
      go_region_with (first
        | (go_at_call 76; refine (HIH.out (w.alloc (.cells #[.int .u8 (IntKind.u8.wrap (128 + (r : Int)))] 5)).drew q HN.out HK.out).mono ?_; rintro e w1 ⟨s1, rfl, t1, t2, hb⟩; have hc2 := conv1b w w1 _ (num_cell hb); have hsum := num_sum (s := s1) (by have := HK.out; omega); have HT := hid (And.intro t1 t2); have HB := hid (below_adrew hb); clear t1 t2 hb)
        | (go_at_call 76; refine (HIH.out w.drew q HN.out HK.out).mono ?_; rintro e w1 ⟨s1, rfl, t1, t2, hb⟩; have hc2 := fun x => conv1 w1 x; have hsum := num_sum (s := s1) (by have := HK.out; omega); have HT := hid (And.intro t1 t2); have HB := hid (below_drew hb); clear t1 t2 hb))
      all_goals
        go_wp2
        go_ret
        refine ⟨_, rfl, ?_, ?_, ?_⟩
        · rw [ByteArray.size_append]; have := HT.out; omega
        · rw [ByteArray.size_append, strOfNums_size]; have := HT.out; simp; omega
        · first
            | exact HB.out
            | exact HB.out.alloc HB.out.size _
            | exact (HB.out.alloc HB.out.size _).drew

end Go.Proofs.Ytgponhhaopmlbaa
