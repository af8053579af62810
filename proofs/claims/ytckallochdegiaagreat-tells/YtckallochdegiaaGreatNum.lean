import Derived.Test.YtckallochdegiaaGreatAppend
import Derived.Test.YtckallochdegiaaGreatLink
import Derived.Laws.BytesArg
import Derived.Laws.IdiomStrings
import Derived.Laws.ShiftsVar
namespace Go.Proofs.YtckallochdegiaaGreat
set_option linter.unusedVariables false
set_option linter.unusedSimpArgs false
open Go.RowKit

theorem strOfNums_size (xs : List Int) : (strOfNums xs).size = xs.length := by
  simp [strOfNums, ByteArray.size]

theorem conv_at (w : World) (b n : Nat) (xs : List Int) (hl : xs.length = n) (h : ∀ i, i < n → w.cell? ⟨b, i, none⟩ = some (.int .u8 (xs.getD i 0))) :
    (convert 106 9 (.slice (some ⟨b, 0, none⟩) n n)).run Tryz.prog w = .ok (.string (strOfNums xs)) w :=
  run_convert_bytes_arg w 106 5 (by kernel_rfl) (by kernel_rfl) b 0 n n xs hl (fun i hi => by rw [Nat.zero_add]; exact h i hi) 9 (by kernel_rfl)
theorem conv1 (w : World) (x : Int) :
    (convert 106 9 (.slice (some ⟨w.heap.size, 0, none⟩) 1 1)).run Tryz.prog (w.alloc (.cells #[.int .u8 x] 5)) = .ok (.string (strOfNums [x])) (w.alloc (.cells #[.int .u8 x] 5)) :=
  conv_at _ _ 1 [x] rfl (fun i hi => by rw [new_cell]; match i, hi with | 0, _ => rfl)
theorem conv1b (w w' : World) (x : Int) (h : w'.cell? ⟨w.heap.size, 0, none⟩ = some (.int .u8 x)) :
    (convert 106 9 (.slice (some ⟨w.heap.size, 0, none⟩) 1 1)).run Tryz.prog w' = .ok (.string (strOfNums [x])) w' :=
  conv_at _ _ 1 [x] rfl (fun i hi => by match i, hi with | 0, _ => exact h)
theorem conv1d (w : World) (x : Int) :
    (convert 106 9 (.slice (some ⟨w.heap.size, 0, none⟩) 1 1)).run Tryz.prog (w.alloc (.cells #[.int .u8 x] 5)).drew = .ok (.string (strOfNums [x])) (w.alloc (.cells #[.int .u8 x] 5)).drew :=
  conv1b w _ x (by show (w.alloc (.cells #[.int .u8 x] 5)).cell? ⟨w.heap.size, 0, none⟩ = _; rw [new_cell]; rfl)
theorem num_sum {s : ByteArray} (h : s.size ≤ 100) : ∀ x : Int, ¬ 9223372036854775807 < (strOfNums [x]).size + s.size := fun x => by rw [strOfNums_size]; simp; omega
theorem num_cell {w w1 : World} {x : Int} (hb : Below (w.alloc (.cells #[.int .u8 x] 5)).drew.heap.size (w.alloc (.cells #[.int .u8 x] 5)).drew w1) : w1.cell? ⟨w.heap.size, 0, none⟩ = some (.int .u8 x) := by
  rw [below_acell hb 0, new_cell]; rfl
end Go.Proofs.YtckallochdegiaaGreat
namespace Go.Proofs.YtckallochdegiaaGreat
set_option linter.unusedVariables false
set_option linter.unusedSimpArgs false
open Go.RowKit

theorem conv4 (w : World) (a b c d : Int) :
    (convert 106 9 (.slice (some ⟨w.heap.size, 0, none⟩) 4 4)).run Tryz.prog (w.alloc (.cells #[.int .u8 a, .int .u8 b, .int .u8 c, .int .u8 d] 5)) = .ok (.string (strOfNums [a, b, c, d])) (w.alloc (.cells #[.int .u8 a, .int .u8 b, .int .u8 c, .int .u8 d] 5)) :=
  conv_at _ _ 4 [a, b, c, d] rfl (fun i hi => by rw [new_cell]; match i, hi with | 0, _ => rfl | 1, _ => rfl | 2, _ => rfl | 3, _ => rfl)

set_option maxRecDepth 100000 in
set_option maxHeartbeats 2000000 in
theorem sum_any (w : World) (s : ByteArray) (hs : s.size ≤ 2 ^ 40) : Calls Tryz.prog 31 #[.string s] w fun e w' => ∃ r : ByteArray, e = .returned (.string r) ∧ r.size = 4 ∧ Below w.heap.size w w' := by
  go_enter Tryz.func31, Tryz.ntmps31
  go_wp2_with fail
  go_loopw [3, 4] (fun a b wr => ∃ (i : Nat) (r : Int), i ≤ s.size ∧ a = .int .i64 r ∧ b = .int .i64 i ∧ wr = w) (fun _ b _ => s.size - (intOf b).toNat)
  case atStart => exact ⟨0, _, by omega, rfl, rfl, rfl⟩
  case round =>
    obtain ⟨i, r, hi, rfl, rfl, rfl⟩ := hrel
    by_cases c : i < s.size
    · have c' : (i : Int) < (s.size : Int) := by omega
      go_wp2_with fail
      go_loopw [3, 5] (fun a b wr2 => ∃ (k : Nat) (r : Int), k ≤ 8 ∧ a = .int .i64 r ∧ b = .int .i64 k ∧ wr2 = wr) (fun _ b _ => 8 - (intOf b).toNat)
      case atStart => exact ⟨0, _, by omega, rfl, rfl, rfl⟩
      case round =>
        obtain ⟨k, r2, hk, rfl, rfl, rfl⟩ := hrel
        by_cases d : k < 8
        · have d' : (k : Int) < 8 := by omega
          go_wp2
          all_goals exact ⟨⟨k + 1, _, by omega, rfl, by go_num, trivial⟩, by simp [intOf]; omega⟩
        · have d' : ¬ (k : Int) < 8 := by omega
          go_wp2
          exact ⟨⟨i + 1, r2, by omega, by trivial, by go_num, by trivial⟩, by simp [intOf]; omega⟩
    · have c' : ¬ (i : Int) < (s.size : Int) := by omega
      have hcv := conv4 wr
      go_wp2
      go_ret
      exact ⟨_, rfl, strOfNums_size _, (Below.refl _ _).alloc (Nat.le_refl _) _⟩

theorem first_lt {n p : Nat} (hn : n < p) (b : Nat) : n + b % 128 * p < 128 * p := by
  have h1 : b % 128 ≤ 127 := by omega
  have h2 : b % 128 * p ≤ 127 * p := Nat.mul_le_mul_right _ h1
  omega
theorem first_val {n p b : Nat} (hn : n < p) (hp : p ≤ 128 ^ 3) (hb : b < 256) : wrap64 ((n : Int) + wrap64 ((wrap64 (b : Int)).tmod 128 * (p : Int))) = ((n + b % 128 * p : Nat) : Int) := by
  have h := first_lt hn b
  have e1 : wrap64 (b : Int) = b := by unfold wrap64; omega
  have e2 : (b : Int).tmod 128 = ((b % 128 : Nat) : Int) := by rw [Int.tmod_eq_emod_of_nonneg (by omega)]; omega
  rw [e1, e2, ← Int.natCast_mul]
  generalize b % 128 * p = q at h ⊢
  have e3 : wrap64 (q : Int) = q := by unfold wrap64; omega
  rw [e3]
  unfold wrap64; omega

theorem first_val2 {n p b : Nat} (hn : n < p) (hp : p ≤ 128 ^ 3) (hb : b < 256) : wrap64 ((n : Int) + wrap64 ((b : Int) % 128 * (p : Int))) = ((n + b % 128 * p : Nat) : Int) := by
  rw [← first_val hn hp hb]
  have e1 : wrap64 (b : Int) = b := by unfold wrap64; omega
  rw [e1, Int.tmod_eq_emod_of_nonneg (by omega)]

/-- What first answers. -/
def FirstR (s : ByteArray) (w : World) (e : Ending) (w' : World) : Prop := ∃ (n : Nat) (r : ByteArray) (ok : Bool), e = .returned (.tuple #[.int .i64 n, .string r, .bool ok]) ∧ n < 2 ^ 28 ∧ (ok = true → r.size + 1 ≤ s.size ∧ s.size ≤ r.size + 4) ∧ Below w.heap.size w w'

set_option maxRecDepth 100000 in
set_option maxHeartbeats 2000000 in
theorem first_any (w : World) (s : ByteArray) (hs : s.size ≤ 2 ^ 40) : Calls Tryz.prog 30 #[.string s] w (FirstR s w) := by
  go_enter Tryz.func30, Tryz.ntmps30
  go_wp2_with fail
  go_loopw [5, 6, 7] (fun a b c wr => ∃ (n k : Nat), k ≤ 4 ∧ k ≤ s.size ∧ n < 128 ^ k ∧ a = .int .i64 n ∧ b = .int .i64 ((128 ^ k : Nat) : Int) ∧ c = .int .i64 k ∧ wr = w) (fun _ _ c _ => 4 - (intOf c).toNat)
  case atStart => exact ⟨0, 0, by omega, by omega, by omega, rfl, rfl, rfl, rfl⟩
  case round =>
    obtain ⟨n, k, hk, hks, hn, rfl, rfl, rfl, rfl⟩ := hrel
    have pk : 128 ^ k ≤ 128 ^ 4 := Nat.pow_le_pow_right (by omega) hk
    by_cases c : k < s.size
    · have c' : (k : Int) < (s.size : Int) := by omega
      by_cases d : k < 4
      · have d' : (k : Int) < 4 := by omega
        have pk3 : 128 ^ k ≤ 128 ^ 3 := Nat.pow_le_pow_right (by omega) (by omega)
        have pk1 : 128 ^ (k + 1) = 128 * 128 ^ k := by rw [Nat.pow_succ, Nat.mul_comm]
        have HP1 := hid pk1
        clear pk1
        generalize 128 ^ k = p at hn pk pk3 HP1 ⊢
        have hval : wrap64 ((n : Int) + wrap64 ((wrap64 (s[k].toNat : Int)).tmod 128 * (p : Int))) = ((n + s[k].toNat % 128 * p : Nat) : Int) := first_val hn pk3 (by have := s[k].toNat_lt; omega)
        have hlt : n + s[k].toNat % 128 * p < 128 * p := first_lt hn _
        have HV := hid (And.intro hval hlt)
        clear hval hlt
        have hk1 : (k : Int) + 1 ≤ (s.size : Int) := by omega
        have hk0 : (0 : Int) ≤ (k : Int) + 1 := by omega
        have hk2 : ((k : Int) + 1).toNat = k + 1 := by omega
        have hk3 : IntKind.i64.wrap ((k : Int) + 1) = (k : Int) + 1 := by rw [IntKind.wrap_i64]; omega
        have hk4 : 0 ≤ (k : Int) + 1 ∧ (k : Int) + 1 ≤ (s.size : Int) := by omega
        have HV2 : Hid (wrap64 ((n : Int) + wrap64 ((s[k].toNat : Int) % 128 * (p : Int))) = ((n + s[k].toNat % 128 * p : Nat) : Int)) := first_val2 hn pk3 (by have := s[k].toNat_lt; omega)
        have HE : Hid ((s.extract (k + 1) s.size).size = s.size - (k + 1)) := by show _ = _; rw [ByteArray.size_extract]; omega
        by_cases e : (s[k].toNat : Int) < 128
        · by_cases f : 0 < s[k].toNat
          · have f' : decide (0 < s[k].toNat) = true := by simpa using f
            go_wp2_with fail
            go_quiet (fail)
            go_wp2
            go_ret3
            refine ⟨n + s[k].toNat % 128 * p, s.extract (k + 1) s.size, true, ?_, by have := HV.out.2; omega, fun _ => ?_, Below.drewN' _ (Below.refl _ _)⟩
            · rw [← HV2.out]; rfl
            · rw [HE.out]; omega
          · have f' : decide (0 < s[k].toNat) = false := by simpa using f
            by_cases z : k = 0
            · have z' : decide ((k : Int) = 0) = true := by simpa using z
              have z2 : ((k : Int) == 0) = true := by simpa using z
              have HZ := hid z
              clear z
              go_wp2_with fail
              go_quiet (fail)
              go_wp2
              go_ret3
              refine ⟨n + s[k].toNat % 128 * p, s.extract (k + 1) s.size, true, ?_, by have := HV.out.2; omega, fun _ => ?_, Below.drewN' _ (Below.refl _ _)⟩
              · rw [← HV2.out]; rfl
              · rw [HE.out]; omega
            · have z' : decide ((k : Int) = 0) = false := by simpa using z
              have z2 : ((k : Int) == 0) = false := by simpa using z
              go_wp2_with fail
              go_quiet (fail)
              go_wp2
              go_ret3
              refine ⟨n + s[k].toNat % 128 * p, s.extract (k + 1) s.size, false, ?_, by have := HV.out.2; omega, fun q => by simp at q, Below.drewN' _ (Below.refl _ _)⟩
              rw [← HV2.out]; rfl
        · go_wp2
          refine ⟨⟨_, k + 1, by omega, by omega, ?_, by rw [HV.out.1], by rw [HP1.out]; go_num, by go_num, trivial⟩, by simp [intOf]; omega⟩
          rw [HP1.out]; exact HV.out.2
      · have d' : ¬ (k : Int) < 4 := by omega
        go_wp2
        go_ret3
        exact ⟨(0 : Nat), ⟨#[]⟩, false, rfl, by omega, fun q => by simp at q, Below.refl _ _⟩
    · have c' : ¬ (k : Int) < (s.size : Int) := by omega
      go_wp2
      go_ret3
      exact ⟨(0 : Nat), ⟨#[]⟩, false, rfl, by omega, fun q => by simp at q, Below.refl _ _⟩

end Go.Proofs.YtckallochdegiaaGreat
namespace Go.Proofs.YtckallochdegiaaGreat
set_option linter.unusedVariables false
set_option linter.unusedSimpArgs false
open Go.RowKit

def strLen : Value → Nat
  | .string s => s.size
  | _ => 0

/-- The numbers l lie in a row of one's own. -/
def NumsAt (w : World) (B : Nat) (v : Value) (l : List Nat) : Prop := w.ownsRow B 3 1 v l.length (l.map fun n : Nat => .int .i64 n) ∧ ∀ n, n ∈ l → n < 2 ^ 28

/-- What numbers answers. -/
def NumsR (s : ByteArray) (w : World) (e : Ending) (w' : World) : Prop := ∃ (v : Value) (ok : Bool), e = .returned (.tuple #[v, .bool ok]) ∧ ((ok = false ∧ v = .slice none 0 0) ∨ (ok = true ∧ ∃ l, NumsAt w' w.heap.size v l ∧ l.length ≤ s.size)) ∧ Below w.heap.size w w'

theorem Tryz.info3 : (Tryz.prog.info? 3).map (fun i => (i.zero, i.size, i.bytes)) = some (some (.int .i64 0), 1, 8) := by kernel_rfl
theorem Tryz.info9 : (Tryz.prog.info? 9).map (fun i => (i.zero, i.size, i.bytes)) = some (some (.string ⟨#[]⟩), 1, 16) := by kernel_rfl

theorem NumsAt.at_ {w : World} {B : Nat} {v : Value} {l : List Nat} (h : NumsAt w B v l) (hl : 0 < l.length) : ∃ g c, v = .slice (some ⟨g, 0, none⟩) l.length c ∧ g < w.heap.size ∧ B ≤ g ∧ l.length ≤ c ∧ c ≤ maxLen ∧ TyAt w g 3 ∧ ∀ j, j < l.length → w.cell? ⟨g, j, none⟩ = some (.int .i64 ((l[j]?.getD 0 : Nat) : Int)) := by
  rcases h.1.2 with ⟨_, h2⟩ | ⟨g, cap, cur, h1, hB, h3, h4, h5, _, h7⟩
  · omega
  · refine ⟨g, cap, h1, (Array.getElem?_eq_some_iff.1 h3).1, hB, h4, h5, ⟨cur, h3⟩, fun j hj => ?_⟩
    have := h.1.cells (g := g) (by rw [h1]; rfl) j (.int .i64 ((l[j]?.getD 0 : Nat) : Int)) (by rw [List.getElem?_map, List.getElem?_eq_getElem hj]; rfl)
    rw [addr_add, Nat.zero_add] at this
    exact this

theorem NumsAt.below {w w' : World} {B C : Nat} {v : Value} {l : List Nat} (h : NumsAt w B v l) (b : Below C w w') (hC : w.heap.size ≤ C) : NumsAt w' B v l := by
  refine ⟨⟨h.1.1, ?_⟩, h.2⟩
  rcases h.1.2 with k | ⟨g, cap, cur, hv, hB, hg, hle⟩
  · exact Or.inl k
  · have lt : g < w.heap.size := (Array.getElem?_eq_some_iff.1 hg).1
    exact Or.inr ⟨g, cap, cur, hv, hB, by rw [b.block g (by omega)]; exact hg, hle⟩

end Go.Proofs.YtckallochdegiaaGreat
