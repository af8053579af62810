import Derived.Test.YtckallochdegiabKfB
import Derived.Test.YtckallochdegiabKtA
import Derived.Deep.RegionHeld2
import Derived.Laws.BytesArg
import Derived.Laws.IdiomStrings
namespace Go.Proofs.Ytckallochdegiab
set_option linter.unusedVariables false
set_option linter.unusedSimpArgs false
open Go.RowKit

/-- A slice of small numbers. -/
def LiAt (w : World) (v : Value) (L : List Nat) : Prop := ∃ p cap, v = .slice p L.length cap ∧ L.length ≤ cap ∧ cap ≤ maxLen ∧ (0 < L.length → ∃ b, p = some ⟨b, 0, none⟩ ∧ ∀ j, j < L.length → w.cell? ⟨b, j, none⟩ = some (.int .i64 ((L[j]?.getD 0 : Nat) : Int)))
theorem LiAt.below {w w' : World} {v : Value} {L : List Nat} (h : LiAt w v L) (k : Below w.heap.size w w') : LiAt w' v L := by
  obtain ⟨p, cap, h1, h2, h3, h4⟩ := h
  refine ⟨p, cap, h1, h2, h3, fun hp => ?_⟩
  obtain ⟨b, hb, hc⟩ := h4 hp
  exact ⟨b, hb, fun j hj => cell_but (S := fun _ => False) (hc j hj) (But.of k) (fun q => q)⟩
theorem kst_step {L : List Nat} {i : Nat} (h : i < L.length) : kst (L.take (i + 1)) = kst (L.take i) ++ strOfNums [((L[i]?.getD 0 : Nat) : Int)] := by
  have e : L.take (i + 1) = L.take i ++ [L[i]?.getD 0] := by rw [List.take_add_one, List.getElem?_eq_getElem h]; rfl
  rw [e]
  unfold kst strOfNums
  rw [List.map_append, List.map_append]
  apply ByteArray.ext
  simp
theorem kst_size (L : List Nat) : (kst L).size = L.length := by rw [kst, nums_size, List.length_map]

theorem kconv_at (w : World) (b n : Nat) (xs : List Int) (hl : xs.length = n) (h : ∀ i, i < n → w.cell? ⟨b, i, none⟩ = some (.int .u8 (xs.getD i 0))) :
    (convert 40 9 (.slice (some ⟨b, 0, none⟩) n n)).run Try.prog w = .ok (.string (strOfNums xs)) w :=
  run_convert_bytes_arg w 40 5 (by kernel_rfl) (by kernel_rfl) b 0 n n xs hl (fun i hi => by rw [Nat.zero_add]; exact h i hi) 9 (by kernel_rfl)
theorem kconv1 (w : World) (x : Int) :
    (convert 40 9 (.slice (some ⟨w.heap.size, 0, none⟩) 1 1)).run Try.prog (w.alloc (.cells #[.int .u8 x] 5)) = .ok (.string (strOfNums [x])) (w.alloc (.cells #[.int .u8 x] 5)) :=
  kconv_at _ _ 1 [x] rfl (fun i hi => by rw [new_cell]; match i, hi with | 0, _ => rfl)
theorem kconv4 (w : World) (a b c d : Int) :
    (convert 40 9 (.slice (some ⟨w.heap.size, 0, none⟩) 4 4)).run Try.prog (w.alloc (.cells #[.int .u8 a, .int .u8 b, .int .u8 c, .int .u8 d] 5)) = .ok (.string (strOfNums [a, b, c, d])) (w.alloc (.cells #[.int .u8 a, .int .u8 b, .int .u8 c, .int .u8 d] 5)) :=
  kconv_at _ _ 4 [a, b, c, d] rfl (fun i hi => by rw [new_cell]; match i, hi with | 0, _ => rfl | 1, _ => rfl | 2, _ => rfl | 3, _ => rfl)

set_option maxRecDepth 100000 in
set_option maxHeartbeats 2000000 in
theorem kframe_any (w : World) (v : Value) (L : List Nat) (hl : L.length ≤ 100) (hx : ∀ x, x ∈ L → x < 256) (h : LiAt w v L) : Calls Try.prog 49 #[v] w fun e w' => e = .returned (.string (kfr L)) ∧ Below w.heap.size w w' := by
  have HL := hid h
  have HX := hid hx
  obtain ⟨p, cap, rfl, h2, h3, -⟩ := h
  unfold maxLen at h3
  clear hx
  go_enter Try.func49, Try.ntmps49
  go_wp2_with fail
  go_loopw [3, 9] (fun a b wr => ∃ (i : Nat), i ≤ L.length ∧ a = .string (kst (L.take i)) ∧ b = .int .i64 i ∧ Hid (Below w.heap.size w wr)) (fun _ b _ => L.length - (intOf b).toNat)
  case atStart => exact ⟨0, by omega, by rfl, rfl, Below.refl _ _⟩
  case round =>
    obtain ⟨i, hi, rfl, rfl, HB⟩ := hrel
    by_cases ci : i < L.length
    · have ci' : (i : Int) < (L.length : Int) := by omega
      obtain ⟨q, cap', hq, _, _, h4⟩ := (HL.out.below (HB.out.mono (Nat.le_refl _)))
      obtain ⟨b, hb, hc⟩ := h4 (by omega)
      simp only [Value.slice.injEq] at hq
      obtain rfl : p = some ⟨b, 0, none⟩ := hq.1.trans hb
      have d := hc i ci
      have HS := hid (kst_step ci)
      have xl : L[i]?.getD 0 < 256 := HX.out _ (by rw [List.getElem?_eq_getElem ci]; exact List.getElem_mem ci)
      have hsz : (kst (L.take i)).size ≤ 100 := by rw [kst_size, List.length_take]; omega
      clear hq hb hc h4 HX HL
      generalize L[i]?.getD 0 = x at d HS xl
      generalize kst (L.take i) = s at HS hsz ⊢
      have hwx : IntKind.u8.wrap (x : Int) = x := by rw [IntKind.wrap_u8]; omega
      have hcv := kconv1 wr (x : Int)
      have hs1 : (strOfNums [(x : Int)]).size = 1 := nums_size _
      have hsum : ¬ 9223372036854775807 < s.size + (strOfNums [(x : Int)]).size := by omega
      generalize strOfNums [(x : Int)] = t at hcv hs1 hsum HS
      go_wp2
      exact ⟨⟨i + 1, by omega, by rw [HS.out], by go_num, HB.out.alloc HB.out.size _⟩, by simp [intOf]; omega⟩
    · have hie : L.take i = L := List.take_of_length_le (by omega)
      have ci' : ¬ (i : Int) < (L.length : Int) := by omega
      rw [hie]
      have hsz : (kst L).size = L.length := kst_size L
      have HK : Hid (kfr L = strOfNums [((kst L).size : Int)] ++ kst L ++ le4 (4294967295 - crcS (kst L) (kst L).size)) := by show _ = _; rw [kfr, sumB, hsz]
      generalize kst L = s at hsz HK
      clear HL HX hie
      go_wp2_with fail
      refine (ksum_any wr s (by omega)).mono ?_
      rintro _ w' ⟨rfl, hw⟩
      replace hw := hw.symm
      subst hw
      have hr : 4294967295 - crcS s s.size < 4294967296 := by omega
      generalize 4294967295 - crcS s s.size = r at HK hr
      have hwz : IntKind.u8.wrap (s.size : Int) = s.size := by rw [IntKind.wrap_u8]; omega
      have hcv := kconv1 wr (s.size : Int)
      have hz1 : (wr.alloc (.cells #[.int .u8 (s.size : Int)] 5)).heap.size = wr.heap.size + 1 := by simp
      have hcv4 := kconv4 (wr.alloc (.cells #[.int .u8 (s.size : Int)] 5))
      rw [hz1] at hcv4
      clear hz1
      have hs1 : (strOfNums [(s.size : Int)]).size = 1 := nums_size _
      have hsum : ¬ 9223372036854775807 < (strOfNums [(s.size : Int)]).size + s.size := by omega
      have hsum2 : ∀ a b c d : Int, ¬ 9223372036854775807 < (strOfNums [(s.size : Int)] ++ s).size + (strOfNums [a, b, c, d]).size := fun a b c d => by rw [ByteArray.size_append, hs1, nums_size]; simp only [List.length_cons, List.length_nil]; omega
      have hsum3 : ∀ a b c d : Int, ¬ 9223372036854775807 < (strOfNums [(s.size : Int)]).size + s.size + (strOfNums [a, b, c, d]).size := fun a b c d => by rw [hs1, nums_size]; simp only [List.length_cons, List.length_nil]; omega
      have HBw : Hid (Below w.heap.size w wr) := HB
      clear hsz hs1
      go_wp2
      go_ret
      refine ⟨?_, (HBw.out.alloc HBw.out.size _).alloc (HBw.out.alloc HBw.out.size _).size _⟩
      have e : le4 r = strOfNums [(r : Int) % 256, (r : Int) / 256 % 256, (r : Int) / 65536 % 256, (r : Int) / 16777216] := by
        unfold le4
        congr 1
        simp only [List.cons.injEq, and_true]
        refine ⟨by omega, by omega, by omega, by omega⟩
      rw [HK.out, e]
      rfl
end Go.Proofs.Ytckallochdegiab
