import Derived.Test.YtckallochdegiaaGreatTrC
import Derived.Test.YtckallochdegiaaGreatByP
import Derived.Laws.BytesArg
import Derived.Laws.IdiomStrings
import Derived.Laws.Bits64
namespace Go.Proofs.YtckallochdegiaaGreat
set_option linter.unusedVariables false
set_option linter.unusedSimpArgs false
open Go.RowKit

/-- A text's bytes, as cells. -/
def bcs (s : ByteArray) : List Value := s.data.toList.map fun b => .int .u8 (b.toNat : Int)
theorem bcs_length (s : ByteArray) : (bcs s).length = s.size := by rw [bcs, List.length_map, Array.length_toList]; rfl
theorem bcs_append (s t : ByteArray) : bcs (s ++ t) = bcs s ++ bcs t := by simp [bcs, ByteArray.data_append]
theorem bcs_one (x : Int) (h0 : 0 ≤ x) (h1 : x < 256) : bcs (strOfNums [x]) = [.int .u8 x] := by
  simp [bcs, strOfNums]
  omega
theorem bcs_at (s : ByteArray) (j : Nat) (hj : j < s.size) : (bcs s)[j]? = some (.int .u8 (byteAt s j : Int)) := by
  have h : j < s.data.size := hj
  rw [bcs, List.getElem?_map, Array.getElem?_toList, Array.getElem?_eq_getElem h, byteAt, dif_pos hj]
  rfl
theorem bcs_ones (s : ByteArray) (u : Value) (h : u ∈ bcs s) : u.oneCell' = true := by
  obtain ⟨b, _, rfl⟩ := List.mem_map.1 h
  rfl
theorem strOf_bytes (s : ByteArray) : strOfNums (s.data.toList.map fun b => (b.toNat : Int)) = s := by
  simp [strOfNums, Function.comp_def]

/-- A text's bytes lie in a row of one's own. -/
def BtsAt (w : World) (B : Nat) (v : Value) (s : ByteArray) : Prop := w.ownsRow B 5 1 v s.size (bcs s)

theorem BtsAt.at_ {w : World} {B : Nat} {v : Value} {s : ByteArray} (h : BtsAt w B v s) (hl : 0 < s.size) : ∃ g c, v = .slice (some ⟨g, 0, none⟩) s.size c ∧ g < w.heap.size ∧ B ≤ g ∧ s.size ≤ c ∧ c ≤ maxLen ∧ TyAt w g 5 ∧ ∀ j, j < s.size → w.cell? ⟨g, j, none⟩ = some (.int .u8 (byteAt s j : Int)) := by
  rcases h.2 with ⟨_, h2⟩ | ⟨g, cap, cur, h1, hB, h3, h4, h5, _, h7⟩
  · omega
  · refine ⟨g, cap, h1, (Array.getElem?_eq_some_iff.1 h3).1, hB, h4, h5, ⟨cur, h3⟩, fun j hj => ?_⟩
    have := h.cells (g := g) (by rw [h1]; rfl) j _ (bcs_at s j hj)
    rw [addr_add, Nat.zero_add] at this
    exact this

theorem BtsAt.add {w : World} {B : Nat} {v : Value} {s t : ByteArray} (h : w.ownsRow B 5 1 v (s.size + t.size) (bcs s ++ bcs t)) : BtsAt w B v (s ++ t) := by
  unfold BtsAt
  rw [ByteArray.size_append, bcs_append]; exact h

theorem bytes_conv (w : World) (g c : Nat) (s : ByteArray) (h : ∀ j, j < s.size → w.cell? ⟨g, j, none⟩ = some (.int .u8 (byteAt s j : Int))) :
    (convert 106 9 (.slice (some ⟨g, 0, none⟩) s.size c)).run Tryz.prog w = .ok (.string s) w := by
  have := run_convert_bytes_arg (P := Tryz.prog) w 106 5 (by kernel_rfl) (by kernel_rfl) g 0 s.size c (s.data.toList.map fun b => (b.toNat : Int)) (by rw [List.length_map, Array.length_toList]; rfl) (fun i hi => by
    have hi' : i < s.data.size := hi
    rw [Nat.zero_add, h i hi, byteAt, dif_pos hi]
    simp only [List.getD_eq_getElem?_getD, List.getElem?_map, Array.getElem?_toList, Array.getElem?_eq_getElem hi', Option.map_some, Option.getD_some]
    rfl) 9 (by kernel_rfl)
  rw [strOf_bytes] at this
  exact this

theorem Tryz.info5 : (Tryz.prog.info? 5).map (fun i => (i.zero, i.size, i.bytes)) = some (some (.int .u8 0), 1, 1) := by kernel_rfl

theorem btsAt_nil (w : World) (B : Nat) (hB : B ≤ w.heap.size) : BtsAt (w.alloc (.cells #[] 5)) B (.slice (some ⟨w.heap.size, 0, none⟩) 0 0) ⟨#[]⟩ := by
  have := World.ownsRow_lit (base := B) (e := 5) (size := 1) w #[] 0 hB (by unfold maxLen; omega) rfl
  simpa [BtsAt, bcs, ByteArray.size] using this

theorem numB_lt {k n : Nat} (h : n < 128) : numB k n = strOfNums [(n : Int)] := by
  cases k with
  | zero => rfl
  | succ k => rw [numB, if_pos h]

/-- Where written stands: p is written, x is left. -/
def WrI (n : Nat) (p : ByteArray) (x : Nat) : Prop := ∃ k, nB n = p ++ numB k x ∧ x < 128 * 2 ^ k ∧ k ≤ 40 ∧ p.size + k ≤ 40
theorem WrI.start {n : Nat} (h : n ≤ 1000000000) : WrI n ⟨#[]⟩ n := ⟨40, by simp [nB, ByteArray.ext_iff], by omega, by omega, by simp [ByteArray.size]⟩
theorem WrI.step {n x : Nat} {p : ByteArray} (h : WrI n p x) (hx : 128 ≤ x) : WrI n (p ++ strOfNums [128 + ((x % 128 : Nat) : Int)]) (x / 128) ∧ p.size < 40 := by
  obtain ⟨k, h1, h2, h3, h4⟩ := h
  cases k with
  | zero => omega
  | succ k =>
    have : 2 ^ (k + 1) = 2 * 2 ^ k := by rw [Nat.pow_succ, Nat.mul_comm]
    refine ⟨⟨k, ?_, by omega, by omega, by rw [ByteArray.size_append, nums_size]; simp; omega⟩, by omega⟩
    rw [h1, numB, if_neg (by omega), ByteArray.append_assoc, show IntKind.u8.wrap (128 + ((x % 128 : Nat) : Int)) = 128 + ((x % 128 : Nat) : Int) by rw [IntKind.wrap_u8]; omega]
theorem WrI.done {n x : Nat} {p : ByteArray} (h : WrI n p x) (hx : x < 128) : nB n = p ++ strOfNums [(x : Int)] ∧ p.size ≤ 40 := by
  obtain ⟨k, h1, h2, h3, h4⟩ := h
  rw [numB_lt hx] at h1
  exact ⟨h1, by omega⟩

set_option maxRecDepth 100000 in
set_option maxHeartbeats 2000000 in
theorem written_any (w : World) (n : Nat) (hn : n ≤ 1000000000) : Calls Tryz.prog 91 #[.int .i64 n] w fun e w' => ∃ val, e = .returned val ∧ BtsAt w' w.heap.size val (nB n) ∧ Below w.heap.size w w' := by
  obtain ⟨i5, q0, q1, q2, q3⟩ := info_parts Tryz.info5
  have HS := hid (WrI.start hn)
  go_enter Tryz.func91, Tryz.ntmps91
  go_wp2_with fail
  go_loopw [0, 3] (fun a c wr => ∃ (x : Nat) (p : ByteArray), x ≤ 1000000000 ∧ p.size ≤ 40 ∧ a = .int .i64 x ∧ Hid (WrI n p x) ∧ Hid (BtsAt wr w.heap.size c p) ∧ Hid (Below w.heap.size w wr)) (fun a _ _ => (intOf a).toNat)
  case atStart => exact ⟨n, ⟨#[]⟩, hn, by simp [ByteArray.size], rfl, HS, btsAt_nil w _ (Nat.le_refl _), (Below.refl _ _).alloc (Nat.le_refl _) _⟩
  case round =>
    obtain ⟨x, p, hx, hp, rfl, HW, HP, HB⟩ := hrel
    have hBs := HB.out.size
    by_cases c : 128 ≤ x
    · have c' : (128 : Int) ≤ (x : Int) := by omega
      have hq : (x : Int).tdiv 128 = ((x / 128 : Nat) : Int) := by rw [Int.tdiv_eq_ediv_of_nonneg (by omega)]; omega
      have hr : (x : Int).tmod 128 = ((x % 128 : Nat) : Int) := by rw [Int.tmod_eq_emod_of_nonneg (by omega)]; omega
      have HW1 := hid (HW.out.step c).1
      have hp4 := (HW.out.step c).2
      have m1 : x / 128 < x := by omega
      have m2 : x % 128 < 128 := by omega
      generalize x / 128 = q at hq HW1 m1
      generalize x % 128 = r at hr HW1 m2
      have hw1 : IntKind.i64.wrap (128 + (r : Int)) = 128 + r := by rw [IntKind.wrap_i64]; omega
      have hw2 : IntKind.i64.wrap (q : Int) = q := by rw [IntKind.wrap_i64]; omega
      have hw3 : IntKind.u8.wrap (128 + (r : Int)) = 128 + r := by rw [IntKind.wrap_u8]; omega
      have HOne : Hid (bcs (strOfNums [128 + (r : Int)]) = [.int .u8 (128 + (r : Int))]) := bcs_one _ (by omega) (by omega)
      have HSz : Hid ((strOfNums [128 + (r : Int)]).size = 1) := nums_size _
      go_wp2_with (at_builtin; refine wpList_append_own _ rfl (.tmp 7) (.tmp 12) 106 rfl w.heap.size 5 i5 _ 1 1 Tryz.underlying106 q0 q1 q2 q3 rfl (by decide) _ p.size _ rfl (HP.out.alloc _) ⟨wr.heap.size, 0, none⟩ 1 1 [.int .u8 (128 + (r : Int))] rfl rfl (one_cell _ _ _) (fun y hy => by simp at hy; subst hy; rfl) (by unfold maxLen; omega) (by omega) (by simp; omega) ?_; intro v' w3 ho hg _)
      have R1 : BtsAt w3 w.heap.size v' (p ++ strOfNums [128 + (r : Int)]) := by
        refine BtsAt.add ?_
        rw [HOne.out, HSz.out]; exact ho
      have R2 : Below w.heap.size w w3 := (HB.out.alloc hBs _).grown hg (by simp; omega) (fun k hk => (HP.out.lt k hk).1)
      exact ⟨⟨q, _, by omega, by rw [ByteArray.size_append, HSz.out]; omega, rfl, HW1, R1, R2⟩, by simp [intOf]; omega⟩
    · have c' : ¬ (128 : Int) ≤ (x : Int) := by omega
      have HD := hid (HW.out.done (by omega))
      have hw3 : IntKind.u8.wrap (x : Int) = x := by rw [IntKind.wrap_u8]; omega
      have HOne : Hid (bcs (strOfNums [(x : Int)]) = [.int .u8 (x : Int)]) := bcs_one _ (by omega) (by omega)
      have HSz : Hid ((strOfNums [(x : Int)]).size = 1) := nums_size _
      go_wp2_with (at_builtin; refine wpList_append_own _ rfl (.tmp 16) (.tmp 19) 106 rfl w.heap.size 5 i5 _ 1 1 Tryz.underlying106 q0 q1 q2 q3 rfl (by decide) _ p.size _ rfl (HP.out.alloc _) ⟨wr.heap.size, 0, none⟩ 1 1 [.int .u8 (x : Int)] rfl rfl (one_cell _ _ _) (fun y hy => by simp at hy; subst hy; rfl) (by unfold maxLen; omega) (by omega) (by simp; omega) ?_; intro v' w3 ho hg _)
      go_ret
      have R1 : BtsAt w3 w.heap.size v' (nB n) := by
        rw [HD.out.1]
        refine BtsAt.add ?_
        rw [HOne.out, HSz.out]; exact ho
      exact ⟨v', rfl, R1, (HB.out.alloc hBs _).grown hg (by simp; omega) (fun k hk => (HP.out.lt k hk).1)⟩

end Go.Proofs.YtckallochdegiaaGreat
namespace Go.Proofs.YtckallochdegiaaGreat
set_option linter.unusedVariables false
set_option linter.unusedSimpArgs false
open Go.RowKit

theorem bits_xor_u32 (a b : Nat) (ha : a < 4294967296) (hb : b < 4294967296) : bits .xor .u32 (a : Int) (b : Int) = ((a ^^^ b : Nat) : Int) := by
  have hx : a ^^^ b < 2 ^ 32 := Nat.xor_lt_two_pow (by omega) (by omega)
  have h1 : (BitVec.ofInt 32 (a : Int)).toNat = a := by rw [BitVec.ofInt_natCast, BitVec.toNat_ofNat]; exact Nat.mod_eq_of_lt (by omega)
  have h2 : (BitVec.ofInt 32 (b : Int)).toNat = b := by rw [BitVec.ofInt_natCast, BitVec.toNat_ofNat]; exact Nat.mod_eq_of_lt (by omega)
  show IntKind.u32.wrap ((BitVec.ofInt 32 (a : Int) ^^^ BitVec.ofInt 32 (b : Int)).toNat : Int) = _
  rw [BitVec.toNat_xor, h1, h2, IntKind.wrap_u32]
  omega
theorem bits_and_u32 (a : Nat) (ha : a < 4294967296) : bits .and .u32 (a : Int) 1 = ((a % 2 : Nat) : Int) := by
  have h1 : (BitVec.ofInt 32 (a : Int)).toNat = a := by rw [BitVec.ofInt_natCast, BitVec.toNat_ofNat]; exact Nat.mod_eq_of_lt (by omega)
  have h2 : (BitVec.ofInt 32 (1 : Int)).toNat = 1 := by rfl
  show IntKind.u32.wrap ((BitVec.ofInt 32 (a : Int) &&& BitVec.ofInt 32 (1 : Int)).toNat : Int) = _
  rw [BitVec.toNat_and, h1, h2, IntKind.wrap_u32, Nat.and_one_is_mod]
  omega
theorem xor_ones {a : Nat} (ha : a < 4294967296) : a ^^^ 4294967295 = 4294967295 - a := by
  have h := congrArg BitVec.toNat (BitVec.xor_allOnes (x := BitVec.ofNat 32 a))
  rw [BitVec.toNat_xor, BitVec.toNat_not, BitVec.toNat_ofNat, BitVec.toNat_allOnes, Nat.mod_eq_of_lt (by omega)] at h
  simpa using h
theorem crcSh_lt {r : Nat} (h : r < 4294967296) : crcSh r < 4294967296 := by
  unfold crcSh
  split
  · exact Nat.xor_lt_two_pow (n := 32) (by omega) (by omega)
  · omega
theorem byteAt_lt (s : ByteArray) (i : Nat) : byteAt s i < 256 := by
  unfold byteAt
  split
  · exact UInt8.toNat_lt _
  · omega

set_option maxRecDepth 100000 in
set_option maxHeartbeats 2000000 in
theorem fsum_any (w : World) (g c : Nat) (s : ByteArray) (hs : s.size ≤ 1000000000) (hc : s.size ≤ c) (h : ∀ j, j < s.size → w.cell? ⟨g, j, none⟩ = some (.int .u8 (byteAt s j : Int))) :
    Calls Tryz.prog 113 #[.slice (some ⟨g, 0, none⟩) s.size c] w fun e w' => e = .returned (.int .u32 ((4294967295 - crcS s s.size : Nat) : Int)) ∧ w' = w := by
  have HI := hid h
  clear h
  go_enter Tryz.func113, Tryz.ntmps113
  go_wp2_with fail
  go_loopw [3, 10] (fun a b wr => ∃ (i r : Nat), i ≤ s.size ∧ r < 4294967296 ∧ a = .int .u32 r ∧ b = .int .i64 i ∧ wr = w ∧ Hid (r = crcS s i)) (fun _ b _ => s.size - (intOf b).toNat)
  case atStart => exact ⟨0, 4294967295, by omega, by omega, rfl, rfl, rfl, rfl⟩
  case round =>
    obtain ⟨i, r, hi, hr, rfl, rfl, hw, HC⟩ := hrel
    replace hw := hw.symm
    subst hw
    by_cases ci : i < s.size
    · have ci' : (i : Int) < (s.size : Int) := by omega
      have d := HI.out i ci
      have hb := byteAt_lt s i
      have HS : Hid (crcS s (i + 1) = crcShs 8 (r ^^^ byteAt s i)) := by show _ = _; rw [crc_byte hb, HC.out]; rfl
      have HX := hid (bits_xor_u32 r (byteAt s i) hr (by omega))
      have hlt : r ^^^ byteAt s i < 4294967296 := Nat.xor_lt_two_pow (n := 32) (by omega) (by omega)
      generalize byteAt s i = y at d hb HS HX hlt
      generalize hz : r ^^^ y = z at HS HX hlt
      have hwy : IntKind.u32.wrap (y : Int) = y := by rw [IntKind.wrap_u32]; omega
      have hx := HX.out
      clear HC hz HX
      go_wp2_with fail
      go_loopw [3, 6] (fun a b wr2 => ∃ (k r2 : Nat), k ≤ 8 ∧ r2 < 4294967296 ∧ a = .int .u32 r2 ∧ b = .int .i64 k ∧ wr2 = w ∧ Hid (r2 = crcShs k z)) (fun _ b _ => 8 - (intOf b).toNat)
      case atStart => exact ⟨0, z, by omega, hlt, by first | rfl | (rw [hx]), rfl, rfl, rfl⟩
      case round =>
        obtain ⟨k, r2, hk, hr2, rfl, rfl, hw, HC2⟩ := hrel
        replace hw := hw.symm
        subst hw
        by_cases dk : k < 8
        · have dk' : (k : Int) < 8 := by omega
          have HN : Hid (crcShs (k + 1) z = crcSh r2) := by show _ = _; rw [HC2.out]; rfl
          have HL := hid (crcSh_lt hr2)
          have HA := bits_and_u32 r2 hr2
          have HY : bits .xor .u32 ((r2 : Int) / 2) 3988292384 = ((r2 / 2 ^^^ 3988292384 : Nat) : Int) := by
            have := bits_xor_u32 (r2 / 2) 3988292384 (by omega) (by omega)
            rw [show (r2 : Int) / 2 = ((r2 / 2 : Nat) : Int) by omega]; exact this
          clear HC2 hx
          by_cases odd : r2 % 2 = 1
          · have HE : Hid (crcSh r2 = (r2 / 2) ^^^ 3988292384) := by show _ = _; unfold crcSh; rw [if_pos odd]
            rw [odd] at HA
            go_wp2
            first
              | exact ⟨⟨k + 1, _, by omega, HL.out, by rw [HE.out], by go_num, by trivial, HN.out.symm⟩, by simp [intOf]; omega⟩
              | (rw [HY]; exact ⟨⟨k + 1, _, by omega, HL.out, by rw [HE.out], by go_num, by trivial, HN.out.symm⟩, by simp [intOf]; omega⟩)
              | exact ⟨k, r2, odd⟩
          · have HE : Hid (crcSh r2 = r2 / 2) := by show _ = _; unfold crcSh; rw [if_neg odd]
            rw [show r2 % 2 = 0 by omega] at HA
            go_wp2
            have e2 : (r2 : Int) / 2 = ((r2 / 2 : Nat) : Int) := by omega
            first
              | exact ⟨⟨k + 1, _, by omega, HL.out, by rw [HE.out]; rfl, by go_num, by trivial, HN.out.symm⟩, by simp [intOf]; omega⟩
              | (rw [e2, ← HE.out]; exact ⟨⟨k + 1, _, by omega, HL.out, by rfl, by go_num, by trivial, HN.out.symm⟩, by simp [intOf]; omega⟩)
              | exact ⟨k, r2, odd⟩
        · have hke : k = 8 := by omega
          have HC3 : Hid (r2 = crcS s (i + 1)) := by show _ = _; rw [HS.out, HC2.out, hke]
          clear hke HC2
          have dk' : ¬ (k : Int) < 8 := by omega
          go_wp2
          exact ⟨⟨i + 1, r2, by omega, hr2, by trivial, by go_num, by trivial, HC3⟩, by simp [intOf]; omega⟩
    · have hie : i = s.size := by omega
      have HF : Hid (4294967295 - crcS s s.size = r ^^^ 4294967295) := by show _ = _; rw [xor_ones hr, HC.out, hie]
      clear hie HC
      have HX : bits .xor .u32 (r : Int) 4294967295 = ((r ^^^ 4294967295 : Nat) : Int) := bits_xor_u32 r 4294967295 hr (by omega)
      go_wp2
      go_ret
      exact ⟨by rw [HF.out]; first | rfl | (rw [HX]; rfl), rfl⟩
end Go.Proofs.YtckallochdegiaaGreat
namespace Go.Proofs.YtckallochdegiaaGreat
set_option linter.unusedVariables false
set_option linter.unusedSimpArgs false
open Go.RowKit

/-- The lowest k bytes of r, the lowest first. -/
def lep (r : Nat) : Nat → ByteArray
  | 0 => ⟨#[]⟩
  | k + 1 => lep r k ++ strOfNums [((r / 256 ^ k % 256 : Nat) : Int)]
theorem lep_size (r k : Nat) : (lep r k).size = k := by
  induction k with
  | zero => rfl
  | succ k ih => rw [lep, ByteArray.size_append, ih, nums_size]; rfl
theorem lep_four (r : Nat) : lep r 4 = le4 r := by
  simp [lep, le4, strOfNums, ByteArray.ext_iff]
theorem nums_head {w : World} {B : Nat} {v : Value} {l : List Nat} (h : NumsAt w B v l) (hl : 0 < l.length) : ∃ g c, v = .slice (some ⟨g, 0, none⟩) l.length c := by
  obtain ⟨g, c, h1, _⟩ := h.at_ hl
  exact ⟨g, c, h1⟩

theorem numsB_more {l : List Nat} {k : Nat} (hk : k < l.length) : numsB (l.take (k + 1)) = numsB (l.take k) ++ nB (l[k]?.getD 0) := by
  rw [List.take_succ_eq_append_getElem hk, numsB_append, numsB_one, List.getElem?_eq_getElem hk]; rfl
theorem BtsAt.below {w w' : World} {B C : Nat} {v : Value} {s : ByteArray} (h : BtsAt w B v s) (b : Below C w w') (hC : w.heap.size ≤ C) : BtsAt w' B v s := owns_below h b hC
theorem BtsAt.mono {w : World} {B B' : Nat} {v : Value} {s : ByteArray} (h : BtsAt w B v s) (hB : B' ≤ B) : BtsAt w B' v s := by
  refine ⟨h.1, ?_⟩
  rcases h.2 with k | ⟨g, cap, cur, k1, k2, k3⟩
  · exact Or.inl k
  · exact Or.inr ⟨g, cap, cur, k1, Nat.le_trans hB k2, k3⟩
theorem bts_cells {w : World} {B g n c : Nat} {s : ByteArray} (h : BtsAt w B (.slice (some ⟨g, 0, none⟩) n c) s) : ∀ j u, (bcs s)[j]? = some u → w.cell? ((⟨g, 0, none⟩ : Addr).add j) = some u := World.ownsRow.cells h rfl

set_option maxRecDepth 100000 in
set_option maxHeartbeats 4000000 in
theorem seal_any (w : World) (g c : Nat) (s : ByteArray) (hs : s.size ≤ 1000000000) (hg : g < w.heap.size) (hc : s.size ≤ c) (h : ∀ j, j < s.size → w.cell? ⟨g, j, none⟩ = some (.int .u8 (byteAt s j : Int))) :
    Calls Tryz.prog 92 #[.slice (some ⟨g, 0, none⟩) s.size c] w fun e w' => ∃ val, e = .returned val ∧ BtsAt w' w.heap.size val (sumB s) ∧ Below w.heap.size w w' := by
  obtain ⟨i5, q0, q1, q2, q3⟩ := info_parts Tryz.info5
  have HI := hid h
  clear h
  have HN := hid (btsAt_nil w w.heap.size (Nat.le_refl _))
  have HB : Hid (Below w.heap.size w (w.alloc (.cells #[] 5))) := (Below.refl _ _).alloc (Nat.le_refl _) _
  go_enter Tryz.func92, Tryz.ntmps92
  go_wp2_with fail
  generalize w.alloc (.cells #[] 5) = w1 at HN HB ⊢
  refine (fsum_any w1 g c s hs hc (fun j hj => by rw [HB.out.cell (p := ⟨g, j, none⟩) hg]; exact HI.out j hj)).mono ?_
  rintro e w2 ⟨rfl, hw⟩
  replace hw := hw.symm
  subst hw
  have HSum : Hid (sumB s = lep (4294967295 - crcS s s.size) 4) := by show _ = _; rw [lep_four]; rfl
  have hr : 4294967295 - crcS s s.size < 4294967296 := by omega
  generalize 4294967295 - crcS s s.size = r at HSum hr
  go_wp2_with fail
  go_loopw [3, 4, 5] (fun a b c wr2 => ∃ (k r2 : Nat), k ≤ 4 ∧ r2 < 4294967296 ∧ b = .int .u32 r2 ∧ c = .int .i64 k ∧ Hid (r2 = r / 256 ^ k) ∧ Hid (BtsAt wr2 w.heap.size a (lep r k)) ∧ Hid (Below w.heap.size w wr2)) (fun _ _ c _ => 4 - (intOf c).toNat)
  case atStart => exact ⟨0, r, by omega, hr, rfl, rfl, by show _ = _; simp, HN, HB⟩
  case round =>
    obtain ⟨k, r2, hk, hr2, rfl, rfl, HR, HT, HB3⟩ := hrel
    have hB3s := HB3.out.size
    have hls := lep_size r k
    by_cases ck : k < 4
    · have ck' : (k : Int) < 4 := by omega
      have HM : Hid (lep r (k + 1) = lep r k ++ strOfNums [(r2 : Int) % 256]) := by show _ = _; rw [lep, HR.out]; simp
      have HR2 : Hid (r2 / 256 = r / 256 ^ (k + 1)) := by show _ = _; rw [HR.out, Nat.div_div_eq_div_mul, Nat.pow_succ]
      have HOne : Hid (bcs (strOfNums [(r2 : Int) % 256]) = [.int .u8 ((r2 : Int) % 256)]) := bcs_one _ (by omega) (by omega)
      have HSz1 : Hid ((strOfNums [(r2 : Int) % 256]).size = 1) := nums_size _
      obtain ⟨tn, htn⟩ : ∃ tn, lep r (k + 1) = tn := ⟨_, rfl⟩
      have HTn := hid htn
      rw [htn] at HM
      clear htn
      generalize lep r k = tt at HT hls HM
      clear HR
      go_wp2_with (at_builtin; refine wpList_append_own _ rfl _ _ 106 rfl w.heap.size 5 i5 _ 1 1 Tryz.underlying106 q0 q1 q2 q3 rfl (by decide) _ tt.size _ rfl (World.ownsRow.alloc HT.out _) ⟨wr.heap.size, 0, none⟩ 1 1 [.int .u8 ((r2 : Int) % 256)] rfl rfl (one_cell _ _ _) (fun y hy => by simp at hy; subst hy; rfl) (by unfold maxLen; omega) (by omega) (by simp; omega) ?_; intro v' w5 ho5 hg5 _)
      have R1 : BtsAt w5 w.heap.size v' tn := by
        rw [HM.out]
        refine BtsAt.add ?_
        rw [HOne.out, HSz1.out]; exact ho5
      have R2 : Below w.heap.size w w5 := (HB3.out.alloc hB3s _).grown hg5 (by simp; omega) (fun k hk => (HT.out.lt k hk).1)
      have e2 : (r2 : Int) / 256 = ((r2 / 256 : Nat) : Int) := by omega
      refine ⟨⟨k + 1, r2 / 256, by omega, by omega, by first | rfl | (rw [e2]), by go_num, HR2, ?_, R2⟩, by simp [intOf]; omega⟩
      rw [HTn.out]; exact R1
    · have hke : k = 4 := by omega
      subst hke
      have HE : Hid (BtsAt wr w.heap.size u3 (sumB s)) := by show BtsAt _ _ _ _; rw [HSum.out]; exact HT.out
      clear HT hls
      go_wp2
      go_ret
      exact ⟨u3, rfl, HE.out, HB3.out⟩

set_option maxRecDepth 100000 in
set_option maxHeartbeats 4000000 in
theorem Of_any (w : World) (B : Nat) (v : Value) (l : List Nat) (h : NumsAt w B v l) (hl : 0 < l.length) (hlen : l.length ≤ 2000000) :
    Calls Tryz.prog 62 #[v] w fun e w' => e = .returned (.string (frameB (numsB l))) ∧ Below w.heap.size w w' := by
  obtain ⟨i5, q0, q1, q2, q3⟩ := info_parts Tryz.info5
  obtain ⟨g, c, hv, hg, _, hc1, hc2, _, hcell⟩ := h.at_ hl
  have HN := hid h.2
  have HI := hid hcell
  subst hv
  unfold maxLen at hc2
  clear h hcell
  have HSz : Hid (∀ k, k ≤ l.length → (numsB (l.take k)).size ≤ 41 * k) := fun k hk => by have := numsB_size (l.take k); rw [List.length_take] at this; omega
  go_enter Tryz.func62, Tryz.ntmps62
  go_wp2_with fail
  go_loopw [3, 12] (fun a b wr => ∃ k : Nat, k ≤ l.length ∧ b = .int .i64 k ∧ Hid (BtsAt wr w.heap.size a (numsB (l.take k))) ∧ Hid (Below w.heap.size w wr)) (fun _ b _ => l.length - (intOf b).toNat)
  case atStart => exact ⟨0, by omega, rfl, btsAt_nil w _ (Nat.le_refl _), (Below.refl _ _).alloc (Nat.le_refl _) _⟩
  case round =>
    obtain ⟨k, hk, rfl, HC, HB⟩ := hrel
    have hBs := HB.out.size
    by_cases ck : k < l.length
    · have ck' : (k : Int) < (l.length : Int) := by omega
      have d := (HB.out.cell (p := ⟨g, k, none⟩) hg).trans (HI.out k ck)
      have hx := HN.out (l[k]?.getD 0) (by rw [List.getElem?_eq_getElem ck]; exact List.getElem_mem ck)
      have HM := hid (numsB_more ck)
      have hz := HSz.out k hk
      generalize l[k]?.getD 0 = x at d hx HM
      generalize numsB (l.take k) = s at HC HM hz
      go_wp2_with fail
      refine (written_any wr x (by omega)).mono ?_
      rintro e w1 ⟨val, rfl, hV, hb1⟩
      have hp := nB_pos x
      have hq := nB_size x
      obtain ⟨zg, zc, hz1, hz2, hz3, hz4, hz5, _, _⟩ := hV.at_ (by omega)
      subst hz1
      have HV := hid hV
      have HC1 : Hid (BtsAt w1 w.heap.size u3 s) := HC.out.below hb1 (Nat.le_refl _)
      have HB1 : Hid (Below w.heap.size w w1) := HB.out.trans (hb1.mono hBs)
      have hB1s := HB1.out.size
      clear hV hb1
      go_wp2_with (at_builtin; refine wpList_append_own _ rfl _ _ 106 rfl w.heap.size 5 i5 _ 1 1 Tryz.underlying106 q0 q1 q2 q3 rfl (by decide) _ s.size _ rfl HC1.out ⟨zg, 0, none⟩ (nB x).size zc (bcs (nB x)) rfl (by rw [bcs_length]; omega) (bts_cells HV.out) (bcs_ones _) (by unfold maxLen; omega) (by omega) (by omega) ?_; intro v' w3 ho hg3 _)
      have R1 : BtsAt w3 w.heap.size v' (numsB (l.take (k + 1))) := by rw [HM.out]; exact BtsAt.add ho
      have R2 : Below w.heap.size w w3 := HB1.out.grown hg3 (by omega) (fun k hk => (HC1.out.lt k hk).1)
      exact ⟨⟨k + 1, by omega, by go_num, R1, R2⟩, by simp [intOf]; omega⟩
    · have hke : k = l.length := by omega
      have hz := HSz.out k hk
      subst hke
      have HC0 := HC.out
      rw [List.take_length] at HC0 hz
      have hp := numsB_pos hl
      obtain ⟨fr, hfr⟩ : ∃ fr, frameB (numsB l) = fr := ⟨_, rfl⟩
      have HFr : Hid (fr = nB (numsB l).size ++ numsB l ++ sumB (numsB l)) := by show _ = _; rw [← hfr]; rfl
      have HFe := hid hfr
      clear hfr
      generalize numsB l = s at HC0 hz hp HFr
      obtain ⟨cg, cc, hc3, hc4, _, hc6, hc7, _, hc8⟩ := HC0.at_ hp
      have HC1 := hid HC0
      subst hc3
      have HCell := hid hc8
      have hc9 := hc7
      unfold maxLen at hc9
      clear HC0 HC hc8
      go_wp2_with fail
      refine (written_any wr s.size (by omega)).mono ?_
      rintro e w1 ⟨val, rfl, hV, hb1⟩
      have hpn := nB_pos s.size
      have hqn := nB_size s.size
      have HV := hid hV
      have HC2 := hid (HC1.out.below hb1 (Nat.le_refl _))
      have HB1 : Hid (Below w.heap.size w w1) := HB.out.trans (hb1.mono hBs)
      have hb1s := hb1.size
      clear hV hb1 HC1 HCell
      generalize hn : nB s.size = hd at HV hpn hqn HFr
      clear hn
      go_wp2_with (at_builtin; refine wpList_append_own _ rfl _ _ 106 rfl wr.heap.size 5 i5 _ 1 1 Tryz.underlying106 q0 q1 q2 q3 rfl (by decide) _ hd.size _ rfl HV.out ⟨cg, 0, none⟩ s.size cc (bcs s) rfl (by rw [bcs_length]; omega) (bts_cells HC2.out) (bcs_ones _) (by unfold maxLen; omega) (by omega) (by omega) ?_; intro v2 w2 ho2 hg2 _)
      have HO2 : Hid (BtsAt w2 w.heap.size v2 (hd ++ s)) := (BtsAt.add ho2).mono hBs
      have HC3 : Hid (BtsAt w2 w.heap.size (.slice (some ⟨cg, 0, none⟩) s.size cc) s) := World.ownsRow.kept HC2.out hg2 (Or.inr (fun q => by have := (HV.out.lt cg q.symm).1; omega))
      have HB2 : Hid (Below w.heap.size w w2) := HB1.out.grown hg2 (by omega) (fun k hk => by have := (HV.out.lt k hk).1; omega)
      have hg2s := hg2.size
      clear ho2 hg2 HC2 HV
      have hcg : cg < w2.heap.size := by omega
      refine (seal_any w2 cg cc s (by omega) hcg hc6 (fun j hj => by have := bts_cells HC3.out j _ (bcs_at s j hj); rwa [addr_add, Nat.zero_add] at this)).mono ?_
      rintro e w3 ⟨v3, rfl, hS3, hb3⟩
      have s4 := sumB_size s
      obtain ⟨sg, sc, hs1, hs2, hs3, hs4, hs5, _, _⟩ := hS3.at_ (by omega)
      subst hs1
      have HS3 := hid hS3
      have hB2s := HB2.out.size
      have HO3 : Hid (BtsAt w3 w.heap.size v2 (hd ++ s)) := HO2.out.below hb3 (Nat.le_refl _)
      have HB3 : Hid (Below w.heap.size w w3) := HB2.out.trans (hb3.mono hB2s)
      have hB3s := HB3.out.size
      have hsz : (hd ++ s).size = hd.size + s.size := ByteArray.size_append
      have HE : Hid (fr = (hd ++ s) ++ sumB s) := HFr
      generalize hd ++ s = t at HO3 hsz HE
      clear HC3 hS3 hb3 HO2 HFr
      generalize sumB s = sm at HS3 s4 hs4 HE ⊢
      have HM : Hid (t.size + sm.size ≤ maxLen) := by show _ ≤ _; unfold maxLen; omega
      have HM2 : Hid (t.size + sm.size ≤ 1000000000) := by show _ ≤ _; omega
      have HP : Hid (0 < t.size + sm.size) := by show _ < _; omega
      clear s4 hs4
      go_wp2_with (at_builtin; refine wpList_append_own _ rfl _ _ 106 rfl w.heap.size 5 i5 _ 1 1 Tryz.underlying106 q0 q1 q2 q3 rfl (by decide) _ t.size _ rfl HO3.out ⟨sg, 0, none⟩ sm.size sc (bcs sm) rfl (by rw [bcs_length]; omega) (bts_cells HS3.out) (bcs_ones _) HM.out (by have := HM2.out; omega) (by have := HM2.out; omega) ?_; intro v5 w5 ho5 hg5 _)
      have HT : Hid (BtsAt w5 w.heap.size v5 (t ++ sm)) := BtsAt.add ho5
      have HB5 : Hid (Below w.heap.size w w5) := HB3.out.grown hg5 (by have := HB3.out.size; omega) (fun k hk => (HO3.out.lt k hk).1)
      have hts : (t ++ sm).size = t.size + sm.size := ByteArray.size_append
      clear ho5 hg5 HO3 HS3
      generalize t ++ sm = f at HT hts HE
      obtain ⟨fg, fc, hf, hf1, _, hf3, hf4, _, hf5⟩ := HT.out.at_ (by rw [hts]; exact HP.out)
      have hcv := bytes_conv _ fg fc f hf5
      subst hf
      clear hf5 HT hts hsz
      go_wp2
      first | (rw [hcv]; go_wp2; go_ret) | go_ret
      exact ⟨by rw [HFe.out, HE.out]; rfl, HB5.out⟩

end Go.Proofs.YtckallochdegiaaGreat
