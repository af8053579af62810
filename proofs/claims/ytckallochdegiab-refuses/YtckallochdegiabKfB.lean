import Derived.Test.YtckallochdegiabKfA
import Derived.Test.YtckallochdegiabFrA
import Derived.Laws.Bits64
namespace Go.Proofs.Ytckallochdegiab
set_option linter.unusedVariables false
set_option linter.unusedSimpArgs false
open Go.RowKit

theorem kbits_xor (a b : Nat) (ha : a < 9223372036854775808) (hb : b < 9223372036854775808) : bits .xor .i64 (a : Int) (b : Int) = ((a ^^^ b : Nat) : Int) := by
  have hx : a ^^^ b < 2 ^ 63 := Nat.xor_lt_two_pow (by omega) (by omega)
  have h1 : (BitVec.ofInt 64 (a : Int)).toNat = a := by rw [BitVec.ofInt_natCast, BitVec.toNat_ofNat]; exact Nat.mod_eq_of_lt (by omega)
  have h2 : (BitVec.ofInt 64 (b : Int)).toNat = b := by rw [BitVec.ofInt_natCast, BitVec.toNat_ofNat]; exact Nat.mod_eq_of_lt (by omega)
  show IntKind.i64.wrap ((BitVec.ofInt 64 (a : Int) ^^^ BitVec.ofInt 64 (b : Int)).toNat : Int) = _
  rw [BitVec.toNat_xor, h1, h2, IntKind.wrap_i64]
  omega
theorem kbits_and (a : Nat) (ha : a < 9223372036854775808) : bits .and .i64 (a : Int) 1 = ((a % 2 : Nat) : Int) := by
  have h1 : (BitVec.ofInt 64 (a : Int)).toNat = a := by rw [BitVec.ofInt_natCast, BitVec.toNat_ofNat]; exact Nat.mod_eq_of_lt (by omega)
  have h2 : (BitVec.ofInt 64 (1 : Int)).toNat = 1 := by rfl
  show IntKind.i64.wrap ((BitVec.ofInt 64 (a : Int) &&& BitVec.ofInt 64 (1 : Int)).toNat : Int) = _
  rw [BitVec.toNat_and, h1, h2, IntKind.wrap_i64, Nat.and_one_is_mod]
  omega

set_option maxRecDepth 100000 in
set_option maxHeartbeats 2000000 in
theorem ksum_any (w : World) (s : ByteArray) (hs : s.size ≤ 1000000000) :
    Calls Try.prog 47 #[.string s] w fun e w' => e = .returned (.int .i64 ((4294967295 - crcS s s.size : Nat) : Int)) ∧ w' = w := by
  go_enter Try.func47, Try.ntmps47
  go_wp2_with fail
  go_loopw [3, 4] (fun a b wr => ∃ (i r : Nat), i ≤ s.size ∧ r < 4294967296 ∧ a = .int .i64 r ∧ b = .int .i64 i ∧ wr = w ∧ Hid (r = crcS s i)) (fun _ b _ => s.size - (intOf b).toNat)
  case atStart => exact ⟨0, 4294967295, by omega, by omega, rfl, rfl, rfl, rfl⟩
  case round =>
    obtain ⟨i, r, hi, hr, rfl, rfl, hw, HC⟩ := hrel
    replace hw := hw.symm
    subst hw
    by_cases ci : i < s.size
    · have ci' : (i : Int) < (s.size : Int) := by omega
      have HB : byteAt s i = s[i].toNat := by rw [byteAt, dif_pos ci]
      have hb := byteAt_lt s i
      have HS : Hid (crcS s (i + 1) = crcShs 8 (r ^^^ byteAt s i)) := by show _ = _; rw [crc_byte hb, HC.out]; rfl
      have HX := hid (kbits_xor r (byteAt s i) (by omega) (by omega))
      have hlt : r ^^^ byteAt s i < 4294967296 := Nat.xor_lt_two_pow (n := 32) (by omega) (by omega)
      rw [HB] at hb HX hlt HS
      have hx := HX.out
      generalize hz : r ^^^ s[i].toNat = z at HS hx hlt
      have hwy : IntKind.i64.wrap (s[i].toNat : Int) = s[i].toNat := by rw [IntKind.wrap_i64]; omega
      clear HC hz HX HB
      go_wp2_with fail
      go_loopw [3, 5] (fun a b wr2 => ∃ (k r2 : Nat), k ≤ 8 ∧ r2 < 4294967296 ∧ a = .int .i64 r2 ∧ b = .int .i64 k ∧ wr2 = w ∧ Hid (r2 = crcShs k z)) (fun _ b _ => 8 - (intOf b).toNat)
      case atStart => exact ⟨0, z, by omega, hlt, by first | rfl | (rw [hx]), rfl, rfl, rfl⟩
      case round =>
        obtain ⟨k, r2, hk, hr2, rfl, rfl, hw, HC2⟩ := hrel
        replace hw := hw.symm
        subst hw
        by_cases dk : k < 8
        · have dk' : (k : Int) < 8 := by omega
          have HN : Hid (crcShs (k + 1) z = crcSh r2) := by show _ = _; rw [HC2.out]; rfl
          have HL := hid (crcSh_lt hr2)
          have HA := kbits_and r2 (by omega)
          have HY : bits .xor .i64 ((r2 : Int) / 2) 3988292384 = ((r2 / 2 ^^^ 3988292384 : Nat) : Int) := by
            have := kbits_xor (r2 / 2) 3988292384 (by omega) (by omega)
            rw [show (r2 : Int) / 2 = ((r2 / 2 : Nat) : Int) by omega]; exact this
          clear HC2 hx
          by_cases odd : r2 % 2 = 1
          · have HE : Hid (crcSh r2 = (r2 / 2) ^^^ 3988292384) := by show _ = _; unfold crcSh; rw [if_pos odd]
            rw [odd] at HA
            go_wp2
            first
              | exact ⟨⟨k + 1, _, by omega, HL.out, by rw [HE.out], by go_num, by trivial, HN.out.symm⟩, by simp [intOf]; omega⟩
              | (rw [HY]; exact ⟨⟨k + 1, _, by omega, HL.out, by rw [HE.out], by go_num, by trivial, HN.out.symm⟩, by simp [intOf]; omega⟩)
              | exact ⟨k, r2, odd⟩
          · have HE : Hid (crcSh r2 = r2 / 2) := by show _ = _; unfold crcSh; rw [if_neg odd]
            rw [show r2 % 2 = 0 by omega] at HA
            go_wp2
            have e2 : (r2 : Int) / 2 = ((r2 / 2 : Nat) : Int) := by omega
            first
              | exact ⟨⟨k + 1, _, by omega, HL.out, by rw [HE.out]; rfl, by go_num, by trivial, HN.out.symm⟩, by simp [intOf]; omega⟩
              | (rw [e2, ← HE.out]; exact ⟨⟨k + 1, _, by omega, HL.out, by rfl, by go_num, by trivial, HN.out.symm⟩, by simp [intOf]; omega⟩)
              | exact ⟨k, r2, odd⟩
        · have hke : k = 8 := by omega
          have HC3 : Hid (r2 = crcS s (i + 1)) := by show _ = _; rw [HS.out, HC2.out, hke]
          clear hke HC2
          have dk' : ¬ (k : Int) < 8 := by omega
          go_wp2
          exact ⟨⟨i + 1, r2, by omega, hr2, by trivial, by go_num, by trivial, HC3⟩, by simp [intOf]; omega⟩
    · have hie : i = s.size := by omega
      have ci' : ¬ (i : Int) < (s.size : Int) := by omega
      have HF : Hid (4294967295 - crcS s s.size = r ^^^ 4294967295) := by show _ = _; rw [xor_ones hr, HC.out, hie]
      clear hie HC
      have HX : bits .xor .i64 (r : Int) 4294967295 = ((r ^^^ 4294967295 : Nat) : Int) := kbits_xor r 4294967295 (by omega) (by omega)
      go_wp2
      go_ret
      exact ⟨by rw [HF.out]; first | rfl | (rw [HX]; rfl), rfl⟩
end Go.Proofs.Ytckallochdegiab
