import Derived.Test.YtckallochdegiaaGreatNum
import Derived.Test.YtckallochdegiaaGreatByP
import Derived.Laws.Bits64
import Derived.Test.YtckallochdegiaaGreatSorted
import Derived.Test.YtckallochdegiaaGreatRound
namespace Go.Proofs.YtckallochdegiaaGreat
set_option linter.unusedVariables false
set_option linter.unusedSimpArgs false
open Go.RowKit

set_option maxRecDepth 100000 in
set_option maxHeartbeats 1000000 in
theorem number_F (k : Nat) : ∀ (w : World) (n : Nat), n < 128 * 2 ^ k → k ≤ 56 → Calls Tryz.prog 71 #[.int .i64 n] w fun e w' => e = .returned (.string (numB k n)) ∧ Below w.heap.size w w' := by
  induction k with
  | zero =>
    intro w n hn hk
    have c' : (n : Int) < 128 := by omega
    have hcv := conv1 w n
    have HS : Hid (numB 0 n = strOfNums [(n : Int)]) := by show _ = _; rfl
    generalize strOfNums [(n : Int)] = s at hcv HS
    go_enter Tryz.func71, Tryz.ntmps71
    go_wp2
    go_ret
    exact ⟨by rw [HS.out]; rfl, (Below.refl _ _).alloc (Nat.le_refl _) _⟩
  | succ k ih =>
    intro w n hn hk
    by_cases c : n < 128
    · have c' : (n : Int) < 128 := by omega
      have hcv := conv1 w n
      have HS : Hid (numB (k + 1) n = strOfNums [(n : Int)]) := by show _ = _; rw [numB, if_pos c]
      generalize strOfNums [(n : Int)] = s at hcv HS
      go_enter Tryz.func71, Tryz.ntmps71
      go_wp2
      go_ret
      exact ⟨by rw [HS.out]; rfl, (Below.refl _ _).alloc (Nat.le_refl _) _⟩
    · have c' : ¬ (n : Int) < 128 := by omega
      have n63 : n < 2 ^ 63 := by
        have : 2 ^ (k + 1) ≤ 2 ^ 56 := Nat.pow_le_pow_right (by omega) hk
        omega
      have hq : (n : Int).tdiv 128 = ((n / 128 : Nat) : Int) := by rw [Int.tdiv_eq_ediv_of_nonneg (by omega)]; omega
      have hr : (n : Int).tmod 128 = ((n % 128 : Nat) : Int) := by rw [Int.tmod_eq_emod_of_nonneg (by omega)]; omega
      have HN : Hid (n / 128 < 128 * 2 ^ k) := by
        have : 2 ^ (k + 1) = 2 * 2 ^ k := by rw [Nat.pow_succ, Nat.mul_comm]
        show _ < _
        omega
      have HK : Hid (k ≤ 56) := by show _ ≤ _; omega
      have HX : Hid (numB (k + 1) n = strOfNums [IntKind.u8.wrap (128 + ((n % 128 : Nat) : Int))] ++ numB k (n / 128)) := by show _ = _; rw [numB, if_neg c]
      have HIH := hid ih
      clear ih hn hk
      have m1 : n / 128 < 2 ^ 60 := by omega
      have m2 : n % 128 < 128 := by omega
      generalize n / 128 = q at hq HN m1 HX
      generalize n % 128 = r at hr m2 HX
      have hw1 : IntKind.i64.wrap (128 + (r : Int)) = 128 + r := by rw [IntKind.wrap_i64]; omega
      have hw2 : IntKind.i64.wrap (q : Int) = q := by rw [IntKind.wrap_i64]; omega
      have hcv := fun x => conv1d w x
      have hsz := numB_size k q
      have hsum := num_sum (s := numB k q) (by have := HK.out; omega)
      go_enter Tryz.func71, Tryz.ntmps71
      go_wp2_with fail
      go_region_with (first
        | (go_at_call 71; refine (HIH.out (w.alloc (.cells #[.int .u8 (IntKind.u8.wrap (128 + (r : Int)))] 5)).drew q HN.out HK.out).mono ?_; rintro e w1 ⟨rfl, hb⟩; have hc2 := conv1b w w1 _ (num_cell hb); have HB := hid (below_adrew hb); clear hb)
        | (go_at_call 71; refine (HIH.out w.drew q HN.out HK.out).mono ?_; rintro e w1 ⟨rfl, hb⟩; have hc2 := fun x => conv1 w1 x; have HB := hid (below_drew hb); clear hb))
      all_goals
        go_wp2
        go_ret
        refine ⟨by rw [HX.out]; rfl, ?_⟩
        first
          | exact HB.out
          | exact HB.out.alloc HB.out.size _
          | exact (HB.out.alloc HB.out.size _).drew

end Go.Proofs.YtckallochdegiaaGreat
namespace Go.Proofs.YtckallochdegiaaGreat
set_option linter.unusedVariables false
set_option linter.unusedSimpArgs false
open Go.RowKit

theorem bits_xor_i64_nat (a b : Nat) (ha : a < 9223372036854775808) (hb : b < 9223372036854775808) : bits .xor .i64 (a : Int) (b : Int) = ((a ^^^ b : Nat) : Int) := by
  have hx : a ^^^ b < 2 ^ 63 := Nat.xor_lt_two_pow (by omega) (by omega)
  have h1 : (BitVec.ofInt 64 (a : Int)).toNat = a := by rw [BitVec.ofInt_natCast, BitVec.toNat_ofNat]; exact Nat.mod_eq_of_lt (by omega)
  have h2 : (BitVec.ofInt 64 (b : Int)).toNat = b := by rw [BitVec.ofInt_natCast, BitVec.toNat_ofNat]; exact Nat.mod_eq_of_lt (by omega)
  show IntKind.i64.wrap ((BitVec.ofInt 64 (a : Int) ^^^ BitVec.ofInt 64 (b : Int)).toNat : Int) = _
  rw [BitVec.toNat_xor, h1, h2, IntKind.wrap_i64]
  omega
theorem bits_and_i64_one (a : Nat) (ha : a < 9223372036854775808) : bits .and .i64 (a : Int) 1 = ((a % 2 : Nat) : Int) := by
  have h1 : (BitVec.ofInt 64 (a : Int)).toNat = a := by rw [BitVec.ofInt_natCast, BitVec.toNat_ofNat]; exact Nat.mod_eq_of_lt (by omega)
  have h2 : (BitVec.ofInt 64 (1 : Int)).toNat = 1 := by rfl
  show IntKind.i64.wrap ((BitVec.ofInt 64 (a : Int) &&& BitVec.ofInt 64 (1 : Int)).toNat : Int) = _
  rw [BitVec.toNat_and, h1, h2, IntKind.wrap_i64, Nat.and_one_is_mod]
  omega

theorem crc_cond {c k r : Nat} (hc : c < 256) (hr : r < 4294967296) : bits BinOp.xor IntKind.i64 (bits BinOp.and IntKind.i64 ((c : Int) / 2 ^ k) 1) (bits BinOp.and IntKind.i64 (r : Int) 1) = (((c / 2 ^ k % 2) ^^^ (r % 2) : Nat) : Int) := by
  have e1 : (c : Int) / 2 ^ k = ((c / 2 ^ k : Nat) : Int) := by simp
  have l : c / 2 ^ k ≤ c := Nat.div_le_self _ _
  rw [e1, bits_and_i64_one _ (by omega), bits_and_i64_one _ (by omega), bits_xor_i64_nat _ _ (by omega) (by omega)]
theorem crc_xor {r : Nat} (hr : r < 4294967296) : bits BinOp.xor IntKind.i64 ((r : Int) / 2) 3988292384 = ((r / 2 ^^^ 3988292384 : Nat) : Int) := by
  have e : (r : Int) / 2 = ((r / 2 : Nat) : Int) := by omega
  rw [e]
  exact bits_xor_i64_nat (r / 2) 3988292384 (by omega) (by omega)

set_option maxRecDepth 100000 in
set_option maxHeartbeats 2000000 in
theorem sum_F (w : World) (s : ByteArray) (hs : s.size ≤ 2 ^ 40) : Calls Tryz.prog 31 #[.string s] w fun e w' => e = .returned (.string (sumB s)) ∧ Below w.heap.size w w' := by
  go_enter Tryz.func31, Tryz.ntmps31
  go_wp2_with fail
  go_loopw [3, 4] (fun a b wr => ∃ (i : Nat) (r : Nat), i ≤ s.size ∧ r < 4294967296 ∧ a = .int .i64 r ∧ b = .int .i64 i ∧ wr = w ∧ Hid (r = crcS s i)) (fun _ b _ => s.size - (intOf b).toNat)
  case atStart => exact ⟨0, 4294967295, by omega, by omega, rfl, rfl, rfl, rfl⟩
  case round =>
    obtain ⟨i, r, hi, hr, rfl, rfl, rfl, HC⟩ := hrel
    by_cases c : i < s.size
    · have c' : (i : Int) < (s.size : Int) := by omega
      have HB : Hid (byteAt s i = s[i].toNat) := by show _ = _; rw [byteAt, dif_pos c]
      have HS : Hid (crcS s (i + 1) = crcByte (byteAt s i) 8 r) := by show _ = _; rw [HC.out]; rfl
      have hb := s[i].toNat_lt
      clear HC
      go_wp2_with fail
      go_loopw [3, 5] (fun a b wr2 => ∃ (k : Nat) (r2 : Nat), k ≤ 8 ∧ r2 < 4294967296 ∧ a = .int .i64 r2 ∧ b = .int .i64 k ∧ wr2 = wr ∧ Hid (r2 = crcByte (byteAt s i) k r)) (fun _ b _ => 8 - (intOf b).toNat)
      case atStart => exact ⟨0, r, by omega, hr, rfl, rfl, rfl, rfl⟩
      case round =>
        obtain ⟨k, r2, hk, hr2, rfl, rfl, rfl, HC2⟩ := hrel
        by_cases d : k < 8
        · have d' : (k : Int) < 8 := by omega
          have HN : Hid (crcByte (byteAt s i) (k + 1) r = crcBit s[i].toNat k r2) := by show _ = _; rw [HC2.out, crcByte, HB.out]
          have HL := hid (crcBit_lt s[i].toNat k hr2)
          have HX := hid (crc_cond (k := k) hb hr2)
          have HY := hid (crc_xor hr2)
          clear HC2
          go_wp2
          · rename_i hc
            rw [HX.out] at hc
            have e : crcBit s[i].toNat k r2 = r2 / 2 ^^^ 3988292384 := by unfold crcBit; rw [if_pos (by simp only [beq_iff_eq] at hc; omega)]
            rw [HY.out, ← e]
            exact ⟨⟨k + 1, _, by omega, HL.out, rfl, by go_num, by trivial, HN.out.symm⟩, by simp [intOf]; omega⟩
          · rename_i hc
            rw [HX.out] at hc
            have e : crcBit s[i].toNat k r2 = r2 / 2 := by unfold crcBit; rw [if_neg (by simp only [beq_eq_false_iff_ne, ne_eq] at hc; omega)]
            have e2 : (r2 : Int) / 2 = ((r2 / 2 : Nat) : Int) := by omega
            rw [e2, ← e]
            exact ⟨⟨k + 1, _, by omega, HL.out, rfl, by go_num, by trivial, HN.out.symm⟩, by simp [intOf]; omega⟩
        · have hke : k = 8 := by omega
          have HC3 : Hid (r2 = crcS s (i + 1)) := by show _ = _; rw [HS.out, HC2.out, hke]
          clear hke HC2
          have d' : ¬ (k : Int) < 8 := by omega
          go_wp2
          exact ⟨⟨i + 1, r2, by omega, hr2, by trivial, by go_num, by trivial, HC3⟩, by simp [intOf]; omega⟩
    · have c' : ¬ (i : Int) < (s.size : Int) := by omega
      have hie : i = s.size := by omega
      have HF : Hid (sumB s = le4 (4294967295 - r)) := by show _ = _; rw [sumB, HC.out, hie]
      clear hie HC
      have hcv := conv4 wr
      go_wp2
      go_ret
      refine ⟨?_, (Below.refl _ _).alloc (Nat.le_refl _) _⟩
      have e : le4 (4294967295 - r) = strOfNums [(4294967295 - (r : Int)) % 256, (4294967295 - (r : Int)) / 256 % 256, (4294967295 - (r : Int)) / 65536 % 256, (4294967295 - (r : Int)) / 16777216] := by
        have q : ((4294967295 - r : Nat) : Int) = 4294967295 - (r : Int) := by omega
        unfold le4
        congr 1
        simp only [List.cons.injEq, and_true]
        refine ⟨by omega, by omega, by omega, by omega⟩
      rw [HF.out, e]
      rfl

set_option maxRecDepth 100000 in
set_option maxHeartbeats 2000000 in
theorem frame_F (w : World) (s : ByteArray) (hs : s.size ≤ 2 ^ 40) : Calls Tryz.prog 73 #[.string s] w fun e w' => e = .returned (.string (frameB s)) ∧ Below w.heap.size w w' := by
  have HD : Hid (frameB s = numB 40 s.size ++ s ++ sumB s) := by show _ = _; rfl
  have z1 := numB_size 40 s.size
  have z2 := sumB_size s
  have h1 : ¬ 9223372036854775807 < (numB 40 s.size).size + s.size := by omega
  have hsz : (numB 40 s.size ++ s).size = (numB 40 s.size).size + s.size := ByteArray.size_append
  have h2 : ¬ 9223372036854775807 < (numB 40 s.size ++ s).size + (sumB s).size := by omega
  go_enter Tryz.func73, Tryz.ntmps73
  go_wp2_with fail
  refine (number_F 40 _ s.size (by omega) (by omega)).mono ?_
  rintro e w1 ⟨rfl, hb1⟩
  have HB1 := hid hb1
  clear hb1 hsz z1 z2
  go_wp2_with fail
  refine (sum_F _ s hs).mono ?_
  rintro e w2 ⟨rfl, hb2⟩
  have HB2 : Hid (Below w.heap.size w w2) := HB1.out.trans (hb2.mono HB1.out.size)
  clear hb2
  go_wp2
  go_ret
  exact ⟨by rw [HD.out]; rfl, HB2.out⟩
end Go.Proofs.YtckallochdegiaaGreat
namespace Go.Proofs.YtckallochdegiaaGreat
set_option linter.unusedVariables false
set_option linter.unusedSimpArgs false
open Go.RowKit

/-- What sorted answers. -/
def SortedF (es : List Edg) (w : World) (e : Ending) (w' : World) : Prop := ∃ v', e = .returned v' ∧ SortAt w' w.heap.size v' (sortE es) es ∧ (sortE es).length = es.length ∧ Below w.heap.size w w'

set_option maxRecDepth 100000 in
set_option maxHeartbeats 1000000 in
theorem sorted_F (w : World) (es : List Edg) (ev : Value) (hE : Edges w ev es) (hl : es.length ≤ 2400) :
    Calls Tryz.prog 70 #[ev] w (SortedF es w) := by
  obtain ⟨i93, q0, q1, q2, q3⟩ := info_parts Tryz.info89
  obtain ⟨p, cap, hv⟩ : ∃ p cap, ev = .slice p es.length cap := by
    rcases hE with ⟨rfl, rfl⟩ | ⟨b, cap, h⟩
    · exact ⟨_, _, rfl⟩
    · exact ⟨_, _, h.hv⟩
  subst hv
  have HE := hid hE
  clear hE
  go_enter Tryz.func70, Tryz.ntmps70
  go_wp2_with fail
  go_loopw [3, 9] (fun a b wr => ∃ (m : Nat) (out : List Edg), m ≤ es.length ∧ out.length = m ∧ b = .int .i64 m ∧ Hid (SortAt wr w.heap.size a out es) ∧ Hid (Below w.heap.size w wr) ∧ Hid (out = sortE (es.take m))) (fun _ b _ => es.length - (intOf b).toNat)
  case atStart => exact ⟨0, [], by omega, rfl, rfl, ⟨World.ownsRow_nil _ _ _ _, fun e he => by simp at he, fun _ => rfl⟩, Below.refl _ _, by show _ = _; simp [sortE]⟩
  case round =>
    obtain ⟨m, out, hm, hom, rfl, hS, hB, HSo⟩ := hrel
    have hsz := hB.out.size
    have hol : out.length ≤ 2400 := by omega
    have HOm := hid hom
    clear hom
    by_cases c : m < es.length
    · have c' : (m : Int) < (es.length : Int) := by omega
      obtain ⟨eb, ecap, hEA, hev⟩ := (HE.out.below hB.out (Nat.le_refl _)).at_ c
      simp only [Value.slice.injEq] at hev
      obtain ⟨hp, _, hcap⟩ := hev
      subst hp hcap
      have a0 := hEA.c0 m c
      have a1 := hEA.c1 m c
      have a2 := hEA.c2 m c
      have a3 := hEA.c3 m c
      have hlt := hEA.lt
      have hmem : es[m]?.getD Go.Proofs.YtckallochdegiaaGreat.e0 ∈ es := by rw [get_eq c]; exact List.getElem_mem c
      have HMem := hid hmem
      clear hEA hmem
      obtain ⟨x, hx⟩ : ∃ x, x = es[m]?.getD Go.Proofs.YtckallochdegiaaGreat.e0 := ⟨_, rfl⟩
      have HNx : Hid (sortE (es.take (m + 1)) = insE out x) := by show _ = _; rw [sortE_more c, hx, ← HSo.out]
      clear HSo
      rw [← hx] at a0 a1 a2 a3 HMem
      clear hx
      obtain ⟨xu, xv, xl, xt⟩ := x
      simp only at a0 a1 a2 a3
      go_wp2_with fail
      clear a0 a1 a2 a3
      obtain ⟨wE, hwE⟩ : ∃ wE : World, wE = wr.alloc (.cells #[.int .i64 xu, .int .i64 xv, .int .i64 xl, .bool xt] 89) := ⟨_, rfl⟩
      have HS1 : Hid (SortAt wE w.heap.size u3 out es) := by rw [hwE]; exact hS.out.below ((Below.refl _ _).alloc (Nat.le_refl _) _) (Nat.le_refl _)
      have HB1 : Hid (Below w.heap.size w wE) := by rw [hwE]; exact hB.out.alloc hsz _
      have HC : Hid (∀ j, wE.cell? ⟨wr.heap.size, j, none⟩ = #[Value.int .i64 xu, .int .i64 xv, .int .i64 xl, .bool xt][j]?) := by rw [hwE]; exact fun j => new_cell _ _ _ j
      have hsE : wE.heap.size = wr.heap.size + 1 := by rw [hwE]; simp
      rw [← hwE]
      clear hwE hS hB
      obtain ⟨xb, hxb⟩ : ∃ xb, xb = wr.heap.size := ⟨_, rfl⟩
      rw [← hxb] at HC hsE ⊢
      have hxb2 : w.heap.size ≤ xb := by omega
      clear hxb hsz hlt wr
      go_loopw [6] (fun a wr => ∃ k : Nat, k ≤ out.length ∧ a = .int .i64 k ∧ Hid (Below wE.heap.size wE wr) ∧ Hid (∀ j, j < k → ltE (out[j]?.getD Go.Proofs.YtckallochdegiaaGreat.e0) ⟨xu, xv, xl, xt⟩ = true)) (fun a _ => out.length - (intOf a).toNat)
      case atStart => exact ⟨0, by omega, rfl, Below.refl _ _, fun j hj => by omega⟩
      case round =>
        obtain ⟨k, hk, rfl, hBi, HJ⟩ := hrel
        have hsi := hBi.out.size
        have HSi : Hid (SortAt wr w.heap.size u3 out es) := HS1.out.below hBi.out (Nat.le_refl _)
        have z0 : wr.cell? ⟨xb, 0, none⟩ = some (.int .i64 xu) := by rw [hBi.out.cell (p := ⟨xb, 0, none⟩) (by show xb < _; omega)]; exact HC.out 0
        have z1 : wr.cell? ⟨xb, 1, none⟩ = some (.int .i64 xv) := by rw [hBi.out.cell (p := ⟨xb, 1, none⟩) (by show xb < _; omega)]; exact HC.out 1
        have z2 : wr.cell? ⟨xb, 2, none⟩ = some (.int .i64 xl) := by rw [hBi.out.cell (p := ⟨xb, 2, none⟩) (by show xb < _; omega)]; exact HC.out 2
        have z3 : wr.cell? ⟨xb, 3, none⟩ = some (.bool xt) := by rw [hBi.out.cell (p := ⟨xb, 3, none⟩) (by show xb < _; omega)]; exact HC.out 3
        go_wp2_with fail
        go_cut [46] from 13 to 48 (fun x wx => ∃ bd : Bool, x = .bool bd ∧ (bd = true → k < out.length) ∧ Hid (k < out.length → ltE (out[k]?.getD Go.Proofs.YtckallochdegiaaGreat.e0) ⟨xu, xv, xl, xt⟩ = bd) ∧ Hid (Below wr.heap.size wr wx))
        case first =>
          by_cases ho : out = []
          · have hu := HSi.out.2.2 ho
            subst hu
            have HZ : Hid (k < out.length → ltE (out[k]?.getD Go.Proofs.YtckallochdegiaaGreat.e0) ⟨xu, xv, xl, xt⟩ = false) := fun q => by rw [ho] at q; simp at q
            have hk0 : ((k : Int) < 0) = False := by simp
            have hk1 : decide ((k : Int) < 0) = false := by simp
            clear ho hk HSi HS1
            go_quiet (fail)
            go_wp2
            go_meet
            case rel => exact ⟨false, rfl, fun q => by simp at q, HZ, Below.drewN' _ (Below.refl _ _)⟩
          · obtain ⟨ob, ocap, hO, hBo⟩ := HSi.out.eat ho
            have hu := hO.hv
            subst hu
            have o1 := hO.le
            have o2 := hO.mx
            unfold maxLen at o2
            by_cases d : k < out.length
            · have HD := hid d
              have d9 : decide (k < out.length) = true := by simpa using d
              have d' : (k : Int) < (out.length : Int) := by omega
              have b0 := hO.c0 k d
              have b1 := hO.c1 k d
              clear hO
              obtain ⟨y, hy⟩ : ∃ y, y = out[k]?.getD Go.Proofs.YtckallochdegiaaGreat.e0 := ⟨_, rfl⟩
              rw [← hy] at b0 b1
              have HY : Hid (out[k]?.getD Go.Proofs.YtckallochdegiaaGreat.e0 = y) := hy.symm
              clear hy
              obtain ⟨yu, yv, yl, yt⟩ := y
              simp only at b0 b1
              by_cases e1 : yu < xu
              · have f1 : decide (yu < xu) = true := by simpa using e1
                go_quiet (fail)
                go_wp2
                go_meet
                case rel => exact ⟨true, rfl, fun _ => HD.out, fun _ => by rw [HY.out]; simp [ltE, e1], Below.drewN' _ (Below.refl _ _)⟩
              · have f1 : decide (yu < xu) = false := by simpa using e1
                by_cases e2 : yu = xu
                · have f2 : (yu == xu) = true := by simpa using e2
                  have HE2 := hid e2
                  clear e2
                  go_quiet (fail)
                  go_wp2
                  go_meet
                  case rel => exact ⟨_, rfl, fun _ => HD.out, fun _ => by rw [HY.out]; have := HE2.out; simp [ltE, this], Below.drewN' _ (Below.refl _ _)⟩
                · have f2 : (yu == xu) = false := by simpa using e2
                  go_quiet (fail)
                  go_wp2
                  go_meet
                  case rel => exact ⟨false, rfl, fun q => by simp at q, fun _ => by rw [HY.out]; simp [ltE, e2]; omega, Below.drewN' _ (Below.refl _ _)⟩
            · have d' : ¬ (k : Int) < (out.length : Int) := by omega
              have d2 : decide (k < out.length) = false := by simpa using d
              go_quiet (fail)
              go_wp2
              go_meet
              case rel => exact ⟨false, rfl, fun q => by simp at q, fun q => absurd q d, Below.drewN' _ (Below.refl _ _)⟩
        case rest =>
          obtain ⟨bd, rfl, hbd, HQ, hB2⟩ := hcut
          have HB3 : Hid (Below wE.heap.size wE wc) := hBi.out.trans (hB2.out.mono hsi)
          have HS3 : Hid (SortAt wc w.heap.size u3 out es) := HSi.out.below hB2.out (Nat.le_refl _)
          clear z0 z1 z2 z3 HSi
          cases bd
          · clear hbd
            have HIn : Hid (sortE (es.take (m + 1)) = out.take k ++ ([⟨xu, xv, xl, xt⟩] ++ out.drop k)) := by show _ = _; rw [HNx.out, insE_at hk HJ.out HQ.out]
            clear HNx HJ HQ
            have hsE3 := HB3.out.size
            have HBw : Hid (Below w.heap.size w wc) := HB1.out.trans (HB3.out.mono (by omega))
            have z0 : wc.cell? ⟨xb, 0, none⟩ = some (.int .i64 xu) := by rw [HB3.out.cell (p := ⟨xb, 0, none⟩) (by show xb < _; omega)]; exact HC.out 0
            have z1 : wc.cell? ⟨xb, 1, none⟩ = some (.int .i64 xv) := by rw [HB3.out.cell (p := ⟨xb, 1, none⟩) (by show xb < _; omega)]; exact HC.out 1
            have z2 : wc.cell? ⟨xb, 2, none⟩ = some (.int .i64 xl) := by rw [HB3.out.cell (p := ⟨xb, 2, none⟩) (by show xb < _; omega)]; exact HC.out 2
            have z3 : wc.cell? ⟨xb, 3, none⟩ = some (.bool xt) := by rw [HB3.out.cell (p := ⟨xb, 3, none⟩) (by show xb < _; omega)]; exact HC.out 3
            have HM : Hid (∀ m : Nat, m ≤ 20000 → m ≤ maxLen) := fun m hm => by unfold maxLen; omega
            have HL : Hid ((wc.alloc (.cells #[.int .i64 xu, .int .i64 xv, .int .i64 xl, .bool xt] 89)).drew.ownsRow wc.heap.size 89 4 (.slice (some ⟨wc.heap.size, 0, none⟩) 1 1) 1 (eCells [⟨xu, xv, xl, xt⟩])) :=
              World.ownsRow_lit wc #[.int .i64 xu, .int .i64 xv, .int .i64 xl, .bool xt] 1 (Nat.le_refl _) (by unfold maxLen; omega) rfl
            have hwc : w.heap.size ≤ wc.heap.size := by omega
            by_cases ho : out = []
            · have hu := HS3.out.2.2 ho
              subst hu
              have hk0 : k = 0 := by rw [ho] at hk; simpa using hk
              have HO := hid ho
              have HIn2 : Hid ([⟨xu, xv, xl, xt⟩] = sortE (es.take (m + 1))) := by show _ = _; rw [HIn.out, ho]; simp
              clear ho hk HIn
              subst hk0
              go_wp2_with fail
              go_region_law (first
                | (refine step_append_none rfl (.tmp 54) (.tmp 57) 42 rfl wc.heap.size 89 i93 4 Tryz.underlying42 q0 (.slice (some ⟨wc.heap.size, 0, none⟩) 1 1) 1 _ (by simp [Act.eval, Act.put]) HL.out (by simp [Act.eval, Act.put]) ?_)
                | (refine step_append_grows rfl (.tmp 52) (.tmp 58) 42 rfl 89 i93 _ 4 32 Tryz.underlying42 q0 q1 q2 q3 rfl (by decide) none 0 0 [] (by simp [Act.eval, Act.put]) (fun _ => ⟨rfl, rfl⟩) rfl (fun b hb => by simp at hb) ⟨wc.heap.size, 0, none⟩ 1 1 (eCells [⟨xu, xv, xl, xt⟩]) (by simp [Act.eval, Act.put]) rfl (HL.out.cells rfl) (edges_one _) (by omega) (HM.out _ (by omega)) (by omega) ?_; intro v2 w5 ho5 hg5; have HO5 := hid ho5; have HG5 := hid hg5; clear ho5 hg5))
              all_goals
                have R1 : Hid (SortAt w5 w.heap.size v2 [⟨xu, xv, xl, xt⟩] es) := ⟨owns_mono HO5.out (by show w.heap.size ≤ (wc.alloc _).heap.size; simp; omega), fun e he => by simp at he; subst he; exact HMem.out, fun q => by simp at q⟩
                have R2 : Hid (Below w.heap.size w w5) := ((HBw.out.alloc hwc _).drew).grown HG5.out (by show w.heap.size ≤ (wc.alloc _).heap.size; simp; omega) (fun k hk => by simp at hk)
                clear HO5 HG5
                go_wp2
                exact ⟨⟨m + 1, [⟨xu, xv, xl, xt⟩], by omega, by have := HOm.out; rw [HO.out] at this; simp at this; simp; omega, by go_num, R1, R2, HIn2⟩, by simp [intOf]; omega⟩
            · obtain ⟨ob, ocap, hO, hBo⟩ := HS3.out.eat ho
              have hu := hO.hv
              subst hu
              have HO := hid hO
              have o1 := hO.le
              have o2 := hO.mx
              unfold maxLen at o2
              clear hO ho
              have HOle : Hid (k ≤ out.length) := hk
              have HN1 : Hid ((eCells (out.take k)).length = k * 4) := by show _ = _; rw [eCells_length, List.length_take]; omega
              have HN2 : Hid ((eCells (out.drop k)).length = (out.length - k) * 4) := by show _ = _; rw [eCells_length, List.length_drop]
              have HN3 : Hid ((eCells [⟨xu, xv, xl, xt⟩] ++ eCells (out.drop k)).length = (1 + (out.length - k)) * 4) := by show _ = _; rw [List.length_append, eCells_length, eCells_length, List.length_drop]; simp; omega
              have HN4 : Hid (∀ u ∈ eCells [⟨xu, xv, xl, xt⟩] ++ eCells (out.drop k), u.oneCell' = true) := fun u hu => by rw [← eCells_append] at hu; exact edges_one _ u hu
              have hq1 : (k : Int) ≤ (out.length : Int) := by omega
              have hq2 : k ≤ ocap := by omega
              have hq3 : (k : Int) ≤ (ocap : Int) := by omega
              by_cases hcap : ocap = k
              · subst hcap
                have hdr : out.drop ocap = [] := List.drop_eq_nil_of_le o1
                have HDr := hid hdr
                clear hdr
                go_wp2_with fail
                go_region_law (refine step_append_grows rfl (.tmp 52) (.tmp 58) 42 rfl 89 i93 _ 4 32 Tryz.underlying42 q0 q1 q2 q3 rfl (by decide) (some ⟨ob, 0, none⟩) ocap ocap (eCells (out.take ocap)) (by simp [Act.eval, Act.put]) (fun q => by simp at q) HN1.out (fun b hb j u hj => by simp at hb; subst hb; exact (HO.out.below ((Below.refl _ _).alloc (Nat.le_refl _) _).drew (Nat.le_refl _)).takeC ocap j u hj) ⟨wc.heap.size, 0, none⟩ 1 1 (eCells [⟨xu, xv, xl, xt⟩]) (by simp [Act.eval, Act.put]) rfl (HL.out.cells rfl) (edges_one _) (by omega) (HM.out _ (by omega)) (by omega) ?_; intro v2 w5 ho5 hg5; have HO5 := hid ho5; have HG5 := hid hg5; clear ho5 hg5)
                all_goals
                  have R1 : Hid (SortAt w5 w.heap.size v2 (out.take ocap ++ ([⟨xu, xv, xl, xt⟩] ++ out.drop ocap)) es) := sort_done2 HO5.out HOle.out hwc HS3.out.2.1 HMem.out HDr.out
                  have R2 : Hid (Below w.heap.size w w5) := ((HBw.out.alloc hwc _).drew).grown HG5.out (by show w.heap.size ≤ (wc.alloc _).heap.size; simp; omega) (fun k hk => by simp at hk)
                  clear HO5 HG5
                  go_wp2
                  exact ⟨⟨m + 1, _, by omega, by rw [sort_len _ HOle.out]; have := HOm.out; omega, by go_num, R1, R2, HIn.out.symm⟩, by simp [intOf]; omega⟩
              · have hcap2 : ¬ ocap - k = 0 := by omega
                go_wp2_with fail
                go_region_law (first
                  | (refine step_append_mine rfl (.tmp 54) (.tmp 57) 42 rfl wc.heap.size 89 i93 _ 4 32 Tryz.underlying42 q0 q1 q2 q3 rfl (by decide) (.slice (some ⟨wc.heap.size, 0, none⟩) 1 1) 1 (eCells [⟨xu, xv, xl, xt⟩]) (by simp [Act.eval, Act.put]) HL.out ⟨ob, k * 4, none⟩ (out.length - k) (ocap - k) (eCells (out.drop k)) (by simp [Act.eval, Act.put]) HN2.out ((HO.out.below ((Below.refl _ _).alloc (Nat.le_refl _) _).drew (Nat.le_refl _)).dropC k _ (Or.inl rfl)) (edges_one _) (HM.out _ (by omega)) (by omega) (by show wc.heap.size ≤ (wc.alloc _).heap.size; simp) ?_; intro v1 w4 ho1 hg1; obtain ⟨g1, c1, hv1⟩ := owns_form1 ho1 (by omega); subst hv1; have HO1 := hid ho1; have HG1 := hid hg1; clear ho1 hg1)
                  | (refine step_append_grows rfl (.tmp 52) (.tmp 58) 42 rfl 89 i93 _ 4 32 Tryz.underlying42 q0 q1 q2 q3 rfl (by decide) (some ⟨ob, 0, none⟩) k k (eCells (out.take k)) (by simp [Act.eval, Act.put]) (fun q => by simp at q) HN1.out (fun b hb j u hj => by simp at hb; subst hb; exact (sort_keep HO.out HG1.out).takeC k j u hj) ⟨g1, 0, none⟩ (1 + (out.length - k)) c1 (eCells [⟨xu, xv, xl, xt⟩] ++ eCells (out.drop k)) (by simp [Act.eval, Act.put]) HN3.out (HO1.out.cells rfl) HN4.out (by omega) (HM.out _ (by omega)) (by omega) ?_; intro v2 w5 ho5 hg5; have HO5 := hid ho5; have HG5 := hid hg5; clear ho5 hg5))
                all_goals
                  have R1 : Hid (SortAt w5 w.heap.size v2 (out.take k ++ ([⟨xu, xv, xl, xt⟩] ++ out.drop k)) es) := sort_done HO5.out HOle.out hwc HG1.out HS3.out.2.1 HMem.out
                  have R2 : Hid (Below w.heap.size w w5) := (((HBw.out.alloc hwc _).drew).grown HG1.out (by show w.heap.size ≤ (wc.alloc _).heap.size; simp; omega) (fun k hk => by simp [Value.ownBlock] at hk; omega)).grown HG5.out (Nat.le_trans (by show w.heap.size ≤ (wc.alloc _).heap.size; simp; omega) HG1.out.size) (fun k hk => by simp at hk)
                  clear HO5 HG5 HO1 HG1
                  go_wp2
                  exact ⟨⟨m + 1, _, by omega, by rw [sort_len _ HOle.out]; have := HOm.out; omega, by go_num, R1, R2, HIn.out.symm⟩, by simp [intOf]; omega⟩
          · have hk2 := hbd rfl
            have HJ2 : Hid (∀ j, j < k + 1 → ltE (out[j]?.getD Go.Proofs.YtckallochdegiaaGreat.e0) ⟨xu, xv, xl, xt⟩ = true) := fun j hj => by
              by_cases q : j = k
              · subst q; exact HQ.out hk2
              · exact HJ.out j (by omega)
            clear HJ HQ
            go_wp2
            exact ⟨⟨k + 1, by omega, by go_num, HB3, HJ2⟩, by simp [intOf]; omega⟩
    · have c' : ¬ (m : Int) < (es.length : Int) := by omega
      have hme : m = es.length := by omega
      have HF : Hid (out = sortE es) := by have := HSo.out; rw [hme, List.take_length] at this; exact this
      have HFl : Hid (out.length = es.length) := by show _ = _; have := HOm.out; omega
      clear hme HSo
      go_wp2
      go_ret
      exact ⟨_, rfl, by rw [← HF.out]; exact hS.out, by rw [← HF.out]; exact HFl.out, hB.out⟩

end Go.Proofs.YtckallochdegiaaGreat
namespace Go.Proofs.YtckallochdegiaaGreat
set_option linter.unusedVariables false
set_option linter.unusedSimpArgs false
open Go.RowKit

theorem number_B (w : World) (n : Nat) (hn : n ≤ 1000000) : Calls Tryz.prog 71 #[.int .i64 n] w fun e w' => e = .returned (.string (nB n)) ∧ Below w.heap.size w w' :=
  number_F 40 w n (by omega) (by omega)

set_option maxRecDepth 100000 in
set_option maxHeartbeats 1000000 in
theorem round_F (w : World) (l : List Itm) (b o cap : Nat) (hI : ItemsAt w (.slice (some ⟨b, o, none⟩) l.length cap) l b o cap) (hs : l.length ≤ 3000) (hr : ∀ x, x ∈ l → -1 ≤ x.2 ∧ x.2 ≤ 1000) :
    Calls Tryz.prog 72 #[.slice (some ⟨b, o, none⟩) l.length cap] w fun e w' => e = .returned (.string (roundB l)) ∧ (roundB l).size ≤ 41 * (l.length + 1) ∧ Below w.heap.size w w' := by
  have HI := hid hI
  have h1 := hI.le
  have h2 := hI.mx
  unfold maxLen at h2
  have HR := hid hr
  clear hI hr
  have HRB : Hid (roundB l = nB (sizeV l) ++ rS (l.drop 1)) := by show _ = _; rfl
  go_enter Tryz.func72, Tryz.ntmps72
  go_wp2_with fail
  go_loopw [3, 4, 9] (fun a c d wr => ∃ (m n : Nat) (s : ByteArray), m ≤ l.length ∧ n ≤ m ∧ a = .int .i64 n ∧ c = .string s ∧ s.size ≤ 41 * m ∧ d = .int .i64 m ∧ Hid (Below w.heap.size w wr) ∧ Hid (n = sizeV (l.take m) ∧ s = rS ((l.take m).drop 1))) (fun _ _ d _ => l.length - (intOf d).toNat)
  case atStart => exact ⟨0, 0, ⟨#[]⟩, by omega, by omega, rfl, rfl, by simp [ByteArray.size], rfl, Below.refl _ _, by constructor <;> simp [sizeV, rS]⟩
  case round =>
    obtain ⟨m, n, s, hm, hn, rfl, rfl, hsz, rfl, hB, HN⟩ := hrel
    have hB1 := hB.out.size
    by_cases c : m < l.length
    · have c' : (m : Int) < (l.length : Int) := by omega
      have I2 := HI.out.below hB.out (Nat.le_refl _)
      have d0 := I2.c0 m c
      have d1 := I2.c1 m c
      have hx2 := HR.out (l[m]?.getD (0, 0)) (by rw [get_eq c]; exact List.getElem_mem c)
      have HV1 := hid (sizeV_more c)
      have HV2 := hid (fun h0 => rS_step c h0)
      obtain ⟨x, hx⟩ : ∃ x, x = l[m]?.getD (0, 0) := ⟨_, rfl⟩
      rw [← hx] at d0 d1 hx2 HV1 HV2
      clear hx I2
      obtain ⟨x1, x2⟩ := x
      simp only at d0 d1 hx2 HV1 HV2
      obtain ⟨v, hv⟩ : ∃ v : Nat, x2 = (v : Int) - 1 := ⟨(x2 + 1).toNat, by omega⟩
      have hv1 : (v : Int) - 1 + 1 = v := by omega
      have hv2 : wrap64 ((v : Int) - 1 + 1) = v := by unfold wrap64; omega
      subst hv
      have HV3 : Hid (0 < m → rS ((l.take (m + 1)).drop 1) = s ++ nB v) := fun h0 => by rw [HV2.out h0, HN.out.2, hv1]; rfl
      have HV4 : Hid (sizeV (l.take (m + 1)) = n + (if v = 0 then 1 else 0)) := by
        show _ = _
        rw [HV1.out, HN.out.1]
        by_cases q : v = 0
        · rw [if_pos (by omega), if_pos q]
        · rw [if_neg (by omega), if_neg q]
      have HV5 : Hid (¬ 0 < m → s = rS ((l.take (m + 1)).drop 1)) := fun h0 => by
        have : m = 0 := by omega
        subst this
        rw [HN.out.2, rS_one]; simp [rS]
      clear HV1 HV2 HN
      have HBx : Hid (∀ o, Below w.heap.size w (wr.alloc o)) := fun o => hB.out.alloc hB1 o
      have HV : Hid (v ≤ 1000000) := by show _ ≤ _; omega
      have hvb : v ≤ 1001 := by omega
      have hns := nB_size v
      clear hx2
      by_cases hneg : v = 0
      · subst hneg
        have HV6 : Hid (n + 1 = sizeV (l.take (m + 1))) := by show _ = _; rw [HV4.out]; rfl
        clear HV4
        by_cases hm0 : 0 < m
        · have hm0' : (0 : Int) < (m : Int) := by omega
          go_wp2_with fail
          refine (number_B _ 0 (by omega)).mono ?_
          rintro e w1 ⟨rfl, hb1⟩
          have hsum : ¬ 9223372036854775807 < s.size + (nB 0).size := by omega
          have HB2 := hid ((HBx.out _).trans (hb1.mono (HBx.out _).size))
          clear hb1
          go_wp2
          exact ⟨⟨m + 1, n + 1, _, by omega, by omega, by go_num, rfl, by rw [ByteArray.size_append]; omega, by go_num, HB2, HV6.out, (HV3.out hm0).symm⟩, by simp [intOf]; omega⟩
        · have hm0' : ¬ (0 : Int) < (m : Int) := by omega
          go_wp2
          exact ⟨⟨m + 1, n + 1, _, by omega, by omega, by go_num, rfl, by omega, by go_num, HBx.out _, HV6.out, HV5.out hm0⟩, by simp [intOf]; omega⟩
      · have hneg' : ¬ (v : Int) - 1 < 0 := by omega
        have HV6 : Hid (n = sizeV (l.take (m + 1))) := by show _ = _; rw [HV4.out, if_neg hneg]; rfl
        clear HV4
        by_cases hm0 : 0 < m
        · have hm0' : (0 : Int) < (m : Int) := by omega
          go_wp2_with fail
          refine (number_B _ v HV.out).mono ?_
          rintro e w1 ⟨rfl, hb1⟩
          have hsum : ¬ 9223372036854775807 < s.size + (nB v).size := by omega
          have HB2 := hid ((HBx.out _).trans (hb1.mono (HBx.out _).size))
          clear hb1
          go_wp2
          exact ⟨⟨m + 1, n, _, by omega, by omega, rfl, rfl, by rw [ByteArray.size_append]; omega, by go_num, HB2, HV6.out, (HV3.out hm0).symm⟩, by simp [intOf]; omega⟩
        · have hm0' : ¬ (0 : Int) < (m : Int) := by omega
          go_wp2
          exact ⟨⟨m + 1, n, _, by omega, by omega, rfl, rfl, by omega, by go_num, HBx.out _, HV6.out, HV5.out hm0⟩, by simp [intOf]; omega⟩
    · have c' : ¬ (m : Int) < (l.length : Int) := by omega
      have hme : m = l.length := by omega
      have HF : Hid (n = sizeV l ∧ s = rS (l.drop 1)) := by have := HN.out; rw [hme, List.take_length] at this; exact this
      clear hme HN
      have hns := nB_size n
      go_wp2_with fail
      refine (number_B _ n (by omega)).mono ?_
      rintro e w1 ⟨rfl, hb1⟩
      have hsum : ¬ 9223372036854775807 < (nB n).size + s.size := by omega
      have HB2 : Hid (Below w.heap.size w w1) := hB.out.trans (hb1.mono hB1)
      have HG : Hid (roundB l = nB n ++ s) := by show _ = _; rw [HRB.out, ← HF.out.1, ← HF.out.2]
      clear hb1
      go_wp2
      go_ret
      exact ⟨by rw [HG.out]; rfl, by rw [HG.out, ByteArray.size_append]; omega, HB2.out⟩

end Go.Proofs.YtckallochdegiaaGreat
