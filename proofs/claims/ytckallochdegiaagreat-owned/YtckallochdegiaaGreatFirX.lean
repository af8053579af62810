import Derived.Test.YtckallochdegiaaGreatNumX
import Derived.Test.YtckallochdegiaaGreatRdA
import Derived.Test.YtckallochdegiaaGreatNum
import Derived.Test.YtckallochdegiaaGreatParts
namespace Go.Proofs.YtckallochdegiaaGreat
set_option linter.unusedVariables false
set_option linter.unusedSimpArgs false
open Go.RowKit

set_option maxRecDepth 100000 in
set_option maxHeartbeats 2000000 in
theorem first_F (w : World) (s : ByteArray) (hs : s.size ≤ 2 ^ 40) : Calls Tryz.prog 30 #[.string s] w fun e w' => e = .returned (.tuple #[.int .i64 (firstF s).1, .string (firstF s).2.1, .bool (firstF s).2.2]) ∧ Below w.heap.size w w' := by
  go_enter Tryz.func30, Tryz.ntmps30
  go_wp2_with fail
  go_loopw [5, 6, 7] (fun a b c wr => ∃ (n k : Nat), k ≤ 4 ∧ k ≤ s.size ∧ n < 128 ^ k ∧ a = .int .i64 n ∧ b = .int .i64 ((128 ^ k : Nat) : Int) ∧ c = .int .i64 k ∧ wr = w ∧ Hid (firstF s = frF s (4 - k) k n)) (fun _ _ c _ => 4 - (intOf c).toNat)
  case atStart => exact ⟨0, 0, by omega, by omega, by omega, rfl, rfl, rfl, rfl, rfl⟩
  case round =>
    obtain ⟨n, k, hk, hks, hn, rfl, rfl, rfl, rfl, HF⟩ := hrel
    have pk : 128 ^ k ≤ 128 ^ 4 := Nat.pow_le_pow_right (by omega) hk
    by_cases c : k < s.size
    · have c' : (k : Int) < (s.size : Int) := by omega
      by_cases d : k < 4
      · have d' : (k : Int) < 4 := by omega
        have pk3 : 128 ^ k ≤ 128 ^ 3 := Nat.pow_le_pow_right (by omega) (by omega)
        have pk1 : 128 ^ (k + 1) = 128 * 128 ^ k := by rw [Nat.pow_succ, Nat.mul_comm]
        have HP1 := hid pk1
        have hf4 : 4 - k = (4 - (k + 1)) + 1 := by omega
        have HF2 : Hid (firstF s = if s[k].toNat < 128 then (n + s[k].toNat % 128 * 128 ^ k, s.extract (k + 1) s.size, decide (0 < s[k].toNat) || decide (k = 0)) else frF s (4 - (k + 1)) (k + 1) (n + s[k].toNat % 128 * 128 ^ k)) := by show _ = _; rw [HF.out, hf4, frF, dif_pos c]
        clear pk1 hf4 HF
        generalize 128 ^ k = p at hn pk pk3 HP1 HF2 ⊢
        have hval : wrap64 ((n : Int) + wrap64 ((wrap64 (s[k].toNat : Int)).tmod 128 * (p : Int))) = ((n + s[k].toNat % 128 * p : Nat) : Int) := first_val hn pk3 (by have := s[k].toNat_lt; omega)
        have hlt : n + s[k].toNat % 128 * p < 128 * p := first_lt hn _
        have HV := hid (And.intro hval hlt)
        clear hval hlt
        have hk1 : (k : Int) + 1 ≤ (s.size : Int) := by omega
        have hk0 : (0 : Int) ≤ (k : Int) + 1 := by omega
        have hk2 : ((k : Int) + 1).toNat = k + 1 := by omega
        have hk3 : IntKind.i64.wrap ((k : Int) + 1) = (k : Int) + 1 := by rw [IntKind.wrap_i64]; omega
        have hk4 : 0 ≤ (k : Int) + 1 ∧ (k : Int) + 1 ≤ (s.size : Int) := by omega
        have HV2 : Hid (wrap64 ((n : Int) + wrap64 ((s[k].toNat : Int) % 128 * (p : Int))) = ((n + s[k].toNat % 128 * p : Nat) : Int)) := first_val2 hn pk3 (by have := s[k].toNat_lt; omega)
        have HE : Hid ((s.extract (k + 1) s.size).size = s.size - (k + 1)) := by show _ = _; rw [ByteArray.size_extract]; omega
        by_cases e : (s[k].toNat : Int) < 128
        · have HF3 : Hid (firstF s = (n + s[k].toNat % 128 * p, s.extract (k + 1) s.size, decide (0 < s[k].toNat) || decide (k = 0))) := by show _ = _; rw [HF2.out, if_pos (by omega)]
          clear HF2
          by_cases f : 0 < s[k].toNat
          · have f' : decide (0 < s[k].toNat) = true := by simpa using f
            go_wp2_with fail
            go_quiet (fail)
            go_wp2
            go_ret3
            refine ⟨?_, Below.drewN' _ (Below.refl _ _)⟩
            rw [HF3.out, f']
            simp only [Bool.true_or]
            rw [← HV2.out]; rfl
          · have f' : decide (0 < s[k].toNat) = false := by simpa using f
            by_cases z : k = 0
            · have z' : decide ((k : Int) = 0) = true := by simpa using z
              have z2 : ((k : Int) == 0) = true := by simpa using z
              have HZ := hid z
              clear z
              go_wp2_with fail
              go_quiet (fail)
              go_wp2
              go_ret3
              refine ⟨?_, Below.drewN' _ (Below.refl _ _)⟩
              rw [HF3.out, show decide (k = 0) = true from by simpa using HZ.out]
              simp only [Bool.or_true]
              rw [← HV2.out]; rfl
            · have z' : decide ((k : Int) = 0) = false := by simpa using z
              have z2 : ((k : Int) == 0) = false := by simpa using z
              go_wp2_with fail
              go_quiet (fail)
              go_wp2
              go_ret3
              refine ⟨?_, Below.drewN' _ (Below.refl _ _)⟩
              rw [HF3.out, f', show decide (k = 0) = false from by simpa using z]
              simp only [Bool.false_or]
              rw [← HV2.out]; rfl
        · have HF3 : Hid (firstF s = frF s (4 - (k + 1)) (k + 1) (n + s[k].toNat % 128 * p)) := by show _ = _; rw [HF2.out, if_neg (by omega)]
          clear HF2
          go_wp2
          refine ⟨⟨_, k + 1, by omega, by omega, ?_, by rw [HV.out.1], by rw [HP1.out]; go_num, by go_num, trivial, HF3⟩, by simp [intOf]; omega⟩
          rw [HP1.out]; exact HV.out.2
      · have d' : ¬ (k : Int) < 4 := by omega
        have HF3 : Hid (firstF s = (0, ⟨#[]⟩, false)) := by show _ = _; rw [HF.out, show 4 - k = 0 by omega, frF]
        clear HF
        go_wp2
        go_ret3
        exact ⟨by rw [HF3.out]; rfl, Below.refl _ _⟩
    · have c' : ¬ (k : Int) < (s.size : Int) := by omega
      have HF3 : Hid (firstF s = (0, ⟨#[]⟩, false)) := by
        show _ = _
        rw [HF.out]
        cases 4 - k with
        | zero => rw [frF]
        | succ f => rw [frF, dif_neg c]
      clear HF
      go_wp2
      go_ret3
      exact ⟨by rw [HF3.out]; rfl, Below.refl _ _⟩

end Go.Proofs.YtckallochdegiaaGreat
namespace Go.Proofs.YtckallochdegiaaGreat
set_option linter.unusedVariables false
set_option linter.unusedSimpArgs false
open Go.RowKit

/-- What numbers answers. -/
def NumsF (s : ByteArray) (w : World) (e : Ending) (w' : World) : Prop :=
  ((numbersF s = none ∧ e = .returned (.tuple #[.slice none 0 0, .bool false])) ∨ (∃ v l, numbersF s = some l ∧ e = .returned (.tuple #[v, .bool true]) ∧ NumsAt w' w.heap.size v l ∧ l.length ≤ s.size)) ∧ Below w.heap.size w w'

set_option maxRecDepth 100000 in
set_option maxHeartbeats 2000000 in
theorem numbers_F (w : World) (s : ByteArray) (hs : s.size ≤ 2 ^ 40) : Calls Tryz.prog 54 #[.string s] w (NumsF s w) := by
  obtain ⟨i3, q0, q1, q2, q3⟩ := info_parts Tryz.info3
  go_enter Tryz.func54, Tryz.ntmps54
  go_wp2_with fail
  go_loopw [0, 4] (fun a b wr => ∃ (t : ByteArray) (l : List Nat), a = .string t ∧ t.size + l.length ≤ s.size ∧ Hid (NumsAt wr w.heap.size b l) ∧ Hid (Below w.heap.size w wr) ∧ Hid (numbersF s = numsG t.size t l)) (fun a _ _ => strLen a)
  case atStart => exact ⟨s, [], rfl, by simp, ⟨World.ownsRow_nil _ _ _ _, fun n hn => by simp at hn⟩, Below.refl _ _, rfl⟩
  case round =>
    obtain ⟨t, l, rfl, hl, hN, hB, HF⟩ := hrel
    have hsz := hB.out.size
    by_cases c : 0 < t.size
    · have c' : (0 : Int) < (t.size : Int) := by omega
      obtain ⟨g1, g2⟩ := firstF_spec t
      have HF2 : Hid (numbersF s = if (firstF t).2.2 = true then numsG (t.size - 1) (firstF t).2.1 (l ++ [(firstF t).1]) else none) := by
        show _ = _
        rw [HF.out, show t.size = (t.size - 1) + 1 by omega, numsG, if_pos (by omega)]
        simp
      clear HF
      go_wp2_with fail
      refine (first_F _ t (by omega)).mono ?_
      rintro e w1 ⟨rfl, hb⟩
      obtain ⟨⟨n, r, ok⟩, hfr⟩ : ∃ x, x = firstF t := ⟨_, rfl⟩
      rw [← hfr] at HF2 g1 g2 ⊢
      simp only at HF2 g1 g2 ⊢
      clear hfr
      have HB1 : Hid (Below w.heap.size w w1) := hB.out.trans (hb.mono hsz)
      have HN1 : Hid (NumsAt w1 w.heap.size u4 l) := ⟨owns_below hN.out.1 hb (Nat.le_refl _), hN.out.2⟩
      have hsz1 := HB1.out.size
      clear hb
      cases ok
      · have HF3 : Hid (numbersF s = none) := by show _ = _; rw [HF2.out]; simp
        clear HF2 g2
        go_wp2
        go_ret2
        exact ⟨Or.inl ⟨HF3.out, rfl⟩, HB1.out⟩
      · have hr' := g2 rfl
        have HF3 : Hid (numbersF s = numsG r.size r (l ++ [n])) := by show _ = _; rw [HF2.out, if_pos rfl, numsG_fuel _ r.size _ _ (by omega) (Nat.le_refl _)]
        have HM : Hid (l.length + 1 ≤ maxLen) := by show _ ≤ _; unfold maxLen; omega
        clear g2 HF2
        go_wp2_with (at_builtin; refine wpList_append_own _ rfl (.tmp 19) (.tmp 21) 25 rfl w.heap.size 3 i3 _ 1 8 Tryz.underlying25 q0 q1 q2 q3 rfl (by decide) _ l.length _ rfl (HN1.out.1.alloc _) ⟨w1.heap.size, 0, none⟩ 1 1 [.int .i64 n] rfl rfl (one_cell w1 _ _) (fun y hy => by simp at hy; subst hy; rfl) HM.out (by omega) (by simp; omega) ?_; intro v' w3 ho hg _)
        have R1 : NumsAt w3 w.heap.size v' (l ++ [n]) := by
          refine ⟨by rw [List.length_append, List.map_append]; exact ho, fun m hm => ?_⟩
          rcases List.mem_append.1 hm with q | q
          · exact HN1.out.2 m q
          · simp at q; subst q; exact g1
        have R2 : Below w.heap.size w w3 := (HB1.out.alloc hsz1 _).grown hg (by simp; omega) (fun k hk => (HN1.out.1.lt k hk).1)
        exact ⟨⟨r, l ++ [n], by trivial, by rw [List.length_append]; simp; omega, R1, R2, HF3⟩, by show r.size < t.size; omega⟩
    · have c' : ¬ (0 : Int) < (t.size : Int) := by omega
      have HF3 : Hid (numbersF s = some l) := by show _ = _; rw [HF.out, show t.size = 0 by omega, numsG]
      clear HF
      go_wp2
      go_ret2
      exact ⟨Or.inr ⟨_, l, HF3.out, rfl, hN.out, by omega⟩, hB.out⟩

end Go.Proofs.YtckallochdegiaaGreat
namespace Go.Proofs.YtckallochdegiaaGreat
set_option linter.unusedVariables false
set_option linter.unusedSimpArgs false
open Go.RowKit

theorem toList_iff {a b : ByteArray} : a.toList = b.toList ↔ a = b := by
  rw [ByteArray.toList_eq, ByteArray.toList_eq]
  exact ⟨fun h => ByteArray.ext (Array.toList_inj.1 h), fun h => by rw [h]⟩

/-- What parts answers. -/
def PartsX (s : ByteArray) (w : World) (e : Ending) (w' : World) : Prop :=
  ∃ v, e = .returned (.tuple #[v, .bool (partsF s).isSome]) ∧ (∀ l, partsF s = some l → TextsAt w' w.heap.size v l s.size ∧ l.length = 3) ∧ Below w.heap.size w w'

set_option maxRecDepth 100000 in
set_option maxHeartbeats 2000000 in
theorem parts_F (w : World) (s : ByteArray) (hs : s.size ≤ 2 ^ 40) : Calls Tryz.prog 53 #[.string s] w (PartsX s w) := by
  obtain ⟨i3, q0, q1, q2, q3⟩ := info_parts Tryz.info9
  go_enter Tryz.func53, Tryz.ntmps53
  go_wp2_with fail
  go_loopw [0, 4, 5] (fun a b c wr => ∃ (t : ByteArray) (l : List ByteArray), a = .string t ∧ c = .int .i64 l.length ∧ l.length ≤ 3 ∧ t.size ≤ s.size ∧ Hid (TextsAt wr w.heap.size b l s.size) ∧ Hid (Below w.heap.size w wr) ∧ Hid (partsG 3 s [] = partsG (3 - l.length) t l)) (fun _ _ c _ => 3 - (intOf c).toNat)
  case atStart => exact ⟨s, [], rfl, rfl, by simp, by omega, ⟨World.ownsRow_nil _ _ _ _, fun n hn => by simp at hn⟩, Below.refl _ _, rfl⟩
  case round =>
    obtain ⟨t, l, rfl, rfl, hl, ht, hT, hB, HG⟩ := hrel
    have hsz := hB.out.size
    by_cases c : l.length < 3
    · have c' : (l.length : Int) < 3 := by omega
      go_wp2_with fail
      have HG2 : Hid (partsG 3 s [] = match partF t with | some x => partsG (3 - (l.length + 1)) x.2 (l ++ [x.1]) | none => none) := by
        show _ = _
        rw [HG.out, show 3 - l.length = (3 - (l.length + 1)) + 1 by omega, partsG]
        cases partF t <;> rfl
      have HPt : Hid (partF t = if (firstF t).2.2 = true ∧ (firstF t).1 + 4 ≤ (firstF t).2.1.size ∧ sumB ((firstF t).2.1.extract 0 (firstF t).1) = (firstF t).2.1.extract (firstF t).1 ((firstF t).1 + 4) then some ((firstF t).2.1.extract 0 (firstF t).1, (firstF t).2.1.extract ((firstF t).1 + 4) (firstF t).2.1.size) else none) := by show _ = _; rfl
      clear HG
      obtain ⟨hn, hr⟩ := firstF_spec t
      refine (first_F _ t (by omega)).mono ?_
      rintro e w1 ⟨rfl, hb⟩
      obtain ⟨⟨n, r, ok⟩, hfr⟩ : ∃ x, x = firstF t := ⟨_, rfl⟩
      rw [← hfr] at HPt hn hr ⊢
      simp only at HPt hn hr ⊢
      clear hfr
      have HB1 : Hid (Below w.heap.size w w1) := hB.out.trans (hb.mono hsz)
      have HT1 : Hid (TextsAt w1 w.heap.size u4 l s.size) := ⟨owns_below hT.out.1 hb (Nat.le_refl _), hT.out.2⟩
      have hsz1 := HB1.out.size
      clear hb hT hB
      go_wp2_with fail
      go_cut [39] from 9 to 49 (fun x wx => ∃ bd : Bool, x = .bool bd ∧ (bd = false → ok = true ∧ n + 4 ≤ r.size) ∧ Hid (bd = false ↔ ok = true ∧ n + 4 ≤ r.size ∧ sumB (r.extract 0 n) = r.extract n (n + 4)) ∧ Hid (Below w1.heap.size w1 wx))
      case first =>
        cases ok
        · go_wp2_with fail
          go_quiet (fail)
          go_wp2
          go_meet
          case rel => exact ⟨true, rfl, fun q => by simp at q, ⟨fun q => by simp at q, fun q => by simp at q⟩, Below.drewN' _ (Below.refl _ _)⟩
        · by_cases d : r.size < n + 4
          · have d' : decide ((r.size : Int) < (n : Int) + 4) = true := by simp; omega
            go_wp2_with fail
            have HDd := hid d
            go_quiet (fail)
            go_wp2
            go_meet
            case rel => exact ⟨true, rfl, fun q => by simp at q, ⟨fun q => by simp at q, fun q => by have := HDd.out; omega⟩, Below.drewN' _ (Below.refl _ _)⟩
          · have d' : decide ((r.size : Int) < (n : Int) + 4) = false := by simp; omega
            have d2 : (n : Int) ≤ (r.size : Int) := by omega
            have d3 : (n : Int) + 4 ≤ (r.size : Int) := by omega
            have d4 : (n : Int) ≤ (n : Int) + 4 := by omega
            have d5 : ((n : Int) + 4).toNat = n + 4 := by omega
            have d6 : (0 : Int) ≤ (n : Int) + 4 := by omega
            have d7 : IntKind.i64.wrap ((n : Int) + 4) = (n : Int) + 4 := by rw [IntKind.wrap_i64]; omega
            have HD : Hid (n + 4 ≤ r.size) := by show _ ≤ _; omega
            have HSz : Hid ((r.extract 0 n).size ≤ 2 ^ 40) := by show _ ≤ _; have := hr rfl; rw [ByteArray.size_extract]; omega
            go_wp2_with fail
            go_region_held (fun _ => True) (trivial) (first | (go_at_call 31; refine (sum_F _ _ HSz.out).mono ?_; rintro e w2 ⟨rfl, hb2⟩; have HB2 := hid (below_drew hb2); clear hb2))
            all_goals
              go_wp2
              go_meet
              case rel => exact ⟨_, rfl, fun _ => by first | exact ⟨rfl, HD.out⟩ | exact ⟨trivial, HD.out⟩ | exact HD.out, by show _ ↔ _; have := HD.out; simp [this, toList_iff], HB2⟩
      case rest =>
        obtain ⟨bd, rfl, hbd, HQ, hB2⟩ := hcut
        have HB3 : Hid (Below w.heap.size w wc) := HB1.out.trans (hB2.out.mono hsz1)
        have hsz3 := HB3.out.size
        cases bd
        · obtain ⟨rfl, hn4⟩ := hbd rfl
          have HG3 : Hid (partsG 3 s [] = partsG (3 - (l ++ [r.extract 0 n]).length) (r.extract (n + 4) r.size) (l ++ [r.extract 0 n])) := by
            show _ = _
            rw [HG2.out, HPt.out, if_pos (HQ.out.1 rfl), List.length_append]; rfl
          clear HG2 HPt HQ
          have hr' := hr rfl
          have HT3 : Hid (TextsAt wc w.heap.size u4 l s.size) := ⟨owns_below HT1.out.1 hB2.out (Nat.le_refl _), HT1.out.2⟩
          have HM : Hid (l.length + 1 ≤ maxLen) := by show _ ≤ _; unfold maxLen; omega
          have d2 : (n : Int) ≤ (r.size : Int) := by omega
          have d3 : (n : Int) + 4 ≤ (r.size : Int) := by omega
          have d5 : ((n : Int) + 4).toNat = n + 4 := by omega
          have d6 : (0 : Int) ≤ (n : Int) + 4 := by omega
          have d7 : IntKind.i64.wrap ((n : Int) + 4) = (n : Int) + 4 := by rw [IntKind.wrap_i64]; omega
          have HE : Hid ((r.extract 0 n).size ≤ s.size ∧ (r.extract (n + 4) r.size).size ≤ s.size) := by
            constructor
            · rw [ByteArray.size_extract]; omega
            · rw [ByteArray.size_extract]; omega
          clear hbd hr HB1 HT1 hB2
          go_wp2_with (at_builtin; refine wpList_append_own _ rfl (.tmp 40) (.tmp 44) 28 rfl w.heap.size 9 i3 _ 1 16 Tryz.underlying28 q0 q1 q2 q3 rfl (by decide) _ l.length _ rfl (HT3.out.1.alloc _) ⟨wc.heap.size, 0, none⟩ 1 1 [.string (r.extract 0 n)] rfl rfl (one_cell wc _ _) (fun y hy => by simp at hy; subst hy; rfl) HM.out (by omega) (by simp; omega) ?_; intro v' w3 ho hg _)
          have R1 : TextsAt w3 w.heap.size v' (l ++ [r.extract 0 n]) s.size := by
            refine ⟨by rw [List.length_append, List.map_append]; exact ho, fun m hm => ?_⟩
            rcases List.mem_append.1 hm with q | q
            · exact HT3.out.2 m q
            · simp at q; subst q; exact HE.out.1
          have R2 : Below w.heap.size w w3 := (HB3.out.alloc hsz3 _).grown hg (by simp; omega) (fun k hk => (HT3.out.1.lt k hk).1)
          exact ⟨⟨_, l ++ [r.extract 0 n], rfl, by rw [List.length_append]; go_num, by rw [List.length_append]; simp; omega, HE.out.2, R1, R2, HG3⟩, by simp [intOf]; omega⟩
        · have HG3 : Hid (partsF s = none) := by
            show _ = _
            have z : partF t = none := by rw [HPt.out, if_neg (fun q => by have := HQ.out.2 q; simp at this)]
            rw [partsF, HG2.out, z]
          clear HG2 HPt HQ hbd
          go_wp2
          go_ret2
          exact ⟨_, by rw [HG3.out]; rfl, fun l q => by rw [HG3.out] at q; simp at q, HB3.out⟩
    · have c' : ¬ (l.length : Int) < 3 := by omega
      have HG3 : Hid (partsF s = if t.size = 0 then some l else none) := by
        show _ = _
        rw [partsF, HG.out, show 3 - l.length = 0 by omega]; rfl
      clear HG
      go_wp2
      go_ret2
      refine ⟨u4, ?_, fun l' q => ?_, hB.out⟩
      · have e : t.toList.isEmpty = (partsF s).isSome := by
          rw [HG3.out, ByteArray.toList_eq]
          by_cases z : t.size = 0
          · rw [if_pos z]
            have : t.data.toList = [] := by
              apply List.eq_nil_of_length_eq_zero
              rw [Array.length_toList]; exact z
            rw [this]; rfl
          · rw [if_neg z]
            have : t.data.toList ≠ [] := fun q => z (by
              have := congrArg List.length q
              rw [Array.length_toList] at this; exact this)
            cases q : t.data.toList with
            | nil => exact absurd q this
            | cons a b => rfl
        rw [← e]
        rfl
      · rw [HG3.out] at q
        split at q
        · simp at q; subst q; exact ⟨hT.out, by omega⟩
        · simp at q

end Go.Proofs.YtckallochdegiaaGreat
