import Derived.Test.YtnmdcogckkkfaaaNum
import Derived.Deep.RegionHeld
namespace Go.Proofs.Ytnmdcogckkkfaaa
set_option linter.unusedVariables false
set_option linter.unusedSimpArgs false
open Go.RowKit

/-- Texts lie in a row of one's own. -/
def TextsAt (w : World) (B : Nat) (v : Value) (l : List ByteArray) (m : Nat) : Prop := w.ownsRow B 9 1 v l.length (l.map Value.string) ∧ ∀ t, t ∈ l → t.size ≤ m

/-- What parts answers. -/
def PartsR (s : ByteArray) (w : World) (e : Ending) (w' : World) : Prop := ∃ (v : Value) (ok : Bool), e = .returned (.tuple #[v, .bool ok]) ∧ (ok = true → ∃ l, TextsAt w' w.heap.size v l s.size ∧ l.length = 3) ∧ Below w.heap.size w w'

set_option maxRecDepth 100000 in
set_option maxHeartbeats 2000000 in
theorem parts_any (w : World) (s : ByteArray) (hs : s.size ≤ 2 ^ 40) : Calls Try.prog 55 #[.string s] w (PartsR s w) := by
  obtain ⟨i3, q0, q1, q2, q3⟩ := info_parts Try.info9
  go_enter Try.func55, Try.ntmps55
  go_wp2_with fail
  go_loopw [0, 4, 5] (fun a b c wr => ∃ (t : ByteArray) (l : List ByteArray), a = .string t ∧ c = .int .i64 l.length ∧ l.length ≤ 3 ∧ t.size ≤ s.size ∧ Hid (TextsAt wr w.heap.size b l s.size) ∧ Hid (Below w.heap.size w wr)) (fun _ _ c _ => 3 - (intOf c).toNat)
  case atStart => exact ⟨s, [], rfl, rfl, by simp, by omega, ⟨World.ownsRow_nil _ _ _ _, fun n hn => by simp at hn⟩, Below.refl _ _⟩
  case round =>
    obtain ⟨t, l, rfl, rfl, hl, ht, hT, hB⟩ := hrel
    have hsz := hB.out.size
    by_cases c : l.length < 3
    · have c' : (l.length : Int) < 3 := by omega
      go_wp2_with fail
      refine (first_any _ t (by omega)).mono ?_
      rintro e w1 ⟨n, r, ok, rfl, hn, hr, hb⟩
      have HB1 : Hid (Below w.heap.size w w1) := hB.out.trans (hb.mono hsz)
      have HT1 : Hid (TextsAt w1 w.heap.size u4 l s.size) := ⟨owns_below hT.out.1 hb (Nat.le_refl _), hT.out.2⟩
      have hsz1 := HB1.out.size
      clear hb hT hB
      go_wp2_with fail
      go_cut [39] from 9 to 49 (fun x wx => ∃ bd : Bool, x = .bool bd ∧ (bd = false → ok = true ∧ n + 4 ≤ r.size) ∧ Hid (Below w1.heap.size w1 wx))
      case first =>
        cases ok
        · go_wp2_with fail
          go_quiet (fail)
          go_wp2
          go_meet
          case rel => exact ⟨true, rfl, fun q => by simp at q, Below.drewN' _ (Below.refl _ _)⟩
        · by_cases d : r.size < n + 4
          · have d' : decide ((r.size : Int) < (n : Int) + 4) = true := by simp; omega
            go_wp2_with fail
            go_quiet (fail)
            go_wp2
            go_meet
            case rel => exact ⟨true, rfl, fun q => by simp at q, Below.drewN' _ (Below.refl _ _)⟩
          · have d' : decide ((r.size : Int) < (n : Int) + 4) = false := by simp; omega
            have d2 : (n : Int) ≤ (r.size : Int) := by omega
            have d3 : (n : Int) + 4 ≤ (r.size : Int) := by omega
            have d4 : (n : Int) ≤ (n : Int) + 4 := by omega
            have d5 : ((n : Int) + 4).toNat = n + 4 := by omega
            have d6 : (0 : Int) ≤ (n : Int) + 4 := by omega
            have d7 : IntKind.i64.wrap ((n : Int) + 4) = (n : Int) + 4 := by rw [IntKind.wrap_i64]; omega
            have HD : Hid (n + 4 ≤ r.size) := by show _ ≤ _; omega
            have HSz : Hid ((r.extract 0 n).size ≤ 2 ^ 40) := by show _ ≤ _; have := hr rfl; rw [ByteArray.size_extract]; omega
            go_wp2_with fail
            go_region_held (fun _ => True) (trivial) (first | (go_at_call 51; refine (sum_any _ _ HSz.out).mono ?_; rintro e w2 ⟨r2, rfl, z1, hb2⟩; have HB2 := hid (below_drew hb2); clear hb2))
            all_goals
              go_wp2
              go_meet
              case rel => exact ⟨_, rfl, fun _ => by first | exact ⟨rfl, HD.out⟩ | exact ⟨trivial, HD.out⟩ | exact HD.out, HB2⟩
      case rest =>
        obtain ⟨bd, rfl, hbd, hB2⟩ := hcut
        have HB3 : Hid (Below w.heap.size w wc) := HB1.out.trans (hB2.out.mono hsz1)
        have hsz3 := HB3.out.size
        cases bd
        · obtain ⟨rfl, hn4⟩ := hbd rfl
          have hr' := hr rfl
          have HT3 : Hid (TextsAt wc w.heap.size u4 l s.size) := ⟨owns_below HT1.out.1 hB2.out (Nat.le_refl _), HT1.out.2⟩
          have HM : Hid (l.length + 1 ≤ maxLen) := by show _ ≤ _; unfold maxLen; omega
          have d2 : (n : Int) ≤ (r.size : Int) := by omega
          have d3 : (n : Int) + 4 ≤ (r.size : Int) := by omega
          have d5 : ((n : Int) + 4).toNat = n + 4 := by omega
          have d6 : (0 : Int) ≤ (n : Int) + 4 := by omega
          have d7 : IntKind.i64.wrap ((n : Int) + 4) = (n : Int) + 4 := by rw [IntKind.wrap_i64]; omega
          have HE : Hid ((r.extract 0 n).size ≤ s.size ∧ (r.extract (n + 4) r.size).size ≤ s.size) := by
            constructor
            · rw [ByteArray.size_extract]; omega
            · rw [ByteArray.size_extract]; omega
          clear hbd hr HB1 HT1 hB2
          go_wp2_with (at_builtin; refine wpList_append_own _ rfl (.tmp 40) (.tmp 44) 29 rfl w.heap.size 9 i3 _ 1 16 Try.underlying29 q0 q1 q2 q3 rfl (by decide) _ l.length _ rfl (HT3.out.1.alloc _) ⟨wc.heap.size, 0, none⟩ 1 1 [.string (r.extract 0 n)] rfl rfl (one_cell wc _ _) (fun y hy => by simp at hy; subst hy; rfl) HM.out (by omega) (by simp; omega) ?_; intro v' w3 ho hg _)
          have R1 : TextsAt w3 w.heap.size v' (l ++ [r.extract 0 n]) s.size := by
            refine ⟨by rw [List.length_append, List.map_append]; exact ho, fun m hm => ?_⟩
            rcases List.mem_append.1 hm with q | q
            · exact HT3.out.2 m q
            · simp at q; subst q; exact HE.out.1
          have R2 : Below w.heap.size w w3 := (HB3.out.alloc hsz3 _).grown hg (by simp; omega) (fun k hk => (HT3.out.1.lt k hk).1)
          exact ⟨⟨_, l ++ [r.extract 0 n], rfl, by rw [List.length_append]; go_num, by rw [List.length_append]; simp; omega, HE.out.2, R1, R2⟩, by simp [intOf]; omega⟩
        · go_wp2
          go_ret2
          exact ⟨_, false, rfl, fun q => by simp at q, HB3.out⟩
    · have c' : ¬ (l.length : Int) < 3 := by omega
      go_wp2
      go_ret2
      exact ⟨_, _, rfl, fun _ => ⟨l, hT.out, by omega⟩, hB.out⟩

end Go.Proofs.Ytnmdcogckkkfaaa
