import Derived.Test.YtnmdcogckkkfaaaSorted
namespace Go.Proofs.Ytnmdcogckkkfaaa
set_option linter.unusedVariables false
set_option linter.unusedSimpArgs false
open Go.RowKit

theorem num20 (w : World) (n : Nat) (hn : n ≤ 1000000) : Calls Try.prog 80 #[.int .i64 n] w fun e w' => ∃ s : ByteArray, e = .returned (.string s) ∧ s.size ≤ 21 ∧ Below w.heap.size w w' :=
  (number_any 20 w n (by omega) (by omega)).mono fun _ _ ⟨s, h1, _, h3, h4⟩ => ⟨s, h1, h3, h4⟩

set_option maxRecDepth 100000 in
set_option maxHeartbeats 1000000 in
theorem round_any (w : World) (l : List Itm) (b o cap : Nat) (hI : ItemsAt w (.slice (some ⟨b, o, none⟩) l.length cap) l b o cap) (hs : l.length ≤ 3000) (hr : ∀ x, x ∈ l → -1 ≤ x.2 ∧ x.2 ≤ 1000) :
    Calls Try.prog 81 #[.slice (some ⟨b, o, none⟩) l.length cap] w fun e w' => ∃ s : ByteArray, e = .returned (.string s) ∧ s.size ≤ 21 * (l.length + 1) ∧ Below w.heap.size w w' := by
  have HI := hid hI
  have h1 := hI.le
  have h2 := hI.mx
  unfold maxLen at h2
  have HR := hid hr
  clear hI hr
  go_enter Try.func81, Try.ntmps81
  go_wp2_with fail
  go_loopw [3, 4, 9] (fun a c d wr => ∃ (m n : Nat) (s : ByteArray), m ≤ l.length ∧ n ≤ m ∧ a = .int .i64 n ∧ c = .string s ∧ s.size ≤ 21 * m ∧ d = .int .i64 m ∧ Hid (Below w.heap.size w wr)) (fun _ _ d _ => l.length - (intOf d).toNat)
  case atStart => exact ⟨0, 0, ⟨#[]⟩, by omega, by omega, rfl, rfl, by simp [ByteArray.size], rfl, Below.refl _ _⟩
  case round =>
    obtain ⟨m, n, s, hm, hn, rfl, rfl, hsz, rfl, hB⟩ := hrel
    have hB1 := hB.out.size
    by_cases c : m < l.length
    · have c' : (m : Int) < (l.length : Int) := by omega
      have I2 := HI.out.below hB.out (Nat.le_refl _)
      have d0 := I2.c0 m c
      have d1 := I2.c1 m c
      have hx2 := HR.out (l[m]?.getD (0, 0)) (by rw [get_eq c]; exact List.getElem_mem c)
      obtain ⟨x, hx⟩ : ∃ x, x = l[m]?.getD (0, 0) := ⟨_, rfl⟩
      rw [← hx] at d0 d1 hx2
      clear hx I2
      obtain ⟨x1, x2⟩ := x
      simp only at d0 d1 hx2
      obtain ⟨v, hv⟩ : ∃ v : Nat, x2 = (v : Int) - 1 := ⟨(x2 + 1).toNat, by omega⟩
      have hv1 : (v : Int) - 1 + 1 = v := by omega
      have hv2 : wrap64 ((v : Int) - 1 + 1) = v := by unfold wrap64; omega
      subst hv
      have HBx : Hid (∀ o, Below w.heap.size w (wr.alloc o)) := fun o => hB.out.alloc hB1 o
      have HV : Hid (v ≤ 1000000) := by show _ ≤ _; omega
      have hvb : v ≤ 1001 := by omega
      clear hx2
      by_cases hneg : v = 0
      · subst hneg
        by_cases hm0 : 0 < m
        · have hm0' : (0 : Int) < (m : Int) := by omega
          go_wp2_with fail
          refine (num20 _ 0 (by omega)).mono ?_
          rintro e w1 ⟨r, rfl, hr1, hb1⟩
          have hsum : ¬ 9223372036854775807 < s.size + r.size := by omega
          have HB2 := hid ((HBx.out _).trans (hb1.mono (HBx.out _).size))
          clear hb1
          go_wp2
          exact ⟨⟨m + 1, n + 1, _, by omega, by omega, by go_num, rfl, by rw [ByteArray.size_append]; omega, by go_num, HB2⟩, by simp [intOf]; omega⟩
        · have hm0' : ¬ (0 : Int) < (m : Int) := by omega
          go_wp2
          exact ⟨⟨m + 1, n + 1, _, by omega, by omega, by go_num, rfl, by omega, by go_num, HBx.out _⟩, by simp [intOf]; omega⟩
      · have hneg' : ¬ (v : Int) - 1 < 0 := by omega
        by_cases hm0 : 0 < m
        · have hm0' : (0 : Int) < (m : Int) := by omega
          go_wp2_with fail
          refine (num20 _ v HV.out).mono ?_
          rintro e w1 ⟨r, rfl, hr1, hb1⟩
          have hsum : ¬ 9223372036854775807 < s.size + r.size := by omega
          have HB2 := hid ((HBx.out _).trans (hb1.mono (HBx.out _).size))
          clear hb1
          go_wp2
          exact ⟨⟨m + 1, n, _, by omega, by omega, rfl, rfl, by rw [ByteArray.size_append]; omega, by go_num, HB2⟩, by simp [intOf]; omega⟩
        · have hm0' : ¬ (0 : Int) < (m : Int) := by omega
          go_wp2
          exact ⟨⟨m + 1, n, _, by omega, by omega, rfl, rfl, by omega, by go_num, HBx.out _⟩, by simp [intOf]; omega⟩
    · have c' : ¬ (m : Int) < (l.length : Int) := by omega
      go_wp2_with fail
      refine (num20 _ n (by omega)).mono ?_
      rintro e w1 ⟨r, rfl, hr1, hb1⟩
      have hsum : ¬ 9223372036854775807 < r.size + s.size := by omega
      have HB2 : Hid (Below w.heap.size w w1) := hB.out.trans (hb1.mono hB1)
      clear hb1
      go_wp2
      go_ret
      exact ⟨_, rfl, by rw [ByteArray.size_append]; omega, HB2.out⟩

end Go.Proofs.Ytnmdcogckkkfaaa
