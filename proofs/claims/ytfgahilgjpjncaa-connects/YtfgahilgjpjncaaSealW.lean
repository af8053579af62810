import Derived.Test.YtfgahilgjpjncaaParts
namespace Go.Proofs.Ytfgahilgjpjncaa
set_option linter.unusedVariables false
set_option linter.unusedSimpArgs false
open Go.RowKit

/-- What Sealed answers: a text that is no longer. -/
def SealR (s : ByteArray) (w : World) (e : Ending) (w' : World) : Prop := ∃ r : ByteArray, e = .returned (.string r) ∧ r.size ≤ s.size ∧ Below w.heap.size w w'

set_option maxRecDepth 100000 in
set_option maxHeartbeats 2000000 in
theorem Sealed_any (w : World) (s : ByteArray) (hs : s.size ≤ 2 ^ 30) : Calls Try.prog 25 #[.string s] w (SealR s w) := by
  go_enter Try.func25, Try.ntmps25
  by_cases c1 : (s.size : Int) < 4
  · go_wp2
    go_ret
    exact ⟨s, rfl, by omega, Below.refl _ _⟩
  · have c2 : (4 : Int) ≤ (s.size : Int) := by omega
    have HE : Hid ((s.extract 0 4).size + (s.extract 4 s.size).size ≤ s.size) := by show _ ≤ _; rw [ByteArray.size_extract, ByteArray.size_extract]; omega
    go_wp2_with fail
    go_loopw [0, 3, 4] (fun a b c wr => ∃ (t o : ByteArray) (k : Nat), a = .string t ∧ b = .string o ∧ c = .int .i64 k ∧ k ≤ 3 ∧ o.size + t.size ≤ s.size ∧ Hid (Below w.heap.size w wr)) (fun _ _ c _ => 3 - (intOf c).toNat)
    case atStart => exact ⟨_, _, 0, rfl, rfl, rfl, by omega, HE.out, Below.refl _ _⟩
    case round =>
      obtain ⟨t, o, k, rfl, rfl, rfl, hk, ht, hB⟩ := hrel
      have hBs := hB.out.size
      by_cases c : k < 3
      · have c' : (k : Int) < 3 := by omega
        go_wp2_with fail
        refine (first_any _ t (by omega)).mono ?_
        rintro e w1 ⟨n, r, ok, rfl, hn, hr, hb⟩
        have HB1 : Hid (Below w.heap.size w w1) := hB.out.trans (hb.mono hBs)
        have hB1s := HB1.out.size
        clear hb
        have hsum : ¬ 9223372036854775807 < o.size + t.size := by omega
        cases ok
        · clear hr
          go_wp2
          go_ret
          exact ⟨_, rfl, by rw [ByteArray.size_append]; omega, HB1.out⟩
        · have hr' := hr rfl
          clear hr
          by_cases d : (r.size : Int) < (n : Int) + 4
          · go_wp2
            go_ret
            exact ⟨_, rfl, by rw [ByteArray.size_append]; omega, HB1.out⟩
          · have d2 : (n : Int) ≤ (r.size : Int) := by omega
            have d3 : (n : Int) + 4 ≤ (r.size : Int) := by omega
            have d5 : ((n : Int) + 4).toNat = n + 4 := by omega
            have d6 : (0 : Int) ≤ (n : Int) + 4 := by omega
            have d7 : IntKind.i64.wrap ((n : Int) + 4) = (n : Int) + 4 := by rw [IntKind.wrap_i64]; omega
            have q1 : (0 : Int) ≤ (t.size : Int) - (r.size : Int) := by omega
            have q2 : (t.size : Int) - (r.size : Int) ≤ (t.size : Int) := by omega
            have q3 : ((t.size : Int) - (r.size : Int)).toNat = t.size - r.size := by omega
            have q4 : IntKind.i64.wrap ((t.size : Int) - (r.size : Int)) = (t.size : Int) - (r.size : Int) := by rw [IntKind.wrap_i64]; omega
            have z1 : (t.extract 0 (t.size - r.size)).size = t.size - r.size := by rw [ByteArray.size_extract]; omega
            have z2 : (r.extract 0 n).size = n := by rw [ByteArray.size_extract]; omega
            have z3 : (r.extract (n + 4) r.size).size = r.size - (n + 4) := by rw [ByteArray.size_extract]; omega
            have HZ := hid (And.intro z1 (And.intro z2 z3))
            have HSz : Hid ((r.extract 0 n).size ≤ 2 ^ 40) := by show _ ≤ _; omega
            have S2 : ∀ x : ByteArray, x.size ≤ 4 → ¬ 9223372036854775807 < (t.extract 0 (t.size - r.size) ++ r.extract 0 n).size + x.size := fun x hx => by rw [ByteArray.size_append]; omega
            have S3 : ∀ x : ByteArray, x.size ≤ 4 → ¬ 9223372036854775807 < o.size + (t.extract 0 (t.size - r.size) ++ r.extract 0 n ++ x).size := fun x hx => by rw [ByteArray.size_append, ByteArray.size_append]; omega
            have s1 : ¬ 9223372036854775807 < (t.extract 0 (t.size - r.size)).size + (r.extract 0 n).size := by omega
            clear z1 z2 z3 d
            have d' : decide ((r.size : Int) < (n : Int) + 4) = false := by simp; omega
            go_wp2_with fail
            go_region_held (fun _ => True) (trivial) (first | (go_at_call 48; refine (sum_any _ _ HSz.out).mono ?_; rintro e w2 ⟨r2, rfl, z1, hb2⟩; have HB2 : Hid (Below w.heap.size w w2) := (HB1.out.trans ((below_drew hb2).mono hB1s)); have HR2 : Hid (r2.size = 4) := z1; have z1' : r2.size ≤ 4 := (by omega); have s2 : ¬ 9223372036854775807 < (t.extract 0 (t.size - r.size) ++ r.extract 0 n).size + r2.size := (by rw [ByteArray.size_append]; have := HZ.out; omega); have s3 : ¬ 9223372036854775807 < o.size + (t.extract 0 (t.size - r.size) ++ r.extract 0 n ++ r2).size := (by rw [ByteArray.size_append, ByteArray.size_append]; have := HZ.out; omega); clear hb2 z1))
            all_goals
              go_wp2
              refine ⟨⟨_, _, k + 1, rfl, rfl, by go_num, by omega, ?_, HB2⟩, by simp [intOf]; omega⟩
              have h1 := HZ.out
              have h2 := HR2.out
              rw [ByteArray.size_append, ByteArray.size_append, ByteArray.size_append]
              omega
      · have c' : ¬ (k : Int) < 3 := by omega
        have hsum : ¬ 9223372036854775807 < o.size + t.size := by omega
        go_wp2
        go_ret
        exact ⟨_, rfl, by rw [ByteArray.size_append]; omega, hB.out⟩

end Go.Proofs.Ytfgahilgjpjncaa
