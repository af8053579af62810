import Derived.Test.YtckallochdegiaaGreatParts
import Derived.Test.YtckallochdegiaaGreatLaw
import Derived.Lib.ConvBytes
namespace Go.Proofs.YtckallochdegiaaGreat
set_option linter.unusedVariables false
set_option linter.unusedSimpArgs false
open Go.RowKit

/-- What Sealed answers: a text that is no longer. -/
def SealR (s : ByteArray) (w : World) (e : Ending) (w' : World) : Prop := ∃ r : ByteArray, e = .returned (.string r) ∧ r.size ≤ s.size ∧ Below w.heap.size w w'

set_option maxRecDepth 100000 in
set_option maxHeartbeats 2000000 in
theorem Sealed_any (w : World) (s : ByteArray) (hs : s.size ≤ 2 ^ 30) : Calls Tryz.prog 18 #[.string s] w (SealR s w) := by
  go_enter Tryz.func18, Tryz.ntmps18
  by_cases c1 : (s.size : Int) < 4
  · go_wp2
    go_ret
    exact ⟨s, rfl, by omega, Below.refl _ _⟩
  · have c2 : (4 : Int) ≤ (s.size : Int) := by omega
    have HE : Hid ((s.extract 0 4).size + (s.extract 4 s.size).size ≤ s.size) := by show _ ≤ _; rw [ByteArray.size_extract, ByteArray.size_extract]; omega
    go_wp2_with fail
    go_loopw [0, 3, 4] (fun a b c wr => ∃ (t o : ByteArray) (k : Nat), a = .string t ∧ b = .string o ∧ c = .int .i64 k ∧ k ≤ 3 ∧ o.size + t.size ≤ s.size ∧ Hid (Below w.heap.size w wr)) (fun _ _ c _ => 3 - (intOf c).toNat)
    case atStart => exact ⟨_, _, 0, rfl, rfl, rfl, by omega, HE.out, Below.refl _ _⟩
    case round =>
      obtain ⟨t, o, k, rfl, rfl, rfl, hk, ht, hB⟩ := hrel
      have hBs := hB.out.size
      by_cases c : k < 3
      · have c' : (k : Int) < 3 := by omega
        go_wp2_with fail
        refine (first_any _ t (by omega)).mono ?_
        rintro e w1 ⟨n, r, ok, rfl, hn, hr, hb⟩
        have HB1 : Hid (Below w.heap.size w w1) := hB.out.trans (hb.mono hBs)
        have hB1s := HB1.out.size
        clear hb
        have hsum : ¬ 9223372036854775807 < o.size + t.size := by omega
        cases ok
        · clear hr
          go_wp2
          go_ret
          exact ⟨_, rfl, by rw [ByteArray.size_append]; omega, HB1.out⟩
        · have hr' := hr rfl
          clear hr
          by_cases d : (r.size : Int) < (n : Int) + 4
          · go_wp2
            go_ret
            exact ⟨_, rfl, by rw [ByteArray.size_append]; omega, HB1.out⟩
          · have d2 : (n : Int) ≤ (r.size : Int) := by omega
            have d3 : (n : Int) + 4 ≤ (r.size : Int) := by omega
            have d5 : ((n : Int) + 4).toNat = n + 4 := by omega
            have d6 : (0 : Int) ≤ (n : Int) + 4 := by omega
            have d7 : IntKind.i64.wrap ((n : Int) + 4) = (n : Int) + 4 := by rw [IntKind.wrap_i64]; omega
            have q1 : (0 : Int) ≤ (t.size : Int) - (r.size : Int) := by omega
            have q2 : (t.size : Int) - (r.size : Int) ≤ (t.size : Int) := by omega
            have q3 : ((t.size : Int) - (r.size : Int)).toNat = t.size - r.size := by omega
            have q4 : IntKind.i64.wrap ((t.size : Int) - (r.size : Int)) = (t.size : Int) - (r.size : Int) := by rw [IntKind.wrap_i64]; omega
            have z1 : (t.extract 0 (t.size - r.size)).size = t.size - r.size := by rw [ByteArray.size_extract]; omega
            have z2 : (r.extract 0 n).size = n := by rw [ByteArray.size_extract]; omega
            have z3 : (r.extract (n + 4) r.size).size = r.size - (n + 4) := by rw [ByteArray.size_extract]; omega
            have HZ := hid (And.intro z1 (And.intro z2 z3))
            have HSz : Hid ((r.extract 0 n).size ≤ 2 ^ 40) := by show _ ≤ _; omega
            have S2 : ∀ x : ByteArray, x.size ≤ 4 → ¬ 9223372036854775807 < (t.extract 0 (t.size - r.size) ++ r.extract 0 n).size + x.size := fun x hx => by rw [ByteArray.size_append]; omega
            have S3 : ∀ x : ByteArray, x.size ≤ 4 → ¬ 9223372036854775807 < o.size + (t.extract 0 (t.size - r.size) ++ r.extract 0 n ++ x).size := fun x hx => by rw [ByteArray.size_append, ByteArray.size_append]; omega
            have s1 : ¬ 9223372036854775807 < (t.extract 0 (t.size - r.size)).size + (r.extract 0 n).size := by omega
            clear z1 z2 z3 d
            have d' : decide ((r.size : Int) < (n : Int) + 4) = false := by simp; omega
            go_wp2_with fail
            go_region_held (fun _ => True) (trivial) (first | (go_at_call 31; refine (sum_any _ _ HSz.out).mono ?_; rintro e w2 ⟨r2, rfl, z1, hb2⟩; have HB2 : Hid (Below w.heap.size w w2) := (HB1.out.trans ((below_drew hb2).mono hB1s)); have HR2 : Hid (r2.size = 4) := z1; have z1' : r2.size ≤ 4 := (by omega); have s2 : ¬ 9223372036854775807 < (t.extract 0 (t.size - r.size) ++ r.extract 0 n).size + r2.size := (by rw [ByteArray.size_append]; have := HZ.out; omega); have s3 : ¬ 9223372036854775807 < o.size + (t.extract 0 (t.size - r.size) ++ r.extract 0 n ++ r2).size := (by rw [ByteArray.size_append, ByteArray.size_append]; have := HZ.out; omega); clear hb2 z1))
            all_goals
              go_wp2
              refine ⟨⟨_, _, k + 1, rfl, rfl, by go_num, by omega, ?_, HB2⟩, by simp [intOf]; omega⟩
              have h1 := HZ.out
              have h2 := HR2.out
              rw [ByteArray.size_append, ByteArray.size_append, ByteArray.size_append]
              omega
      · have c' : ¬ (k : Int) < 3 := by omega
        have hsum : ¬ 9223372036854775807 < o.size + t.size := by omega
        go_wp2
        go_ret
        exact ⟨_, rfl, by rw [ByteArray.size_append]; omega, hB.out⟩

end Go.Proofs.YtckallochdegiaaGreat
namespace Go.Proofs.YtckallochdegiaaGreat
set_option linter.unusedVariables false
set_option linter.unusedSimpArgs false
open Go.RowKit

theorem bytesWorld_below (w : World) (e : TypeId) (s : ByteArray) : Below w.heap.size w (Go.Lib.bytesWorld w e s) :=
  ⟨rfl, rfl, rfl, by rw [Go.Lib.bytesWorld_size]; omega, fun k hk => Go.Lib.bytesWorld_at_old w e s k hk⟩

theorem bytesCells_size (w : World) (e : TypeId) (s : ByteArray) : s.size ≤ (Go.Lib.bytesCells w e s).size := by
  simp [Go.Lib.bytesCells]

theorem bytesWorld_frozen (w : World) (e : TypeId) (s : ByteArray) (j : Nat) (hj : j < s.size) : (Go.Lib.bytesWorld w e s).frozen? ⟨w.heap.size, j, none⟩ = false := by
  have := bytesCells_size w e s
  simp [World.frozen?, Go.Lib.bytesWorld_at_new]
  omega

/-- '[]byte(s)', one byte written, 'string(b)'. -/
theorem bent_conv (w : World) (s : ByteArray) : ∃ (cap : Nat) (wB : World), (convert 9 106 (.string s)).run Tryz.prog w = .ok (.slice (some ⟨w.heap.size, 0, none⟩) s.size cap) wB ∧ Below w.heap.size w wB ∧
    (∀ j, j < s.size → ∃ b : Nat, b < 256 ∧ wB.cell? ⟨w.heap.size, j, none⟩ = some (.int .u8 (b : Int))) ∧ (∀ j, j < s.size → wB.frozen? ⟨w.heap.size, j, none⟩ = false) ∧
    (∀ k x, k < s.size → ∃ s' : ByteArray, s'.size = s.size ∧ (convert 106 9 (.slice (some ⟨w.heap.size, 0, none⟩) s.size cap)).run Tryz.prog (wB.setCell ⟨w.heap.size, k, none⟩ (.int .u8 x)) = .ok (.string s') (wB.setCell ⟨w.heap.size, k, none⟩ (.int .u8 x))) := by
  have hcell := fun j hj => Go.Lib.bytesWorld_cell w 5 s j hj
  refine ⟨_, _, Go.Lib.run_convert_string_bytes (P := Tryz.prog) w 9 106 5 s (u := .string) (by kernel_rfl) (by kernel_rfl) (by kernel_rfl), bytesWorld_below _ _ _, fun j hj => ⟨_, ?_, hcell j hj⟩, fun j hj => bytesWorld_frozen _ _ _ j hj, fun k x hk => ?_⟩
  · exact UInt8.toNat_lt _
  · have e : ((s.data.toList.map fun b : UInt8 => (b.toNat : Int)).set k x).length = s.size := by rw [List.length_set, List.length_map, Array.length_toList]; rfl
    refine ⟨strOfNums ((s.data.toList.map fun b : UInt8 => (b.toNat : Int)).set k x), by rw [strOfNums_size, e], ?_⟩
    refine run_convert_bytes_arg _ 106 5 (by kernel_rfl) (by kernel_rfl) w.heap.size 0 s.size _ _ e (fun i hi => ?_) 9 (by kernel_rfl)
    rw [Nat.zero_add]
    have hs : i < s.data.toList.length := by rw [Array.length_toList]; exact hi
    by_cases q : i = k
    · subst q
      rw [World.cell?_setCell_same _ _ _ (hcell i hi)]
      rw [List.getD_eq_getElem?_getD, List.getElem?_set_self (by rw [List.length_map]; exact hs)]
      rfl
    · rw [World.cell?_setCell_other (h := fun z => q (congrArg Addr.off z).symm), hcell i hi]
      rw [List.getD_eq_getElem?_getD, List.getD_eq_getElem?_getD, List.getElem?_set_ne (fun z => q z.symm), List.getElem?_map, List.getElem?_eq_getElem hs]
      rfl

/-- What bent answers: a text that is no longer. -/
def BentR (s : ByteArray) (w : World) (e : Ending) (w' : World) : Prop := ∃ r : ByteArray, e = .returned (.string r) ∧ r.size ≤ s.size ∧ Below w.heap.size w w'

set_option maxRecDepth 100000 in
set_option maxHeartbeats 2000000 in
theorem bent_any (w : World) (s : ByteArray) (x y : Int) (hs : s.size ≤ 2 ^ 40) (hx0 : -9223372036854775808 ≤ x) (hx1 : x ≤ 9223372036854775807) : Calls Tryz.prog 78 #[.string s, .int .i64 x, .int .i64 y] w (BentR s w) := by
  go_enter Tryz.func78, Tryz.ntmps78
  by_cases c0 : s.size = 0
  · have c0' : s = ⟨#[]⟩ := by
      have : s.data.size = 0 := c0
      cases s
      simp at this
      simp [this]
    subst c0'
    go_wp2
    go_ret
    exact ⟨_, rfl, by simp, Below.refl _ _⟩
  · have c1 : (s.toList == []) = false := by
      cases q : (s.toList == [])
      · rfl
      · exfalso
        apply c0
        have q1 : s.toList = [] := by simpa using q
        rw [ByteArray.toList_eq] at q1
        show s.data.size = 0
        rw [← Array.length_toList, q1]
        rfl
    have hp : 0 < s.size := by omega
    clear c0
    go_wp2_with fail
    refine (pick_any w x s.size hp hx0 hx1 (by omega)).mono ?_
    rintro _ w' ⟨rfl, hw⟩
    replace hw := hw.symm
    subst hw
    have hk := pk_lt x hp
    generalize pk x s.size = k at hk ⊢
    have k1 : (k : Int) ≤ (s.size : Int) := by omega
    have k2 : (k : Int) + 1 ≤ (s.size : Int) := by omega
    have k3 : ((k : Int) + 1).toNat = k + 1 := by omega
    have k4 : (0 : Int) ≤ (k : Int) + 1 := by omega
    have k5 : IntKind.i64.wrap ((k : Int) + 1) = (k : Int) + 1 := by rw [IntKind.wrap_i64]; omega
    have k6 : (k : Int) < (s.size : Int) := by omega
    by_cases cy : y = 0
    · subst cy
      have z1 : (s.extract 0 k).size = k := by rw [ByteArray.size_extract]; omega
      have z2 : (s.extract (k + 1) s.size).size = s.size - (k + 1) := by rw [ByteArray.size_extract]; omega
      have HZ := hid (And.intro z1 z2)
      have s1 : ¬ 9223372036854775807 < (s.extract 0 k).size + (s.extract (k + 1) s.size).size := by omega
      clear z1 z2
      go_wp2_with fail
      go_quiet (fail)
      go_wp2
      go_ret
      refine ⟨_, rfl, ?_, Below.drewN' _ (Below.refl _ _)⟩
      rw [ByteArray.size_append]
      have := HZ.out
      omega
    · have cy' : (y == 0) = false := by simpa using cy
      obtain ⟨cap, wB, b1, b2, b3, b4, b5⟩ := bent_conv w s
      obtain ⟨v0, hv0, d⟩ := b3 k hk
      have f := b4 k hk
      have HB := hid b2
      have H5 : Hid (∀ x, ∃ s' : ByteArray, s'.size = s.size ∧ (convert 106 9 (.slice (some ⟨w.heap.size, 0, none⟩) s.size cap)).run Tryz.prog (wB.setCell ⟨w.heap.size, k, none⟩ (.int .u8 x)) = .ok (.string s') (wB.setCell ⟨w.heap.size, k, none⟩ (.int .u8 x))) := fun x => b5 k x hk
      clear b2 b3 b4 b5 cy
      go_wp2_with fail
      obtain ⟨s', hs', hc⟩ := H5.out (bits BinOp.xor IntKind.u8 (v0 : Int) (y % 256))
      have HS := hid hs'
      clear hs'
      rw [hc]
      go_wp2
      go_ret
      exact ⟨s', rfl, by rw [HS.out]; exact Nat.le_refl _, HB.out.setCell (Nat.le_refl _) _⟩

end Go.Proofs.YtckallochdegiaaGreat
