import Derived.Test.YtgponhhaopmlbabKnB
import Derived.WalkKit
import Derived.ProofKit
import Derived.OpenShut
import Derived.ShutString
/-
  The proof of Rows.KeptSaid at a commit whose Save and Load are stubs, over the contracts of the texts that it imports. The frame is the one that the program proof-skeleton wrote, turned to Below.
-/
namespace Go.Proofs.Ytgponhhaopmlbab
set_option linter.unusedVariables false
set_option linter.unusedSimpArgs false
open Go.ChangeShapes Go.WideShapes Go.ChangeAt Go.RowKit
open Go.ChangeMaps (open_string shut_string)
set_option linter.unusedVariables false

theorem own : ownKnob Try.prog.godebug = none := by kernel_rfl

theorem range_i64 {x : Int} (h : (Lit.int .i64 x).wf = true) : -9223372036854775808 ≤ x ∧ x ≤ 9223372036854775807 := by
  have := bounds_i64 h; omega

set_option maxRecDepth 100000 in
set_option maxHeartbeats 1000000 in
/-- The law's own walk. -/
theorem walk (a0 a1 a3 : Int) (a2 a4 : ByteArray) (w0 : (Lit.int .i64 a0).wf = true) (w1 : (Lit.int .i64 a1).wf = true) (w2 : a2.size ≤ maxLen) (w4 : a4.size ≤ maxLen) (w : World) :
    Calls Try.prog 5 #[.int .i64 a0, .int .i64 a1, .string a2, .int .i64 a3, .string a4] w fun e w' => e = .returned (.bool true) ∧ Below w.heap.size w w' := by
  obtain ⟨x1, x2⟩ := range_i64 w0
  obtain ⟨y1, y2⟩ := range_i64 w1
  unfold maxLen at w2 w4
  clear w0 w1
  by_cases hs : (1048576 : Int) < a2.size
  · go_enter Try.func5, Try.ntmps5
    go_wp2_with fail
    go_ret
    exact ⟨rfl, Below.refl _ _⟩
  · by_cases ht : (1048576 : Int) < a4.size
    · go_enter Try.func5, Try.ntmps5
      go_wp2_with fail
      go_ret
      exact ⟨rfl, Below.refl _ _⟩
    · go_enter Try.func5, Try.ntmps5
      go_wp2_with fail
      refine (begun_any a0 a1 _ x1 x2 y1 y2).mono ?_
      rintro e z ⟨W, n, g, E, G, pr, rfl, I, A, L⟩
      have HI := hid I
      have HA := hid A
      have HL := hid L
      clear I A L
      go_wp2_with fail
      refine (many_any W _ g n E G pr a2 z HI.out HA.out HL.out.size (by omega)).mono ?_
      rintro e z2 ⟨rfl, ⟨E2, G2, pr2, I2⟩, L2⟩
      have HI2 := hid I2
      have HL2 : Hid (Below w.heap.size w z2) := HL.out.trans L2
      have c1 := I2.core.w1
      have c2 := I2.core.w2
      have fW := I2.core.fW
      clear I2 L2 HI HL
      go_wp2_with fail
      refine (Save_ptr _ z2).mono ?_
      rintro e z' ⟨rfl, hw⟩
      replace hw := hw.symm
      subst hw
      go_wp2_with fail
      refine (Load_any z2 _ a3).mono ?_
      rintro e z' ⟨rfl, hw⟩
      replace hw := hw.symm
      subst hw
      go_wp2_with fail
      refine (Save_ptr none z2).mono ?_
      rintro e z' ⟨rfl, hw⟩
      replace hw := hw.symm
      subst hw
      go_wp2_with fail
      have HK := hid HI2.out.nil
      have HL3 : Hid (Below w.heap.size w (z2.setCell ⟨W, 2, none⟩ (.pointer none))) := HL2.out.setCell HA.out.bW _
      generalize z2.setCell ⟨W, 2, none⟩ (.pointer none) = z3 at HK HL3 ⊢
      clear c1 c2 fW
      refine (many_nil W _ g n E2 G2 pr2 a4 z3 HK.out HA.out HL3.out.size (by omega)).mono ?_
      rintro e z4 ⟨b, rfl, ⟨d1, d2⟩, L4⟩
      have HL4 : Hid (Below w.heap.size w z4) := HL3.out.trans L4
      clear L4
      go_wp2_with fail
      go_quiet (first | (go_at_call 9; exact Calls.quiet_of_same (Save_ptr _ _)))
      go_wp2
      go_ret
      exact ⟨rfl, Below.drewN' _ HL4.out⟩

set_option maxRecDepth 100000 in
theorem lifted (os : Os) (started : os.Started) (H : Type) (enc : TypeId × Value → H) :
    ReturnsInHanded {} Try.checked os 5 .any (Rows.keptSpec.pre6 enc Try.prog Try.f5 Rows.keptRow.domain false) (Rows.keptSpec.post enc Try.prog Try.f5 false true false false) := by
  refine returnsInHanded_of_change (C := Try.checked) own started (by kernel_rfl) Try.func5
    (ChangeSpec.witness6 (enc := enc) (C := Try.checked) false ⟨#[], #[.int .i64 0, .int .i64 0, .string ByteArray.empty, .int .i64 0, .string ByteArray.empty], []⟩ 8 (by kernel_rfl) (by kernel_rfl) (by kernel_rfl) (by kernel_rfl)) ?_
  intro W base args ds gs before hval0 hW hcnd _
  have hval : ∀ (j : Nat) t v, Try.f5.params[j]? = some t → args[j]? = some v → Value.okWide Try.prog W .any base t v := hval0
  have hW' := hW
  obtain ⟨p, q, hA0, hV, rfl, hfz, hnd⟩ := hW
  have hA : DataW.TrodAll enc Try.prog W 0 (fun _ => true) true Try.f5.params.toList args.toList ds p := hA0
  rw [Try.params5] at hA hval
  obtain ⟨v0, vs0, d0, ds0, p0, q0, hargs, rfl, rfl, h0, r0⟩ := trodAll_cons hA
  obtain ⟨v1, vs1, d1, ds1, p1, q1, rfl, rfl, rfl, h1, r1⟩ := trodAll_cons r0
  obtain ⟨v2, vs2, d2, ds2, p2, q2, rfl, rfl, rfl, h2, r2⟩ := trodAll_cons r1
  obtain ⟨v3, vs3, d3, ds3, p3, q3, rfl, rfl, rfl, h3, r3⟩ := trodAll_cons r2
  obtain ⟨v4, vs4, d4, ds4, p4, q4, rfl, rfl, rfl, h4, r4⟩ := trodAll_cons r3
  obtain ⟨rfl, rfl, rfl⟩ := trodAll_nil r4
  obtain rfl : args = #[v0, v1, v2, v3, v4] := by cases args; simp_all
  obtain ⟨rfl, rfl⟩ := trodVars_none hV
  obtain ⟨a0, rfl, rfl, rfl, w0⟩ := open_int Try.underlying3 (hval 0 3 v0 rfl rfl) h0
  obtain ⟨a1, rfl, rfl, rfl, w1⟩ := open_int Try.underlying3 (hval 1 3 v1 rfl rfl) h1
  obtain ⟨a2, rfl, rfl, rfl, w2⟩ := open_string Try.underlying9 (hval 2 9 v2 rfl rfl) h2
  obtain ⟨a3, rfl, rfl, rfl, w3⟩ := open_int Try.underlying3 (hval 3 3 v3 rfl rfl) h3
  obtain ⟨a4, rfl, rfl, rfl, w4⟩ := open_string Try.underlying9 (hval 4 9 v4 rfl rfl) h4
  clear hA0 hval0
  simp only [List.append_nil] at hW'
  refine (walk a0 a1 a3 a2 a4 w0 w1 w2 w4 W).mono fun e W' ⟨he, bel⟩ => ?_
  subst he
  exact ⟨_, rfl, _, _, _, [], [], [], hW', trodAll_mk1 (shut_bool Try.underlying4 _), (trodAll_cons_mk (shut_int Try.underlying3 w0) (trodAll_cons_mk (shut_int Try.underlying3 w1) (trodAll_cons_mk (shut_string Try.underlying9 w2) (trodAll_cons_mk (shut_int Try.underlying3 w3) (trodAll_cons_mk (shut_string Try.underlying9 w4) trodAll_mk0))))), rfl, bel.frame _, fun h => by cases h⟩

theorem over : Rows.keptRow.holds Try.pinned (OpenSpec.ofChange Rows.keptSpec) :=
  OpenClaim.holds_of_wide 5 Try.f5 rfl rfl rfl rfl rfl rfl rfl ⟨rfl, rfl, rfl, rfl, rfl⟩ rfl rfl rfl rfl rfl (by kernel_rfl) Try.func5 (by kernel_rfl)
    (of_decide_eq_true (by kernel_rfl)) (by unfold Func.isWrapper; first | (rw [if_pos (by decide +kernel)]; kernel_rfl) | (rw [if_neg (by decide +kernel)]; exact ⟨rfl, rfl⟩))
    (fun os started H enc _ => lifted os started H enc)

theorem kept_holds : Rows.KeptSaid :=
  over
#print axioms kept_holds
end Go.Proofs.Ytgponhhaopmlbab
