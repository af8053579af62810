import Derived.Test.YtckallochdegiabKlS
import Derived.WalkKit
import Derived.ProofKit
import Derived.OpenShut
import Derived.ShutString
/-
  The proof of Rows.LevelsSaid over the contracts of the texts that it imports. The frame is the one that the program proof-skeleton wrote, turned to Below.
-/
namespace Go.Proofs.Ytckallochdegiab
set_option linter.unusedVariables false
set_option linter.unusedSimpArgs false
open Go.ChangeShapes Go.WideShapes Go.ChangeAt Go.RowKit
open Go.ChangeMaps (open_string shut_string)
set_option linter.unusedVariables false

theorem own : ownKnob Try.prog.godebug = none := by kernel_rfl

theorem range_i64 {x : Int} (h : (Lit.int .i64 x).wf = true) : -9223372036854775808 ≤ x ∧ x ≤ 9223372036854775807 := by
  have := bounds_i64 h; omega

set_option maxRecDepth 100000 in
set_option maxHeartbeats 2000000 in
/-- The law's own walk. -/
theorem walk (a0 : Int) (a1 : Int) (a2 : ByteArray) (a3 : ByteArray) (w0 : (Lit.int .i64 a0).wf = true) (w1 : (Lit.int .i64 a1).wf = true) (w2 : a2.size ≤ maxLen) (w3 : a3.size ≤ maxLen) (w : World) :
    Calls Try.prog 7 #[.int .i64 a0, .int .i64 a1, .string a2, .string a3] w fun e w' => e = .returned (.bool true) ∧ Below w.heap.size w w' := by
  obtain ⟨x1, x2⟩ := range_i64 w0
  obtain ⟨y1, y2⟩ := range_i64 w1
  unfold maxLen at w2 w3
  by_cases hs : (1048576 : Int) < a2.size
  · go_enter Try.func7, Try.ntmps7
    go_wp2_with fail
    go_ret
    exact ⟨rfl, Below.refl _ _⟩
  · by_cases hs3 : (1048576 : Int) < a3.size
    · go_enter Try.func7, Try.ntmps7
      go_wp2_with fail
      go_ret
      exact ⟨rfl, Below.refl _ _⟩
    · go_enter Try.func7, Try.ntmps7
      go_wp2_with fail
      refine (begun_any a0 a1 _ x1 x2 y1 y2).mono ?_
      rintro e z ⟨W, n, g, E, G, pr, rfl, I, A, X, L⟩
      have HI := hid I
      have HX := hid X
      have HA := hid A
      have HL := hid L
      clear I A X L
      go_wp2_with fail
      refine (many_any W _ g n E G pr a2 z HI.out 0 HX.out (by omega) HA.out HL.out.size (by omega)).mono ?_
      rintro e z2 ⟨rfl, ⟨E2, G2, pr2, I2, X2⟩, L2⟩
      have c1 := I2.core.w1
      have HI2 := hid I2
      have HX2 := hid X2
      have HL2 : Hid (Below w.heap.size w z2) := HL.out.trans L2
      clear I2 X2 L2 HI HX HL
      go_wp2_with fail
      refine (Save_any z2 g.a G2 pr2 HI2.out.ia HI2.out.gi).mono ?_
      rintro e z3 ⟨rfl, b3⟩
      have HI3 := hid (HI2.out.below b3)
      have HX3 := hid (HX2.out.below b3)
      have HL3 : Hid (Below w.heap.size w z3) := HL2.out.trans (b3.mono HL2.out.size)
      clear b3 HI2 HX2 HL2 c1
      go_wp2_with fail
      refine (leveled_any z3 g W w.heap.size n _ E2 G2 pr2 HI3.out HX3.out HA.out (by omega) HL3.out.size).mono ?_
      rintro e z4 ⟨rfl, ⟨I4, X4⟩, L4⟩
      have HI4 := hid I4
      have HX4 := hid X4
      have HL4 : Hid (Below w.heap.size w z4) := HL3.out.trans L4
      clear I4 X4 L4 HI3 HX3 HL3
      go_wp2_with fail
      refine (many_any W _ g n E2 G2 pr2 a3 z4 HI4.out _ HX4.out (by omega) HA.out HL4.out.size (by omega)).mono ?_
      rintro e z5 ⟨rfl, ⟨E5, G5, pr5, I5, X5⟩, L5⟩
      have c1 := I5.core.w1
      have HI5 := hid I5
      have HX5 := hid X5
      have HL5 : Hid (Below w.heap.size w z5) := HL4.out.trans L5
      clear I5 X5 L5 HI4 HX4 HL4
      go_wp2_with fail
      refine (Save_any z5 g.a G5 pr5 HI5.out.ia HI5.out.gi).mono ?_
      rintro e z6 ⟨rfl, b6⟩
      have HI6 := hid (HI5.out.below b6)
      have HX6 := hid (HX5.out.below b6)
      have HL6 : Hid (Below w.heap.size w z6) := HL5.out.trans (b6.mono HL5.out.size)
      clear b6 HI5 HX5 HL5 c1
      go_wp2_with fail
      refine (leveled_any z6 g W w.heap.size n _ E5 G5 pr5 HI6.out HX6.out HA.out (by omega) HL6.out.size).mono ?_
      rintro e z7 ⟨rfl, _, L7⟩
      have HL7 : Hid (Below w.heap.size w z7) := HL6.out.trans L7
      clear L7
      go_wp2_with fail
      go_ret
      exact ⟨rfl, HL7.out⟩

set_option maxRecDepth 100000 in
theorem lifted (os : Os) (started : os.Started) (H : Type) (enc : TypeId × Value → H) :
    ReturnsInHanded {} Try.checked os 7 .any (Rows.levelsSpec.pre6 enc Try.prog Try.f7 Rows.levelsRow.domain false) (Rows.levelsSpec.post enc Try.prog Try.f7 false true false false) := by
  refine returnsInHanded_of_change (C := Try.checked) own started (by kernel_rfl) Try.func7
    (ChangeSpec.witness6 (enc := enc) (C := Try.checked) false ⟨#[], #[.int .i64 0, .int .i64 0, .string ByteArray.empty, .string ByteArray.empty], []⟩ 8 (by kernel_rfl) (by kernel_rfl) (by kernel_rfl) (by kernel_rfl)) ?_
  intro W base args ds gs before hval0 hW hcnd _
  have hval : ∀ (j : Nat) t v, Try.f7.params[j]? = some t → args[j]? = some v → Value.okWide Try.prog W .any base t v := hval0
  have hW' := hW
  obtain ⟨p, q, hA0, hV, rfl, hfz, hnd⟩ := hW
  have hA : DataW.TrodAll enc Try.prog W 0 (fun _ => true) true Try.f7.params.toList args.toList ds p := hA0
  rw [Try.params7] at hA hval
  obtain ⟨v0, vs0, d0, ds0, p0, q0, hargs, rfl, rfl, h0, r0⟩ := trodAll_cons hA
  obtain ⟨v1, vs1, d1, ds1, p1, q1, rfl, rfl, rfl, h1, r1⟩ := trodAll_cons r0
  obtain ⟨v2, vs2, d2, ds2, p2, q2, rfl, rfl, rfl, h2, r2⟩ := trodAll_cons r1
  obtain ⟨v3, vs3, d3, ds3, p3, q3, rfl, rfl, rfl, h3, r3⟩ := trodAll_cons r2
  obtain ⟨rfl, rfl, rfl⟩ := trodAll_nil r3
  obtain rfl : args = #[v0, v1, v2, v3] := by cases args; simp_all
  obtain ⟨rfl, rfl⟩ := trodVars_none hV
  obtain ⟨a0, rfl, rfl, rfl, w0⟩ := open_int Try.underlying3 (hval 0 3 v0 rfl rfl) h0
  obtain ⟨a1, rfl, rfl, rfl, w1⟩ := open_int Try.underlying3 (hval 1 3 v1 rfl rfl) h1
  obtain ⟨a2, rfl, rfl, rfl, w2⟩ := open_string Try.underlying9 (hval 2 9 v2 rfl rfl) h2
  obtain ⟨a3, rfl, rfl, rfl, w3⟩ := open_string Try.underlying9 (hval 3 9 v3 rfl rfl) h3
  clear hA0 hval0
  simp only [List.append_nil] at hW'
  refine (walk a0 a1 a2 a3 w0 w1 w2 w3 W).mono fun e W' ⟨he, bel⟩ => ?_
  subst he
  exact ⟨_, rfl, _, _, _, [], [], [], hW', trodAll_mk1 (shut_bool Try.underlying4 _), (trodAll_cons_mk (shut_int Try.underlying3 w0) (trodAll_cons_mk (shut_int Try.underlying3 w1) (trodAll_cons_mk (shut_string Try.underlying9 w2) (trodAll_cons_mk (shut_string Try.underlying9 w3) trodAll_mk0)))), rfl, bel.frame _, fun h => by cases h⟩

theorem over : Rows.levelsRow.holds Try.pinned (OpenSpec.ofChange Rows.levelsSpec) :=
  OpenClaim.holds_of_wide 7 Try.f7 rfl rfl rfl rfl rfl rfl rfl ⟨rfl, rfl, rfl, rfl, rfl⟩ rfl rfl rfl rfl rfl (by kernel_rfl) Try.func7 (by kernel_rfl)
    (of_decide_eq_true (by kernel_rfl)) (by unfold Func.isWrapper; first | (rw [if_pos (by decide +kernel)]; kernel_rfl) | (rw [if_neg (by decide +kernel)]; exact ⟨rfl, rfl⟩))
    (fun os started H enc _ => lifted os started H enc)

theorem levels_holds : Rows.LevelsSaid :=
  over
#print axioms levels_holds
end Go.Proofs.Ytckallochdegiab
