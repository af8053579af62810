import Derived.Test.YtckallochdegiabKtA
import Derived.Test.YtckallochdegiabLdI
import Derived.WalkKit
import Derived.Deep.RegionHeld
import Derived.ProofKit
import Derived.OpenShut
import Derived.ShutString
/-
  The proof of Rows.KeptSaid over the contracts of the texts that it imports. The frame is the one that the program proof-skeleton wrote, turned to Below.
-/
namespace Go.Proofs.Ytckallochdegiab
set_option linter.unusedVariables false
set_option linter.unusedSimpArgs false
open Go.ChangeShapes Go.WideShapes Go.ChangeAt Go.RowKit
open Go.ChangeMaps (open_string shut_string)
set_option linter.unusedVariables false

theorem own : ownKnob Try.prog.godebug = none := by kernel_rfl

theorem range_i64 {x : Int} (h : (Lit.int .i64 x).wf = true) : -9223372036854775808 ≤ x ∧ x ≤ 9223372036854775807 := by
  have := bounds_i64 h; omega

set_option maxRecDepth 100000 in
set_option maxHeartbeats 1000000 in
/-- The law's own walk. -/
theorem walk (a0 a1 a3 : Int) (a2 a4 : ByteArray) (w0 : (Lit.int .i64 a0).wf = true) (w1 : (Lit.int .i64 a1).wf = true) (w2 : a2.size ≤ maxLen) (w4 : a4.size ≤ maxLen) (w : World) :
    Calls Try.prog 6 #[.int .i64 a0, .int .i64 a1, .string a2, .int .i64 a3, .string a4] w fun e w' => e = .returned (.bool true) ∧ Below w.heap.size w w' := by
  obtain ⟨x1, x2⟩ := range_i64 w0
  obtain ⟨y1, y2⟩ := range_i64 w1
  unfold maxLen at w2 w4
  clear w0 w1
  by_cases hs : (1048576 : Int) < a2.size
  · go_enter Try.func6, Try.ntmps6
    go_wp2_with fail
    go_ret
    exact ⟨rfl, Below.refl _ _⟩
  · by_cases ht : (1048576 : Int) < a4.size
    · go_enter Try.func6, Try.ntmps6
      go_wp2_with fail
      go_ret
      exact ⟨rfl, Below.refl _ _⟩
    · go_enter Try.func6, Try.ntmps6
      go_wp2_with fail
      refine (begun_any a0 a1 _ x1 x2 y1 y2).mono ?_
      rintro e z ⟨W, n, g, E, G, pr, rfl, I, A, X, L⟩
      have HI := hid I
      have HA := hid A
      have HX := hid X
      have HL := hid L
      clear I A X L
      go_wp2_with fail
      refine (many_any W _ g n E G pr a2 z HI.out 0 HX.out (by omega) HA.out HL.out.size (by omega)).mono ?_
      rintro e z2 ⟨rfl, ⟨E2, G2, pr2, I2, X2⟩, L2⟩
      have HI2 := hid I2
      have HX2 := hid X2
      have HL2 : Hid (Below w.heap.size w z2) := HL.out.trans L2
      have c1 := I2.core.w1
      clear I2 X2 L2 HI HX HL
      go_wp2_with fail
      refine (Save_any z2 g.a G2 pr2 HI2.out.ia HI2.out.gi).mono ?_
      rintro e z3 ⟨rfl, hb3⟩
      have HI3 := hid (HI2.out.below hb3)
      have HX3 := hid (HX2.out.below hb3)
      have HL3 : Hid (Below w.heap.size w z3) := HL2.out.trans (hb3.mono HL2.out.size)
      have HSz := hid (bytesB_size HI3.out.gi)
      have HBk : Hid (∀ e w', LoadR (bytesB G2) z3 e w' → ∃ b, e = .returned (.tuple #[ptr b, .int .i64 0]) ∧ z3.heap.size ≤ b ∧ IdxG w' b G2 0 ∧ Below z3.heap.size z3 w') := fun e w' q => load_same HI3.out.gi HI3.out.ns q
      have HSv : Hid (∀ wx x qr, IdxG wx x G2 qr → Calls Try.prog 15 #[ptr x] wx fun e w' => e = .returned (.string (bytesB G2)) ∧ Below wx.heap.size wx w') := fun wx x qr h => Save_any wx x G2 qr h HI3.out.gi
      clear hb3 HI2 HX2 HL2 c1
      generalize bytesB G2 = s at HSz HBk HSv ⊢
      go_wp2_with fail
      refine (load_C z3 s a3 (by have := HSz.out; omega)).mono ?_
      intro e z4 hl
      obtain ⟨x, rfl, hx, hix, hb4⟩ := HBk.out e z4 hl
      have HI4 := hid (HI3.out.below hb4)
      have HX4 := hid (HX3.out.below hb4)
      have HL4 : Hid (Below w.heap.size w z4) := HL3.out.trans (hb4.mono HL3.out.size)
      have HIx := hid hix
      have hax : g.a ≠ x := by have := HI3.out.ia.ty.lt; omega
      have hBx : w.heap.size ≤ x := Nat.le_trans HL3.out.size hx
      have HA4 := hid (HA.out.second hax hBx)
      clear hl hb4 hix hx HBk HI3 HX3 HL3 hax hBx
      go_wp2_with fail
      refine (HSv.out z4 x 0 HIx.out).mono ?_
      rintro e z5 ⟨rfl, hb5⟩
      have HI5 := hid (HI4.out.below hb5)
      have HX5 := hid (HX4.out.below hb5)
      have HIx5 := hid (HIx.out.below hb5)
      have HL5 : Hid (Below w.heap.size w z5) := HL4.out.trans (hb5.mono HL4.out.size)
      have c2 := HI5.out.core.w2
      have fW := HI5.out.core.fW
      clear hb5 HI4 HX4 HIx HL4 HSv
      go_wp2_with fail
      have HI6 := hid (HI5.out.second HIx5.out)
      have HX6 := hid (HX5.out.second (x := x) HI5.out.core)
      have HL6 : Hid (Below w.heap.size w (z5.setCell ⟨W, 2, none⟩ (ptr x))) := HL5.out.setCell HA.out.bW _
      generalize z5.setCell ⟨W, 2, none⟩ (ptr x) = z6 at HI6 HX6 HL6 ⊢
      clear c2 fW HI5 HX5 HIx5 HL5
      refine (many_any W _ { g with b := x } n E2 G2 pr2 a4 z6 HI6.out _ (HX6.out.mono (Nat.le_refl _)) (by omega) HA4.out HL6.out.size (by omega)).mono ?_
      rintro e z7 ⟨rfl, ⟨E7, G7, pr7, I7, _⟩, L7⟩
      have HI7 := hid I7
      have HL7 : Hid (Below w.heap.size w z7) := HL6.out.trans L7
      have d1 := I7.core.w1
      have d2 := I7.core.w2
      obtain ⟨qr7, ib7⟩ := I7.ib
      have HSa : Hid (∀ wx, Below z7.heap.size z7 wx → Calls Try.prog 15 #[ptr g.a] wx fun e w' => e = .returned (.string (bytesB G7)) ∧ Below z7.heap.size z7 w' ∧ w'.cell? ⟨W, 1, none⟩ = some (ptr g.a) ∧ w'.cell? ⟨W, 2, none⟩ = some (ptr x)) := fun wx hb => by
        refine (Save_any wx g.a G7 pr7 (HI7.out.ia.below hb) HI7.out.gi).mono ?_
        rintro _ w' ⟨rfl, hb'⟩
        have hbb : Below z7.heap.size z7 w' := hb.trans (hb'.mono hb.size)
        exact ⟨rfl, hbb, (HI7.out.below hbb).core.w1, (HI7.out.below hbb).core.w2⟩
      have HSb : Hid (∀ wx, Below z7.heap.size z7 wx → Calls Try.prog 15 #[ptr x] wx fun e w' => e = .returned (.string (bytesB G7)) ∧ Below z7.heap.size z7 w' ∧ w'.cell? ⟨W, 1, none⟩ = some (ptr g.a) ∧ w'.cell? ⟨W, 2, none⟩ = some (ptr x)) := fun wx hb => by
        refine (Save_any wx x G7 qr7 (ib7.below hb) HI7.out.gi).mono ?_
        rintro _ w' ⟨rfl, hb'⟩
        have hbb : Below z7.heap.size z7 w' := hb.trans (hb'.mono hb.size)
        exact ⟨rfl, hbb, (HI7.out.below hbb).core.w1, (HI7.out.below hbb).core.w2⟩
      clear I7 L7 HI6 HX6 HL6 ib7
      generalize bytesB G7 = s7 at HSa HSb
      go_wp2_with fail
      go_region_held (fun w' => w'.cell? ⟨W, 1, none⟩ = some (ptr g.a) ∧ w'.cell? ⟨W, 2, none⟩ = some (ptr x)) (first | exact ⟨by assumption, by assumption⟩ | trivial)
        (first
          | (go_at_call_of 15 (ptr g.a); refine (HSa.out _ (by first | exact Below.refl _ _ | exact (Below.refl _ _).drew | assumption | exact Below.drew (by assumption))).mono ?_; rintro _ z8 ⟨rfl, hb8, f1, f2⟩)
          | (go_at_call_of 15 (ptr x); refine (HSb.out _ (by first | exact Below.refl _ _ | exact (Below.refl _ _).drew | assumption | exact Below.drew (by assumption))).mono ?_; rintro _ z9 ⟨rfl, hb9, f3, f4⟩))
      all_goals
        go_wp2
        go_ret
        exact ⟨rfl, HL7.out.trans (Below.mono (by first | exact hb9 | exact hb8) HL7.out.size)⟩

set_option maxRecDepth 100000 in
theorem lifted (os : Os) (started : os.Started) (H : Type) (enc : TypeId × Value → H) :
    ReturnsInHanded {} Try.checked os 6 .any (Rows.keptSpec.pre6 enc Try.prog Try.f6 Rows.keptRow.domain false) (Rows.keptSpec.post enc Try.prog Try.f6 false true false false) := by
  refine returnsInHanded_of_change (C := Try.checked) own started (by kernel_rfl) Try.func6
    (ChangeSpec.witness6 (enc := enc) (C := Try.checked) false ⟨#[], #[.int .i64 0, .int .i64 0, .string ByteArray.empty, .int .i64 0, .string ByteArray.empty], []⟩ 8 (by kernel_rfl) (by kernel_rfl) (by kernel_rfl) (by kernel_rfl)) ?_
  intro W base args ds gs before hval0 hW hcnd _
  have hval : ∀ (j : Nat) t v, Try.f6.params[j]? = some t → args[j]? = some v → Value.okWide Try.prog W .any base t v := hval0
  have hW' := hW
  obtain ⟨p, q, hA0, hV, rfl, hfz, hnd⟩ := hW
  have hA : DataW.TrodAll enc Try.prog W 0 (fun _ => true) true Try.f6.params.toList args.toList ds p := hA0
  rw [Try.params6] at hA hval
  obtain ⟨v0, vs0, d0, ds0, p0, q0, hargs, rfl, rfl, h0, r0⟩ := trodAll_cons hA
  obtain ⟨v1, vs1, d1, ds1, p1, q1, rfl, rfl, rfl, h1, r1⟩ := trodAll_cons r0
  obtain ⟨v2, vs2, d2, ds2, p2, q2, rfl, rfl, rfl, h2, r2⟩ := trodAll_cons r1
  obtain ⟨v3, vs3, d3, ds3, p3, q3, rfl, rfl, rfl, h3, r3⟩ := trodAll_cons r2
  obtain ⟨v4, vs4, d4, ds4, p4, q4, rfl, rfl, rfl, h4, r4⟩ := trodAll_cons r3
  obtain ⟨rfl, rfl, rfl⟩ := trodAll_nil r4
  obtain rfl : args = #[v0, v1, v2, v3, v4] := by cases args; simp_all
  obtain ⟨rfl, rfl⟩ := trodVars_none hV
  obtain ⟨a0, rfl, rfl, rfl, w0⟩ := open_int Try.underlying3 (hval 0 3 v0 rfl rfl) h0
  obtain ⟨a1, rfl, rfl, rfl, w1⟩ := open_int Try.underlying3 (hval 1 3 v1 rfl rfl) h1
  obtain ⟨a2, rfl, rfl, rfl, w2⟩ := open_string Try.underlying9 (hval 2 9 v2 rfl rfl) h2
  obtain ⟨a3, rfl, rfl, rfl, w3⟩ := open_int Try.underlying3 (hval 3 3 v3 rfl rfl) h3
  obtain ⟨a4, rfl, rfl, rfl, w4⟩ := open_string Try.underlying9 (hval 4 9 v4 rfl rfl) h4
  clear hA0 hval0
  simp only [List.append_nil] at hW'
  refine (walk a0 a1 a3 a2 a4 w0 w1 w2 w4 W).mono fun e W' ⟨he, bel⟩ => ?_
  subst he
  exact ⟨_, rfl, _, _, _, [], [], [], hW', trodAll_mk1 (shut_bool Try.underlying4 _), (trodAll_cons_mk (shut_int Try.underlying3 w0) (trodAll_cons_mk (shut_int Try.underlying3 w1) (trodAll_cons_mk (shut_string Try.underlying9 w2) (trodAll_cons_mk (shut_int Try.underlying3 w3) (trodAll_cons_mk (shut_string Try.underlying9 w4) trodAll_mk0))))), rfl, bel.frame _, fun h => by cases h⟩

theorem over : Rows.keptRow.holds Try.pinned (OpenSpec.ofChange Rows.keptSpec) :=
  OpenClaim.holds_of_wide 6 Try.f6 rfl rfl rfl rfl rfl rfl rfl ⟨rfl, rfl, rfl, rfl, rfl⟩ rfl rfl rfl rfl rfl (by kernel_rfl) Try.func6 (by kernel_rfl)
    (of_decide_eq_true (by kernel_rfl)) (by unfold Func.isWrapper; first | (rw [if_pos (by decide +kernel)]; kernel_rfl) | (rw [if_neg (by decide +kernel)]; exact ⟨rfl, rfl⟩))
    (fun os started H enc _ => lifted os started H enc)

theorem kept_holds : Rows.KeptSaid :=
  over
#print axioms kept_holds
end Go.Proofs.Ytckallochdegiab
