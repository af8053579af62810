import Derived.Test.YtckallochdegiabKpC
import Derived.Test.YtckallochdegiabSvA
import Derived.WalkKit
import Derived.ProofKit
import Derived.OpenShut
import Derived.ShutString
/-
  The proof of Rows.SeedsSaid over the contracts of the texts that it imports. The frame is the one that the program proof-skeleton wrote, turned to Below.
-/
namespace Go.Proofs.Ytckallochdegiab
set_option linter.unusedVariables false
set_option linter.unusedSimpArgs false
open Go.ChangeShapes Go.WideShapes Go.ChangeAt Go.RowKit
open Go.ChangeMaps (open_string shut_string)
set_option linter.unusedVariables false

theorem own : ownKnob Try.prog.godebug = none := by kernel_rfl

theorem range_i64 {x : Int} (h : (Lit.int .i64 x).wf = true) : -9223372036854775808 ≤ x ∧ x ≤ 9223372036854775807 := by
  have := bounds_i64 h; omega

theorem bytesB_head (G : Gr) : 4 < (bytesB G).size ∧ (bytesB G).extract 0 4 = ⟨#[72, 68, 84, 49]⟩ := by
  obtain ⟨r, hr, h⟩ : ∃ r : ByteArray, 0 < r.size ∧ bytesB G = ⟨#[72, 68, 84, 49]⟩ ++ r := by
    refine ⟨frameB (nB G.N) ++ frameB (edgesB (sortE G.edges) G.edges.length) ++ frameB (toursB G G.tours.length), ?_, ?_⟩
    · have := numB_pos 40 (nB G.N).size
      rw [ByteArray.size_append, ByteArray.size_append, frameB, ByteArray.size_append, ByteArray.size_append]; omega
    · rw [bytesB, ByteArray.append_assoc, ByteArray.append_assoc, ByteArray.append_assoc]
  rw [h]
  refine ⟨by rw [ByteArray.size_append]; show 4 < 4 + r.size; omega, ?_⟩
  rw [ByteArray.extract_append]
  simp [ByteArray.ext_iff]
  exact Or.inl rfl

set_option maxRecDepth 100000 in
set_option maxHeartbeats 1000000 in
/-- The law's own walk. -/
theorem walk (a0 : Int) (a1 : Int) (a2 : ByteArray) (w0 : (Lit.int .i64 a0).wf = true) (w1 : (Lit.int .i64 a1).wf = true) (w2 : a2.size ≤ maxLen) (w : World) :
    Calls Try.prog 5 #[.int .i64 a0, .int .i64 a1, .string a2] w fun e w' => e = .returned (.bool true) ∧ Below w.heap.size w w' := by
  obtain ⟨x1, x2⟩ := range_i64 w0
  obtain ⟨y1, y2⟩ := range_i64 w1
  unfold maxLen at w2
  by_cases hs : (1048576 : Int) < a2.size
  · go_enter Try.func5, Try.ntmps5
    go_wp2_with fail
    go_ret
    exact ⟨rfl, Below.refl _ _⟩
  · go_enter Try.func5, Try.ntmps5
    go_wp2_with fail
    refine (begun_any a0 a1 _ x1 x2 y1 y2).mono ?_
    rintro e z ⟨W, n, g, E, G, pr, rfl, I, A, X, L⟩
    go_wp2_with fail
    refine (many_any W _ g n E G pr a2 z I 0 X (by omega) A L.size (by omega)).mono ?_
    rintro e z2 ⟨rfl, ⟨E2, G2, pr2, I2, _⟩, L2⟩
    have c1 := I2.core.w1
    have HI2 := hid I2
    have HL := hid (L.trans L2)
    clear I A L L2 I2
    go_wp2_with fail
    refine (Save_any z2 g.a G2 pr2 HI2.out.ia HI2.out.gi).mono ?_
    rintro e z3 ⟨rfl, hb3⟩
    have HB3 : Hid (Below w.heap.size w z3) := HL.out.trans (hb3.mono HL.out.size)
    have I3 := HI2.out.below hb3
    have c2 := I3.core.w2
    obtain ⟨qr2, ib3⟩ := I3.ib
    have HS := hid (Save_any z3 g.b G2 qr2 ib3 I3.gi)
    clear ib3
    obtain ⟨hz1, hz2⟩ := bytesB_head G2
    clear hb3 I3 HI2 HL c1
    generalize bytesB G2 = s at HS hz1 hz2
    have hz3 : (4 : Int) < (s.size : Int) := by omega
    have hz4 : (4 : Int) ≤ (s.size : Int) := by omega
    go_wp2_with fail
    refine HS.out.mono ?_
    rintro e z4 ⟨rfl, hb4⟩
    have HB4 : Hid (Below w.heap.size w z4) := HB3.out.trans (hb4.mono HB3.out.size)
    clear hb4
    go_wp2
    go_ret
    exact ⟨rfl, HB4.out⟩

set_option maxRecDepth 100000 in
theorem lifted (os : Os) (started : os.Started) (H : Type) (enc : TypeId × Value → H) :
    ReturnsInHanded {} Try.checked os 5 .any (Rows.seedsSpec.pre6 enc Try.prog Try.f5 Rows.seedsRow.domain false) (Rows.seedsSpec.post enc Try.prog Try.f5 false true false false) := by
  refine returnsInHanded_of_change (C := Try.checked) own started (by kernel_rfl) Try.func5
    (ChangeSpec.witness6 (enc := enc) (C := Try.checked) false ⟨#[], #[.int .i64 0, .int .i64 0, .string ByteArray.empty], []⟩ 8 (by kernel_rfl) (by kernel_rfl) (by kernel_rfl) (by kernel_rfl)) ?_
  intro W base args ds gs before hval0 hW hcnd _
  have hval : ∀ (j : Nat) t v, Try.f5.params[j]? = some t → args[j]? = some v → Value.okWide Try.prog W .any base t v := hval0
  have hW' := hW
  obtain ⟨p, q, hA0, hV, rfl, hfz, hnd⟩ := hW
  have hA : DataW.TrodAll enc Try.prog W 0 (fun _ => true) true Try.f5.params.toList args.toList ds p := hA0
  rw [Try.params5] at hA hval
  obtain ⟨v0, vs0, d0, ds0, p0, q0, hargs, rfl, rfl, h0, r0⟩ := trodAll_cons hA
  obtain ⟨v1, vs1, d1, ds1, p1, q1, rfl, rfl, rfl, h1, r1⟩ := trodAll_cons r0
  obtain ⟨v2, vs2, d2, ds2, p2, q2, rfl, rfl, rfl, h2, r2⟩ := trodAll_cons r1
  obtain ⟨rfl, rfl, rfl⟩ := trodAll_nil r2
  obtain rfl : args = #[v0, v1, v2] := by cases args; simp_all
  obtain ⟨rfl, rfl⟩ := trodVars_none hV
  obtain ⟨a0, rfl, rfl, rfl, w0⟩ := open_int Try.underlying3 (hval 0 3 v0 rfl rfl) h0
  obtain ⟨a1, rfl, rfl, rfl, w1⟩ := open_int Try.underlying3 (hval 1 3 v1 rfl rfl) h1
  obtain ⟨a2, rfl, rfl, rfl, w2⟩ := open_string Try.underlying9 (hval 2 9 v2 rfl rfl) h2
  clear hA0 hval0
  simp only [List.append_nil] at hW'
  refine (walk a0 a1 a2 w0 w1 w2 W).mono fun e W' ⟨he, bel⟩ => ?_
  subst he
  exact ⟨_, rfl, _, _, _, [], [], [], hW', trodAll_mk1 (shut_bool Try.underlying4 _), (trodAll_cons_mk (shut_int Try.underlying3 w0) (trodAll_cons_mk (shut_int Try.underlying3 w1) (trodAll_cons_mk (shut_string Try.underlying9 w2) trodAll_mk0))), rfl, bel.frame _, fun h => by cases h⟩

theorem over : Rows.seedsRow.holds Try.pinned (OpenSpec.ofChange Rows.seedsSpec) :=
  OpenClaim.holds_of_wide 5 Try.f5 rfl rfl rfl rfl rfl rfl rfl ⟨rfl, rfl, rfl, rfl, rfl⟩ rfl rfl rfl rfl rfl (by kernel_rfl) Try.func5 (by kernel_rfl)
    (of_decide_eq_true (by kernel_rfl)) (by unfold Func.isWrapper; first | (rw [if_pos (by decide +kernel)]; kernel_rfl) | (rw [if_neg (by decide +kernel)]; exact ⟨rfl, rfl⟩))
    (fun os started H enc _ => lifted os started H enc)

theorem seeds_holds : Rows.SeedsSaid :=
  over
#print axioms seeds_holds
end Go.Proofs.Ytckallochdegiab
