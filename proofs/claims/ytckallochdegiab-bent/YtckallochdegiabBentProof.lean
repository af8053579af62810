import Derived.Test.YtckallochdegiabKbA
import Derived.Test.YtckallochdegiabLdI
import Derived.WalkKit
import Derived.Deep.RegionHeld
import Derived.ProofKit
import Derived.OpenShut
import Derived.ShutString
/-
  The proof of Rows.BentSaid over the contracts of the texts that it imports. The frame is the one that the program proof-skeleton wrote, turned to Below.
-/
namespace Go.Proofs.Ytckallochdegiab
set_option linter.unusedVariables false
set_option linter.unusedSimpArgs false
open Go.ChangeShapes Go.WideShapes Go.ChangeAt Go.RowKit
open Go.ChangeMaps (open_string shut_string)
set_option linter.unusedVariables false

theorem own : ownKnob Try.prog.godebug = none := by kernel_rfl

theorem range_i64 {x : Int} (h : (Lit.int .i64 x).wf = true) : -9223372036854775808 ≤ x ∧ x ≤ 9223372036854775807 := by
  have := bounds_i64 h; omega

theorem bytesB_head (G : Gr) : 4 < (bytesB G).size ∧ (bytesB G).extract 0 4 = ⟨#[72, 68, 84, 49]⟩ := by
  obtain ⟨r, hr, h⟩ : ∃ r : ByteArray, 0 < r.size ∧ bytesB G = ⟨#[72, 68, 84, 49]⟩ ++ r := by
    refine ⟨frameB (nB G.N) ++ frameB (edgesB (sortE G.edges) G.edges.length) ++ frameB (toursB G G.tours.length), ?_, ?_⟩
    · have := numB_pos 40 (nB G.N).size
      rw [ByteArray.size_append, ByteArray.size_append, frameB, ByteArray.size_append, ByteArray.size_append]; omega
    · rw [bytesB, ByteArray.append_assoc, ByteArray.append_assoc, ByteArray.append_assoc]
  rw [h]
  refine ⟨by rw [ByteArray.size_append]; show 4 < 4 + r.size; omega, ?_⟩
  rw [ByteArray.extract_append]
  simp [ByteArray.ext_iff]
  exact Or.inl rfl

set_option maxRecDepth 100000 in
set_option maxHeartbeats 1000000 in
/-- The law's own walk. -/
theorem walk (a0 a1 a3 a4 : Int) (a2 : ByteArray) (w0 : (Lit.int .i64 a0).wf = true) (w1 : (Lit.int .i64 a1).wf = true) (w2 : a2.size ≤ maxLen) (w3 : (Lit.int .i64 a3).wf = true) (w4 : (Lit.int .i64 a4).wf = true) (w : World) :
    Calls Try.prog 9 #[.int .i64 a0, .int .i64 a1, .string a2, .int .i64 a3, .int .i64 a4] w fun e w' => e = .returned (.bool true) ∧ Below w.heap.size w w' := by
  obtain ⟨x1, x2⟩ := range_i64 w0
  obtain ⟨y1, y2⟩ := range_i64 w1
  obtain ⟨t1, t2⟩ := range_i64 w3
  obtain ⟨v1, v2⟩ := range_i64 w4
  unfold maxLen at w2
  clear w0 w1 w3 w4
  by_cases hs : (1048576 : Int) < a2.size
  · go_enter Try.func9, Try.ntmps9
    go_wp2_with fail
    go_ret
    exact ⟨rfl, Below.refl _ _⟩
  · go_enter Try.func9, Try.ntmps9
    go_wp2_with fail
    refine (begun_any a0 a1 _ x1 x2 y1 y2).mono ?_
    rintro e z ⟨W, n, g, E, G, pr, rfl, I, A, X, L⟩
    go_wp2_with fail
    refine (many_any W _ g n E G pr a2 z I 0 X (by omega) A L.size (by omega)).mono ?_
    rintro e z2 ⟨rfl, ⟨E2, G2, pr2, I2, _⟩, L2⟩
    have c1 := I2.core.w1
    have HI2 := hid I2
    have HL := hid (L.trans L2)
    clear I A L L2 I2
    go_wp2_with fail
    refine (Save_any z2 g.a G2 pr2 HI2.out.ia HI2.out.gi).mono ?_
    rintro e z3 ⟨rfl, hb3⟩
    have HB3 : Hid (Below w.heap.size w z3) := HL.out.trans (hb3.mono HL.out.size)
    obtain ⟨hz1, _⟩ := bytesB_head G2
    have hz2 := bytesB_size HI2.out.gi
    clear hb3 HI2 HL c1
    generalize bytesB G2 = s at hz1 hz2
    obtain ⟨cap, wB, b1, b2, b3, b4, b5⟩ := bent_conv z3 s
    have hz3 : ((s.size : Int) == 0) = false := beq_eq_false_iff_ne.2 (by omega)
    have HB := hid b2
    have H3 := hid b3
    have H4 := hid b4
    have H5 := hid b5
    clear b2 b3 b4 b5
    go_wp2_with fail
    obtain ⟨p0, p1⟩ := pk_range a3 s.size (by omega)
    obtain ⟨k, hk⟩ := Int.eq_ofNat_of_zero_le p0
    have hks : k < s.size := by omega
    have hks' : (k : Int) < (s.size : Int) := by omega
    have HK := hid hk
    clear p0 p1 hk
    refine (pick_any a3 s.size _ (by omega) t1 t2).mono ?_
    rintro _ w' ⟨rfl, hw⟩
    replace hw := hw.symm
    subst hw
    rw [HK.out]
    clear HK
    obtain ⟨v0, hv0, d⟩ := H3.out k hks
    have f := H4.out k hks
    have H5k : Hid (∀ x w2, (∀ j, w2.cell? ⟨z3.heap.size, j, none⟩ = (wB.setCell ⟨z3.heap.size, k, none⟩ (.int .u8 x)).cell? ⟨z3.heap.size, j, none⟩) → ∃ s' : ByteArray, s'.size = s.size ∧ (convert 40 9 (.slice (some ⟨z3.heap.size, 0, none⟩) s.size cap)).run Try.prog w2 = .ok (.string s') w2) := fun x w2 h2 => H5.out k x w2 hks h2
    have HBk : Hid (∀ x, Below w.heap.size w (wB.setCell ⟨z3.heap.size, k, none⟩ x)) := fun x => (HB3.out.trans (HB.out.mono HB3.out.size)).setCell HB3.out.size _
    clear H3 H4 H5 HB
    obtain ⟨p0, p1⟩ := pk_range a4 255 (by omega)
    obtain ⟨k2, hk2⟩ := Int.eq_ofNat_of_zero_le p0
    have hk2b : k2 < 255 := by omega
    have HK2 := hid hk2
    clear p0 p1 hk2
    have HPk : Hid (∀ wx, Calls Try.prog 19 #[.int .i64 a4, .int .i64 255] wx fun e w' => e = .returned (.int .i64 k2) ∧ w' = wx) := fun wx => by
      refine (pick_any a4 255 wx (by omega) v1 v2).mono ?_
      rintro _ w' ⟨rfl, rfl⟩
      exact ⟨by rw [HK2.out], rfl⟩
    clear HK2
    go_wp2_with fail
    go_region_law (first | (refine step_call_mine rfl 19 #[.int .i64 a4, .int .i64 255] (by go_simp) (HPk.out _) ?_; rintro _ w' ⟨rfl, rfl⟩; refine ⟨.int .i64 k2, rfl, ?_⟩))
    all_goals
      go_wp2_with fail
      obtain ⟨s', hs', hc⟩ := H5k.out (bits BinOp.xor IntKind.u8 (v0 : Int) (1 + (k2 : Int))) ((wB.setCell ⟨z3.heap.size, k, none⟩ (.int .u8 (bits BinOp.xor IntKind.u8 (v0 : Int) (1 + (k2 : Int))))).drew) (fun j => rfl)
      have HSz : Hid (s'.size ≤ 2 ^ 40) := by show _ ≤ _; omega
      have HBz : Hid (Below w.heap.size w ((wB.setCell ⟨z3.heap.size, k, none⟩ (.int .u8 (bits BinOp.xor IntKind.u8 (v0 : Int) (1 + (k2 : Int))))).drew)) := (HBk.out _).drew
      rw [hc]
      clear hs' hc
      generalize (wB.setCell ⟨z3.heap.size, k, none⟩ (.int .u8 (bits BinOp.xor IntKind.u8 (v0 : Int) (1 + (k2 : Int))))).drew = zz at HBz ⊢
      go_wp2_with fail
      refine (strict_any load_C zz s' HSz.out).mono ?_
      rintro _ zy ⟨rfl, hby⟩
      have HBy : Hid (Below w.heap.size w zy) := HBz.out.trans (hby.mono HBz.out.size)
      clear hby
      go_wp2
      go_ret
      exact ⟨rfl, HBy.out⟩

set_option maxRecDepth 100000 in
theorem lifted (os : Os) (started : os.Started) (H : Type) (enc : TypeId × Value → H) :
    ReturnsInHanded {} Try.checked os 9 .any (Rows.bentSpec.pre6 enc Try.prog Try.f9 Rows.bentRow.domain false) (Rows.bentSpec.post enc Try.prog Try.f9 false true false false) := by
  refine returnsInHanded_of_change (C := Try.checked) own started (by kernel_rfl) Try.func9
    (ChangeSpec.witness6 (enc := enc) (C := Try.checked) false ⟨#[], #[.int .i64 0, .int .i64 0, .string ByteArray.empty, .int .i64 0, .int .i64 0], []⟩ 8 (by kernel_rfl) (by kernel_rfl) (by kernel_rfl) (by kernel_rfl)) ?_
  intro W base args ds gs before hval0 hW hcnd _
  have hval : ∀ (j : Nat) t v, Try.f9.params[j]? = some t → args[j]? = some v → Value.okWide Try.prog W .any base t v := hval0
  have hW' := hW
  obtain ⟨p, q, hA0, hV, rfl, hfz, hnd⟩ := hW
  have hA : DataW.TrodAll enc Try.prog W 0 (fun _ => true) true Try.f9.params.toList args.toList ds p := hA0
  rw [Try.params9] at hA hval
  obtain ⟨v0, vs0, d0, ds0, p0, q0, hargs, rfl, rfl, h0, r0⟩ := trodAll_cons hA
  obtain ⟨v1, vs1, d1, ds1, p1, q1, rfl, rfl, rfl, h1, r1⟩ := trodAll_cons r0
  obtain ⟨v2, vs2, d2, ds2, p2, q2, rfl, rfl, rfl, h2, r2⟩ := trodAll_cons r1
  obtain ⟨v3, vs3, d3, ds3, p3, q3, rfl, rfl, rfl, h3, r3⟩ := trodAll_cons r2
  obtain ⟨v4, vs4, d4, ds4, p4, q4, rfl, rfl, rfl, h4, r4⟩ := trodAll_cons r3
  obtain ⟨rfl, rfl, rfl⟩ := trodAll_nil r4
  obtain rfl : args = #[v0, v1, v2, v3, v4] := by cases args; simp_all
  obtain ⟨rfl, rfl⟩ := trodVars_none hV
  obtain ⟨a0, rfl, rfl, rfl, w0⟩ := open_int Try.underlying3 (hval 0 3 v0 rfl rfl) h0
  obtain ⟨a1, rfl, rfl, rfl, w1⟩ := open_int Try.underlying3 (hval 1 3 v1 rfl rfl) h1
  obtain ⟨a2, rfl, rfl, rfl, w2⟩ := open_string Try.underlying9 (hval 2 9 v2 rfl rfl) h2
  obtain ⟨a3, rfl, rfl, rfl, w3⟩ := open_int Try.underlying3 (hval 3 3 v3 rfl rfl) h3
  obtain ⟨a4, rfl, rfl, rfl, w4⟩ := open_int Try.underlying3 (hval 4 3 v4 rfl rfl) h4
  clear hA0 hval0
  simp only [List.append_nil] at hW'
  refine (walk a0 a1 a3 a4 a2 w0 w1 w2 w3 w4 W).mono fun e W' ⟨he, bel⟩ => ?_
  subst he
  exact ⟨_, rfl, _, _, _, [], [], [], hW', trodAll_mk1 (shut_bool Try.underlying4 _), (trodAll_cons_mk (shut_int Try.underlying3 w0) (trodAll_cons_mk (shut_int Try.underlying3 w1) (trodAll_cons_mk (shut_string Try.underlying9 w2) (trodAll_cons_mk (shut_int Try.underlying3 w3) (trodAll_cons_mk (shut_int Try.underlying3 w4) trodAll_mk0))))), rfl, bel.frame _, fun h => by cases h⟩

theorem over : Rows.bentRow.holds Try.pinned (OpenSpec.ofChange Rows.bentSpec) :=
  OpenClaim.holds_of_wide 9 Try.f9 rfl rfl rfl rfl rfl rfl rfl ⟨rfl, rfl, rfl, rfl, rfl⟩ rfl rfl rfl rfl rfl (by kernel_rfl) Try.func9 (by kernel_rfl)
    (of_decide_eq_true (by kernel_rfl)) (by unfold Func.isWrapper; first | (rw [if_pos (by decide +kernel)]; kernel_rfl) | (rw [if_neg (by decide +kernel)]; exact ⟨rfl, rfl⟩))
    (fun os started H enc _ => lifted os started H enc)

theorem bent_holds : Rows.BentSaid :=
  over
#print axioms bent_holds
end Go.Proofs.Ytckallochdegiab
