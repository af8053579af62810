import Derived.Test.YtckallochdegiaaGreatLawK
import Derived.Deep.Slices
import Derived.ChangeSame
import Derived.SizedLaws
import Derived.Carry
import Derived.ProofKit
import Derived.OpenShut
namespace Go.Proofs.YtckallochdegiaaGreat
set_option linter.unusedVariables false
set_option linter.unusedSimpArgs false
open Go.ChangeShapes Go.WideShapes Go.ChangeAt Go.RowKit Go.Deep

theorem own : ownKnob Tryz.prog.godebug = none := by kernel_rfl
theorem range_i64 {x : Int} (h : (Lit.int .i64 x).wf = true) : -9223372036854775808 ≤ x ∧ x ≤ 9223372036854775807 := by
  have := bounds_i64 h; omega
theorem laid_out : laidOutB Tryz.prog = true := by kernel_rfl
theorem Tryz.cellsOp : Tryz.prog.cellsOf 49 = 6 := by kernel_rfl
theorem Tryz.cellsInt : Tryz.prog.cellsOf 3 = 1 := by kernel_rfl
theorem Tryz.cellsStr : Tryz.prog.cellsOf 9 = 1 := by kernel_rfl

section
variable {H : Type} {enc : TypeId × Value → H}

theorem weights_all_mem {P : Program} {e : TypeId} {x : Nat} : ∀ {l : List (DataW H)} {d : DataW H}, d ∈ l → x ∈ d.weights P e → x ∈ DataW.weightsAll P e l
  | [], _, h, _ => by simp at h
  | a :: l, d, h, hx => by
    rw [DataW.weightsAll]
    rcases List.mem_cons.1 h with rfl | h
    · exact List.mem_append_left _ hx
    · exact List.mem_append_right _ (weights_all_mem h hx)

set_option maxRecDepth 100000 in
/-- One step, opened. -/
theorem open_op {W : World} {a : Addr} {i n : Nat} {cs : List Value} {D : DataW H} {Pl : List MemPlace} (h1 : W.cells? 0 (a.add (i * 6)) 6 = some cs) (h2 : DataW.trod enc Tryz.prog W 0 (fun _ => true) true n 49 cs = some (D, Pl)) :
    ∃ (k x y z : Int) (s t : ByteArray), (W.cell? (a.add (i * 6)) = some (.int .i64 k) ∧ W.cell? (a.add (i * 6 + 1)) = some (.int .i64 x) ∧ W.cell? (a.add (i * 6 + 2)) = some (.int .i64 y) ∧ W.cell? (a.add (i * 6 + 3)) = some (.int .i64 z) ∧ W.cell? (a.add (i * 6 + 4)) = some (.string s) ∧ W.cell? (a.add (i * 6 + 5)) = some (.string t)) ∧
      (Lit.int .i64 x).wf = true ∧ (Lit.int .i64 y).wf = true ∧ (Lit.int .i64 z).wf = true ∧ D = .agg [.lit (.int .i64 k), .lit (.int .i64 x), .lit (.int .i64 y), .lit (.int .i64 z), .lit (.string s.data.toList), .lit (.string t.data.toList)] := by
  obtain ⟨_, hlen, hcell⟩ := World.cells?_some h1
  obtain ⟨xs, k, hk, hxy, _, hxl, hf⟩ := DataW.trod_struct Tryz.underlying49 h2
  match xs, hxl, cs, hlen with
  | [y0, y1, y2, y3, y4, y5], _, [v0, v1, v2, v3, v4, v5], _ =>
    have g0 := hf 0 _ rfl
    have g1 := hf 1 _ rfl
    have g2 := hf 2 _ rfl
    have g3 := hf 3 _ rfl
    have g4 := hf 4 _ rfl
    have g5 := hf 5 _ rfl
    simp [Tryz.cellsInt, Tryz.cellsStr] at g0 g1 g2 g3 g4 g5
    have e0 := hcell 0 (by omega)
    have e1 := hcell 1 (by omega)
    have e2 := hcell 2 (by omega)
    have e3 := hcell 3 (by omega)
    have e4 := hcell 4 (by omega)
    have e5 := hcell 5 (by omega)
    rw [add_add] at e0 e1 e2 e3 e4 e5
    obtain ⟨n0, c0, x0, w0⟩ := DataW.trod_int Tryz.underlying3 g0
    obtain ⟨n1, c1, x1, w1⟩ := DataW.trod_int Tryz.underlying3 g1
    obtain ⟨n2, c2, x2, w2⟩ := DataW.trod_int Tryz.underlying3 g2
    obtain ⟨n3, c3, x3, w3⟩ := DataW.trod_int Tryz.underlying3 g3
    obtain ⟨s4, c4, x4, _⟩ := DataW.trod_string Tryz.underlying9 g4
    obtain ⟨s5, c5, x5, _⟩ := DataW.trod_string Tryz.underlying9 g5
    simp only [List.cons.injEq, and_true] at c0 c1 c2 c3 c4 c5
    subst c0 c1 c2 c3 c4 c5 x0 x1 x2 x3 x4 x5
    simp only [Prod.mk.injEq] at hxy
    exact ⟨n0, n1, n2, n3, s4, s5, ⟨by simpa using e0, by simpa using e1, by simpa using e2, by simpa using e3, by simpa using e4, by simpa using e5⟩, w1, w2, w3, by simpa using hxy.1⟩

set_option maxRecDepth 100000 in
/-- The script, opened. -/
theorem open_script {W : World} {a0 : Option Addr} {len cap fuel : Nat} {d : DataW H} {ps : List MemPlace} (h : DataW.trod enc Tryz.prog W 0 (fun _ => true) true fuel 22 [.slice a0 len cap] = some (d, ps)) (hlt : ∀ x ∈ ps, x.block < W.heap.size)
    (hsz : (DataW.weightsEach Tryz.prog [22] [d]).all (· ≤ reachBytes) = true) : ScriptV W (.slice a0 len cap) := by
  rcases open_slice Tryz.underlying22 h with ⟨hc, _⟩ | ⟨a, len', cap', m, n, D, Pl, hc, _, hl, hm, hmm, hx, hall⟩
  · simp only [List.cons.injEq, and_true, Value.slice.injEq] at hc
    obtain ⟨rfl, rfl, rfl⟩ := hc
    exact Or.inl ⟨none, 0, rfl⟩
  · simp only [List.cons.injEq, and_true, Value.slice.injEq] at hc
    obtain ⟨rfl, rfl, rfl⟩ := hc
    by_cases hz : len = 0
    · subst hz
      exact Or.inl ⟨some a, cap, rfl⟩
    · simp only [if_true] at hmm
      subst hmm
      simp only [Prod.mk.injEq] at hx
      obtain ⟨rfl, rfl⟩ := hx
      rw [Tryz.cellsOp] at hall hlt
      have each : ∀ i, i < m → ∃ q : (Int × Int × Int × Int) × ByteArray × ByteArray, (W.cell? (a.add (i * 6)) = some (.int .i64 q.1.1) ∧ W.cell? (a.add (i * 6 + 1)) = some (.int .i64 q.1.2.1) ∧ W.cell? (a.add (i * 6 + 2)) = some (.int .i64 q.1.2.2.1) ∧ W.cell? (a.add (i * 6 + 3)) = some (.int .i64 q.1.2.2.2) ∧ W.cell? (a.add (i * 6 + 4)) = some (.string q.2.1) ∧ W.cell? (a.add (i * 6 + 5)) = some (.string q.2.2)) ∧ (Lit.int .i64 q.1.2.1).wf = true ∧ (Lit.int .i64 q.1.2.2.1).wf = true ∧ (Lit.int .i64 q.1.2.2.2).wf = true ∧ D i = .agg [.lit (.int .i64 q.1.1), .lit (.int .i64 q.1.2.1), .lit (.int .i64 q.1.2.2.1), .lit (.int .i64 q.1.2.2.2), .lit (.string q.2.1.data.toList), .lit (.string q.2.2.data.toList)] := by
        intro i hi
        obtain ⟨cs, g1, g2⟩ := hall i hi
        obtain ⟨k, x, y, z, s, t, c, w1, w2, w3, e⟩ := open_op g1 g2
        exact ⟨((k, x, y, z), s, t), c, w1, w2, w3, e⟩
      obtain ⟨q, hq⟩ := choose_lt each
      obtain ⟨sb, so, spot⟩ := a
      have hspot : spot = none := by simpa [Addr.add] using World.cell?_spot (hq 0 (by omega)).1.1
      subst hspot
      have hin : ∀ i, i < len → D i ∈ (List.range len).map D := fun i hi => List.mem_map.2 ⟨i, List.mem_range.2 hi, rfl⟩
      have big : ∀ i, i < len → (q i).2.1.size ≤ 140737488351232 ∧ (q i).2.2.size ≤ 140737488351232 := by
        intro i hi
        have key : ∀ x, x ∈ (D i).weights Tryz.prog 49 → x ≤ 140737488351232 := by
          intro x hx
          have := List.all_eq_true.1 hsz x (DataW.weights_mem_each (ts := [22]) (j := 0) rfl rfl x (by
            simp only [DataW.weights, Tryz.underlying22]
            exact List.mem_cons_of_mem _ (List.mem_append_left _ (weights_all_mem (hin i hi) hx))))
          exact of_decide_eq_true this
        rw [(hq i (by omega)).2.2.2.2] at key
        simp only [DataW.weights, Tryz.underlying49, DataW.weightsEach, List.map_cons, List.map_nil, List.nil_append, List.append_nil] at key
        exact ⟨by simpa using key (q i).2.1.data.toList.length (by simp), by simpa using key (q i).2.2.data.toList.length (by simp)⟩
      refine Or.inr ⟨sb, so, len, m, fun i => (q i).1.1, fun i => (q i).1.2.1, fun i => (q i).1.2.2.1, fun i => (q i).1.2.2.2, fun i => (q i).2.1, fun i => (q i).2.2, rfl, hl, hm, ?_⟩
      have cell : ∀ j y, W.cell? ((⟨sb, so, none⟩ : Addr).add j) = some y → W.cell? ⟨sb, so + j, none⟩ = some y := fun j y hy => by rw [addr_add] at hy; exact hy
      exact ⟨fun i hi => cell _ _ (hq i (by omega)).1.1, fun i hi => cell _ _ (hq i (by omega)).1.2.1, fun i hi => cell _ _ (hq i (by omega)).1.2.2.1, fun i hi => cell _ _ (hq i (by omega)).1.2.2.2.1, fun i hi => cell _ _ (hq i (by omega)).1.2.2.2.2.1, fun i hi => cell _ _ (hq i (by omega)).1.2.2.2.2.2,
        fun i hi => range_i64 (hq i (by omega)).2.1, fun i hi => range_i64 (hq i (by omega)).2.2.1, fun i hi => range_i64 (hq i (by omega)).2.2.2.1, fun i hi => (big i hi).1, fun i hi => (big i hi).2, hlt (.cell sb so) (List.mem_append_left _ (MemPlace.mem_row.2 ⟨0, by omega, by simp⟩))⟩
end

end Go.Proofs.YtckallochdegiaaGreat
