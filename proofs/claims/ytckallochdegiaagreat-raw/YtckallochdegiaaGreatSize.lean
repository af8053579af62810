import Derived.Test.YtckallochdegiaaGreatComp
namespace Go.Proofs.YtckallochdegiaaGreat
set_option linter.unusedVariables false
set_option linter.unusedSimpArgs false
open Go.RowKit

/-- The vertices' numbers of the edges are in range. -/
def InR (N : Nat) (es : List Edg) : Prop := ∀ e, e ∈ es → (0 ≤ e.u ∧ e.u < N) ∧ (0 ≤ e.v ∧ e.v < N)

set_option maxRecDepth 100000 in
set_option maxHeartbeats 2000000 in
theorem Component_nil (g N : Nat) (v lev : Int) (fo : Bool) (w : World)
    (c0 : w.cell? ⟨g, 0, none⟩ = some (.int .i64 N)) (c1 : w.cell? ⟨g, 1, none⟩ = some (.slice none 0 0))
    (hN : N ≤ 48) (hv0 : 0 ≤ v) (hv1 : v < N) :
    Calls Tryz.prog 69 #[ptr g, .int .i64 v, .bool fo, .int .i64 lev] w fun e w' => e = .returned (.slice (some ⟨w.heap.size, 0, none⟩) N N) ∧ (∃ r, Row w' w.heap.size N r ∧ ∀ x, x < N → (r x = true ↔ Rch [] fo lev v x)) ∧ Below w.heap.size w w' := by
  have glt : g < w.heap.size := cell_lt c0
  obtain ⟨vn, rfl⟩ := Int.eq_ofNat_of_zero_le hv0
  have hmk := run_make_row' (P := Tryz.prog) 109 4 (.bool false) 1 Tryz.underlying109 Tryz.info4 rfl .i64 .i64 N (by omega) (by omega)
  have hr0 := World.rowIs_made w (.bool false) N 4
  have hcv := hr0.cell (i := vn) (by omega)
  have hfv := hr0.frozen
  have HR : Hid (Row (w.alloc (.cells ((madeCells #[.bool false] N).setIfInBounds vn (.bool true)) 4)) w.heap.size N (fun x => if x = vn then true else false)) := row_start w N vn
  have HP : Hid (∀ x : Nat, x < N → ((if x = vn then true else false) = true ↔ Rch [] fo lev vn x)) := by
    intro x hx
    constructor
    · intro h
      have : x = vn := by
        by_cases e : x = vn
        · exact e
        · simp [e] at h
      subst this; exact Rch.refl
    · intro h
      have := h (fun y => decide (y = (vn : Int))) (by simp) (fun e he => by simp at he)
      have k : (x : Int) = vn := by simpa using this
      have : x = vn := by omega
      simp [this]
  clear hr0
  go_enter Tryz.func69, Tryz.ntmps69
  go_wp2_with fail
  go_loopg [10] 1 (fun gk mo wr => ∃ mob, mo = .bool mob ∧ Hid (Row wr w.heap.size N (fun x => if x = vn then true else false)) ∧ Hid ((if mob then 1 else 0) ≤ gk) ∧ Hid (Below w.heap.size w wr))
  case atStart => exact ⟨true, rfl, HR, Nat.le_refl _, (Below.refl _ _).alloc (Nat.le_refl _) _⟩
  case round =>
    obtain ⟨mob, rfl, hR, hgk, hL⟩ := hrel
    obtain ⟨wo, rfl⟩ : ∃ wo : World, wo = wr := ⟨_, rfl⟩
    clear HR hcv hfv hmk
    cases mob
    · go_wp2_with fail
      go_ret
      exact ⟨rfl, ⟨_, hR.out, HP.out⟩, hL.out⟩
    · have e1 : wo.cell? ⟨g, 1, none⟩ = some (.slice none 0 0) := by rw [hL.out.cell (p := ⟨g, 1, none⟩) glt]; exact c1
      go_wp2_with fail
      go_loopg [10, 27] 0 (fun gk mo i wr => gk = 0 ∧ i = .int .i64 0 ∧ mo = .bool false ∧ Hid (Row wr w.heap.size N (fun x => if x = vn then true else false)) ∧ Hid (Below w.heap.size w wr))
      case atStart => exact ⟨rfl, rfl, rfl, hR, hL⟩
      case round =>
        obtain ⟨rfl, rfl, rfl, hR2, hL2⟩ := hrel
        go_wp2_with fail
        go_roundg 0
        case measure => exact Nat.lt_of_lt_of_le (by decide) hgk.out
        case rel => exact ⟨false, rfl, hR2, Nat.le_refl _, hL2⟩

/-- Component: the row of who is reached. -/
theorem Component_any (g N : Nat) (v lev : Int) (fo : Bool) (es : List Edg) (ev : Value) (w : World)
    (c0 : w.cell? ⟨g, 0, none⟩ = some (.int .i64 N)) (c1 : w.cell? ⟨g, 1, none⟩ = some ev) (hE : Edges w ev es)
    (hN : N ≤ 48) (hv0 : 0 ≤ v) (hv1 : v < N) (hin : InR N es) :
    Calls Tryz.prog 69 #[ptr g, .int .i64 v, .bool fo, .int .i64 lev] w fun e w' => e = .returned (.slice (some ⟨w.heap.size, 0, none⟩) N N) ∧ (∃ r, Row w' w.heap.size N r ∧ ∀ x, x < N → (r x = true ↔ Rch es fo lev v x)) ∧ Below w.heap.size w w' := by
  rcases hE with ⟨rfl, rfl⟩ | ⟨b, cap, hE⟩
  · exact Component_nil g N v lev fo w c0 c1 hN hv0 hv1
  · have := hE.hv; subst this; exact Component_at g b cap N v lev fo es w c0 c1 hE hN hv0 hv1 hin

set_option maxRecDepth 100000 in
set_option maxHeartbeats 1000000 in
theorem Connected_any (g N : Nat) (u v : Int) (es : List Edg) (ev : Value) (w : World)
    (c0 : w.cell? ⟨g, 0, none⟩ = some (.int .i64 N)) (c1 : w.cell? ⟨g, 1, none⟩ = some ev) (hE : Edges w ev es)
    (hN : N ≤ 48) (hu0 : 0 ≤ u) (hu1 : u < N) (hv0 : 0 ≤ v) (hv1 : v < N) (hin : InR N es) :
    Calls Tryz.prog 43 #[ptr g, .int .i64 u, .int .i64 v] w fun e w' => ∃ c : Bool, e = .returned (.bool c) ∧ (c = true ↔ Rch es false 0 u v) ∧ Below w.heap.size w w' := by
  obtain ⟨vn, rfl⟩ := Int.eq_ofNat_of_zero_le hv0
  have HE : Hid (Edges w ev es) := hE
  clear hE
  go_enter Tryz.func43, Tryz.ntmps43
  go_wp2_with fail
  refine (Component_any g N u 0 false es ev w c0 c1 HE.out hN hu0 hu1 hin).mono ?_
  rintro e w1 ⟨rfl, ⟨r, hR, hr⟩, hL⟩
  have d := World.rowIs.cell hR (i := vn) (by omega)
  have HR := hid hr
  have HL := hid hL
  clear hr hR hL
  go_wp2
  go_ret
  exact ⟨r vn, rfl, HR.out vn (by omega), HL.out⟩

set_option maxRecDepth 100000 in
set_option maxHeartbeats 1000000 in
theorem Size_any (g N : Nat) (u : Int) (es : List Edg) (ev : Value) (w : World)
    (c0 : w.cell? ⟨g, 0, none⟩ = some (.int .i64 N)) (c1 : w.cell? ⟨g, 1, none⟩ = some ev) (hE : Edges w ev es)
    (hN : N ≤ 48) (hu0 : 0 ≤ u) (hu1 : u < N) (hin : InR N es) :
    Calls Tryz.prog 45 #[ptr g, .int .i64 u] w fun e w' => ∃ k : Nat, e = .returned (.int .i64 k) ∧ (∃ r, (∀ x, x < N → (r x = true ↔ Rch es false 0 u x)) ∧ k = cnt r N) ∧ Below w.heap.size w w' := by
  have HE : Hid (Edges w ev es) := hE
  clear hE
  go_enter Tryz.func45, Tryz.ntmps45
  go_wp2_with fail
  refine (Component_any g N u 0 false es ev w c0 c1 HE.out hN hu0 hu1 hin).mono ?_
  rintro e w1 ⟨rfl, ⟨r, hR, hr⟩, hL⟩
  have HR := hid hr
  have HL := hid hL
  have HR2 := hid hR
  clear hr hR hL
  go_wp2_with fail
  go_loop [5, 7, 12] (fun n _ i => ∃ k : Nat, k ≤ N ∧ i = .int .i64 k ∧ n = .int .i64 (cnt r k)) (fun _ _ i => N - (intOf i).toNat)
  case atStart => exact ⟨0, by omega, rfl, rfl⟩
  case round =>
    obtain ⟨k, hk, rfl, rfl⟩ := hrel
    have hc := cnt_le r k
    by_cases hlt : k < N
    · have d := World.rowIs.cell HR2.out (i := k) hlt
      have hs : Hid (cnt r (k + 1) = cnt r k + if r k then 1 else 0) := rfl
      cases hrk : r k
      all_goals
        rw [hrk] at d hs
        clear hrk
        go_wp2
        go_round
        case rel => exact ⟨k + 1, by omega, by go_num, by rw [hs.out]; simp⟩
        case measure => simp [intOf]; omega
    · go_wp2
      go_ret
      exact ⟨cnt r k, rfl, ⟨r, HR.out, by rw [show k = N by omega]⟩, HL.out⟩

end Go.Proofs.YtckallochdegiaaGreat
