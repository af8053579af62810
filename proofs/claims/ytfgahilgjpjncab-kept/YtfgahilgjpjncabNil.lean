import Derived.Test.YtfgahilgjpjncabBegun
namespace Go.Proofs.Ytfgahilgjpjncab
set_option linter.unusedVariables false
set_option linter.unusedSimpArgs false
open Go.RowKit

set_option maxHeartbeats 400000 in
theorem isVertex_nil (v : Int) (w : World) : Calls Try.prog 16 #[.pointer none, .int .i64 v] w fun e w' => e = .returned (.bool false) ∧ w' = w := by
  go_enter Try.func16, Try.ntmps16
  go_wp2
  go_ret
  exact ⟨rfl, rfl⟩

set_option maxHeartbeats 400000 in
theorem checkEnds_nil (u v : Int) (w : World) : Calls Try.prog 14 #[.pointer none, .int .i64 u, .int .i64 v] w fun e w' => e = .returned (.int .i64 1) ∧ w' = w := by
  go_enter Try.func14, Try.ntmps14
  go_wp2_with fail
  refine (isVertex_nil u w).mono ?_
  rintro e w' ⟨rfl, rfl⟩
  go_wp2
  go_ret
  exact ⟨rfl, rfl⟩

set_option maxHeartbeats 400000 in
theorem Delete_nil (u v : Int) (w : World) : Calls Try.prog 13 #[.pointer none, .int .i64 u, .int .i64 v] w fun e w' => e = .returned (.int .i64 1) ∧ w' = w := by
  go_enter Try.func13, Try.ntmps13
  go_wp2_with fail
  refine (checkEnds_nil u v w).mono ?_
  rintro e w' ⟨rfl, rfl⟩
  go_wp2
  go_ret
  exact ⟨rfl, rfl⟩

theorem Save_any (p : Option Addr) (w : World) : Calls Try.prog 7 #[.pointer p] w fun e w' => e = .returned (.string ⟨#[]⟩) ∧ w' = w := by
  go_enter Try.func7, Try.ntmps7
  go_wp2
  go_ret
  exact ⟨rfl, rfl⟩

theorem Load_any (s : ByteArray) (k : Int) (w : World) : Calls Try.prog 8 #[.string s, .int .i64 k] w fun e w' => e = .returned (.tuple #[.pointer none, .int .i64 0]) ∧ w' = w := by
  go_enter Try.func8, Try.ntmps8
  go_wp2
  go_ret2
  exact ⟨rfl, rfl⟩

/-- The law's world, its second index nil. -/
structure Kn (w : World) (g : Gh) (W n : Nat) (E : Nat → Nat → Bool) : Prop where
  w0 : w.cell? ⟨W, 0, none⟩ = some (.int .i64 n)
  w1 : w.cell? ⟨W, 1, none⟩ = some (ptr g.a)
  w2 : w.cell? ⟨W, 2, none⟩ = some (.pointer none)
  w3 : w.cell? ⟨W, 3, none⟩ = some (.slice (some ⟨g.eb, 0, none⟩) n g.ecap)
  w4 : w.cell? ⟨W, 4, none⟩ = some (.slice (some ⟨g.lb, 0, none⟩) n g.lcap)
  w5 : ∃ c, w.cell? ⟨W, 5, none⟩ = some (.int .i64 c)
  fW : ∀ o, w.frozen? ⟨W, o, none⟩ = false
  re : ∀ u, u < n → w.cell? ⟨g.eb, u, none⟩ = some (.slice (some ⟨g.er u, 0, none⟩) n n)
  rl : ∀ u, u < n → w.cell? ⟨g.lb, u, none⟩ = some (.slice (some ⟨g.lr u, 0, none⟩) n n)
  ce : ∀ u v, u < n → v < n → w.cell? ⟨g.er u, v, none⟩ = some (.bool (E u v))
  cl : ∀ u v, u < n → v < n → ∃ l, w.cell? ⟨g.lr u, v, none⟩ = some (.int .i64 l)
  fe : ∀ u, u < n → ∀ o, w.frozen? ⟨g.er u, o, none⟩ = false
  fl : ∀ u, u < n → ∀ o, w.frozen? ⟨g.lr u, o, none⟩ = false
  ia : IdxAt w g.a n E
  sym : ∀ x y, E x y = E y x

theorem Kn.drew {w : World} {g : Gh} {W n : Nat} {E : Nat → Nat → Bool} (h : Kn w g W n E) : Kn w.drew g W n E :=
  ⟨h.w0, h.w1, h.w2, h.w3, h.w4, h.w5, h.fW, h.re, h.rl, h.ce, h.cl, h.fe, h.fl, ⟨h.ia.n0, h.ia.n1, h.ia.cn, h.ia.ce, h.ia.fz⟩, h.sym⟩
theorem Kn.drewN {w : World} {g : Gh} {W n : Nat} {E : Nat → Nat → Bool} (k : Nat) (h : Kn w g W n E) : Kn (w.drewN k) g W n E := by
  induction k with
  | zero => exact h
  | succ k ih => exact ih.drew

/-- The second index becomes nil. -/
theorem Inv.nil {w : World} {g : Gh} {W B n : Nat} {E : Nat → Nat → Bool} (h : Inv w g W n E) (ap : Apart g W B n) : Kn (w.setCell ⟨W, 2, none⟩ (.pointer none)) g W n E := by
  have fr : ∀ (p : Addr), (w.setCell ⟨W, 2, none⟩ (.pointer none)).frozen? p = w.frozen? p := fun p => World.frozen?_setCell ..
  have kW : ∀ i, i ≠ 2 → (w.setCell ⟨W, 2, none⟩ (.pointer none)).cell? ⟨W, i, none⟩ = w.cell? ⟨W, i, none⟩ := fun i hi => World.cell?_setCell_other (h := fun e => hi (congrArg Addr.off e).symm) ..
  have ke := far (ne_of_tag g.T (x := W) (y := g.eb) (by rw [ap.tW, ap.te]; omega)) w 2 (.pointer none)
  have kl := far (ne_of_tag g.T (x := W) (y := g.lb) (by rw [ap.tW, ap.tl]; omega)) w 2 (.pointer none)
  have ker := fun y (hy : y < n) => far (ne_of_tag g.T (x := W) (y := g.er y) (by rw [ap.tW, ap.ter y hy]; omega)) w 2 (.pointer none)
  have klr := fun y (hy : y < n) => far (ne_of_tag g.T (x := W) (y := g.lr y) (by rw [ap.tW, ap.tlr y hy]; omega)) w 2 (.pointer none)
  have c := h.core
  refine ⟨by rw [kW 0 (by omega)]; exact c.w0, by rw [kW 1 (by omega)]; exact c.w1, World.cell?_setCell_same _ _ _ c.w2, by rw [kW 3 (by omega)]; exact c.w3, by rw [kW 4 (by omega)]; exact c.w4, by rw [kW 5 (by omega)]; exact c.w5, fun o => by rw [fr]; exact c.fW o,
    fun u hu => by rw [ke]; exact c.re u hu, fun u hu => by rw [kl]; exact c.rl u hu, fun u v hu hv => by rw [ker u hu]; exact c.ce u v hu hv, fun u v hu hv => by rw [klr u hu]; exact c.cl u v hu hv, fun u hu o => by rw [fr]; exact c.fe u hu o, fun u hu o => by rw [fr]; exact c.fl u hu o, ?_, h.sym⟩
  exact h.ia.only (Only.setCell w ⟨W, 2, none⟩ (.pointer none)) (ne_of_tag g.T (by show g.T g.a ≠ g.T W; rw [ap.ta, ap.tW]; omega))

/-- What a move leaves: it was none, and all is as it was; or it was told false. -/
def NilR (g : Gh) (W B n : Nat) (E : Nat → Nat → Bool) (w : World) (e : Ending) (w' : World) : Prop := ∃ b : Bool, e = .returned (.bool b) ∧ (b = true → Kn w' g W n E) ∧ (w'.cell? ⟨W, 1, none⟩ = some (ptr g.a) ∧ w'.cell? ⟨W, 2, none⟩ = some (.pointer none)) ∧ Below B w w'

set_option maxRecDepth 100000 in
set_option maxHeartbeats 1000000 in
theorem nil_loop (W B : Nat) (g : Gh) (n u : Nat) (E : Nat → Nat → Bool) (x y : Int) (w : World) (h : Kn w g W n E)
    (hx0 : 0 ≤ x) (hx1 : x ≤ 255) (hy0 : 0 ≤ y) (hy1 : y ≤ 255) (hxu : pk x n = u) (hyu : pk y n = u) (hu : u < n) (hn : n ≤ 48) :
    Calls Try.prog 11 #[ptr W, .int .i64 x, .int .i64 y] w (NilR g W B n E w) := by
  have w0 := h.w0
  have w1 := h.w1
  have w2 := h.w2
  have ca := h.ia.cn
  have Hx : Hid (pk x n = u) := hxu
  have Hy : Hid (pk y n = u) := hyu
  have HK : Hid (∀ k, Kn (w.drewN k) g W n E) := fun k => h.drewN k
  clear hxu hyu h
  go_enter Try.func11, Try.ntmps11
  go_wp2_with fail
  refine (pick_any x n _ (by omega) (by omega) (by omega)).mono ?_
  rintro e w' ⟨rfl, hw⟩
  replace hw := hw.symm
  subst hw
  rw [Hx.out]
  go_wp2_with fail
  refine (pick_any y n _ (by omega) (by omega) (by omega)).mono ?_
  rintro e w' ⟨rfl, hw⟩
  replace hw := hw.symm
  subst hw
  rw [Hy.out]
  go_wp2_with fail
  go_quiet (first
    | (go_at_call_of 12 (Value.int IntKind.i64 (n : Int)); exact Calls.quiet_of_same (Insert_far _ (by rw [cell_drewN]; exact ca)))
    | (go_at_call 12; exact Calls.quiet_of_same (Insert_loop _ (by rw [cell_drewN]; exact ca) hu))
    | (go_at_call_of 13 (Value.pointer none); exact Calls.quiet_of_same (Delete_nil _ _ _))
    | (go_at_call 13; exact Calls.quiet_of_same (Delete_loop _ (by rw [cell_drewN]; exact ca) hu)))
  go_wp2
  go_ret
  exact ⟨true, rfl, fun _ => HK.out _, ⟨(HK.out _).w1, (HK.out _).w2⟩, Below.drewN' _ (Below.refl _ _)⟩

set_option maxRecDepth 100000 in
set_option maxHeartbeats 1000000 in
theorem nil_gone (W B : Nat) (g : Gh) (n u v : Nat) (E : Nat → Nat → Bool) (x y : Int) (w : World) (h : Kn w g W n E) (ap : Apart g W B n)
    (hx0 : 0 ≤ x) (hx1 : x ≤ 255) (hy0 : 0 ≤ y) (hy1 : y ≤ 255) (hxu : pk x n = u) (hyu : pk y n = v) (hu : u < n) (hv : v < n) (huv : u ≠ v) (ht : E u v = true) :
    Calls Try.prog 11 #[ptr W, .int .i64 x, .int .i64 y] w (NilR g W B n E w) := by
  have hn := ap.n48
  have hne : ((u : Int) == (v : Int)) = false := by simp; omega
  have w0 := h.w0
  have w1 := h.w1
  have w2 := h.w2
  have w3 := h.w3
  have ru := h.re u hu
  have rv := h.re v hv
  have c1 := h.ce u v hu hv
  have c2 := h.ce v u hv hu
  rw [ht] at c1
  rw [← h.sym u v, ht] at c2
  have fu := h.fe u hu
  have fv := h.fe v hv
  have k1 := far (ne_of_tag g.T (x := g.er u) (y := W) (by rw [ap.tW, ap.ter u hu]; omega))
  have k2 := far (ne_of_tag g.T (x := g.er v) (y := W) (by rw [ap.tW, ap.ter v hv]; omega))
  have k3 := far (ne_of_tag g.T (x := g.er u) (y := g.eb) (by rw [ap.te, ap.ter u hu]; omega))
  have k4 := far (ne_of_tag g.T (x := g.er u) (y := g.er v) (by rw [ap.ter v hv, ap.ter u hu]; omega))
  have Hx : Hid (pk x n = u) := hxu
  have Hy : Hid (pk y n = v) := hyu
  have HI : Hid (Kn w g W n E) := h
  have HT : Hid (E u v = true) := ht
  have HZ : Hid (∀ i, ((w.setCell ⟨g.er u, v, none⟩ (.bool false)).setCell ⟨g.er v, u, none⟩ (.bool false)).cell? ⟨W, i, none⟩ = w.cell? ⟨W, i, none⟩) := fun i => by rw [k2, k1]
  clear hxu hyu h ht
  go_enter Try.func11, Try.ntmps11
  go_wp2_with fail
  refine (pick_any x n _ (by omega) (by omega) (by omega)).mono ?_
  rintro e w' ⟨rfl, hw⟩
  replace hw := hw.symm
  subst hw
  rw [Hx.out]
  go_wp2_with fail
  refine (pick_any y n _ (by omega) (by omega) (by omega)).mono ?_
  rintro e w' ⟨rfl, hw⟩
  replace hw := hw.symm
  subst hw
  rw [Hy.out]
  go_wp2_with fail
  clear w0 w1 w2 w3 ru rv c1 c2 fu fv k1 k2 k3 k4
  obtain ⟨A2, _, L2⟩ := edges_keep (w := w) ap hu hv (.bool false)
  have A2 := A2 n E HI.out.ia
  have W1 : ((w.setCell ⟨g.er u, v, none⟩ (.bool false)).setCell ⟨g.er v, u, none⟩ (.bool false)).cell? ⟨W, 1, none⟩ = some (ptr g.a) := by rw [HZ.out]; exact HI.out.w1
  have W2 : ((w.setCell ⟨g.er u, v, none⟩ (.bool false)).setCell ⟨g.er v, u, none⟩ (.bool false)).cell? ⟨W, 2, none⟩ = some (.pointer none) := by rw [HZ.out]; exact HI.out.w2
  generalize (w.setCell ⟨g.er u, v, none⟩ (.bool false)).setCell ⟨g.er v, u, none⟩ (.bool false) = z at A2 L2 W1 W2 ⊢
  have hvu : E v u = true := by rw [HI.out.sym v u]; exact HT.out
  refine (Insert_there g.a n E v u z A2 (by omega) (by omega) (Ne.symm huv) hvu).mono ?_
  rintro e z' ⟨rfl, hw⟩
  replace hw := hw.symm
  subst hw
  go_wp2_with fail
  refine (Delete_old g.a n E u v z A2 (by omega) (by omega) huv HT.out).mono ?_
  rintro e z1 ⟨rfl, _, o3⟩
  have hWa : W ≠ g.a := ne_of_tag g.T (by rw [ap.tW, ap.ta]; omega)
  have V1 : z1.cell? ⟨W, 1, none⟩ = some (ptr g.a) := by rw [o3.cell (by exact hWa)]; exact W1
  have V2 : z1.cell? ⟨W, 2, none⟩ = some (.pointer none) := by rw [o3.cell (by exact hWa)]; exact W2
  have L3 : Hid (Below B w z1) := L2.trans (o3.below ap.ba)
  have HV : Hid (z1.cell? ⟨W, 1, none⟩ = some (ptr g.a) ∧ z1.cell? ⟨W, 2, none⟩ = some (.pointer none)) := ⟨V1, V2⟩
  clear W1 W2 A2 L2 o3 HZ
  go_wp2_with fail
  refine (Delete_nil v u z1).mono ?_
  rintro e z' ⟨rfl, hw⟩
  replace hw := hw.symm
  subst hw
  clear V1 V2
  go_wp2
  go_ret
  exact ⟨false, rfl, fun q => by simp at q, HV.out, L3.out⟩

end Go.Proofs.Ytfgahilgjpjncab
