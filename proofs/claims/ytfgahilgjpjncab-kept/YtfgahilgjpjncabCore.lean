import Derived.Test.YtfgahilgjpjncabNew
namespace Go.Proofs.Ytfgahilgjpjncab
open Go.RowKit

/-- Where the law's own world lies: the two indexes, the rows of edges and of levels. -/
structure Gh where
  a : Nat
  b : Nat
  eb : Nat
  lb : Nat
  ecap : Nat
  lcap : Nat
  er : Nat → Nat
  lr : Nat → Nat
  T : Nat → Nat

/-- The blocks are all different, and none is below B. -/
structure Apart (g : Gh) (W B n : Nat) : Prop where
  tW : g.T W = 0
  ta : g.T g.a = 1
  tb : g.T g.b = 2
  te : g.T g.eb = 3
  tl : g.T g.lb = 4
  ter : ∀ u, u < n → g.T (g.er u) = 5 + u
  tlr : ∀ u, u < n → g.T (g.lr u) = 100 + u
  n48 : n ≤ 48
  n1 : 1 ≤ n
  bW : B ≤ W
  ba : B ≤ g.a
  bb : B ≤ g.b
  ber : ∀ u, u < n → B ≤ g.er u
  blr : ∀ u, u < n → B ≤ g.lr u

theorem ne_of_tag (T : Nat → Nat) {x y : Nat} (h : T x ≠ T y) : x ≠ y := fun e => h (by rw [e])

/-- The law's own world: its graph E. -/
structure Core (w : World) (g : Gh) (W n : Nat) (E : Nat → Nat → Bool) : Prop where
  w0 : w.cell? ⟨W, 0, none⟩ = some (.int .i64 n)
  w1 : w.cell? ⟨W, 1, none⟩ = some (ptr g.a)
  w2 : w.cell? ⟨W, 2, none⟩ = some (ptr g.b)
  w3 : w.cell? ⟨W, 3, none⟩ = some (.slice (some ⟨g.eb, 0, none⟩) n g.ecap)
  w4 : w.cell? ⟨W, 4, none⟩ = some (.slice (some ⟨g.lb, 0, none⟩) n g.lcap)
  w5 : ∃ c, w.cell? ⟨W, 5, none⟩ = some (.int .i64 c)
  fW : ∀ o, w.frozen? ⟨W, o, none⟩ = false
  re : ∀ u, u < n → w.cell? ⟨g.eb, u, none⟩ = some (.slice (some ⟨g.er u, 0, none⟩) n n)
  rl : ∀ u, u < n → w.cell? ⟨g.lb, u, none⟩ = some (.slice (some ⟨g.lr u, 0, none⟩) n n)
  ce : ∀ u v, u < n → v < n → w.cell? ⟨g.er u, v, none⟩ = some (.bool (E u v))
  cl : ∀ u v, u < n → v < n → ∃ l, w.cell? ⟨g.lr u, v, none⟩ = some (.int .i64 l)
  fe : ∀ u, u < n → ∀ o, w.frozen? ⟨g.er u, o, none⟩ = false
  fl : ∀ u, u < n → ∀ o, w.frozen? ⟨g.lr u, o, none⟩ = false

theorem far {b c : Nat} (h : b ≠ c) (w : World) (p : Nat) (x : Value) (o : Nat) : (w.setCell ⟨b, p, none⟩ x).cell? ⟨c, o, none⟩ = w.cell? ⟨c, o, none⟩ :=
  World.cell?_setCell_other (h := fun e => h (congrArg Addr.block e)) ..

section
variable {w w' : World} {g : Gh} {W B n : Nat} {E : Nat → Nat → Bool} {k : Nat}

/-- A change of another block leaves the law's own world. -/
theorem Core.only (h : Core w g W n E) (o : Only k w w') (hW : W ≠ k) (he : g.eb ≠ k) (hl : g.lb ≠ k) (her : ∀ u, u < n → g.er u ≠ k) (hlr : ∀ u, u < n → g.lr u ≠ k) : Core w' g W n E := by
  refine ⟨?_, ?_, ?_, ?_, ?_, ?_, ?_, ?_, ?_, ?_, ?_, ?_, ?_⟩
  · rw [o.cell (by exact hW)]; exact h.w0
  · rw [o.cell (by exact hW)]; exact h.w1
  · rw [o.cell (by exact hW)]; exact h.w2
  · rw [o.cell (by exact hW)]; exact h.w3
  · rw [o.cell (by exact hW)]; exact h.w4
  · rw [o.cell (by exact hW)]; exact h.w5
  · intro i; rw [o.frozen (by exact hW)]; exact h.fW i
  · intro u hu; rw [o.cell (by exact he)]; exact h.re u hu
  · intro u hu; rw [o.cell (by exact hl)]; exact h.rl u hu
  · intro u v hu hv; rw [o.cell (by exact her u hu)]; exact h.ce u v hu hv
  · intro u v hu hv; rw [o.cell (by exact hlr u hu)]; exact h.cl u v hu hv
  · intro u hu i; rw [o.frozen (by exact her u hu)]; exact h.fe u hu i
  · intro u hu i; rw [o.frozen (by exact hlr u hu)]; exact h.fl u hu i

theorem Core.onlyA (h : Core w g W n E) (ap : Apart g W B n) (o : Only g.a w w') : Core w' g W n E :=
  h.only o (ne_of_tag g.T (by rw [ap.tW, ap.ta]; omega)) (ne_of_tag g.T (by rw [ap.te, ap.ta]; omega)) (ne_of_tag g.T (by rw [ap.tl, ap.ta]; omega))
    (fun u hu => ne_of_tag g.T (by rw [ap.ter u hu, ap.ta]; omega)) (fun u hu => ne_of_tag g.T (by rw [ap.tlr u hu, ap.ta]; omega))

theorem Core.onlyB (h : Core w g W n E) (ap : Apart g W B n) (o : Only g.b w w') : Core w' g W n E :=
  h.only o (ne_of_tag g.T (by rw [ap.tW, ap.tb]; omega)) (ne_of_tag g.T (by rw [ap.te, ap.tb]; omega)) (ne_of_tag g.T (by rw [ap.tl, ap.tb]; omega))
    (fun u hu => ne_of_tag g.T (by rw [ap.ter u hu, ap.tb]; omega)) (fun u hu => ne_of_tag g.T (by rw [ap.tlr u hu, ap.tb]; omega))

theorem IdxAt.only {b : Nat} {m : Int} {F : Nat → Nat → Bool} (h : IdxAt w b m F) (o : Only k w w') (hb : b ≠ k) : IdxAt w' b m F :=
  ⟨h.n0, h.n1, by rw [o.cell (by exact hb)]; exact h.cn, fun u v hu hv => by rw [o.cell (by exact hb)]; exact h.ce u v hu hv, fun i => by rw [o.frozen (by exact hb)]; exact h.fz i⟩

theorem Only.below (o : Only k w w') (hk : B ≤ k) : Below B w w' :=
  ⟨o.os, o.tape, o.output, by rw [o.size]; exact Nat.le_refl _, fun i hi => o.block i (by omega)⟩

/-- One cell of the rows of edges is written. -/
theorem Core.edge (h : Core w g W n E) (ap : Apart g W B n) {u v : Nat} (hu : u < n) (hv : v < n) (t : Bool) :
    Core (w.setCell ⟨g.er u, v, none⟩ (.bool t)) g W n (fun x y => if x = u ∧ y = v then t else E x y) := by
  have fr : ∀ (p : Addr), (w.setCell ⟨g.er u, v, none⟩ (.bool t)).frozen? p = w.frozen? p := fun p => World.frozen?_setCell ..
  have kW := far (ne_of_tag g.T (x := g.er u) (y := W) (by rw [ap.tW, ap.ter u hu]; omega)) w v (.bool t)
  have ke := far (ne_of_tag g.T (x := g.er u) (y := g.eb) (by rw [ap.te, ap.ter u hu]; omega)) w v (.bool t)
  have kl := far (ne_of_tag g.T (x := g.er u) (y := g.lb) (by rw [ap.tl, ap.ter u hu]; omega)) w v (.bool t)
  have klr := fun y (hy : y < n) => far (ne_of_tag g.T (x := g.er u) (y := g.lr y) (by have := ap.n48; rw [ap.tlr y hy, ap.ter u hu]; omega)) w v (.bool t)
  refine ⟨?_, ?_, ?_, ?_, ?_, ?_, ?_, ?_, ?_, ?_, ?_, ?_, ?_⟩
  · rw [kW]; exact h.w0
  · rw [kW]; exact h.w1
  · rw [kW]; exact h.w2
  · rw [kW]; exact h.w3
  · rw [kW]; exact h.w4
  · rw [kW]; exact h.w5
  · intro i; rw [fr]; exact h.fW i
  · intro x hx; rw [ke]; exact h.re x hx
  · intro x hx; rw [kl]; exact h.rl x hx
  · intro x y hx hy
    rw [cell_put _ _ _ _ _ (h.ce x y hx hy)]
    by_cases e : x = u ∧ y = v
    · obtain ⟨rfl, rfl⟩ := e; simp
    · rw [if_neg, if_neg e]
      intro q
      have q1 := congrArg Addr.block q
      have q2 := congrArg Addr.off q
      simp at q1 q2
      have q3 := congrArg g.T q1
      rw [ap.ter x hx, ap.ter u hu] at q3
      exact e ⟨by omega, q2⟩
  · intro x y hx hy; rw [klr x hx]; exact h.cl x y hx hy
  · intro x hx i; rw [fr]; exact h.fe x hx i
  · intro x hx i; rw [fr]; exact h.fl x hx i

/-- One cell of the rows of levels is written. -/
theorem Core.level (h : Core w g W n E) (ap : Apart g W B n) {u v : Nat} (hu : u < n) (t : Int) :
    Core (w.setCell ⟨g.lr u, v, none⟩ (.int .i64 t)) g W n E := by
  have fr : ∀ (p : Addr), (w.setCell ⟨g.lr u, v, none⟩ (.int .i64 t)).frozen? p = w.frozen? p := fun p => World.frozen?_setCell ..
  have kW := far (ne_of_tag g.T (x := g.lr u) (y := W) (by rw [ap.tW, ap.tlr u hu]; omega)) w v (.int .i64 t)
  have ke := far (ne_of_tag g.T (x := g.lr u) (y := g.eb) (by rw [ap.te, ap.tlr u hu]; omega)) w v (.int .i64 t)
  have kl := far (ne_of_tag g.T (x := g.lr u) (y := g.lb) (by rw [ap.tl, ap.tlr u hu]; omega)) w v (.int .i64 t)
  have ker := fun y (hy : y < n) => far (ne_of_tag g.T (x := g.lr u) (y := g.er y) (by have := ap.n48; rw [ap.ter y hy, ap.tlr u hu]; omega)) w v (.int .i64 t)
  refine ⟨?_, ?_, ?_, ?_, ?_, ?_, ?_, ?_, ?_, ?_, ?_, ?_, ?_⟩
  · rw [kW]; exact h.w0
  · rw [kW]; exact h.w1
  · rw [kW]; exact h.w2
  · rw [kW]; exact h.w3
  · rw [kW]; exact h.w4
  · rw [kW]; exact h.w5
  · intro i; rw [fr]; exact h.fW i
  · intro x hx; rw [ke]; exact h.re x hx
  · intro x hx; rw [kl]; exact h.rl x hx
  · intro x y hx hy; rw [ker x hx]; exact h.ce x y hx hy
  · intro x y hx hy
    obtain ⟨l, hl⟩ := h.cl x y hx hy
    rw [cell_put _ _ _ _ _ hl]
    split
    · exact ⟨_, rfl⟩
    · exact ⟨_, rfl⟩
  · intro x hx i; rw [fr]; exact h.fe x hx i
  · intro x hx i; rw [fr]; exact h.fl x hx i

/-- The count of what came is written. -/
theorem Core.came (h : Core w g W n E) (ap : Apart g W B n) (t : Int) : Core (w.setCell ⟨W, 5, none⟩ (.int .i64 t)) g W n E := by
  have fr : ∀ (p : Addr), (w.setCell ⟨W, 5, none⟩ (.int .i64 t)).frozen? p = w.frozen? p := fun p => World.frozen?_setCell ..
  have ke := far (ne_of_tag g.T (x := W) (y := g.eb) (by rw [ap.te, ap.tW]; omega)) w 5 (.int .i64 t)
  have kl := far (ne_of_tag g.T (x := W) (y := g.lb) (by rw [ap.tl, ap.tW]; omega)) w 5 (.int .i64 t)
  have ker := fun y (hy : y < n) => far (ne_of_tag g.T (x := W) (y := g.er y) (by rw [ap.ter y hy, ap.tW]; omega)) w 5 (.int .i64 t)
  have klr := fun y (hy : y < n) => far (ne_of_tag g.T (x := W) (y := g.lr y) (by rw [ap.tlr y hy, ap.tW]; omega)) w 5 (.int .i64 t)
  have oth : ∀ o v, o ≠ 5 → w.cell? ⟨W, o, none⟩ = some v → (w.setCell ⟨W, 5, none⟩ (.int .i64 t)).cell? ⟨W, o, none⟩ = some v := by
    intro o v ho hv
    rw [cell_put _ _ _ _ _ hv, if_neg]
    intro q; have q2 := congrArg Addr.off q; simp at q2; exact ho q2
  refine ⟨oth _ _ (by omega) h.w0, oth _ _ (by omega) h.w1, oth _ _ (by omega) h.w2, oth _ _ (by omega) h.w3, oth _ _ (by omega) h.w4, ?_, ?_, ?_, ?_, ?_, ?_, ?_, ?_⟩
  · obtain ⟨c, hc⟩ := h.w5; rw [cell_put _ _ _ _ _ hc, if_pos rfl]; exact ⟨_, rfl⟩
  · intro i; rw [fr]; exact h.fW i
  · intro x hx; rw [ke]; exact h.re x hx
  · intro x hx; rw [kl]; exact h.rl x hx
  · intro x y hx hy; rw [ker x hx]; exact h.ce x y hx hy
  · intro x y hx hy; rw [klr x hx]; exact h.cl x y hx hy
  · intro x hx i; rw [fr]; exact h.fe x hx i
  · intro x hx i; rw [fr]; exact h.fl x hx i

theorem Core.congr {F : Nat → Nat → Bool} (h : Core w g W n E) (e : ∀ x y, E x y = F x y) : Core w g W n F := by
  have : E = F := by funext x y; exact e x y
  subst this; exact h

theorem upd_two (E : Nat → Nat → Bool) (u v : Nat) (t : Bool) (x y : Nat) : (if x = v ∧ y = u then t else if x = u ∧ y = v then t else E x y) = upd E u v t x y := by
  simp only [upd]; by_cases e1 : x = v ∧ y = u <;> by_cases e2 : x = u ∧ y = v <;> simp [e1, e2]

/-- Both cells of an edge. -/
theorem Core.edges (h : Core w g W n E) (ap : Apart g W B n) {u v : Nat} (hu : u < n) (hv : v < n) (t : Bool) :
    Core ((w.setCell ⟨g.er u, v, none⟩ (.bool t)).setCell ⟨g.er v, u, none⟩ (.bool t)) g W n (upd E u v t) :=
  ((h.edge ap hu hv t).edge ap hv hu t).congr (upd_two E u v t)

/-- All that moves keep. -/
structure Inv (w : World) (g : Gh) (W n : Nat) (E : Nat → Nat → Bool) : Prop where
  core : Core w g W n E
  ia : IdxAt w g.a n E
  ib : IdxAt w g.b n E
  sym : ∀ x y, E x y = E y x

theorem upd_sym (sym : ∀ x y, E x y = E y x) (u v : Nat) (t : Bool) (x y : Nat) : upd E u v t x y = upd E u v t y x := by
  simp only [upd, sym x y]
  by_cases e1 : (x = u ∧ y = v) ∨ (x = v ∧ y = u)
  · rw [if_pos e1, if_pos (by omega)]
  · rw [if_neg e1, if_neg (by omega)]
theorem upd_flip (E : Nat → Nat → Bool) (u v : Nat) (t : Bool) (x y : Nat) : upd E v u t x y = upd E u v t x y := by
  simp only [upd]
  by_cases e1 : (x = u ∧ y = v) ∨ (x = v ∧ y = u)
  · rw [if_pos e1, if_pos (by omega)]
  · rw [if_neg e1, if_neg (by omega)]
theorem upd_at (E : Nat → Nat → Bool) (u v : Nat) (t : Bool) : upd E u v t u v = t := by simp [upd]
end
end Go.Proofs.Ytfgahilgjpjncab
