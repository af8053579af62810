import Derived.Test.YtckallochdegiabIxH
import Derived.Test.YtckallochdegiabSrcQ
namespace Go.Proofs.Ytckallochdegiab
set_option linter.unusedVariables false
set_option linter.unusedSimpArgs false
open Go.RowKit

/-- A new index is the new graph's. -/
theorem new_idxG {w : World} {b n : Nat} (h : ∃ F, IdxP w b n (fun _ _ => (false, false, 0)) (newR n) 0 F) : IdxG w b (newG n) 0 := by
  obtain ⟨F, h⟩ := h
  have mem : ∀ t, t ∈ baseT n → ∃ v : Nat, v < n ∧ t = [((v : Int), (-1 : Int))] := by
    intro t ht
    simp only [baseT, List.mem_map, List.mem_range] at ht
    obtain ⟨v, hv, rfl⟩ := ht
    exact ⟨v, hv, rfl⟩
  refine ⟨newR n, F, h.congr (fun u v _ _ => ?_) (fun _ _ _ _ => rfl), fun k hk => ?_, fun k v hk h6 hv => ?_⟩
  · exact (look_no (by simp [newG, findIx])).symm
  · have hk' : k ≤ Nat.log2 n := hk
    rw [newG_lv n k hk', newR, if_pos hk']
    refine ⟨fun t ht z hz => ?_, fun z hz hne => ?_⟩
    · obtain ⟨v, hv, rfl⟩ := mem t ht
      have e := hz.1
      simp only [List.mem_singleton, Prod.mk.injEq, and_true] at e
      have e' : z = v := by omega
      subst e'
      rw [baseR, if_pos hv]
      have f := fromX_at (a := []) (b := []) (x := ((z : Int), (-1 : Int))) (by simp)
      simp only [List.nil_append, List.append_nil] at f
      rw [f]
      simp [pv]
    · by_cases c : z < n
      · refine ⟨[((z : Int), (-1 : Int))], ?_, by simp, fun x hx => by simp at hx; subst hx; exact Int.le_refl _⟩
        simp only [baseT, List.mem_map, List.mem_range]
        exact ⟨z, c, rfl⟩
      · rw [baseR, if_neg c] at hne; exact absurd rfl hne
  · have hk' : Nat.log2 n < k := hk
    rw [newR, if_neg (by omega)]

/-- Where the law's own world lies: the two indexes, the rows of edges and of levels. -/
structure Gh where
  a : Nat
  b : Nat
  eb : Nat
  lb : Nat
  ecap : Nat
  lcap : Nat
  er : Nat → Nat
  lr : Nat → Nat

/-- What is told apart, and that none is below B. -/
structure Apart (g : Gh) (W B n : Nat) : Prop where
  ab : g.a ≠ g.b
  ie : ∀ u v, u < n → v < n → g.er u = g.er v → u = v
  il : ∀ u v, u < n → v < n → g.lr u = g.lr v → u = v
  n48 : n ≤ 48
  n1 : 1 ≤ n
  bW : B ≤ W
  ba : B ≤ g.a
  bb : B ≤ g.b
  ber : ∀ u, u < n → B ≤ g.er u
  blr : ∀ u, u < n → B ≤ g.lr u
  ec : n ≤ g.ecap ∧ g.ecap ≤ maxLen
  lc : n ≤ g.lcap ∧ g.lcap ≤ maxLen

/-- The cells of the law's world. -/
def wf (n a b : Nat) (s3 s4 : Value) (c : Int) : Nat → Value := fun i => if i = 0 then .int .i64 n else if i = 1 then ptr a else if i = 2 then ptr b else if i = 3 then s3 else if i = 4 then s4 else .int .i64 c

/-- The law's own world: its graph E. -/
structure Core (w : World) (g : Gh) (W n : Nat) (E : Nat → Nat → Bool) : Prop where
  rW : ∃ c, w.rowIs W 33 6 (wf n g.a g.b (.slice (some ⟨g.eb, 0, none⟩) n g.ecap) (.slice (some ⟨g.lb, 0, none⟩) n g.lcap) c)
  re : ∀ u, u < n → w.cell? ⟨g.eb, u, none⟩ = some (.slice (some ⟨g.er u, 0, none⟩) n n)
  rl : ∀ u, u < n → w.cell? ⟨g.lb, u, none⟩ = some (.slice (some ⟨g.lr u, 0, none⟩) n n)
  te : TyAt w g.eb 44
  tl : TyAt w g.lb 45
  ce : ∀ u, u < n → w.rowIs (g.er u) 4 n (fun v => .bool (E u v))
  cl : ∀ u, u < n → ∃ f : Nat → Int, w.rowIs (g.lr u) 3 n (fun v => .int .i64 (f v))

section
variable {w w' : World} {g : Gh} {W B n : Nat} {E : Nat → Nat → Bool} {S : Nat → Prop}
theorem Core.tW (h : Core w g W n E) : TyAt w W 33 := by obtain ⟨c, h⟩ := h.rW; exact rowIs_ty h
theorem Core.w0 (h : Core w g W n E) : w.cell? ⟨W, 0, none⟩ = some (.int .i64 n) := by obtain ⟨c, h⟩ := h.rW; exact h.cell (i := 0) (by omega)
theorem Core.w1 (h : Core w g W n E) : w.cell? ⟨W, 1, none⟩ = some (ptr g.a) := by obtain ⟨c, h⟩ := h.rW; exact h.cell (i := 1) (by omega)
theorem Core.w2 (h : Core w g W n E) : w.cell? ⟨W, 2, none⟩ = some (ptr g.b) := by obtain ⟨c, h⟩ := h.rW; exact h.cell (i := 2) (by omega)
theorem Core.w3 (h : Core w g W n E) : w.cell? ⟨W, 3, none⟩ = some (.slice (some ⟨g.eb, 0, none⟩) n g.ecap) := by obtain ⟨c, h⟩ := h.rW; exact h.cell (i := 3) (by omega)
theorem Core.w4 (h : Core w g W n E) : w.cell? ⟨W, 4, none⟩ = some (.slice (some ⟨g.lb, 0, none⟩) n g.lcap) := by obtain ⟨c, h⟩ := h.rW; exact h.cell (i := 4) (by omega)
theorem Core.w5 (h : Core w g W n E) : ∃ c, w.cell? ⟨W, 5, none⟩ = some (.int .i64 c) := by obtain ⟨c, h⟩ := h.rW; exact ⟨c, h.cell (i := 5) (by omega)⟩
theorem Core.fW (h : Core w g W n E) : ∀ o, w.frozen? ⟨W, o, none⟩ = false := by obtain ⟨c, h⟩ := h.rW; exact h.frozen

theorem ty_but {b t : Nat} (h : TyAt w b t) (k : But S w w') (hS : ¬ S b) : TyAt w' b t := by
  obtain ⟨c, hc⟩ := h
  exact ⟨c, by rw [k.block b (Array.getElem?_eq_some_iff.1 hc).1 hS]; exact hc⟩
theorem cell_but {b o : Nat} {v : Value} (h : w.cell? ⟨b, o, none⟩ = some v) (k : But S w w') (hS : ¬ S b) : w'.cell? ⟨b, o, none⟩ = some v := by
  rw [World.cell?_of_block (w := w) (a := ⟨b, o, none⟩) (k.block b (cell_lt h) hS)]; exact h

/-- A change of blocks of another type leaves the law's own world. -/
theorem Core.but {t : Nat} (h : Core w g W n E) (k : But S w w') (hS : ∀ b, S b → TyAt w b t) (h1 : t ≠ 33) (h2 : t ≠ 44) (h3 : t ≠ 45) (h4 : t ≠ 4) (h5 : t ≠ 3) : Core w' g W n E := by
  obtain ⟨c, hc⟩ := h.rW
  have n1 : ¬ S g.eb := fun q => (hS _ q).ne h.te h2 rfl
  have n2 : ¬ S g.lb := fun q => (hS _ q).ne h.tl h3 rfl
  refine ⟨⟨c, row_but hc k (fun q => (hS _ q).ne (rowIs_ty hc) h1 rfl)⟩, fun u hu => cell_but (h.re u hu) k n1, fun u hu => cell_but (h.rl u hu) k n2, ty_but h.te k n1, ty_but h.tl k n2, fun u hu => row_but (h.ce u hu) k (fun q => (hS _ q).ne (rowIs_ty (h.ce u hu)) h4 rfl), fun u hu => ?_⟩
  obtain ⟨f, hf⟩ := h.cl u hu
  exact ⟨f, row_but hf k (fun q => (hS _ q).ne (rowIs_ty hf) h5 rfl)⟩
theorem Core.idx {b : Nat} {G : Gr} {pr : Int} (h : Core w g W n E) (hx : IdxG w b G pr) (k : But (fun q => q = b) w w') : Core w' g W n E :=
  h.but k (fun q hq => by subst hq; exact hx.ty) (by decide) (by decide) (by decide) (by decide) (by decide)
theorem Core.below (h : Core w g W n E) (k : Below w.heap.size w w') : Core w' g W n E :=
  h.but (S := fun _ => False) (t := 71) (But.of k) (fun _ q => q.elim) (by decide) (by decide) (by decide) (by decide) (by decide)

/-- One cell of the rows of edges is written. -/
theorem Core.edge (h : Core w g W n E) (ap : Apart g W B n) {u v : Nat} (hu : u < n) (t : Bool) :
    Core (w.setCell ⟨g.er u, v, none⟩ (.bool t)) g W n (fun x y => if x = u ∧ y = v then t else E x y) := by
  have bs := But.setCell w ⟨g.er u, v, none⟩ (.bool t)
  have ty := rowIs_ty (h.ce u hu)
  obtain ⟨c, hc⟩ := h.rW
  have n0 : ¬ W = g.er u := (rowIs_ty hc).ne ty (by decide)
  have n1 : ¬ g.eb = g.er u := h.te.ne ty (by decide)
  have n2 : ¬ g.lb = g.er u := h.tl.ne ty (by decide)
  refine ⟨⟨c, row_but hc bs n0⟩, fun x hx => cell_but (h.re x hx) bs n1, fun x hx => cell_but (h.rl x hx) bs n2, ty_but h.te bs n1, ty_but h.tl bs n2, fun x hx => ?_, fun x hx => ?_⟩
  · by_cases e : x = u
    · subst e
      refine ((h.ce x hx).set v (.bool t)).congr (fun y _ => ?_)
      by_cases f : y = v <;> simp [f]
    · refine (row_but (h.ce x hx) bs (fun q => e (ap.ie x u hx hu q))).congr (fun y _ => ?_)
      simp [e]
  · obtain ⟨f, hf⟩ := h.cl x hx
    exact ⟨f, row_but hf bs (fun q => (rowIs_ty hf).ne ty (by decide) q)⟩

/-- One cell of the rows of levels is written. -/
theorem Core.level (h : Core w g W n E) (ap : Apart g W B n) {u v : Nat} (hu : u < n) (t : Int) : Core (w.setCell ⟨g.lr u, v, none⟩ (.int .i64 t)) g W n E := by
  have bs := But.setCell w ⟨g.lr u, v, none⟩ (.int .i64 t)
  obtain ⟨f0, hf0⟩ := h.cl u hu
  have ty := rowIs_ty hf0
  obtain ⟨c, hc⟩ := h.rW
  have n0 : ¬ W = g.lr u := (rowIs_ty hc).ne ty (by decide)
  have n1 : ¬ g.eb = g.lr u := h.te.ne ty (by decide)
  have n2 : ¬ g.lb = g.lr u := h.tl.ne ty (by decide)
  refine ⟨⟨c, row_but hc bs n0⟩, fun x hx => cell_but (h.re x hx) bs n1, fun x hx => cell_but (h.rl x hx) bs n2, ty_but h.te bs n1, ty_but h.tl bs n2, fun x hx => row_but (h.ce x hx) bs (fun q => (rowIs_ty (h.ce x hx)).ne ty (by decide) q), fun x hx => ?_⟩
  by_cases e : x = u
  · subst e
    refine ⟨fun y => if y = v then t else f0 y, (hf0.set v (.int .i64 t)).congr (fun y _ => ?_)⟩
    by_cases f : y = v <;> simp [f]
  · obtain ⟨f, hf⟩ := h.cl x hx
    exact ⟨f, row_but hf bs (fun q => e (ap.il x u hx hu q))⟩

/-- The count of what came is written. -/
theorem Core.came (h : Core w g W n E) (t : Int) : Core (w.setCell ⟨W, 5, none⟩ (.int .i64 t)) g W n E := by
  have bs := But.setCell w ⟨W, 5, none⟩ (.int .i64 t)
  obtain ⟨c, hc⟩ := h.rW
  have ty := rowIs_ty hc
  have n1 : ¬ g.eb = W := h.te.ne ty (by decide)
  have n2 : ¬ g.lb = W := h.tl.ne ty (by decide)
  refine ⟨⟨t, (hc.set 5 _).congr (fun i hi => ?_)⟩, fun x hx => cell_but (h.re x hx) bs n1, fun x hx => cell_but (h.rl x hx) bs n2, ty_but h.te bs n1, ty_but h.tl bs n2, fun x hx => row_but (h.ce x hx) bs (fun q => (rowIs_ty (h.ce x hx)).ne ty (by decide) q), fun x hx => ?_⟩
  · simp only [wf]
    by_cases e : i = 5
    · subst e; simp
    · have : i = 0 ∨ i = 1 ∨ i = 2 ∨ i = 3 ∨ i = 4 := by omega
      rcases this with rfl | rfl | rfl | rfl | rfl <;> simp
  · obtain ⟨f, hf⟩ := h.cl x hx
    exact ⟨f, row_but hf bs (fun q => (rowIs_ty hf).ne ty (by decide) q)⟩

theorem Core.congr {F : Nat → Nat → Bool} (h : Core w g W n E) (e : ∀ x y, E x y = F x y) : Core w g W n F := by
  have : E = F := by funext x y; exact e x y
  subst this; exact h

theorem upd_two (E : Nat → Nat → Bool) (u v : Nat) (t : Bool) (x y : Nat) : (if x = v ∧ y = u then t else if x = u ∧ y = v then t else E x y) = upd E u v t x y := by
  simp only [upd]; by_cases e1 : x = v ∧ y = u <;> by_cases e2 : x = u ∧ y = v <;> simp [e1, e2]

/-- Both cells of an edge. -/
theorem Core.edges (h : Core w g W n E) (ap : Apart g W B n) {u v : Nat} (hu : u < n) (hv : v < n) (t : Bool) :
    Core ((w.setCell ⟨g.er u, v, none⟩ (.bool t)).setCell ⟨g.er v, u, none⟩ (.bool t)) g W n (upd E u v t) :=
  ((h.edge ap hu t).edge ap hv t).congr (upd_two E u v t)

/-- All that moves keep: both indexes are the graph's. -/
structure Inv (w : World) (g : Gh) (W n : Nat) (E : Nat → Nat → Bool) (G : Gr) (pr : Int) : Prop where
  core : Core w g W n E
  ia : IdxG w g.a G pr
  ib : ∃ qr, IdxG w g.b G qr
  gn : G.N = n
  gi : GI G
  ns : NS G
  ad : Adj G E

theorem Inv.below {G : Gr} {pr : Int} (h : Inv w g W n E G pr) (k : Below w.heap.size w w') : Inv w' g W n E G pr :=
  ⟨h.core.below k, h.ia.below k, (by obtain ⟨qr, hb⟩ := h.ib; exact ⟨qr, hb.below k⟩), h.gn, h.gi, h.ns, h.ad⟩

theorem upd_at (E : Nat → Nat → Bool) (u v : Nat) (t : Bool) : upd E u v t u v = t := by simp [upd]
theorem Adj.sym {G : Gr} (h : Adj G E) {u v : Nat} (hu : u < G.N) (hv : v < G.N) : E u v = E v u :=
  Bool.eq_iff_iff.2 (by rw [h u v hu hv, h v u hv hu]; exact ⟨HasE.comm, HasE.comm⟩)

/-- Whether an edge is there. -/
theorem Adj.find {G : Gr} (h : Adj G E) {u v : Nat} (hu : u < G.N) (hv : v < G.N) : (E u v = false → findIx G.edges (min (u : Int) v) (max (u : Int) v) = -1) ∧ (E u v = true → ∃ k : Nat, findIx G.edges (min (u : Int) v) (max (u : Int) v) = k) := by
  have a := h u v hu hv
  rcases findIx_has G.edges (min (u : Int) v) (max (u : Int) v) with ⟨f1, f2⟩ | ⟨k, f1, f2, f3, f4⟩
  · refine ⟨fun _ => f1, fun q => ?_⟩
    exact absurd (a.1 q) f2
  · refine ⟨fun q => ?_, fun _ => ⟨k, f1⟩⟩
    have := a.2 f3
    rw [q] at this; simp at this
end

def pk (c n : Int) : Int := (if c < 0 then -(c + 1) else c) % n
theorem pk_range (c n : Int) (h : 0 < n) : 0 ≤ pk c n ∧ pk c n < n := ⟨Int.emod_nonneg _ (by omega), Int.emod_lt_of_pos _ h⟩
theorem pk_neg {c n : Int} (h0 : c < 0) : -((c + 1).tmod n) = pk c n := by
  rw [pk, if_pos h0, ← Int.neg_tmod, Int.tmod_eq_emod_of_nonneg (by omega)]
theorem pk_pos {c n : Int} (h0 : ¬ c < 0) : c % n = pk c n := by rw [pk, if_neg h0]

set_option maxHeartbeats 400000 in
theorem pick_any (c n : Int) (w : World) (h : 0 < n) (h1 : -9223372036854775808 ≤ c) (h2 : c ≤ 9223372036854775807) :
    Calls Try.prog 19 #[.int .i64 c, .int .i64 n] w fun e w' => e = .returned (.int .i64 (pk c n)) ∧ w' = w := by
  by_cases h0 : c < 0
  · go_enter Try.func19, Try.ntmps19
    go_wp2
    go_ret
    exact ⟨ret_int (pk_neg h0), rfl⟩
  · go_enter Try.func19, Try.ntmps19
    go_wp2
    go_ret
    exact ⟨ret_int (pk_pos (by omega)), rfl⟩

end Go.Proofs.Ytckallochdegiab
namespace Go.Proofs.Ytckallochdegiab
set_option linter.unusedVariables false
set_option linter.unusedSimpArgs false
open Go.RowKit

/-- The count of what came and the levels that were last seen, as they lie. -/
structure LM (w : World) (g : Gh) (W n : Nat) (c : Int) (T : Nat → Nat → Int) : Prop where
  c5 : w.cell? ⟨W, 5, none⟩ = some (.int .i64 c)
  rows : ∀ u, u < n → w.rowIs (g.lr u) 3 n (fun v => .int .i64 (T u v))

section
variable {w w' : World} {g : Gh} {W B n : Nat} {c : Int} {T : Nat → Nat → Int} {S : Nat → Prop}
theorem LM.but {t : Nat} (h : LM w g W n c T) (tW : TyAt w W 33) (k : But S w w') (hS : ∀ b, S b → TyAt w b t) (h1 : t ≠ 33) (h5 : t ≠ 3) : LM w' g W n c T :=
  ⟨cell_but h.c5 k (fun q => (hS _ q).ne tW h1 rfl), fun u hu => row_but (h.rows u hu) k (fun q => (hS _ q).ne (rowIs_ty (h.rows u hu)) h5 rfl)⟩
theorem LM.idx {b : Nat} {G : Gr} {pr : Int} (h : LM w g W n c T) (tW : TyAt w W 33) (hx : IdxG w b G pr) (k : But (fun q => q = b) w w') : LM w' g W n c T :=
  h.but tW k (fun q hq => by subst hq; exact hx.ty) (by decide) (by decide)
theorem LM.below (h : LM w g W n c T) (k : Below w.heap.size w w') : LM w' g W n c T :=
  ⟨cell_but (S := fun _ => False) h.c5 (But.of k) (fun q => q), fun u hu => row_but (S := fun _ => False) (h.rows u hu) (But.of k) (fun q => q)⟩
theorem LM.set {b t o : Nat} {v : Value} (h : LM w g W n c T) (tW : TyAt w W 33) (hb : TyAt w b t) (h1 : t ≠ 33) (h5 : t ≠ 3) : LM (w.setCell ⟨b, o, none⟩ v) g W n c T :=
  h.but tW (But.setCell w ⟨b, o, none⟩ v) (fun q hq => by subst hq; exact hb) h1 h5
theorem LM.level (h : LM w g W n c T) (tW : TyAt w W 33) (ap : Apart g W B n) {u v : Nat} (hu : u < n) (t : Int) : LM (w.setCell ⟨g.lr u, v, none⟩ (.int .i64 t)) g W n c (fun x y => if x = u ∧ y = v then t else T x y) := by
  have bs := But.setCell w ⟨g.lr u, v, none⟩ (.int .i64 t)
  refine ⟨cell_but h.c5 bs (fun q => tW.ne (rowIs_ty (h.rows u hu)) (by decide) q), fun x hx => ?_⟩
  by_cases e : x = u
  · subst e
    refine ((h.rows x hx).set v (.int .i64 t)).congr (fun y _ => ?_)
    by_cases f : y = v <;> simp [f]
  · refine (row_but (h.rows x hx) bs (fun q => e (ap.il x u hx hu q))).congr (fun y _ => ?_)
    simp [e]
theorem LM.came {E : Nat → Nat → Bool} (h : LM w g W n c T) (hc : Core w g W n E) (t : Int) : LM (w.setCell ⟨W, 5, none⟩ (.int .i64 t)) g W n t T := by
  have bs := But.setCell w ⟨W, 5, none⟩ (.int .i64 t)
  obtain ⟨c0, h0⟩ := hc.rW
  refine ⟨?_, fun u hu => row_but (h.rows u hu) bs (fun q => (rowIs_ty (h.rows u hu)).ne hc.tW (by decide) q)⟩
  have := (h0.set 5 (.int .i64 t)).cell (i := 5) (by omega)
  simpa using this
theorem LM.congr {T' : Nat → Nat → Int} (h : LM w g W n c T) (e : ∀ x y, T x y = T' x y) : LM w g W n c T' := by
  have : T = T' := by funext x y; exact e x y
  subst this; exact h
end

/-- The levels that were last seen, the count of what came, and how often edges rose. -/
def LX (w : World) (g : Gh) (W n : Nat) (G : Gr) (pr : Int) (K : Nat) : Prop := ∃ (c : Nat) (T : Nat → Nat → Int), c ≤ K ∧ LM w g W n c T ∧ Pot G pr c ∧ Seen G T

section
variable {w w' : World} {g : Gh} {W n K K' : Nat} {G : Gr} {pr : Int}
theorem LX.below (h : LX w g W n G pr K) (k : Below w.heap.size w w') : LX w' g W n G pr K := by
  obtain ⟨c, T, h1, h2, h3, h4⟩ := h
  exact ⟨c, T, h1, h2.below k, h3, h4⟩
theorem LX.mono (h : LX w g W n G pr K) (k : K ≤ K') : LX w g W n G pr K' := by
  obtain ⟨c, T, h1, h2, h3, h4⟩ := h
  exact ⟨c, T, by omega, h2, h3, h4⟩
end

end Go.Proofs.Ytckallochdegiab
