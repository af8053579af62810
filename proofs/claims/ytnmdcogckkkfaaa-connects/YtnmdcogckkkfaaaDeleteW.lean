import Derived.Test.YtnmdcogckkkfaaaSearchW
namespace Go.Proofs.Ytnmdcogckkkfaaa
set_option linter.unusedVariables false
set_option linter.unusedSimpArgs false
open Go.RowKit

section
variable {w w' : World} {g : Nat} {G : Gr} {ev : Value} {tb tcap : Nat} {F : Nat → Value} {pr : Int} {i : Nat}

theorem edges_of_owns {B n : Nat} {v : Value} {es : List Edg} (h : w.ownsRow B 101 4 v n (eCells es)) (hn : es.length = n) : Edges w v es ∧ ∀ k, v.ownBlock = some k → B ≤ k := by
  subst hn
  by_cases c : es = []
  · subst c
    rcases h.2 with ⟨rfl, _⟩ | ⟨g, cap, cur, hv, hB, hg, hle, hmx, hsz, _⟩
    · exact ⟨Or.inl ⟨rfl, rfl⟩, fun k q => by simp [Value.ownBlock] at q⟩
    · refine ⟨Or.inr ⟨g, cap, hv, hle, hmx, fun i hi => by simp at hi, fun i hi => by simp at hi, fun i hi => by simp at hi, fun i hi => by simp at hi, cur, hg, hsz⟩, fun k q => ?_⟩
      rw [hv] at q; simp [Value.ownBlock] at q; omega
  · obtain ⟨b, cap, hE, hb⟩ := eat_of_owns h c
    exact ⟨Or.inr ⟨b, cap, hE⟩, fun k q => by rw [hE.own] at q; simp at q; omega⟩

theorem eCells_take (es : List Edg) (k : Nat) : eCells (es.take k) = (eCells es).take (k * 4) := by
  induction es generalizing k with
  | nil => simp [eCells]
  | cons a l ih =>
    cases k with
    | zero => simp [eCells]
    | succ k =>
      have e : eCells (a :: l) = a.cells ++ eCells l := by simp [eCells]
      have e2 : eCells (a :: l.take k) = a.cells ++ eCells (l.take k) := by simp [eCells]
      have la : a.cells.length = 4 := rfl
      rw [List.take_succ_cons, e, e2, List.take_append, la, List.take_of_length_le (l := a.cells) (by omega), ih, show (k + 1) * 4 - 4 = k * 4 by omega]
theorem eCells_drop (es : List Edg) (k : Nat) : eCells (es.drop k) = (eCells es).drop (k * 4) := by
  induction es generalizing k with
  | nil => simp [eCells]
  | cons a l ih =>
    cases k with
    | zero => simp
    | succ k =>
      have e : eCells (a :: l) = a.cells ++ eCells l := by simp [eCells]
      have la : a.cells.length = 4 := rfl
      rw [List.drop_succ_cons, e, List.drop_append, la, ih, show (k + 1) * 4 - 4 = k * 4 by omega, show a.cells.drop ((k + 1) * 4) = [] from List.drop_eq_nil_of_le (by omega), List.nil_append]

/-- The cells ahead of place k. -/
theorem EAt.takeC {es : List Edg} {b cap : Nat} (h : EAt w ev es b cap) (k : Nat) (j : Nat) (u : Value) (hj : (eCells (es.take k))[j]? = some u) : w.cell? ((⟨b, 0, none⟩ : Addr).add j) = some u := by
  rw [addr_add, Nat.zero_add]
  refine h.cells j u ?_
  rw [eCells_take, List.getElem?_take] at hj
  split at hj
  · exact hj
  · simp at hj
theorem EAt.dropC {es : List Edg} {b cap : Nat} (h : EAt w ev es b cap) (k : Nat) (o : Nat) (ho : o = k * 4 ∨ es.drop k = []) (j : Nat) (u : Value) (hj : (eCells (es.drop k))[j]? = some u) : w.cell? ((⟨b, o, none⟩ : Addr).add j) = some u := by
  rcases ho with rfl | ho
  · rw [addr_add]
    refine h.cells _ u ?_
    rw [eCells_drop, List.getElem?_drop] at hj
    exact hj
  · rw [ho] at hj; simp [eCells] at hj

theorem EAt.grown {es : List Edg} {b cap : Nat} {row : Option Nat} (h : EAt w ev es b cap) (k : w.grownBy w' row) (hr : some b ≠ row) : EAt w' ev es b cap := h.block (k.block b h.lt hr)

theorem EAt.takeC' {es : List Edg} {b cap : Nat} (h : EAt w ev es b cap) {k : Nat} (j : Nat) (u : Value) (hj : (eCells (es.take k))[j]? = some u) : w.cell? ((⟨b, 0, none⟩ : Addr).add j) = some u := h.takeC k j u hj
theorem del_c1 {w2 : World} {eb n cap : Nat} (h : GRep w g G ev tb tcap F pr) (k : w.grownBy w2 (Value.slice none 0 0).ownBlock) (he : ev = .slice (some ⟨eb, 0, none⟩) n cap) : w2.cell? ⟨g, 1, none⟩ = some (.slice (some ⟨eb, 0, none⟩) n cap) := by
  rw [World.cell?_of_block (w := w) (a := ⟨g, 1, none⟩) (k.block g h.rg.lt (by simp [Value.ownBlock])), h.c1, he]
theorem del_c13 {w3 : World} {eb n cap : Nat} (h : GRep w g G ev tb tcap F pr) (k : Below w.heap.size w w3) (he : ev = .slice (some ⟨eb, 0, none⟩) n cap) : w3.cell? ⟨g, 1, none⟩ = some (.slice (some ⟨eb, 0, none⟩) n cap) := by
  rw [(h.below k).c1, he]
theorem del_below {w2 w3 : World} {o : Obj} {v : Value} {e size n : Nat} {xs : List Value} (h : (w.alloc o).drew.grownBy w2 (Value.slice none 0 0).ownBlock) (ho : w2.ownsRow (w.heap.size + 1) e size v n xs) (k : w2.grownBy w3 v.ownBlock) : Below (w.heap.size + 1) (w.alloc o) w3 := by
  have hs : w.heap.size + 1 ≤ (w.alloc o).drew.heap.size := by show _ ≤ (w.alloc o).heap.size; simp
  exact (((Below.refl _ (w.alloc o)).drew).grown h hs (fun k hk => by simp [Value.ownBlock] at hk)).grown k (Nat.le_trans hs h.size) (fun k hk => (ho.lt k hk).1)
theorem owns_form {B e size n : Nat} {v : Value} {xs : List Value} (h : w.ownsRow B e size v n xs) : ∃ p n' c, v = .slice p n' c := by
  rcases h.2 with ⟨rfl, _⟩ | ⟨g, cap, cur, hv, _⟩
  · exact ⟨_, _, _, rfl⟩
  · exact ⟨_, _, _, hv⟩
theorem below_of_alloc {w3 : World} {o : Obj} (h : Below (w.heap.size + 1) (w.alloc o) w3) : Below w.heap.size w w3 := ((Below.refl _ _).alloc (Nat.le_refl _) o).trans (h.mono (by omega))

/-- The edge that was read out. -/
theorem del_e {w3 : World} {c : Array Value} {t : Nat} {v2 : Value} (hg : g < w.heap.size) (h : Below (w.heap.size + 1) (w.alloc (.cells c t)) w3) (ho : ∀ k, v2.ownBlock = some k → w.heap.size + 1 ≤ k) (x : Value) :
    (∀ j, (w3.setCell ⟨g, 1, none⟩ x).cell? ⟨w.heap.size, j, none⟩ = c[j]?) ∧ w.heap.size < (w3.setCell ⟨g, 1, none⟩ x).heap.size ∧ ¬ v2.ownBlock = some w.heap.size := by
  have s := h.size
  simp at s
  refine ⟨fun j => ?_, by simp [World.setCell]; omega, fun q => by have := ho _ q; omega⟩
  have b := (But.setCell w3 ⟨g, 1, none⟩ x).block w.heap.size (by omega) (by show ¬ w.heap.size = g; omega)
  rw [World.cell?_of_block (w := w3) (a := ⟨w.heap.size, j, none⟩) b, h.cell (p := ⟨w.heap.size, j, none⟩) (by show w.heap.size < w.heap.size + 1; omega), new_cell]

/-- What lies behind the store of the edges without one. -/
theorem del_mem {w1 w3 : World} {v2 : Value} {k n : Nat} (h : GRep w1 g G ev tb tcap F pr) (hk : k < G.edges.length)
    (ho : w3.ownsRow (w1.heap.size + 1) 101 4 v2 n (eCells (G.edges.take k) ++ eCells (G.edges.drop (k + 1)))) (hn : n = G.edges.length - 1) (b : Below w1.heap.size w1 w3) :
    GRep (w3.setCell ⟨g, 1, none⟩ v2) g (delE G k) v2 tb tcap F pr ∧ But (Own g tb ev) w1 (w3.setCell ⟨g, 1, none⟩ v2) ∧ (∀ k, v2.ownBlock = some k → w1.heap.size + 1 ≤ k) := by
  have er : eCells (G.edges.take k) ++ eCells (G.edges.drop (k + 1)) = eCells (delE G k).edges := by
    rw [← eCells_append]; simp [delE, List.eraseIdx_eq_take_drop_succ]
  have len : (delE G k).edges.length = n := by simp [delE, List.length_eraseIdx, hk]; omega
  rw [er] at ho
  obtain ⟨hE, hown⟩ := edges_of_owns ho len
  have h3 := h.below b
  have bs := But.setCell w3 ⟨g, 1, none⟩ v2
  have ntg : NoTour (fun k => k = g) w3 := noTour_one (rowIs_ty h3.rg) (by decide) (by decide)
  have glt := h.rg.lt
  refine ⟨⟨(h3.rg.set 1 v2).congr ?_, hE.but bs (fun j hj q => by have := hown j hj; simp only at q; omega), row_but h3.rt bs h3.gtb.symm, h3.tl, h3.tm, fun j hj => (h3.ti j hj).but bs ntg⟩, (But.of b).trans bs (fun _ _ q => Or.inl q), hown⟩
  intro j hj
  simp only [gf]
  by_cases q : j = 1
  · subst q; simp
  · simp [q, delE]
end

end Go.Proofs.Ytnmdcogckkkfaaa
