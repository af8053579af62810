import Derived.Test.YtckallochdegiaaGreatParts
import Derived.Test.YtckallochdegiaaGreatSorted
import Derived.Deep.RegionHeld
namespace Go.Proofs.YtckallochdegiaaGreat
set_option linter.unusedVariables false
set_option linter.unusedSimpArgs false
open Go.RowKit

/-- A graph of which the tours are not known. -/
structure GW (w : World) (g N : Nat) (es : List Edg) (ev : Value) (tb nt tcap : Nat) (pr : Int) : Prop where
  rg : w.rowIs g 45 4 (gf N ev tb nt tcap pr)
  ed : Edges w ev es
  rt : ∃ F, w.rowIs tb 115 tcap F
  tl : nt ≤ tcap
  tm : tcap ≤ maxLen
  n1 : 1 ≤ N
  n48 : N ≤ 48
  inr : InR N es
  nt6 : nt ≤ 6

section
variable {w w' : World} {g N : Nat} {es : List Edg} {ev : Value} {tb nt tcap : Nat} {pr : Int}
theorem GW.c0 (h : GW w g N es ev tb nt tcap pr) : w.cell? ⟨g, 0, none⟩ = some (.int .i64 N) := h.rg.cell (by omega)
theorem GW.c1 (h : GW w g N es ev tb nt tcap pr) : w.cell? ⟨g, 1, none⟩ = some ev := h.rg.cell (by omega)
theorem GW.c2 (h : GW w g N es ev tb nt tcap pr) : w.cell? ⟨g, 2, none⟩ = some (.slice (some ⟨tb, 0, none⟩) nt tcap) := h.rg.cell (by omega)
theorem GW.below (h : GW w g N es ev tb nt tcap pr) (b : Below w.heap.size w w') : GW w' g N es ev tb nt tcap pr := by
  obtain ⟨F, hF⟩ := h.rt
  exact ⟨row_but (S := fun _ => False) h.rg (But.of b) (fun q => q), h.ed.below b (Nat.le_refl _), ⟨F, row_but (S := fun _ => False) hF (But.of b) (fun q => q)⟩, h.tl, h.tm, h.n1, h.n48, h.inr, h.nt6⟩
theorem GRep.weak {G : Gr} {F : Nat → Value} (h : GRep w g G ev tb tcap F pr) (hI : GI G) : GW w g G.N G.edges ev tb G.tours.length tcap pr :=
  ⟨h.rg, h.ed, ⟨F, h.rt⟩, h.tl, h.tm, hI.n1, hI.n48, fun e he => ⟨⟨(hI.rngE e he).1, (hI.rngE e he).2.1⟩, (hI.rngE e he).2.2⟩, by have := log2_le5 hI.n1 hI.n48; rw [hI.tl]; omega⟩
end

end Go.Proofs.YtckallochdegiaaGreat
namespace Go.Proofs.YtckallochdegiaaGreat
set_option linter.unusedVariables false
set_option linter.unusedSimpArgs false
open Go.RowKit

/-- The slice v holds the numbers l, wherever it lies. -/
def IntsAt (w : World) (v : Value) (l : List Nat) : Prop := (v = .slice none 0 0 ∧ l = []) ∨ ∃ b o cap, v = .slice (some ⟨b, o, none⟩) l.length cap ∧ l.length ≤ cap ∧ cap ≤ maxLen ∧ TyAt w b 3 ∧ ∀ j, j < l.length → w.cell? ⟨b, o + j, none⟩ = some (.int .i64 ((l[j]?.getD 0 : Nat) : Int))

theorem TyAt.below {w w' : World} {b t B : Nat} (h : TyAt w b t) (k : Below B w w') (hB : w.heap.size ≤ B) : TyAt w' b t := by
  obtain ⟨c, hc⟩ := h
  exact ⟨c, by rw [k.block b (by have := (Array.getElem?_eq_some_iff.1 hc).1; omega)]; exact hc⟩

theorem IntsAt.below {w w' : World} {v : Value} {l : List Nat} {B : Nat} (h : IntsAt w v l) (b : Below B w w') (hB : w.heap.size ≤ B) : IntsAt w' v l := by
  rcases h with h | ⟨x, o, cap, h1, h2, h3, h4, h5⟩
  · exact Or.inl h
  · exact Or.inr ⟨x, o, cap, h1, h2, h3, h4.below b hB, fun j hj => by rw [b.cell (p := ⟨x, o + j, none⟩) (by show x < B; have := h4.lt; omega)]; exact h5 j hj⟩
theorem NumsAt.ints {w : World} {B : Nat} {v : Value} {l : List Nat} (h : NumsAt w B v l) : IntsAt w v l := by
  rcases h.1.2 with ⟨h1, h2⟩ | ⟨g, cap, cur, h1, _, h3, h4, h5, _, h7⟩
  · exact Or.inl ⟨h1, List.eq_nil_of_length_eq_zero h2⟩
  · refine Or.inr ⟨g, 0, cap, h1, h4, h5, ⟨cur, h3⟩, fun j hj => ?_⟩
    rw [Nat.zero_add]
    have := h.1.cells (g := g) (by rw [h1]; rfl) j (.int .i64 ((l[j]?.getD 0 : Nat) : Int)) (by rw [List.getElem?_map, List.getElem?_eq_getElem hj]; rfl)
    rw [addr_add, Nat.zero_add] at this
    exact this
/-- What lies behind place k. -/
theorem ints_drop {w : World} {b o cap : Nat} {l : List Nat} (h2 : l.length ≤ cap) (h3 : cap ≤ maxLen) (h4 : TyAt w b 3) (h5 : ∀ j, j < l.length → w.cell? ⟨b, o + j, none⟩ = some (.int .i64 ((l[j]?.getD 0 : Nat) : Int))) (k : Nat) (hk : k ≤ l.length) (x : Nat) (hx : x = o + k ∨ l.length = k) :
    IntsAt w (.slice (some ⟨b, x, none⟩) (l.length - k) (cap - k)) (l.drop k) := by
  have hl : (l.drop k).length = l.length - k := List.length_drop
  refine Or.inr ⟨b, x, cap - k, by rw [hl], by omega, by omega, h4, fun j hj => ?_⟩
  rcases hx with rfl | hx
  · rw [List.getElem?_drop, Nat.add_assoc]; exact h5 (k + j) (by omega)
  · omega

/-- What walk answers. -/
def WalkR (ts : List Nat) (w : World) (e : Ending) (w' : World) : Prop := ∃ (p : Option Addr) (n c : Nat) (v2 : Value) (ok : Bool), e = .returned (.tuple #[.slice p n c, v2, .bool ok]) ∧ (ok = true → ∃ k, IntsAt w' v2 (ts.drop k)) ∧ Below w.heap.size w w'

/-- Items that are being gathered. -/
def GrowI (w : World) (B : Nat) (v : Value) (l : List Itm) : Prop := w.ownsRow B 71 2 v l.length (itemCells l)
theorem GrowI.below {w w' : World} {B C : Nat} {v : Value} {l : List Itm} (h : GrowI w B v l) (b : Below C w w') (hC : w.heap.size ≤ C) : GrowI w' B v l := owns_below h b hC
theorem GrowI.at_ {w : World} {B : Nat} {v : Value} {l : List Itm} (h : GrowI w B v l) (hne : 0 < l.length) : ∃ b cap, ItemsAt w v l b 0 cap ∧ v = .slice (some ⟨b, 0, none⟩) l.length cap := by
  obtain ⟨b, cap, h1, _⟩ := items_of_owns h (by intro q; rw [q] at hne; simp at hne)
  exact ⟨b, cap, h1, h1.hv⟩
theorem item_cells1 (w : World) (a b : Int) (j : Nat) (y : Value) (h : (itemCells [(a, b)])[j]? = some y) : (w.alloc (.cells #[.int .i64 a, .int .i64 b] 71)).cell? ((⟨w.heap.size, 0, none⟩ : Addr).add j) = some y := by
  rw [addr_add, Nat.zero_add, new_cell]
  simpa [itemCells] using h
theorem item_cells2 (w : World) (a b c d : Int) (j : Nat) (y : Value) (h : (itemCells [(a, b), (c, d)])[j]? = some y) : (w.alloc (.cells #[.int .i64 a, .int .i64 b, .int .i64 c, .int .i64 d] 71)).cell? ((⟨w.heap.size, 0, none⟩ : Addr).add j) = some y := by
  rw [addr_add, Nat.zero_add, new_cell]
  simpa [itemCells] using h

end Go.Proofs.YtckallochdegiaaGreat
namespace Go.Proofs.YtckallochdegiaaGreat
set_option linter.unusedVariables false
set_option linter.unusedSimpArgs false
open Go.RowKit

section
variable {w w' : World} {g N : Nat} {es : List Edg} {ev : Value} {tb nt tcap : Nat} {pr : Int}
theorem GW.gtb (h : GW w g N es ev tb nt tcap pr) : g ≠ tb := by
  obtain ⟨F, hF⟩ := h.rt
  exact (rowIs_ty h.rg).ne (rowIs_ty hF) (by decide)
theorem GW.tyT (h : GW w g N es ev tb nt tcap pr) : TyAt w tb 115 := by
  obtain ⟨F, hF⟩ := h.rt
  exact rowIs_ty hF
theorem GW.set (h : GW w g N es ev tb nt tcap pr) (i : Nat) (v : Value) : GW (w.setCell ⟨tb, i, none⟩ v) g N es ev tb nt tcap pr := by
  obtain ⟨F, hF⟩ := h.rt
  have b := But.setCell w ⟨tb, i, none⟩ v
  exact ⟨row_but h.rg b h.gtb, h.ed.but b (h.ed.notIn h.tyT (by decide)), ⟨_, hF.set i v⟩, h.tl, h.tm, h.n1, h.n48, h.inr, h.nt6⟩
theorem GW.frT (h : GW w g N es ev tb nt tcap pr) : ∀ o, w.frozen? ⟨tb, o, none⟩ = false := by
  obtain ⟨F, hF⟩ := h.rt
  exact hF.frozen
theorem GW.cT (h : GW w g N es ev tb nt tcap pr) (i : Nat) (hi : i < nt) : ∃ v, w.cell? ⟨tb, i, none⟩ = some v := by
  obtain ⟨F, hF⟩ := h.rt
  exact ⟨_, hF.cell (by have := h.tl; omega)⟩
end

/-- Slices of items that are being gathered. -/
def GrowS (w : World) (B : Nat) (v : Value) (n : Nat) : Prop := ∃ xs, w.ownsRow B 68 1 v n xs
theorem GrowS.below {w w' : World} {B C : Nat} {v : Value} {n : Nat} (h : GrowS w B v n) (b : Below C w w') (hC : w.heap.size ≤ C) : GrowS w' B v n := by
  obtain ⟨xs, h⟩ := h
  exact ⟨xs, owns_below h b hC⟩
theorem NumsAt.grown {w w' : World} {B : Nat} {v : Value} {l : List Nat} {row : Option Nat} (h : NumsAt w B v l) (g : w.grownBy w' row) (hr : ∀ k, row = some k → ¬ TyAt w k 3) : NumsAt w' B v l := by
  refine ⟨⟨h.1.1, ?_⟩, h.2⟩
  rcases h.1.2 with k | ⟨gb, cap, cur, hv, hB, hg, hle⟩
  · exact Or.inl k
  · exact Or.inr ⟨gb, cap, cur, hv, hB, by rw [g.block gb (Array.getElem?_eq_some_iff.1 hg).1 (fun q => hr gb q.symm ⟨cur, hg⟩)]; exact hg, hle⟩
theorem GrowS.grown {w w' : World} {B : Nat} {v : Value} {n : Nat} {row : Option Nat} (h : GrowS w B v n) (g : w.grownBy w' row) (hr : ∀ k, row = some k → ¬ TyAt w k 68) : GrowS w' B v n := by
  obtain ⟨xs, h⟩ := h
  refine ⟨xs, h.1, ?_⟩
  rcases h.2 with k | ⟨gb, cap, cur, hv, hB, hg, hle⟩
  · exact Or.inl k
  · exact Or.inr ⟨gb, cap, cur, hv, hB, by rw [g.block gb (Array.getElem?_eq_some_iff.1 hg).1 (fun q => hr gb q.symm ⟨cur, hg⟩)]; exact hg, hle⟩

/-- What tours answers. -/
def ToursR (g N : Nat) (es : List Edg) (ev : Value) (tb nt tcap : Nat) (pr : Int) (w : World) (e : Ending) (w' : World) : Prop := ∃ b : Bool, e = .returned (.bool b) ∧ GW w' g N es ev tb nt tcap pr ∧ But (fun k => k = tb) w w'

/-- The numbers that are left. -/
def Left (w : World) (v : Value) : Prop := ∃ ts : List Nat, IntsAt w v ts ∧ ∀ n, n ∈ ts → n < 2 ^ 28
theorem Left.below {w w' : World} {v : Value} (h : Left w v) (b : Below w.heap.size w w') : Left w' v := by
  obtain ⟨ts, h1, h2⟩ := h
  exact ⟨ts, h1.below b (Nat.le_refl _), h2⟩
theorem Left.len {w : World} {v : Value} (h : Left w v) : ∃ p n c, v = .slice p n c := by
  obtain ⟨ts, h1, h2⟩ := h
  rcases h1 with ⟨e, _⟩ | ⟨b, o, cap, e, l1, l2, l3, l4⟩
  · exact ⟨_, _, _, e⟩
  · exact ⟨_, _, _, e⟩
theorem Left.form {w : World} {v : Value} (h : Left w v) : (v = .slice none 0 0) ∨ ∃ b o n cap x, v = .slice (some ⟨b, o, none⟩) n cap ∧ n ≤ cap ∧ cap ≤ maxLen ∧ (0 < n → w.cell? ⟨b, o, none⟩ = some (.int .i64 ((x : Nat) : Int))) ∧ (∀ o', (o' = o + 1 ∨ n = 1) → 0 < n → Left w (.slice (some ⟨b, o', none⟩) (n - 1) (cap - 1))) := by
  obtain ⟨ts, h1, h2⟩ := h
  rcases h1 with ⟨e, _⟩ | ⟨b, o, cap, e, l1, l2, l3, l4⟩
  · exact Or.inl e
  · exact Or.inr ⟨b, o, ts.length, cap, ts[0]?.getD 0, e, l1, l2, fun q => l4 0 q, fun o' ho hn => ⟨ts.drop 1, ints_drop l1 l2 l3 l4 1 hn o' ho, fun n hn => h2 n (List.mem_of_mem_drop hn)⟩⟩
theorem Left.set {w : World} {v : Value} (h : Left w v) {tb t : Nat} (ht : TyAt w tb t) (hne : t ≠ 3) (i : Nat) (u : Value) : Left (w.setCell ⟨tb, i, none⟩ u) v := by
  obtain ⟨ts, h1, h2⟩ := h
  refine ⟨ts, ?_, h2⟩
  rcases h1 with e | ⟨b, o, cap, e, l1, l2, l3, l4⟩
  · exact Or.inl e
  · have ne : tb ≠ b := ht.ne l3 hne
    refine Or.inr ⟨b, o, cap, e, l1, l2, ?_, fun j hj => by rw [far ne]; exact l4 j hj⟩
    obtain ⟨c, hc⟩ := l3
    exact ⟨c, by rw [(But.setCell w ⟨tb, i, none⟩ u).block b (Array.getElem?_eq_some_iff.1 hc).1 (fun q => ne q.symm)]; exact hc⟩

theorem Left.grown {w w' : World} {v : Value} {row : Option Nat} (h : Left w v) (g : w.grownBy w' row) (hr : ∀ k, row = some k → ¬ TyAt w k 3) : Left w' v := by
  obtain ⟨ts, h1, h2⟩ := h
  refine ⟨ts, ?_, h2⟩
  rcases h1 with e | ⟨b, o, cap, e, l1, l2, l3, l4⟩
  · exact Or.inl e
  · have eb := g.block b l3.lt (fun q => hr b q.symm l3)
    refine Or.inr ⟨b, o, cap, e, l1, l2, ?_, fun j hj => by rw [World.cell?_of_block (w := w) (a := ⟨b, o + j, none⟩) eb]; exact l4 j hj⟩
    obtain ⟨c, hc⟩ := l3
    exact ⟨c, by rw [eb]; exact hc⟩

end Go.Proofs.YtckallochdegiaaGreat
