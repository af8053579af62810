import Derived.Test.YtnmdcogckkkfaaaDeleteX
import Derived.Test.YtnmdcogckkkfaaaAppend
namespace Go.Proofs.Ytnmdcogckkkfaaa
set_option linter.unusedVariables false
set_option linter.unusedSimpArgs false
open Go.RowKit

/-- A block that is no tour's, grown: the items stay. -/
theorem Items.grown {w w' : World} {row : Option Nat} {v : Value} {l : List Itm} (h : Items w v l) (g : w.grownBy w' row) (hr : ∀ k, row = some k → ¬ TyAt w k 74) : Items w' v l := by
  obtain ⟨x, o, cap, h⟩ := h
  exact ⟨x, o, cap, h.block (g.block x h.lt (fun q => hr x q.symm h.ty))⟩

/-- Tours that are being gathered: v is a row of one's own, from block B on. -/
def GrowT (w : World) (B : Nat) (v : Value) (ts : List (List Itm)) : Prop := ∃ xs, w.ownsRow B 71 1 v ts.length xs ∧ ∀ j, j < ts.length → Items w (xs[j]?.getD undef) (ts[j]?.getD [])
/-- Levels that are being gathered. -/
def GrowL (w : World) (B : Nat) (v : Value) (L : List (List (List Itm))) : Prop := ∃ xs, w.ownsRow B 95 1 v L.length xs ∧ ∀ j, j < L.length → Lists w (xs[j]?.getD undef) (L[j]?.getD [])

section
variable {w w' : World} {B C : Nat} {v : Value} {ts : List (List Itm)} {L : List (List (List Itm))}

theorem GrowT.nil : GrowT w B (.slice none 0 0) [] := ⟨[], World.ownsRow_nil _ _ _ _, fun j hj => by simp at hj⟩
theorem GrowL.nil : GrowL w B (.slice none 0 0) [] := ⟨[], World.ownsRow_nil _ _ _ _, fun j hj => by simp at hj⟩
theorem GrowT.below (h : GrowT w B v ts) (b : Below C w w') (hC : w.heap.size ≤ C) : GrowT w' B v ts := by
  obtain ⟨xs, h1, h2⟩ := h
  exact ⟨xs, owns_below h1 b hC, fun j hj => (h2 j hj).below b hC⟩
theorem GrowL.below (h : GrowL w B v L) (b : Below C w w') (hC : w.heap.size ≤ C) : GrowL w' B v L := by
  obtain ⟨xs, h1, h2⟩ := h
  exact ⟨xs, owns_below h1 b hC, fun j hj => (h2 j hj).below b hC⟩
theorem GrowT.add {xs : List Value} {x v' : Value} {t : List Itm} (h : w.ownsRow B 71 1 v ts.length xs) (hi : ∀ j, j < ts.length → Items w (xs[j]?.getD undef) (ts[j]?.getD [])) (hx : Items w x t) (ho : w'.ownsRow B 71 1 v' (ts.length + 1) (xs ++ [x])) (hg : w.grownBy w' v.ownBlock) : GrowT w' B v' (ts ++ [t]) := by
  have nt := owns_not h (t := 74) (by decide)
  have hl := h.1
  refine ⟨xs ++ [x], by rw [List.length_append]; exact ho, fun j hj => ?_⟩
  by_cases e : j < ts.length
  · rw [List.getElem?_append_left (by omega), List.getElem?_append_left e]; exact (hi j e).grown hg nt
  · have : j = ts.length := by simp at hj; omega
    subst this
    rw [List.getElem?_append_right (by omega), List.getElem?_append_right (by omega)]
    simp only [Nat.sub_self, List.getElem?_cons_zero, Option.getD_some]
    rw [show ts.length - xs.length = 0 by omega]
    exact hx.grown hg nt
theorem GrowT.lists (h : GrowT w B v ts) (hne : ts ≠ []) : Lists w v ts := by
  obtain ⟨xs, h1, h2⟩ := h
  exact lists_of_owns h1 hne h2
theorem Lists.grown {row : Option Nat} (h : Lists w v ts) (g : w.grownBy w' row) (h1 : ∀ k, row = some k → ¬ TyAt w k 74) (h2 : ∀ k, row = some k → ¬ TyAt w k 71) : Lists w' v ts :=
  h.but (But.grown g) (fun k hk _ => ⟨h1 k hk.symm, h2 k hk.symm⟩)
theorem GrowL.add {xs : List Value} {x v' : Value} {t : List (List Itm)} (h : w.ownsRow B 95 1 v L.length xs) (hi : ∀ j, j < L.length → Lists w (xs[j]?.getD undef) (L[j]?.getD [])) (hx : Lists w x t) (ho : w'.ownsRow B 95 1 v' (L.length + 1) (xs ++ [x])) (hg : w.grownBy w' v.ownBlock) : GrowL w' B v' (L ++ [t]) := by
  have n1 := owns_not h (t := 74) (by decide)
  have n2 := owns_not h (t := 71) (by decide)
  have hl := h.1
  refine ⟨xs ++ [x], by rw [List.length_append]; exact ho, fun j hj => ?_⟩
  by_cases e : j < L.length
  · rw [List.getElem?_append_left (by omega), List.getElem?_append_left e]; exact (hi j e).grown hg n1 n2
  · have : j = L.length := by simp at hj; omega
    subst this
    rw [List.getElem?_append_right (by omega), List.getElem?_append_right (by omega)]
    simp only [Nat.sub_self, List.getElem?_cons_zero, Option.getD_some]
    rw [show L.length - xs.length = 0 by omega]
    exact hx.grown hg n1 n2
theorem GrowL.set {x t : Nat} (h : GrowL w B v L) (hx : TyAt w x t) (h0 : t ≠ 95) (h1 : t ≠ 74) (h2 : t ≠ 71) (o : Nat) (u : Value) : GrowL (w.setCell ⟨x, o, none⟩ u) B v L := by
  obtain ⟨xs, h3, h4⟩ := h
  exact ⟨xs, owns_set_other h3 hx h0 o u, fun j hj => (h4 j hj).but (But.setCell w ⟨x, o, none⟩ u) (noTour_one hx h1 h2)⟩
/-- The levels, as a graph has them. -/
theorem GrowL.rep (h : GrowL w B v L) (hne : L ≠ []) : ∃ tb tcap F, v = .slice (some ⟨tb, 0, none⟩) L.length tcap ∧ B ≤ tb ∧ w.rowIs tb 95 tcap F ∧ L.length ≤ tcap ∧ tcap ≤ maxLen ∧ ∀ i, i < L.length → Lists w (F i) (L[i]?.getD []) := by
  obtain ⟨xs, h1, h2⟩ := h
  rcases h1.2 with ⟨_, h0⟩ | ⟨g, cap, cur, hv, hB, hg, hle, hmx, hsz, htake⟩
  · exact absurd (List.eq_nil_of_length_eq_zero h0) hne
  · refine ⟨g, cap, fun i => cur[i]?.getD undef, hv, hB, ⟨cur, hg, by omega, fun i hi => ?_⟩, hle, hmx, fun i hi => ?_⟩
    · simp only [Array.getElem?_eq_getElem (show i < cur.size by omega), Option.getD_some]
    · have e : cur[i]?.getD undef = xs[i]?.getD undef := by
        rw [← htake, List.getElem?_take, if_pos (by omega), Array.getElem?_toList]
      show Lists w (cur[i]?.getD undef) _
      rw [e]; exact h2 i hi
end

end Go.Proofs.Ytnmdcogckkkfaaa
