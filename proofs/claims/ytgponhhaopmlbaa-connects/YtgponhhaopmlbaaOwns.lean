import Derived.Test.YtgponhhaopmlbaaBut
import Derived.Test.YtgponhhaopmlbaaAppend
namespace Go.Proofs.Ytgponhhaopmlbaa
set_option linter.unusedVariables false
set_option linter.unusedSimpArgs false
open Go.RowKit

theorem owns_ty {w : World} {B e size n k : Nat} {v : Value} {xs : List Value} (h : w.ownsRow B e size v n xs) (hk : v.ownBlock = some k) : TyAt w k e := by
  rcases h.2 with ⟨rfl, _⟩ | ⟨g, cap, cur, rfl, _, hg, _⟩
  · simp [Value.ownBlock] at hk
  · simp [Value.ownBlock] at hk; subst hk; exact ⟨cur, hg⟩

theorem owns_not {w : World} {B e size n t : Nat} {v : Value} {xs : List Value} (h : w.ownsRow B e size v n xs) (ht : e ≠ t) : ∀ k, v.ownBlock = some k → ¬ TyAt w k t := fun _ hk q => (owns_ty h hk).ne q ht rfl

theorem owns_below {w w' : World} {B C e size n : Nat} {v : Value} {xs : List Value} (h : w.ownsRow B e size v n xs) (b : Below C w w') (hC : w.heap.size ≤ C) : w'.ownsRow B e size v n xs := by
  refine ⟨h.1, ?_⟩
  rcases h.2 with k | ⟨g, cap, cur, hv, hB, hg, hle⟩
  · exact Or.inl k
  · have lt : g < w.heap.size := (Array.getElem?_eq_some_iff.1 hg).1
    exact Or.inr ⟨g, cap, cur, hv, hB, by rw [b.block g (by omega)]; exact hg, hle⟩

theorem owns_set_other {w : World} {B e size n x : Nat} {v : Value} {xs : List Value} (h : w.ownsRow B e size v n xs) {t : Nat} (hx : TyAt w x t) (ht : t ≠ e) (o : Nat) (u : Value) : (w.setCell ⟨x, o, none⟩ u).ownsRow B e size v n xs := by
  refine ⟨h.1, ?_⟩
  rcases h.2 with k | ⟨g, cap, cur, hv, hB, hg, hle⟩
  · exact Or.inl k
  · refine Or.inr ⟨g, cap, cur, hv, hB, ?_, hle⟩
    rw [(But.setCell w ⟨x, o, none⟩ u).block g (Array.getElem?_eq_some_iff.1 hg).1 (fun q => hx.ne ⟨cur, hg⟩ ht q.symm)]; exact hg

theorem row_but {w w' : World} {S : Nat → Prop} {b t n : Nat} {f : Nat → Value} (h : w.rowIs b t n f) (k : But S w w') (hS : ¬ S b) : w'.rowIs b t n f := h.of_block (k.block b h.lt hS)

end Go.Proofs.Ytgponhhaopmlbaa
