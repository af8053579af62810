import Derived.Test.YtckallochdegiaaGreatRound
import Derived.Deep.RegionHeld
namespace Go.Proofs.YtckallochdegiaaGreat
set_option linter.unusedVariables false
set_option linter.unusedSimpArgs false
open Go.RowKit

theorem LI.item_rng {N i : Nat} {es : List Edg} {ts : List (List Itm)} (h : LI N es i ts) (hN : N ≤ 48) (hE : ∀ e, e ∈ es → 0 ≤ e.u ∧ e.u < N ∧ 0 ≤ e.v ∧ e.v < N) {t : List Itm} (ht : t ∈ ts) : ∀ x, x ∈ t → -1 ≤ x.2 ∧ x.2 ≤ 1000 := by
  intro x hx
  obtain ⟨_, c⟩ := h.rng t ht x hx
  rcases c with c | ⟨e, he, _, _, c⟩
  · omega
  · have := hE e he
    rcases c with c | c <;> omega

/-- What the region that joins three numbers keeps. -/
def Two (b : Nat) (x y : Int) (w1 w' : World) : Prop := w'.cell? ⟨b, 0, none⟩ = some (.int .i64 x) ∧ w'.cell? ⟨b, 1, none⟩ = some (.int .i64 y) ∧ Below w1.heap.size w1 w'

end Go.Proofs.YtckallochdegiaaGreat
