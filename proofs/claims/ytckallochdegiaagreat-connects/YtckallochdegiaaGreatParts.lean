import Derived.Test.YtckallochdegiaaGreatNum
import Derived.Deep.RegionHeld
namespace Go.Proofs.YtckallochdegiaaGreat
set_option linter.unusedVariables false
set_option linter.unusedSimpArgs false
open Go.RowKit

/-- Texts lie in a row of one's own. -/
def TextsAt (w : World) (B : Nat) (v : Value) (l : List ByteArray) (m : Nat) : Prop := w.ownsRow B 9 1 v l.length (l.map Value.string) ∧ ∀ t, t ∈ l → t.size ≤ m

/-- What parts answers. -/
def PartsR (s : ByteArray) (w : World) (e : Ending) (w' : World) : Prop := ∃ (v : Value) (ok : Bool), e = .returned (.tuple #[v, .bool ok]) ∧ (ok = true → ∃ l, TextsAt w' w.heap.size v l s.size ∧ l.length = 3) ∧ Below w.heap.size w w'

end Go.Proofs.YtckallochdegiaaGreat
