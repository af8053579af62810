/-
  No cell of these rows narrows 'for every input' (looked for: loops, veiled, ifaces, maps, wideKeys, modest, calm, conditions, laid).
  DERIVED. THE GIVEN ROWS OF THIS SEAT. 4 by the template 'for every input the law returns true; each argument reads behind the call as it read before'; 0 by the template 'total and deterministic' (their statements: YtnmdcogckkkfaabTotals.lean).
  GIVEN WITH THE SEED: the statements are not yours to turn. If you find one false, say at which input.
  Laid BY PROGRAM, IN A SANDBOX (cutbox-rows.mjs): the forced cells as the released guide's own fill.sh prints them over the translation f3afb176c9a639ac… (all of the seat's roots in one cut). By AI agents, Wed Nov 11 2026. No macro, syntax, notation, axiom, sorry.
-/
import Derived.Test.YtnmdcogckkkfaabChecked
import GoSem.Claim
import GoSem.ClaimJoined
import GoSem.ClaimMapViews
import Derived.JoinedTies
import Derived.KernelRfl
namespace Go.Proofs.Ytnmdcogckkkfaab
/- THE CELL 'sum', in the pinned program and in every row, IS THE sha256 OF THE DUMP (.gsa) THAT YtnmdcogckkkfaabProg.lean LOADS. Nothing in Lean hashes anything: it is a label: what it is worth is what the hold of that sum in a sandbox is worth. -/
noncomputable def Try.pinned : Pinned := { name := "ytnmdcogckkkfaab", sum := "f3afb176c9a639ac63a8eadbde7673b0e604af8c9d35e4b07ad1c6925c0af85c", checked := Try.checked }
namespace Rows
def none {H : Type} : Left H := { results := [], args := [] }

/-- 'islandskeep.Moves': WHATEVER THE INPUT: true; the input reads as it did. -/
def movesSpec : ChangeSpec := { name := "moves", fn := fun _ => fun
  | [d1, d2, d3] => { results := [.lit (.bool true)], args := [d1, d2, d3] }
  | _ => none }
def movesRow : OpenClaim := { program := "ytnmdcogckkkfaab", sum := "f3afb176c9a639ac63a8eadbde7673b0e604af8c9d35e4b07ad1c6925c0af85c", func := "islands/islandskeep.Moves", spec := "moves", apart := false }
def MovesSaid : Prop := movesRow.holds Try.pinned (OpenSpec.ofChange movesSpec)

/-- ITS FALSE NEIGHBOUR: 'it returns false'. Refute it at one input. -/
def movesWrong : ChangeSpec := { name := "moves", fn := fun _ => fun
  | [d1, d2, d3] => { results := [.lit (.bool false)], args := [d1, d2, d3] }
  | _ => none }
def MovesWrongFalsely : Prop := movesRow.holds Try.pinned (OpenSpec.ofChange movesWrong)

/-- 'islandskeep.Colored': WHATEVER THE INPUT: true; the input reads as it did. -/
def coloredSpec : ChangeSpec := { name := "colored", fn := fun _ => fun
  | [d1, d2, d3, d4, d5] => { results := [.lit (.bool true)], args := [d1, d2, d3, d4, d5] }
  | _ => none }
def coloredRow : OpenClaim := { program := "ytnmdcogckkkfaab", sum := "f3afb176c9a639ac63a8eadbde7673b0e604af8c9d35e4b07ad1c6925c0af85c", func := "islands/islandskeep.Colored", spec := "colored", apart := false }
def ColoredSaid : Prop := coloredRow.holds Try.pinned (OpenSpec.ofChange coloredSpec)

/-- ITS FALSE NEIGHBOUR: 'it returns false'. Refute it at one input. -/
def coloredWrong : ChangeSpec := { name := "colored", fn := fun _ => fun
  | [d1, d2, d3, d4, d5] => { results := [.lit (.bool false)], args := [d1, d2, d3, d4, d5] }
  | _ => none }
def ColoredWrongFalsely : Prop := coloredRow.holds Try.pinned (OpenSpec.ofChange coloredWrong)

/-- 'islandskeep.Seeds': WHATEVER THE INPUT: true; the input reads as it did. -/
def seedsSpec : ChangeSpec := { name := "seeds", fn := fun _ => fun
  | [d1, d2, d3] => { results := [.lit (.bool true)], args := [d1, d2, d3] }
  | _ => none }
def seedsRow : OpenClaim := { program := "ytnmdcogckkkfaab", sum := "f3afb176c9a639ac63a8eadbde7673b0e604af8c9d35e4b07ad1c6925c0af85c", func := "islands/islandskeep.Seeds", spec := "seeds", apart := false }
def SeedsSaid : Prop := seedsRow.holds Try.pinned (OpenSpec.ofChange seedsSpec)

/-- ITS FALSE NEIGHBOUR: 'it returns false'. Refute it at one input. -/
def seedsWrong : ChangeSpec := { name := "seeds", fn := fun _ => fun
  | [d1, d2, d3] => { results := [.lit (.bool false)], args := [d1, d2, d3] }
  | _ => none }
def SeedsWrongFalsely : Prop := seedsRow.holds Try.pinned (OpenSpec.ofChange seedsWrong)

/-- 'islandskeep.Levels': WHATEVER THE INPUT: true; the input reads as it did. -/
def levelsSpec : ChangeSpec := { name := "levels", fn := fun _ => fun
  | [d1, d2, d3, d4] => { results := [.lit (.bool true)], args := [d1, d2, d3, d4] }
  | _ => none }
def levelsRow : OpenClaim := { program := "ytnmdcogckkkfaab", sum := "f3afb176c9a639ac63a8eadbde7673b0e604af8c9d35e4b07ad1c6925c0af85c", func := "islands/islandskeep.Levels", spec := "levels", apart := false }
def LevelsSaid : Prop := levelsRow.holds Try.pinned (OpenSpec.ofChange levelsSpec)

/-- ITS FALSE NEIGHBOUR: 'it returns false'. Refute it at one input. -/
def levelsWrong : ChangeSpec := { name := "levels", fn := fun _ => fun
  | [d1, d2, d3, d4] => { results := [.lit (.bool false)], args := [d1, d2, d3, d4] }
  | _ => none }
def LevelsWrongFalsely : Prop := levelsRow.holds Try.pinned (OpenSpec.ofChange levelsWrong)

/- THE SECOND FORM. 'bulk': how many values and letters a reading holds, each counted each time it is reached (what is shared counts as often as it is met; a slice's spare places count too). A statement '..UptoSaid' is the law's where the arguments, and the package variables that the reading takes, are together of bulk at most 1048576: NARROWER than '..Said'. Prove '..Said' where nothing that the law and all that it calls make is longer than what came in: it says more and counts as full. Else prove '..UptoSaid'. A law counts once. -/
mutual
def uptoBulk {H : Type} : DataW H → Nat
  | .lit (.string bytes) => bytes.length + 1
  | .lit _ => 1
  | .nil => 1
  | .ptr d => uptoBulk d + 1
  | .slice elems spare => uptoBulkAll elems + uptoBulkAll spare + 1
  | .agg parts => uptoBulkAll parts + 1
  | .iface _ d => uptoBulk d + 1
  | .map entries => uptoBulkEntries entries + 1
  | .held _ => 1
def uptoBulkAll {H : Type} : List (DataW H) → Nat
  | [] => 0
  | d :: r => uptoBulk d + uptoBulkAll r
def uptoBulkEntries {H : Type} : List (Lit × DataW H) → Nat
  | [] => 0
  | x :: r => uptoBulkEntry x + uptoBulkEntries r
def uptoBulkEntry {H : Type} : Lit × DataW H → Nat
  | (.string bytes, d) => bytes.length + uptoBulk d + 1
  | (_, d) => uptoBulk d + 1
 end
def uptoSmall : (H : Type) → List (DataW H) → Bool := fun _ ds => decide (uptoBulkAll ds ≤ 1048576)
def OpenSpec.upto (s : _root_.Go.ChangeSpec) : _root_.Go.OpenSpec := { _root_.Go.OpenSpec.ofChange s with cond := some uptoSmall }

/-- 'islandskeep.Moves', WHERE WHAT IT READS IS OF BULK AT MOST 1048576: true; the input reads as it did. -/
def movesUptoRow : OpenClaim := { program := "ytnmdcogckkkfaab", sum := "f3afb176c9a639ac63a8eadbde7673b0e604af8c9d35e4b07ad1c6925c0af85c", func := "islands/islandskeep.Moves", spec := "moves", apart := false, narrowed := true }
def MovesUptoSaid : Prop := movesUptoRow.holds Try.pinned (OpenSpec.upto movesSpec)

/-- 'islandskeep.Colored', WHERE WHAT IT READS IS OF BULK AT MOST 1048576: true; the input reads as it did. -/
def coloredUptoRow : OpenClaim := { program := "ytnmdcogckkkfaab", sum := "f3afb176c9a639ac63a8eadbde7673b0e604af8c9d35e4b07ad1c6925c0af85c", func := "islands/islandskeep.Colored", spec := "colored", apart := false, narrowed := true }
def ColoredUptoSaid : Prop := coloredUptoRow.holds Try.pinned (OpenSpec.upto coloredSpec)

/-- 'islandskeep.Seeds', WHERE WHAT IT READS IS OF BULK AT MOST 1048576: true; the input reads as it did. -/
def seedsUptoRow : OpenClaim := { program := "ytnmdcogckkkfaab", sum := "f3afb176c9a639ac63a8eadbde7673b0e604af8c9d35e4b07ad1c6925c0af85c", func := "islands/islandskeep.Seeds", spec := "seeds", apart := false, narrowed := true }
def SeedsUptoSaid : Prop := seedsUptoRow.holds Try.pinned (OpenSpec.upto seedsSpec)

/-- 'islandskeep.Levels', WHERE WHAT IT READS IS OF BULK AT MOST 1048576: true; the input reads as it did. -/
def levelsUptoRow : OpenClaim := { program := "ytnmdcogckkkfaab", sum := "f3afb176c9a639ac63a8eadbde7673b0e604af8c9d35e4b07ad1c6925c0af85c", func := "islands/islandskeep.Levels", spec := "levels", apart := false, narrowed := true }
def LevelsUptoSaid : Prop := levelsUptoRow.holds Try.pinned (OpenSpec.upto levelsSpec)

end Rows
end Go.Proofs.Ytnmdcogckkkfaab
