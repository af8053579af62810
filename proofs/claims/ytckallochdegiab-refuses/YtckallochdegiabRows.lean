/-
  No cell of these rows narrows 'for every input' (looked for: loops, veiled, ifaces, maps, wideKeys, modest, calm, conditions, laid).
  DERIVED. THE GIVEN ROWS OF THIS SEAT. 9 by the template 'for every input the law returns true; each argument reads behind the call as it read before'; 0 by the template 'total and deterministic' (their statements: YtckallochdegiabTotals.lean).
  GIVEN WITH THE SEED: the statements are not yours to turn. If you find one false, say at which input.
  Laid BY PROGRAM, IN A SANDBOX (cutbox-rows.mjs): the forced cells as the released guide's own fill.sh prints them over the translation 56779df53a227374… (all of the seat's roots in one cut). By AI agents, Wed Nov 11 2026. No macro, syntax, notation, axiom, sorry.
-/
import Derived.Test.YtckallochdegiabChecked
import GoSem.Claim
import GoSem.ClaimJoined
import GoSem.ClaimMapViews
import Derived.JoinedTies
import Derived.KernelRfl
namespace Go.Proofs.Ytckallochdegiab
/- THE CELL 'sum', in the pinned program and in every row, IS THE sha256 OF THE DUMP (.gsa) THAT YtckallochdegiabProg.lean LOADS. Nothing in Lean hashes anything: it is a label: what it is worth is what the hold of that sum in a sandbox is worth. -/
noncomputable def Try.pinned : Pinned := { name := "ytckallochdegiab", sum := "56779df53a2273748c29c9a1e702aa2e8ca2f72e63a44cc725d07b788b491d47", checked := Try.checked }
namespace Rows
def none {H : Type} : Left H := { results := [], args := [] }

/-- 'islandskeep.Moves': WHATEVER THE INPUT: true; the input reads as it did. -/
def movesSpec : ChangeSpec := { name := "moves", fn := fun _ => fun
  | [d1, d2, d3] => { results := [.lit (.bool true)], args := [d1, d2, d3] }
  | _ => none }
def movesRow : OpenClaim := { program := "ytckallochdegiab", sum := "56779df53a2273748c29c9a1e702aa2e8ca2f72e63a44cc725d07b788b491d47", func := "islands/islandskeep.Moves", spec := "moves", apart := false }
def MovesSaid : Prop := movesRow.holds Try.pinned (OpenSpec.ofChange movesSpec)

/-- ITS FALSE NEIGHBOUR: 'it returns false'. Refute it at one input. -/
def movesWrong : ChangeSpec := { name := "moves", fn := fun _ => fun
  | [d1, d2, d3] => { results := [.lit (.bool false)], args := [d1, d2, d3] }
  | _ => none }
def MovesWrongFalsely : Prop := movesRow.holds Try.pinned (OpenSpec.ofChange movesWrong)

/-- 'islandskeep.Colored': WHATEVER THE INPUT: true; the input reads as it did. -/
def coloredSpec : ChangeSpec := { name := "colored", fn := fun _ => fun
  | [d1, d2, d3, d4, d5] => { results := [.lit (.bool true)], args := [d1, d2, d3, d4, d5] }
  | _ => none }
def coloredRow : OpenClaim := { program := "ytckallochdegiab", sum := "56779df53a2273748c29c9a1e702aa2e8ca2f72e63a44cc725d07b788b491d47", func := "islands/islandskeep.Colored", spec := "colored", apart := false }
def ColoredSaid : Prop := coloredRow.holds Try.pinned (OpenSpec.ofChange coloredSpec)

/-- ITS FALSE NEIGHBOUR: 'it returns false'. Refute it at one input. -/
def coloredWrong : ChangeSpec := { name := "colored", fn := fun _ => fun
  | [d1, d2, d3, d4, d5] => { results := [.lit (.bool false)], args := [d1, d2, d3, d4, d5] }
  | _ => none }
def ColoredWrongFalsely : Prop := coloredRow.holds Try.pinned (OpenSpec.ofChange coloredWrong)

/-- 'islandskeep.Seeds': WHATEVER THE INPUT: true; the input reads as it did. -/
def seedsSpec : ChangeSpec := { name := "seeds", fn := fun _ => fun
  | [d1, d2, d3] => { results := [.lit (.bool true)], args := [d1, d2, d3] }
  | _ => none }
def seedsRow : OpenClaim := { program := "ytckallochdegiab", sum := "56779df53a2273748c29c9a1e702aa2e8ca2f72e63a44cc725d07b788b491d47", func := "islands/islandskeep.Seeds", spec := "seeds", apart := false }
def SeedsSaid : Prop := seedsRow.holds Try.pinned (OpenSpec.ofChange seedsSpec)

/-- ITS FALSE NEIGHBOUR: 'it returns false'. Refute it at one input. -/
def seedsWrong : ChangeSpec := { name := "seeds", fn := fun _ => fun
  | [d1, d2, d3] => { results := [.lit (.bool false)], args := [d1, d2, d3] }
  | _ => none }
def SeedsWrongFalsely : Prop := seedsRow.holds Try.pinned (OpenSpec.ofChange seedsWrong)

/-- 'islandskeep.Kept': WHATEVER THE INPUT: true; the input reads as it did. -/
def keptSpec : ChangeSpec := { name := "kept", fn := fun _ => fun
  | [d1, d2, d3, d4, d5] => { results := [.lit (.bool true)], args := [d1, d2, d3, d4, d5] }
  | _ => none }
def keptRow : OpenClaim := { program := "ytckallochdegiab", sum := "56779df53a2273748c29c9a1e702aa2e8ca2f72e63a44cc725d07b788b491d47", func := "islands/islandskeep.Kept", spec := "kept", apart := false }
def KeptSaid : Prop := keptRow.holds Try.pinned (OpenSpec.ofChange keptSpec)

/-- ITS FALSE NEIGHBOUR: 'it returns false'. Refute it at one input. -/
def keptWrong : ChangeSpec := { name := "kept", fn := fun _ => fun
  | [d1, d2, d3, d4, d5] => { results := [.lit (.bool false)], args := [d1, d2, d3, d4, d5] }
  | _ => none }
def KeptWrongFalsely : Prop := keptRow.holds Try.pinned (OpenSpec.ofChange keptWrong)

/-- 'islandskeep.Levels': WHATEVER THE INPUT: true; the input reads as it did. -/
def levelsSpec : ChangeSpec := { name := "levels", fn := fun _ => fun
  | [d1, d2, d3, d4] => { results := [.lit (.bool true)], args := [d1, d2, d3, d4] }
  | _ => none }
def levelsRow : OpenClaim := { program := "ytckallochdegiab", sum := "56779df53a2273748c29c9a1e702aa2e8ca2f72e63a44cc725d07b788b491d47", func := "islands/islandskeep.Levels", spec := "levels", apart := false }
def LevelsSaid : Prop := levelsRow.holds Try.pinned (OpenSpec.ofChange levelsSpec)

/-- ITS FALSE NEIGHBOUR: 'it returns false'. Refute it at one input. -/
def levelsWrong : ChangeSpec := { name := "levels", fn := fun _ => fun
  | [d1, d2, d3, d4] => { results := [.lit (.bool false)], args := [d1, d2, d3, d4] }
  | _ => none }
def LevelsWrongFalsely : Prop := levelsRow.holds Try.pinned (OpenSpec.ofChange levelsWrong)

/-- 'islandskeep.Strict': WHATEVER THE INPUT: true; the input reads as it did. -/
def strictSpec : ChangeSpec := { name := "strict", fn := fun _ => fun
  | [d] => { results := [.lit (.bool true)], args := [d] }
  | _ => none }
def strictRow : OpenClaim := { program := "ytckallochdegiab", sum := "56779df53a2273748c29c9a1e702aa2e8ca2f72e63a44cc725d07b788b491d47", func := "islands/islandskeep.Strict", spec := "strict", apart := false }
def StrictSaid : Prop := strictRow.holds Try.pinned (OpenSpec.ofChange strictSpec)

/-- ITS FALSE NEIGHBOUR: 'it returns false'. Refute it at one input. -/
def strictWrong : ChangeSpec := { name := "strict", fn := fun _ => fun
  | [d] => { results := [.lit (.bool false)], args := [d] }
  | _ => none }
def StrictWrongFalsely : Prop := strictRow.holds Try.pinned (OpenSpec.ofChange strictWrong)

/-- 'islandskeep.Bent': WHATEVER THE INPUT: true; the input reads as it did. -/
def bentSpec : ChangeSpec := { name := "bent", fn := fun _ => fun
  | [d1, d2, d3, d4, d5] => { results := [.lit (.bool true)], args := [d1, d2, d3, d4, d5] }
  | _ => none }
def bentRow : OpenClaim := { program := "ytckallochdegiab", sum := "56779df53a2273748c29c9a1e702aa2e8ca2f72e63a44cc725d07b788b491d47", func := "islands/islandskeep.Bent", spec := "bent", apart := false }
def BentSaid : Prop := bentRow.holds Try.pinned (OpenSpec.ofChange bentSpec)

/-- ITS FALSE NEIGHBOUR: 'it returns false'. Refute it at one input. -/
def bentWrong : ChangeSpec := { name := "bent", fn := fun _ => fun
  | [d1, d2, d3, d4, d5] => { results := [.lit (.bool false)], args := [d1, d2, d3, d4, d5] }
  | _ => none }
def BentWrongFalsely : Prop := bentRow.holds Try.pinned (OpenSpec.ofChange bentWrong)

/-- 'islandskeep.Known': WHATEVER THE INPUT: true; the input reads as it did. -/
def knownSpec : ChangeSpec := { name := "known", fn := fun _ => fun
  | [d] => { results := [.lit (.bool true)], args := [d] }
  | _ => none }
def knownRow : OpenClaim := { program := "ytckallochdegiab", sum := "56779df53a2273748c29c9a1e702aa2e8ca2f72e63a44cc725d07b788b491d47", func := "islands/islandskeep.Known", spec := "known", apart := false }
def KnownSaid : Prop := knownRow.holds Try.pinned (OpenSpec.ofChange knownSpec)

/-- ITS FALSE NEIGHBOUR: 'it returns false'. Refute it at one input. -/
def knownWrong : ChangeSpec := { name := "known", fn := fun _ => fun
  | [d] => { results := [.lit (.bool false)], args := [d] }
  | _ => none }
def KnownWrongFalsely : Prop := knownRow.holds Try.pinned (OpenSpec.ofChange knownWrong)

/-- 'islandskeep.Refuses': WHATEVER THE INPUT: true; the input reads as it did. -/
def refusesSpec : ChangeSpec := { name := "refuses", fn := fun _ => fun
  | [d] => { results := [.lit (.bool true)], args := [d] }
  | _ => none }
def refusesRow : OpenClaim := { program := "ytckallochdegiab", sum := "56779df53a2273748c29c9a1e702aa2e8ca2f72e63a44cc725d07b788b491d47", func := "islands/islandskeep.Refuses", spec := "refuses", apart := false }
def RefusesSaid : Prop := refusesRow.holds Try.pinned (OpenSpec.ofChange refusesSpec)

/-- ITS FALSE NEIGHBOUR: 'it returns false'. Refute it at one input. -/
def refusesWrong : ChangeSpec := { name := "refuses", fn := fun _ => fun
  | [d] => { results := [.lit (.bool false)], args := [d] }
  | _ => none }
def RefusesWrongFalsely : Prop := refusesRow.holds Try.pinned (OpenSpec.ofChange refusesWrong)

/- THE SECOND FORM. 'bulk': how many values and letters a reading holds, each counted each time it is reached (what is shared counts as often as it is met; a slice's spare places count too). A statement '..UptoSaid' is the law's where the arguments, and the package variables that the reading takes, are together of bulk at most 1048576: NARROWER than '..Said'. Prove '..Said' where nothing that the law and all that it calls make is longer than what came in: it says more and counts as full. Else prove '..UptoSaid'. A law counts once. -/
mutual
def uptoBulk {H : Type} : DataW H → Nat
  | .lit (.string bytes) => bytes.length + 1
  | .lit _ => 1
  | .nil => 1
  | .ptr d => uptoBulk d + 1
  | .slice elems spare => uptoBulkAll elems + uptoBulkAll spare + 1
  | .agg parts => uptoBulkAll parts + 1
  | .iface _ d => uptoBulk d + 1
  | .map entries => uptoBulkEntries entries + 1
  | .held _ => 1
def uptoBulkAll {H : Type} : List (DataW H) → Nat
  | [] => 0
  | d :: r => uptoBulk d + uptoBulkAll r
def uptoBulkEntries {H : Type} : List (Lit × DataW H) → Nat
  | [] => 0
  | x :: r => uptoBulkEntry x + uptoBulkEntries r
def uptoBulkEntry {H : Type} : Lit × DataW H → Nat
  | (.string bytes, d) => bytes.length + uptoBulk d + 1
  | (_, d) => uptoBulk d + 1
 end
def uptoSmall : (H : Type) → List (DataW H) → Bool := fun _ ds => decide (uptoBulkAll ds ≤ 1048576)
def OpenSpec.upto (s : _root_.Go.ChangeSpec) : _root_.Go.OpenSpec := { _root_.Go.OpenSpec.ofChange s with cond := some uptoSmall }

/-- 'islandskeep.Moves', WHERE WHAT IT READS IS OF BULK AT MOST 1048576: true; the input reads as it did. -/
def movesUptoRow : OpenClaim := { program := "ytckallochdegiab", sum := "56779df53a2273748c29c9a1e702aa2e8ca2f72e63a44cc725d07b788b491d47", func := "islands/islandskeep.Moves", spec := "moves", apart := false, narrowed := true }
def MovesUptoSaid : Prop := movesUptoRow.holds Try.pinned (OpenSpec.upto movesSpec)

/-- 'islandskeep.Colored', WHERE WHAT IT READS IS OF BULK AT MOST 1048576: true; the input reads as it did. -/
def coloredUptoRow : OpenClaim := { program := "ytckallochdegiab", sum := "56779df53a2273748c29c9a1e702aa2e8ca2f72e63a44cc725d07b788b491d47", func := "islands/islandskeep.Colored", spec := "colored", apart := false, narrowed := true }
def ColoredUptoSaid : Prop := coloredUptoRow.holds Try.pinned (OpenSpec.upto coloredSpec)

/-- 'islandskeep.Seeds', WHERE WHAT IT READS IS OF BULK AT MOST 1048576: true; the input reads as it did. -/
def seedsUptoRow : OpenClaim := { program := "ytckallochdegiab", sum := "56779df53a2273748c29c9a1e702aa2e8ca2f72e63a44cc725d07b788b491d47", func := "islands/islandskeep.Seeds", spec := "seeds", apart := false, narrowed := true }
def SeedsUptoSaid : Prop := seedsUptoRow.holds Try.pinned (OpenSpec.upto seedsSpec)

/-- 'islandskeep.Kept', WHERE WHAT IT READS IS OF BULK AT MOST 1048576: true; the input reads as it did. -/
def keptUptoRow : OpenClaim := { program := "ytckallochdegiab", sum := "56779df53a2273748c29c9a1e702aa2e8ca2f72e63a44cc725d07b788b491d47", func := "islands/islandskeep.Kept", spec := "kept", apart := false, narrowed := true }
def KeptUptoSaid : Prop := keptUptoRow.holds Try.pinned (OpenSpec.upto keptSpec)

/-- 'islandskeep.Levels', WHERE WHAT IT READS IS OF BULK AT MOST 1048576: true; the input reads as it did. -/
def levelsUptoRow : OpenClaim := { program := "ytckallochdegiab", sum := "56779df53a2273748c29c9a1e702aa2e8ca2f72e63a44cc725d07b788b491d47", func := "islands/islandskeep.Levels", spec := "levels", apart := false, narrowed := true }
def LevelsUptoSaid : Prop := levelsUptoRow.holds Try.pinned (OpenSpec.upto levelsSpec)

/-- 'islandskeep.Strict', WHERE WHAT IT READS IS OF BULK AT MOST 1048576: true; the input reads as it did. -/
def strictUptoRow : OpenClaim := { program := "ytckallochdegiab", sum := "56779df53a2273748c29c9a1e702aa2e8ca2f72e63a44cc725d07b788b491d47", func := "islands/islandskeep.Strict", spec := "strict", apart := false, narrowed := true }
def StrictUptoSaid : Prop := strictUptoRow.holds Try.pinned (OpenSpec.upto strictSpec)

/-- 'islandskeep.Bent', WHERE WHAT IT READS IS OF BULK AT MOST 1048576: true; the input reads as it did. -/
def bentUptoRow : OpenClaim := { program := "ytckallochdegiab", sum := "56779df53a2273748c29c9a1e702aa2e8ca2f72e63a44cc725d07b788b491d47", func := "islands/islandskeep.Bent", spec := "bent", apart := false, narrowed := true }
def BentUptoSaid : Prop := bentUptoRow.holds Try.pinned (OpenSpec.upto bentSpec)

/-- 'islandskeep.Known', WHERE WHAT IT READS IS OF BULK AT MOST 1048576: true; the input reads as it did. -/
def knownUptoRow : OpenClaim := { program := "ytckallochdegiab", sum := "56779df53a2273748c29c9a1e702aa2e8ca2f72e63a44cc725d07b788b491d47", func := "islands/islandskeep.Known", spec := "known", apart := false, narrowed := true }
def KnownUptoSaid : Prop := knownUptoRow.holds Try.pinned (OpenSpec.upto knownSpec)

/-- 'islandskeep.Refuses', WHERE WHAT IT READS IS OF BULK AT MOST 1048576: true; the input reads as it did. -/
def refusesUptoRow : OpenClaim := { program := "ytckallochdegiab", sum := "56779df53a2273748c29c9a1e702aa2e8ca2f72e63a44cc725d07b788b491d47", func := "islands/islandskeep.Refuses", spec := "refuses", apart := false, narrowed := true }
def RefusesUptoSaid : Prop := refusesUptoRow.holds Try.pinned (OpenSpec.upto refusesSpec)

end Rows
end Go.Proofs.Ytckallochdegiab
