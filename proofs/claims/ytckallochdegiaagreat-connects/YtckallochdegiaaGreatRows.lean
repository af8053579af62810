/-
  No cell of these rows narrows 'for every input' (looked for: loops, veiled, ifaces, maps, wideKeys, modest, calm, conditions, laid).
  DERIVED. THE GIVEN ROWS OF THIS SEAT. 12 by the template 'for every input the law returns true; each argument reads behind the call as it read before'; 0 by the template 'total and deterministic' (their statements: YtckallochdegiaaGreatTotals.lean).
  GIVEN WITH THE SEED: the statements are not yours to turn. If you find one false, say at which input.
  Laid BY PROGRAM, IN A SANDBOX (cutbox-rows.mjs): the forced cells as the released guide's own fill.sh prints them over the translation 370f11b8f89f2b82… (all of the seat's roots in one cut). By AI agents, Wed Nov 11 2026. No macro, syntax, notation, axiom, sorry.
-/
import Derived.Test.YtckallochdegiaaGreatChecked
import GoSem.Claim
import GoSem.ClaimJoined
import GoSem.ClaimMapViews
import Derived.JoinedTies
import Derived.KernelRfl
namespace Go.Proofs.YtckallochdegiaaGreat
/- THE CELL 'sum', in the pinned program and in every row, IS THE sha256 OF THE DUMP (.gsa) THAT YtckallochdegiaaGreatProg.lean LOADS. Nothing in Lean hashes anything: it is a label: what it is worth is what the hold of that sum in a sandbox is worth. -/
noncomputable def Tryz.pinned : Pinned := { name := "ytckallochdegiaagreat", sum := "370f11b8f89f2b82de88a846e1a9ef8b90bc3831d48dd32c459725662b205ab2", checked := Tryz.checked }
namespace Rows
def none {H : Type} : Left H := { results := [], args := [] }

/-- 'islandslaw.News': WHATEVER THE INPUT: true; the input reads as it did. -/
def newsSpec : ChangeSpec := { name := "news", fn := fun _ => fun
  | [d] => { results := [.lit (.bool true)], args := [d] }
  | _ => none }
def newsRow : OpenClaim := { program := "ytckallochdegiaagreat", sum := "370f11b8f89f2b82de88a846e1a9ef8b90bc3831d48dd32c459725662b205ab2", func := "islands/islandslaw.News", spec := "news", recurses := true, apart := false }
def NewsSaid : Prop := newsRow.holds Tryz.pinned (OpenSpec.ofChange newsSpec)

/-- ITS FALSE NEIGHBOUR: 'it returns false'. Refute it at one input. -/
def newsWrong : ChangeSpec := { name := "news", fn := fun _ => fun
  | [d] => { results := [.lit (.bool false)], args := [d] }
  | _ => none }
def NewsWrongFalsely : Prop := newsRow.holds Tryz.pinned (OpenSpec.ofChange newsWrong)

/-- 'islandslaw.Inserts': WHATEVER THE INPUT: true; the input reads as it did. -/
def insertsSpec : ChangeSpec := { name := "inserts", fn := fun _ => fun
  | [d] => { results := [.lit (.bool true)], args := [d] }
  | _ => none }
def insertsRow : OpenClaim := { program := "ytckallochdegiaagreat", sum := "370f11b8f89f2b82de88a846e1a9ef8b90bc3831d48dd32c459725662b205ab2", func := "islands/islandslaw.Inserts", spec := "inserts", recurses := true, apart := false }
def InsertsSaid : Prop := insertsRow.holds Tryz.pinned (OpenSpec.ofChange insertsSpec)

/-- ITS FALSE NEIGHBOUR: 'it returns false'. Refute it at one input. -/
def insertsWrong : ChangeSpec := { name := "inserts", fn := fun _ => fun
  | [d] => { results := [.lit (.bool false)], args := [d] }
  | _ => none }
def InsertsWrongFalsely : Prop := insertsRow.holds Tryz.pinned (OpenSpec.ofChange insertsWrong)

/-- 'islandslaw.Deletes': WHATEVER THE INPUT: true; the input reads as it did. -/
def deletesSpec : ChangeSpec := { name := "deletes", fn := fun _ => fun
  | [d] => { results := [.lit (.bool true)], args := [d] }
  | _ => none }
def deletesRow : OpenClaim := { program := "ytckallochdegiaagreat", sum := "370f11b8f89f2b82de88a846e1a9ef8b90bc3831d48dd32c459725662b205ab2", func := "islands/islandslaw.Deletes", spec := "deletes", recurses := true, apart := false }
def DeletesSaid : Prop := deletesRow.holds Tryz.pinned (OpenSpec.ofChange deletesSpec)

/-- ITS FALSE NEIGHBOUR: 'it returns false'. Refute it at one input. -/
def deletesWrong : ChangeSpec := { name := "deletes", fn := fun _ => fun
  | [d] => { results := [.lit (.bool false)], args := [d] }
  | _ => none }
def DeletesWrongFalsely : Prop := deletesRow.holds Tryz.pinned (OpenSpec.ofChange deletesWrong)

/-- 'islandslaw.Connects': WHATEVER THE INPUT: true; the input reads as it did. -/
def connectsSpec : ChangeSpec := { name := "connects", fn := fun _ => fun
  | [d] => { results := [.lit (.bool true)], args := [d] }
  | _ => none }
def connectsRow : OpenClaim := { program := "ytckallochdegiaagreat", sum := "370f11b8f89f2b82de88a846e1a9ef8b90bc3831d48dd32c459725662b205ab2", func := "islands/islandslaw.Connects", spec := "connects", recurses := true, apart := false }
def ConnectsSaid : Prop := connectsRow.holds Tryz.pinned (OpenSpec.ofChange connectsSpec)

/-- ITS FALSE NEIGHBOUR: 'it returns false'. Refute it at one input. -/
def connectsWrong : ChangeSpec := { name := "connects", fn := fun _ => fun
  | [d] => { results := [.lit (.bool false)], args := [d] }
  | _ => none }
def ConnectsWrongFalsely : Prop := connectsRow.holds Tryz.pinned (OpenSpec.ofChange connectsWrong)

/-- 'islandslaw.Sizes': WHATEVER THE INPUT: true; the input reads as it did. -/
def sizesSpec : ChangeSpec := { name := "sizes", fn := fun _ => fun
  | [d] => { results := [.lit (.bool true)], args := [d] }
  | _ => none }
def sizesRow : OpenClaim := { program := "ytckallochdegiaagreat", sum := "370f11b8f89f2b82de88a846e1a9ef8b90bc3831d48dd32c459725662b205ab2", func := "islands/islandslaw.Sizes", spec := "sizes", recurses := true, apart := false }
def SizesSaid : Prop := sizesRow.holds Tryz.pinned (OpenSpec.ofChange sizesSpec)

/-- ITS FALSE NEIGHBOUR: 'it returns false'. Refute it at one input. -/
def sizesWrong : ChangeSpec := { name := "sizes", fn := fun _ => fun
  | [d] => { results := [.lit (.bool false)], args := [d] }
  | _ => none }
def SizesWrongFalsely : Prop := sizesRow.holds Tryz.pinned (OpenSpec.ofChange sizesWrong)

/-- 'islandslaw.Members': WHATEVER THE INPUT: true; the input reads as it did. -/
def membersSpec : ChangeSpec := { name := "members", fn := fun _ => fun
  | [d] => { results := [.lit (.bool true)], args := [d] }
  | _ => none }
def membersRow : OpenClaim := { program := "ytckallochdegiaagreat", sum := "370f11b8f89f2b82de88a846e1a9ef8b90bc3831d48dd32c459725662b205ab2", func := "islands/islandslaw.Members", spec := "members", recurses := true, apart := false }
def MembersSaid : Prop := membersRow.holds Tryz.pinned (OpenSpec.ofChange membersSpec)

/-- ITS FALSE NEIGHBOUR: 'it returns false'. Refute it at one input. -/
def membersWrong : ChangeSpec := { name := "members", fn := fun _ => fun
  | [d] => { results := [.lit (.bool false)], args := [d] }
  | _ => none }
def MembersWrongFalsely : Prop := membersRow.holds Tryz.pinned (OpenSpec.ofChange membersWrong)

/-- 'islandslaw.Tells': WHATEVER THE INPUT: true; the input reads as it did. -/
def tellsSpec : ChangeSpec := { name := "tells", fn := fun _ => fun
  | [d] => { results := [.lit (.bool true)], args := [d] }
  | _ => none }
def tellsRow : OpenClaim := { program := "ytckallochdegiaagreat", sum := "370f11b8f89f2b82de88a846e1a9ef8b90bc3831d48dd32c459725662b205ab2", func := "islands/islandslaw.Tells", spec := "tells", recurses := true, apart := false }
def TellsSaid : Prop := tellsRow.holds Tryz.pinned (OpenSpec.ofChange tellsSpec)

/-- ITS FALSE NEIGHBOUR: 'it returns false'. Refute it at one input. -/
def tellsWrong : ChangeSpec := { name := "tells", fn := fun _ => fun
  | [d] => { results := [.lit (.bool false)], args := [d] }
  | _ => none }
def TellsWrongFalsely : Prop := tellsRow.holds Tryz.pinned (OpenSpec.ofChange tellsWrong)

/-- 'islandslaw.Saves': WHATEVER THE INPUT: true; the input reads as it did. -/
def savesSpec : ChangeSpec := { name := "saves", fn := fun _ => fun
  | [d] => { results := [.lit (.bool true)], args := [d] }
  | _ => none }
def savesRow : OpenClaim := { program := "ytckallochdegiaagreat", sum := "370f11b8f89f2b82de88a846e1a9ef8b90bc3831d48dd32c459725662b205ab2", func := "islands/islandslaw.Saves", spec := "saves", recurses := true, apart := false }
def SavesSaid : Prop := savesRow.holds Tryz.pinned (OpenSpec.ofChange savesSpec)

/-- ITS FALSE NEIGHBOUR: 'it returns false'. Refute it at one input. -/
def savesWrong : ChangeSpec := { name := "saves", fn := fun _ => fun
  | [d] => { results := [.lit (.bool false)], args := [d] }
  | _ => none }
def SavesWrongFalsely : Prop := savesRow.holds Tryz.pinned (OpenSpec.ofChange savesWrong)

/-- 'islandslaw.Loads': WHATEVER THE INPUT: true; the input reads as it did. -/
def loadsSpec : ChangeSpec := { name := "loads", fn := fun _ => fun
  | [d] => { results := [.lit (.bool true)], args := [d] }
  | _ => none }
def loadsRow : OpenClaim := { program := "ytckallochdegiaagreat", sum := "370f11b8f89f2b82de88a846e1a9ef8b90bc3831d48dd32c459725662b205ab2", func := "islands/islandslaw.Loads", spec := "loads", recurses := true, apart := false }
def LoadsSaid : Prop := loadsRow.holds Tryz.pinned (OpenSpec.ofChange loadsSpec)

/-- ITS FALSE NEIGHBOUR: 'it returns false'. Refute it at one input. -/
def loadsWrong : ChangeSpec := { name := "loads", fn := fun _ => fun
  | [d] => { results := [.lit (.bool false)], args := [d] }
  | _ => none }
def LoadsWrongFalsely : Prop := loadsRow.holds Tryz.pinned (OpenSpec.ofChange loadsWrong)

/-- 'islandslaw.Owned': WHATEVER THE INPUT: true; the input reads as it did. -/
def ownedSpec : ChangeSpec := { name := "owned", fn := fun _ => fun
  | [d] => { results := [.lit (.bool true)], args := [d] }
  | _ => none }
def ownedRow : OpenClaim := { program := "ytckallochdegiaagreat", sum := "370f11b8f89f2b82de88a846e1a9ef8b90bc3831d48dd32c459725662b205ab2", func := "islands/islandslaw.Owned", spec := "owned", recurses := true, apart := false }
def OwnedSaid : Prop := ownedRow.holds Tryz.pinned (OpenSpec.ofChange ownedSpec)

/-- ITS FALSE NEIGHBOUR: 'it returns false'. Refute it at one input. -/
def ownedWrong : ChangeSpec := { name := "owned", fn := fun _ => fun
  | [d] => { results := [.lit (.bool false)], args := [d] }
  | _ => none }
def OwnedWrongFalsely : Prop := ownedRow.holds Tryz.pinned (OpenSpec.ofChange ownedWrong)

/-- 'islandslaw.Raw': WHATEVER THE INPUT: true; the input reads as it did. -/
def rawSpec : ChangeSpec := { name := "raw", fn := fun _ => fun
  | [d1, d2, d3] => { results := [.lit (.bool true)], args := [d1, d2, d3] }
  | _ => none }
def rawRow : OpenClaim := { program := "ytckallochdegiaagreat", sum := "370f11b8f89f2b82de88a846e1a9ef8b90bc3831d48dd32c459725662b205ab2", func := "islands/islandslaw.Raw", spec := "raw", recurses := true, apart := false }
def RawSaid : Prop := rawRow.holds Tryz.pinned (OpenSpec.ofChange rawSpec)

/-- ITS FALSE NEIGHBOUR: 'it returns false'. Refute it at one input. -/
def rawWrong : ChangeSpec := { name := "raw", fn := fun _ => fun
  | [d1, d2, d3] => { results := [.lit (.bool false)], args := [d1, d2, d3] }
  | _ => none }
def RawWrongFalsely : Prop := rawRow.holds Tryz.pinned (OpenSpec.ofChange rawWrong)

/-- 'islandslaw.All': WHATEVER THE INPUT: true; the input reads as it did. -/
def allSpec : ChangeSpec := { name := "all", fn := fun _ => fun
  | [d] => { results := [.lit (.bool true)], args := [d] }
  | _ => none }
def allRow : OpenClaim := { program := "ytckallochdegiaagreat", sum := "370f11b8f89f2b82de88a846e1a9ef8b90bc3831d48dd32c459725662b205ab2", func := "islands/islandslaw.All", spec := "all", recurses := true, apart := false }
def AllSaid : Prop := allRow.holds Tryz.pinned (OpenSpec.ofChange allSpec)

/-- ITS FALSE NEIGHBOUR: 'it returns false'. Refute it at one input. -/
def allWrong : ChangeSpec := { name := "all", fn := fun _ => fun
  | [d] => { results := [.lit (.bool false)], args := [d] }
  | _ => none }
def AllWrongFalsely : Prop := allRow.holds Tryz.pinned (OpenSpec.ofChange allWrong)

/- THE SECOND FORM. 'bulk': how many values and letters a reading holds, each counted each time it is reached (what is shared counts as often as it is met; a slice's spare places count too). A statement '..UptoSaid' is the law's where the arguments, and the package variables that the reading takes, are together of bulk at most 1048576: NARROWER than '..Said'. Prove '..Said' where nothing that the law and all that it calls make is longer than what came in: it says more and counts as full. Else prove '..UptoSaid'. A law counts once. -/
mutual
def uptoBulk {H : Type} : DataW H → Nat
  | .lit (.string bytes) => bytes.length + 1
  | .lit _ => 1
  | .nil => 1
  | .ptr d => uptoBulk d + 1
  | .slice elems spare => uptoBulkAll elems + uptoBulkAll spare + 1
  | .agg parts => uptoBulkAll parts + 1
  | .iface _ d => uptoBulk d + 1
  | .map entries => uptoBulkEntries entries + 1
  | .held _ => 1
def uptoBulkAll {H : Type} : List (DataW H) → Nat
  | [] => 0
  | d :: r => uptoBulk d + uptoBulkAll r
def uptoBulkEntries {H : Type} : List (Lit × DataW H) → Nat
  | [] => 0
  | x :: r => uptoBulkEntry x + uptoBulkEntries r
def uptoBulkEntry {H : Type} : Lit × DataW H → Nat
  | (.string bytes, d) => bytes.length + uptoBulk d + 1
  | (_, d) => uptoBulk d + 1
 end
def uptoSmall : (H : Type) → List (DataW H) → Bool := fun _ ds => decide (uptoBulkAll ds ≤ 1048576)
def OpenSpec.upto (s : _root_.Go.ChangeSpec) : _root_.Go.OpenSpec := { _root_.Go.OpenSpec.ofChange s with cond := some uptoSmall }

/-- 'islandslaw.News', WHERE WHAT IT READS IS OF BULK AT MOST 1048576: true; the input reads as it did. -/
def newsUptoRow : OpenClaim := { program := "ytckallochdegiaagreat", sum := "370f11b8f89f2b82de88a846e1a9ef8b90bc3831d48dd32c459725662b205ab2", func := "islands/islandslaw.News", spec := "news", recurses := true, apart := false, narrowed := true }
def NewsUptoSaid : Prop := newsUptoRow.holds Tryz.pinned (OpenSpec.upto newsSpec)

/-- 'islandslaw.Inserts', WHERE WHAT IT READS IS OF BULK AT MOST 1048576: true; the input reads as it did. -/
def insertsUptoRow : OpenClaim := { program := "ytckallochdegiaagreat", sum := "370f11b8f89f2b82de88a846e1a9ef8b90bc3831d48dd32c459725662b205ab2", func := "islands/islandslaw.Inserts", spec := "inserts", recurses := true, apart := false, narrowed := true }
def InsertsUptoSaid : Prop := insertsUptoRow.holds Tryz.pinned (OpenSpec.upto insertsSpec)

/-- 'islandslaw.Deletes', WHERE WHAT IT READS IS OF BULK AT MOST 1048576: true; the input reads as it did. -/
def deletesUptoRow : OpenClaim := { program := "ytckallochdegiaagreat", sum := "370f11b8f89f2b82de88a846e1a9ef8b90bc3831d48dd32c459725662b205ab2", func := "islands/islandslaw.Deletes", spec := "deletes", recurses := true, apart := false, narrowed := true }
def DeletesUptoSaid : Prop := deletesUptoRow.holds Tryz.pinned (OpenSpec.upto deletesSpec)

/-- 'islandslaw.Connects', WHERE WHAT IT READS IS OF BULK AT MOST 1048576: true; the input reads as it did. -/
def connectsUptoRow : OpenClaim := { program := "ytckallochdegiaagreat", sum := "370f11b8f89f2b82de88a846e1a9ef8b90bc3831d48dd32c459725662b205ab2", func := "islands/islandslaw.Connects", spec := "connects", recurses := true, apart := false, narrowed := true }
def ConnectsUptoSaid : Prop := connectsUptoRow.holds Tryz.pinned (OpenSpec.upto connectsSpec)

/-- 'islandslaw.Sizes', WHERE WHAT IT READS IS OF BULK AT MOST 1048576: true; the input reads as it did. -/
def sizesUptoRow : OpenClaim := { program := "ytckallochdegiaagreat", sum := "370f11b8f89f2b82de88a846e1a9ef8b90bc3831d48dd32c459725662b205ab2", func := "islands/islandslaw.Sizes", spec := "sizes", recurses := true, apart := false, narrowed := true }
def SizesUptoSaid : Prop := sizesUptoRow.holds Tryz.pinned (OpenSpec.upto sizesSpec)

/-- 'islandslaw.Members', WHERE WHAT IT READS IS OF BULK AT MOST 1048576: true; the input reads as it did. -/
def membersUptoRow : OpenClaim := { program := "ytckallochdegiaagreat", sum := "370f11b8f89f2b82de88a846e1a9ef8b90bc3831d48dd32c459725662b205ab2", func := "islands/islandslaw.Members", spec := "members", recurses := true, apart := false, narrowed := true }
def MembersUptoSaid : Prop := membersUptoRow.holds Tryz.pinned (OpenSpec.upto membersSpec)

/-- 'islandslaw.Tells', WHERE WHAT IT READS IS OF BULK AT MOST 1048576: true; the input reads as it did. -/
def tellsUptoRow : OpenClaim := { program := "ytckallochdegiaagreat", sum := "370f11b8f89f2b82de88a846e1a9ef8b90bc3831d48dd32c459725662b205ab2", func := "islands/islandslaw.Tells", spec := "tells", recurses := true, apart := false, narrowed := true }
def TellsUptoSaid : Prop := tellsUptoRow.holds Tryz.pinned (OpenSpec.upto tellsSpec)

/-- 'islandslaw.Saves', WHERE WHAT IT READS IS OF BULK AT MOST 1048576: true; the input reads as it did. -/
def savesUptoRow : OpenClaim := { program := "ytckallochdegiaagreat", sum := "370f11b8f89f2b82de88a846e1a9ef8b90bc3831d48dd32c459725662b205ab2", func := "islands/islandslaw.Saves", spec := "saves", recurses := true, apart := false, narrowed := true }
def SavesUptoSaid : Prop := savesUptoRow.holds Tryz.pinned (OpenSpec.upto savesSpec)

/-- 'islandslaw.Loads', WHERE WHAT IT READS IS OF BULK AT MOST 1048576: true; the input reads as it did. -/
def loadsUptoRow : OpenClaim := { program := "ytckallochdegiaagreat", sum := "370f11b8f89f2b82de88a846e1a9ef8b90bc3831d48dd32c459725662b205ab2", func := "islands/islandslaw.Loads", spec := "loads", recurses := true, apart := false, narrowed := true }
def LoadsUptoSaid : Prop := loadsUptoRow.holds Tryz.pinned (OpenSpec.upto loadsSpec)

/-- 'islandslaw.Owned', WHERE WHAT IT READS IS OF BULK AT MOST 1048576: true; the input reads as it did. -/
def ownedUptoRow : OpenClaim := { program := "ytckallochdegiaagreat", sum := "370f11b8f89f2b82de88a846e1a9ef8b90bc3831d48dd32c459725662b205ab2", func := "islands/islandslaw.Owned", spec := "owned", recurses := true, apart := false, narrowed := true }
def OwnedUptoSaid : Prop := ownedUptoRow.holds Tryz.pinned (OpenSpec.upto ownedSpec)

/-- 'islandslaw.Raw', WHERE WHAT IT READS IS OF BULK AT MOST 1048576: true; the input reads as it did. -/
def rawUptoRow : OpenClaim := { program := "ytckallochdegiaagreat", sum := "370f11b8f89f2b82de88a846e1a9ef8b90bc3831d48dd32c459725662b205ab2", func := "islands/islandslaw.Raw", spec := "raw", recurses := true, apart := false, narrowed := true }
def RawUptoSaid : Prop := rawUptoRow.holds Tryz.pinned (OpenSpec.upto rawSpec)

/-- 'islandslaw.All', WHERE WHAT IT READS IS OF BULK AT MOST 1048576: true; the input reads as it did. -/
def allUptoRow : OpenClaim := { program := "ytckallochdegiaagreat", sum := "370f11b8f89f2b82de88a846e1a9ef8b90bc3831d48dd32c459725662b205ab2", func := "islands/islandslaw.All", spec := "all", recurses := true, apart := false, narrowed := true }
def AllUptoSaid : Prop := allUptoRow.holds Tryz.pinned (OpenSpec.upto allSpec)

end Rows
end Go.Proofs.YtckallochdegiaaGreat
