/-
  No cell of these rows narrows 'for every input' (looked for: loops, veiled, ifaces, maps, wideKeys, modest, calm, conditions, laid).
  DERIVED. THE GIVEN ROWS OF THIS SEAT. 4 by the template 'for every input the law returns true; each argument reads behind the call as it read before'; 0 by the template 'total and deterministic' (their statements: YtjcbcdjfhcnhcaaTotals.lean).
  GIVEN WITH THE SEED: the statements are not yours to turn. If you find one false, say at which input.
  Laid BY PROGRAM, IN A SANDBOX (cutbox-rows.mjs): the forced cells as the released guide's own fill.sh prints them over the translation af6fdbb998820c3a… (all of the seat's roots in one cut). By AI agents, Wed Nov 11 2026. No macro, syntax, notation, axiom, sorry.
-/
import Derived.Test.YtjcbcdjfhcnhcaaChecked
import GoSem.Claim
import GoSem.ClaimJoined
import GoSem.ClaimMapViews
import Derived.JoinedTies
import Derived.KernelRfl
namespace Go.Proofs.Ytjcbcdjfhcnhcaa
/- THE CELL 'sum', in the pinned program and in every row, IS THE sha256 OF THE DUMP (.gsa) THAT YtjcbcdjfhcnhcaaProg.lean LOADS. Nothing in Lean hashes anything: it is a label: what it is worth is what the hold of that sum in a sandbox is worth. -/
noncomputable def Try.pinned : Pinned := { name := "ytjcbcdjfhcnhcaa", sum := "af6fdbb998820c3ae5f3a7885151712d22f4645b85923d402f43dd0a9c9dc3d8", checked := Try.checked }
namespace Rows
def none {H : Type} : Left H := { results := [], args := [] }

/-- 'backstaylaw17.GroupMakes': WHATEVER THE INPUT: true; the input reads as it did. -/
def groupMakesSpec : ChangeSpec := { name := "groupMakes", fn := fun _ => fun
  | [d1, d2, d3] => { results := [.lit (.bool true)], args := [d1, d2, d3] }
  | _ => none }
def groupMakesRow : OpenClaim := { program := "ytjcbcdjfhcnhcaa", sum := "af6fdbb998820c3ae5f3a7885151712d22f4645b85923d402f43dd0a9c9dc3d8", func := "backstay/backstaylaw17.GroupMakes", spec := "groupMakes", unfollowed := true, recurses := true, apart := false }
def GroupMakesSaid : Prop := groupMakesRow.holds Try.pinned (OpenSpec.ofChange groupMakesSpec)

/-- ITS FALSE NEIGHBOUR: 'it returns false'. Refute it at one input. -/
def groupMakesWrong : ChangeSpec := { name := "groupMakes", fn := fun _ => fun
  | [d1, d2, d3] => { results := [.lit (.bool false)], args := [d1, d2, d3] }
  | _ => none }
def GroupMakesWrongFalsely : Prop := groupMakesRow.holds Try.pinned (OpenSpec.ofChange groupMakesWrong)

/-- 'backstaylaw18.ReasmTakes': WHATEVER THE INPUT: true; the input reads as it did. -/
def reasmTakesSpec : ChangeSpec := { name := "reasmTakes", fn := fun _ => fun
  | [d] => { results := [.lit (.bool true)], args := [d] }
  | _ => none }
def reasmTakesRow : OpenClaim := { program := "ytjcbcdjfhcnhcaa", sum := "af6fdbb998820c3ae5f3a7885151712d22f4645b85923d402f43dd0a9c9dc3d8", func := "backstay/backstaylaw18.ReasmTakes", spec := "reasmTakes", unfollowed := true, recurses := true, apart := false }
def ReasmTakesSaid : Prop := reasmTakesRow.holds Try.pinned (OpenSpec.ofChange reasmTakesSpec)

/-- ITS FALSE NEIGHBOUR: 'it returns false'. Refute it at one input. -/
def reasmTakesWrong : ChangeSpec := { name := "reasmTakes", fn := fun _ => fun
  | [d] => { results := [.lit (.bool false)], args := [d] }
  | _ => none }
def ReasmTakesWrongFalsely : Prop := reasmTakesRow.holds Try.pinned (OpenSpec.ofChange reasmTakesWrong)

/-- 'backstaylaw18.ReasmPrefix': WHATEVER THE INPUT: true; the input reads as it did. -/
def reasmPrefixSpec : ChangeSpec := { name := "reasmPrefix", fn := fun _ => fun
  | [d] => { results := [.lit (.bool true)], args := [d] }
  | _ => none }
def reasmPrefixRow : OpenClaim := { program := "ytjcbcdjfhcnhcaa", sum := "af6fdbb998820c3ae5f3a7885151712d22f4645b85923d402f43dd0a9c9dc3d8", func := "backstay/backstaylaw18.ReasmPrefix", spec := "reasmPrefix", unfollowed := true, recurses := true, apart := false }
def ReasmPrefixSaid : Prop := reasmPrefixRow.holds Try.pinned (OpenSpec.ofChange reasmPrefixSpec)

/-- ITS FALSE NEIGHBOUR: 'it returns false'. Refute it at one input. -/
def reasmPrefixWrong : ChangeSpec := { name := "reasmPrefix", fn := fun _ => fun
  | [d] => { results := [.lit (.bool false)], args := [d] }
  | _ => none }
def ReasmPrefixWrongFalsely : Prop := reasmPrefixRow.holds Try.pinned (OpenSpec.ofChange reasmPrefixWrong)

/-- 'backstaylaw18.ReasmEnough': WHATEVER THE INPUT: true; the input reads as it did. -/
def reasmEnoughSpec : ChangeSpec := { name := "reasmEnough", fn := fun _ => fun
  | [d] => { results := [.lit (.bool true)], args := [d] }
  | _ => none }
def reasmEnoughRow : OpenClaim := { program := "ytjcbcdjfhcnhcaa", sum := "af6fdbb998820c3ae5f3a7885151712d22f4645b85923d402f43dd0a9c9dc3d8", func := "backstay/backstaylaw18.ReasmEnough", spec := "reasmEnough", unfollowed := true, recurses := true, apart := false }
def ReasmEnoughSaid : Prop := reasmEnoughRow.holds Try.pinned (OpenSpec.ofChange reasmEnoughSpec)

/-- ITS FALSE NEIGHBOUR: 'it returns false'. Refute it at one input. -/
def reasmEnoughWrong : ChangeSpec := { name := "reasmEnough", fn := fun _ => fun
  | [d] => { results := [.lit (.bool false)], args := [d] }
  | _ => none }
def ReasmEnoughWrongFalsely : Prop := reasmEnoughRow.holds Try.pinned (OpenSpec.ofChange reasmEnoughWrong)

/- THE SECOND FORM. 'bulk': how many values and letters a reading holds, each counted each time it is reached (what is shared counts as often as it is met; a slice's spare places count too). A statement '..UptoSaid' is the law's where the arguments, and the package variables that the reading takes, are together of bulk at most 1048576: NARROWER than '..Said'. Prove '..Said' where nothing that the law and all that it calls make is longer than what came in: it says more and counts as full. Else prove '..UptoSaid'. A law counts once. -/
mutual
def uptoBulk {H : Type} : DataW H → Nat
  | .lit (.string bytes) => bytes.length + 1
  | .lit _ => 1
  | .nil => 1
  | .ptr d => uptoBulk d + 1
  | .slice elems spare => uptoBulkAll elems + uptoBulkAll spare + 1
  | .agg parts => uptoBulkAll parts + 1
  | .iface _ d => uptoBulk d + 1
  | .map entries => uptoBulkEntries entries + 1
  | .held _ => 1
def uptoBulkAll {H : Type} : List (DataW H) → Nat
  | [] => 0
  | d :: r => uptoBulk d + uptoBulkAll r
def uptoBulkEntries {H : Type} : List (Lit × DataW H) → Nat
  | [] => 0
  | x :: r => uptoBulkEntry x + uptoBulkEntries r
def uptoBulkEntry {H : Type} : Lit × DataW H → Nat
  | (.string bytes, d) => bytes.length + uptoBulk d + 1
  | (_, d) => uptoBulk d + 1
 end
def uptoSmall : (H : Type) → List (DataW H) → Bool := fun _ ds => decide (uptoBulkAll ds ≤ 1048576)
def OpenSpec.upto (s : _root_.Go.ChangeSpec) : _root_.Go.OpenSpec := { _root_.Go.OpenSpec.ofChange s with cond := some uptoSmall }

/-- 'backstaylaw17.GroupMakes', WHERE WHAT IT READS IS OF BULK AT MOST 1048576: true; the input reads as it did. -/
def groupMakesUptoRow : OpenClaim := { program := "ytjcbcdjfhcnhcaa", sum := "af6fdbb998820c3ae5f3a7885151712d22f4645b85923d402f43dd0a9c9dc3d8", func := "backstay/backstaylaw17.GroupMakes", spec := "groupMakes", unfollowed := true, recurses := true, apart := false, narrowed := true }
def GroupMakesUptoSaid : Prop := groupMakesUptoRow.holds Try.pinned (OpenSpec.upto groupMakesSpec)

/-- 'backstaylaw18.ReasmTakes', WHERE WHAT IT READS IS OF BULK AT MOST 1048576: true; the input reads as it did. -/
def reasmTakesUptoRow : OpenClaim := { program := "ytjcbcdjfhcnhcaa", sum := "af6fdbb998820c3ae5f3a7885151712d22f4645b85923d402f43dd0a9c9dc3d8", func := "backstay/backstaylaw18.ReasmTakes", spec := "reasmTakes", unfollowed := true, recurses := true, apart := false, narrowed := true }
def ReasmTakesUptoSaid : Prop := reasmTakesUptoRow.holds Try.pinned (OpenSpec.upto reasmTakesSpec)

/-- 'backstaylaw18.ReasmPrefix', WHERE WHAT IT READS IS OF BULK AT MOST 1048576: true; the input reads as it did. -/
def reasmPrefixUptoRow : OpenClaim := { program := "ytjcbcdjfhcnhcaa", sum := "af6fdbb998820c3ae5f3a7885151712d22f4645b85923d402f43dd0a9c9dc3d8", func := "backstay/backstaylaw18.ReasmPrefix", spec := "reasmPrefix", unfollowed := true, recurses := true, apart := false, narrowed := true }
def ReasmPrefixUptoSaid : Prop := reasmPrefixUptoRow.holds Try.pinned (OpenSpec.upto reasmPrefixSpec)

/-- 'backstaylaw18.ReasmEnough', WHERE WHAT IT READS IS OF BULK AT MOST 1048576: true; the input reads as it did. -/
def reasmEnoughUptoRow : OpenClaim := { program := "ytjcbcdjfhcnhcaa", sum := "af6fdbb998820c3ae5f3a7885151712d22f4645b85923d402f43dd0a9c9dc3d8", func := "backstay/backstaylaw18.ReasmEnough", spec := "reasmEnough", unfollowed := true, recurses := true, apart := false, narrowed := true }
def ReasmEnoughUptoSaid : Prop := reasmEnoughUptoRow.holds Try.pinned (OpenSpec.upto reasmEnoughSpec)

end Rows
end Go.Proofs.Ytjcbcdjfhcnhcaa
