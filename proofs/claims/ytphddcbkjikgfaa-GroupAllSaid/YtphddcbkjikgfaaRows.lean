/-
  No cell of these rows narrows 'for every input' (looked for: loops, veiled, ifaces, maps, wideKeys, modest, calm, conditions, laid).
  DERIVED. THE GIVEN ROWS OF THIS SEAT. 4 by the template 'for every input the law returns true; each argument reads behind the call as it read before'; 0 by the template 'total and deterministic' (their statements: YtphddcbkjikgfaaTotals.lean).
  GIVEN WITH THE SEED: the statements are not yours to turn. If you find one false, say at which input.
  Laid BY PROGRAM, IN A SANDBOX (cutbox-rows.mjs): the forced cells as the released guide's own fill.sh prints them over the translation 327b3109365c9ba9… (all of the seat's roots in one cut). By AI agents, Wed Nov 11 2026. No macro, syntax, notation, axiom, sorry.
-/
import Derived.Test.YtphddcbkjikgfaaChecked
import GoSem.Claim
import GoSem.ClaimJoined
import GoSem.ClaimMapViews
import Derived.JoinedTies
import Derived.KernelRfl
namespace Go.Proofs.Ytphddcbkjikgfaa
/- THE CELL 'sum', in the pinned program and in every row, IS THE sha256 OF THE DUMP (.gsa) THAT YtphddcbkjikgfaaProg.lean LOADS. Nothing in Lean hashes anything: it is a label: what it is worth is what the hold of that sum in a sandbox is worth. -/
noncomputable def Try.pinned : Pinned := { name := "ytphddcbkjikgfaa", sum := "327b3109365c9ba9a621313cc1dfe6fbba284a6780f29961eb232d65249a3e36", checked := Try.checked }
namespace Rows
def none {H : Type} : Left H := { results := [], args := [] }

/-- 'backstaylaw17.GroupMakes': WHATEVER THE INPUT: true; the input reads as it did. -/
def groupMakesSpec : ChangeSpec := { name := "groupMakes", fn := fun _ => fun
  | [d1, d2, d3] => { results := [.lit (.bool true)], args := [d1, d2, d3] }
  | _ => none }
def groupMakesRow : OpenClaim := { program := "ytphddcbkjikgfaa", sum := "327b3109365c9ba9a621313cc1dfe6fbba284a6780f29961eb232d65249a3e36", func := "backstay/backstaylaw17.GroupMakes", spec := "groupMakes", unfollowed := true, recurses := true, apart := false }
def GroupMakesSaid : Prop := groupMakesRow.holds Try.pinned (OpenSpec.ofChange groupMakesSpec)

/-- ITS FALSE NEIGHBOUR: 'it returns false'. Refute it at one input. -/
def groupMakesWrong : ChangeSpec := { name := "groupMakes", fn := fun _ => fun
  | [d1, d2, d3] => { results := [.lit (.bool false)], args := [d1, d2, d3] }
  | _ => none }
def GroupMakesWrongFalsely : Prop := groupMakesRow.holds Try.pinned (OpenSpec.ofChange groupMakesWrong)

/-- 'backstaylaw17.GroupInputs': WHATEVER THE INPUT: true; the input reads as it did. -/
def groupInputsSpec : ChangeSpec := { name := "groupInputs", fn := fun _ => fun
  | [d] => { results := [.lit (.bool true)], args := [d] }
  | _ => none }
def groupInputsRow : OpenClaim := { program := "ytphddcbkjikgfaa", sum := "327b3109365c9ba9a621313cc1dfe6fbba284a6780f29961eb232d65249a3e36", func := "backstay/backstaylaw17.GroupInputs", spec := "groupInputs", unfollowed := true, recurses := true, apart := false }
def GroupInputsSaid : Prop := groupInputsRow.holds Try.pinned (OpenSpec.ofChange groupInputsSpec)

/-- ITS FALSE NEIGHBOUR: 'it returns false'. Refute it at one input. -/
def groupInputsWrong : ChangeSpec := { name := "groupInputs", fn := fun _ => fun
  | [d] => { results := [.lit (.bool false)], args := [d] }
  | _ => none }
def GroupInputsWrongFalsely : Prop := groupInputsRow.holds Try.pinned (OpenSpec.ofChange groupInputsWrong)

/-- 'backstaylaw17.GroupBuilds': WHATEVER THE INPUT: true; the input reads as it did. -/
def groupBuildsSpec : ChangeSpec := { name := "groupBuilds", fn := fun _ => fun
  | [d1, d2] => { results := [.lit (.bool true)], args := [d1, d2] }
  | _ => none }
def groupBuildsRow : OpenClaim := { program := "ytphddcbkjikgfaa", sum := "327b3109365c9ba9a621313cc1dfe6fbba284a6780f29961eb232d65249a3e36", func := "backstay/backstaylaw17.GroupBuilds", spec := "groupBuilds", unfollowed := true, recurses := true, apart := false }
def GroupBuildsSaid : Prop := groupBuildsRow.holds Try.pinned (OpenSpec.ofChange groupBuildsSpec)

/-- ITS FALSE NEIGHBOUR: 'it returns false'. Refute it at one input. -/
def groupBuildsWrong : ChangeSpec := { name := "groupBuilds", fn := fun _ => fun
  | [d1, d2] => { results := [.lit (.bool false)], args := [d1, d2] }
  | _ => none }
def GroupBuildsWrongFalsely : Prop := groupBuildsRow.holds Try.pinned (OpenSpec.ofChange groupBuildsWrong)

/-- 'backstaylaw17.GroupAll': WHATEVER THE INPUT: true; the input reads as it did. -/
def groupAllSpec : ChangeSpec := { name := "groupAll", fn := fun _ => fun
  | [d1, d2] => { results := [.lit (.bool true)], args := [d1, d2] }
  | _ => none }
def groupAllRow : OpenClaim := { program := "ytphddcbkjikgfaa", sum := "327b3109365c9ba9a621313cc1dfe6fbba284a6780f29961eb232d65249a3e36", func := "backstay/backstaylaw17.GroupAll", spec := "groupAll", unfollowed := true, recurses := true, apart := false }
def GroupAllSaid : Prop := groupAllRow.holds Try.pinned (OpenSpec.ofChange groupAllSpec)

/-- ITS FALSE NEIGHBOUR: 'it returns false'. Refute it at one input. -/
def groupAllWrong : ChangeSpec := { name := "groupAll", fn := fun _ => fun
  | [d1, d2] => { results := [.lit (.bool false)], args := [d1, d2] }
  | _ => none }
def GroupAllWrongFalsely : Prop := groupAllRow.holds Try.pinned (OpenSpec.ofChange groupAllWrong)

/- THE SECOND FORM. 'bulk': how many values and letters a reading holds, each counted each time it is reached (what is shared counts as often as it is met; a slice's spare places count too). A statement '..UptoSaid' is the law's where the arguments, and the package variables that the reading takes, are together of bulk at most 1048576: NARROWER than '..Said'. Prove '..Said' where nothing that the law and all that it calls make is longer than what came in: it says more and counts as full. Else prove '..UptoSaid'. A law counts once. -/
mutual
def uptoBulk {H : Type} : DataW H → Nat
  | .lit (.string bytes) => bytes.length + 1
  | .lit _ => 1
  | .nil => 1
  | .ptr d => uptoBulk d + 1
  | .slice elems spare => uptoBulkAll elems + uptoBulkAll spare + 1
  | .agg parts => uptoBulkAll parts + 1
  | .iface _ d => uptoBulk d + 1
  | .map entries => uptoBulkEntries entries + 1
  | .held _ => 1
def uptoBulkAll {H : Type} : List (DataW H) → Nat
  | [] => 0
  | d :: r => uptoBulk d + uptoBulkAll r
def uptoBulkEntries {H : Type} : List (Lit × DataW H) → Nat
  | [] => 0
  | x :: r => uptoBulkEntry x + uptoBulkEntries r
def uptoBulkEntry {H : Type} : Lit × DataW H → Nat
  | (.string bytes, d) => bytes.length + uptoBulk d + 1
  | (_, d) => uptoBulk d + 1
 end
def uptoSmall : (H : Type) → List (DataW H) → Bool := fun _ ds => decide (uptoBulkAll ds ≤ 1048576)
def OpenSpec.upto (s : _root_.Go.ChangeSpec) : _root_.Go.OpenSpec := { _root_.Go.OpenSpec.ofChange s with cond := some uptoSmall }

/-- 'backstaylaw17.GroupMakes', WHERE WHAT IT READS IS OF BULK AT MOST 1048576: true; the input reads as it did. -/
def groupMakesUptoRow : OpenClaim := { program := "ytphddcbkjikgfaa", sum := "327b3109365c9ba9a621313cc1dfe6fbba284a6780f29961eb232d65249a3e36", func := "backstay/backstaylaw17.GroupMakes", spec := "groupMakes", unfollowed := true, recurses := true, apart := false, narrowed := true }
def GroupMakesUptoSaid : Prop := groupMakesUptoRow.holds Try.pinned (OpenSpec.upto groupMakesSpec)

/-- 'backstaylaw17.GroupInputs', WHERE WHAT IT READS IS OF BULK AT MOST 1048576: true; the input reads as it did. -/
def groupInputsUptoRow : OpenClaim := { program := "ytphddcbkjikgfaa", sum := "327b3109365c9ba9a621313cc1dfe6fbba284a6780f29961eb232d65249a3e36", func := "backstay/backstaylaw17.GroupInputs", spec := "groupInputs", unfollowed := true, recurses := true, apart := false, narrowed := true }
def GroupInputsUptoSaid : Prop := groupInputsUptoRow.holds Try.pinned (OpenSpec.upto groupInputsSpec)

/-- 'backstaylaw17.GroupBuilds', WHERE WHAT IT READS IS OF BULK AT MOST 1048576: true; the input reads as it did. -/
def groupBuildsUptoRow : OpenClaim := { program := "ytphddcbkjikgfaa", sum := "327b3109365c9ba9a621313cc1dfe6fbba284a6780f29961eb232d65249a3e36", func := "backstay/backstaylaw17.GroupBuilds", spec := "groupBuilds", unfollowed := true, recurses := true, apart := false, narrowed := true }
def GroupBuildsUptoSaid : Prop := groupBuildsUptoRow.holds Try.pinned (OpenSpec.upto groupBuildsSpec)

/-- 'backstaylaw17.GroupAll', WHERE WHAT IT READS IS OF BULK AT MOST 1048576: true; the input reads as it did. -/
def groupAllUptoRow : OpenClaim := { program := "ytphddcbkjikgfaa", sum := "327b3109365c9ba9a621313cc1dfe6fbba284a6780f29961eb232d65249a3e36", func := "backstay/backstaylaw17.GroupAll", spec := "groupAll", unfollowed := true, recurses := true, apart := false, narrowed := true }
def GroupAllUptoSaid : Prop := groupAllUptoRow.holds Try.pinned (OpenSpec.upto groupAllSpec)

end Rows
end Go.Proofs.Ytphddcbkjikgfaa
