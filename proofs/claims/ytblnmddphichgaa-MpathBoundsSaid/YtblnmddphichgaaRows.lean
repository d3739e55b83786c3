/-
  No cell of these rows narrows 'for every input' (looked for: loops, veiled, ifaces, maps, wideKeys, modest, calm, conditions, laid).
  DERIVED. THE GIVEN ROWS OF THIS SEAT. 2 by the template 'for every input the law returns true; each argument reads behind the call as it read before'; 0 by the template 'total and deterministic' (their statements: YtblnmddphichgaaTotals.lean).
  GIVEN WITH THE SEED: the statements are not yours to turn. If you find one false, say at which input.
  Laid BY PROGRAM, IN A SANDBOX (cutbox-rows.mjs): the forced cells as the released guide's own fill.sh prints them over the translation 8d9e39513d0c6536… (all of the seat's roots in one cut). By AI agents, Wed Nov 11 2026. No macro, syntax, notation, axiom, sorry.
-/
import Derived.Test.YtblnmddphichgaaChecked
import GoSem.Claim
import GoSem.ClaimJoined
import GoSem.ClaimMapViews
import Derived.JoinedTies
import Derived.KernelRfl
namespace Go.Proofs.Ytblnmddphichgaa
/- THE CELL 'sum', in the pinned program and in every row, IS THE sha256 OF THE DUMP (.gsa) THAT YtblnmddphichgaaProg.lean LOADS. Nothing in Lean hashes anything: it is a label: what it is worth is what the hold of that sum in a sandbox is worth. -/
noncomputable def Try.pinned : Pinned := { name := "ytblnmddphichgaa", sum := "8d9e39513d0c65360b2832f8568e71d864b1ef2fbe4fe84cae9b4b45d04b93e5", checked := Try.checked }
namespace Rows
def none {H : Type} : Left H := { results := [], args := [] }

/-- 'backstaylaw15.MpathBounds': WHATEVER THE INPUT: true; the input reads as it did. -/
def mpathBoundsSpec : ChangeSpec := { name := "mpathBounds", fn := fun _ => fun
  | [d1, d2] => { results := [.lit (.bool true)], args := [d1, d2] }
  | _ => none }
def mpathBoundsRow : OpenClaim := { program := "ytblnmddphichgaa", sum := "8d9e39513d0c65360b2832f8568e71d864b1ef2fbe4fe84cae9b4b45d04b93e5", func := "backstay/backstaylaw15.MpathBounds", spec := "mpathBounds", inPlace := ["slices.overlaps[backstay/prio.item[backstay/api.Datagram]]"], unfollowed := true, recurses := true, apart := false }
def MpathBoundsSaid : Prop := mpathBoundsRow.holds Try.pinned (OpenSpec.ofChange mpathBoundsSpec)

/-- ITS FALSE NEIGHBOUR: 'it returns false'. Refute it at one input. -/
def mpathBoundsWrong : ChangeSpec := { name := "mpathBounds", fn := fun _ => fun
  | [d1, d2] => { results := [.lit (.bool false)], args := [d1, d2] }
  | _ => none }
def MpathBoundsWrongFalsely : Prop := mpathBoundsRow.holds Try.pinned (OpenSpec.ofChange mpathBoundsWrong)

/-- 'backstaylaw15.MpathFirst': WHATEVER THE INPUT: true; the input reads as it did. -/
def mpathFirstSpec : ChangeSpec := { name := "mpathFirst", fn := fun _ => fun
  | [d1, d2] => { results := [.lit (.bool true)], args := [d1, d2] }
  | _ => none }
def mpathFirstRow : OpenClaim := { program := "ytblnmddphichgaa", sum := "8d9e39513d0c65360b2832f8568e71d864b1ef2fbe4fe84cae9b4b45d04b93e5", func := "backstay/backstaylaw15.MpathFirst", spec := "mpathFirst", inPlace := ["slices.overlaps[backstay/prio.item[backstay/api.Datagram]]"], unfollowed := true, recurses := true, apart := false }
def MpathFirstSaid : Prop := mpathFirstRow.holds Try.pinned (OpenSpec.ofChange mpathFirstSpec)

/-- ITS FALSE NEIGHBOUR: 'it returns false'. Refute it at one input. -/
def mpathFirstWrong : ChangeSpec := { name := "mpathFirst", fn := fun _ => fun
  | [d1, d2] => { results := [.lit (.bool false)], args := [d1, d2] }
  | _ => none }
def MpathFirstWrongFalsely : Prop := mpathFirstRow.holds Try.pinned (OpenSpec.ofChange mpathFirstWrong)

/- THE SECOND FORM. 'bulk': how many values and letters a reading holds, each counted each time it is reached (what is shared counts as often as it is met; a slice's spare places count too). A statement '..UptoSaid' is the law's where the arguments, and the package variables that the reading takes, are together of bulk at most 1048576: NARROWER than '..Said'. Prove '..Said' where nothing that the law and all that it calls make is longer than what came in: it says more and counts as full. Else prove '..UptoSaid'. A law counts once. -/
mutual
def uptoBulk {H : Type} : DataW H → Nat
  | .lit (.string bytes) => bytes.length + 1
  | .lit _ => 1
  | .nil => 1
  | .ptr d => uptoBulk d + 1
  | .slice elems spare => uptoBulkAll elems + uptoBulkAll spare + 1
  | .agg parts => uptoBulkAll parts + 1
  | .iface _ d => uptoBulk d + 1
  | .map entries => uptoBulkEntries entries + 1
  | .held _ => 1
def uptoBulkAll {H : Type} : List (DataW H) → Nat
  | [] => 0
  | d :: r => uptoBulk d + uptoBulkAll r
def uptoBulkEntries {H : Type} : List (Lit × DataW H) → Nat
  | [] => 0
  | x :: r => uptoBulkEntry x + uptoBulkEntries r
def uptoBulkEntry {H : Type} : Lit × DataW H → Nat
  | (.string bytes, d) => bytes.length + uptoBulk d + 1
  | (_, d) => uptoBulk d + 1
 end
def uptoSmall : (H : Type) → List (DataW H) → Bool := fun _ ds => decide (uptoBulkAll ds ≤ 1048576)
def OpenSpec.upto (s : _root_.Go.ChangeSpec) : _root_.Go.OpenSpec := { _root_.Go.OpenSpec.ofChange s with cond := some uptoSmall }

/-- 'backstaylaw15.MpathBounds', WHERE WHAT IT READS IS OF BULK AT MOST 1048576: true; the input reads as it did. -/
def mpathBoundsUptoRow : OpenClaim := { program := "ytblnmddphichgaa", sum := "8d9e39513d0c65360b2832f8568e71d864b1ef2fbe4fe84cae9b4b45d04b93e5", func := "backstay/backstaylaw15.MpathBounds", spec := "mpathBounds", inPlace := ["slices.overlaps[backstay/prio.item[backstay/api.Datagram]]"], unfollowed := true, recurses := true, apart := false, narrowed := true }
def MpathBoundsUptoSaid : Prop := mpathBoundsUptoRow.holds Try.pinned (OpenSpec.upto mpathBoundsSpec)

/-- 'backstaylaw15.MpathFirst', WHERE WHAT IT READS IS OF BULK AT MOST 1048576: true; the input reads as it did. -/
def mpathFirstUptoRow : OpenClaim := { program := "ytblnmddphichgaa", sum := "8d9e39513d0c65360b2832f8568e71d864b1ef2fbe4fe84cae9b4b45d04b93e5", func := "backstay/backstaylaw15.MpathFirst", spec := "mpathFirst", inPlace := ["slices.overlaps[backstay/prio.item[backstay/api.Datagram]]"], unfollowed := true, recurses := true, apart := false, narrowed := true }
def MpathFirstUptoSaid : Prop := mpathFirstUptoRow.holds Try.pinned (OpenSpec.upto mpathFirstSpec)

end Rows
end Go.Proofs.Ytblnmddphichgaa
