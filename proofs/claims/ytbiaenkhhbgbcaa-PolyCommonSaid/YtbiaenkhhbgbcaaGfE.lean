/-
  Own text: the document's inverses and powers; the laws on one, two and three elements, walked.
-/
import Derived.Test.YtbiaenkhhbgbcaaGfD
namespace Go.Proofs.Ytbiaenkhhbgbcaa
open Go.RowKit

theorem u8_of {n : Int} (h : (Lit.int .u8 n).wf = true) : ∃ a : Nat, n = a ∧ a < 256 := by
  obtain ⟨h0, h1⟩ := u8_lo h
  exact ⟨n.toNat, by omega, by omega⟩
end Go.Proofs.Ytbiaenkhhbgbcaa
