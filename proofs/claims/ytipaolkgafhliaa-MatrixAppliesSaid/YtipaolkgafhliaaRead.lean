/-
  Own text: what a walk is told of a slice of integers that came in.
-/
import Derived.Test.YtipaolkgafhliaaRows
import Derived.WalkKit
import Derived.ProofKit
import Derived.OpenShut
import Derived.Lib.Hide
namespace Go.Proofs.Ytipaolkgafhliaa
open Go.RowKit

/-- A slice of integers that came in: nil, or a row of 'cap' cells, each fitting its kind; the first 'len' are its elements. -/
def IsRow (k : IntKind) (w : World) (a : Option Addr) (len cap : Nat) (zs : List Int) : Prop :=
  (a = none ∧ len = 0 ∧ cap = 0 ∧ zs = []) ∨
  ∃ x, a = some x ∧ len ≤ cap ∧ cap ≤ maxLen ∧ zs.length = cap ∧ (∀ i, i < zs.length → w.cell? (x.add i) = some (.int k (zs.getD i 0))) ∧ ∀ n ∈ zs, (Lit.int k n).wf = true
/-- The same, where there is an element: the block and the place in it. -/
structure RowAt (k : IntKind) (w : World) (b off len cap : Nat) (zs : List Int) : Prop where
  le : len ≤ cap
  max : cap ≤ 9223372036854775807
  size : zs.length = cap
  cell : ∀ i, i < len → w.cell? ⟨b, off + i, none⟩ = some (.int k (zs.getD i 0))
  wf : ∀ i, i < len → (Lit.int k (zs.getD i 0)).wf = true
theorem IsRow.at_ {k : IntKind} {w : World} {a : Option Addr} {len cap : Nat} {zs : List Int} (h : IsRow k w a len cap zs) : len = 0 ∨ (0 < len ∧ ∃ b off, a = some ⟨b, off, none⟩ ∧ RowAt k w b off len cap zs) := by
  rcases h with ⟨_, h, _, _⟩ | ⟨x, rfl, hl, hm, hz, hc, hw⟩
  · exact .inl h
  · by_cases h0 : len = 0
    · exact .inl h0
    · refine .inr ⟨by omega, ?_⟩
      obtain ⟨b, off, spot⟩ := x
      have c0 := hc 0 (by omega)
      have : spot = none := by simpa [Addr.add] using World.cell?_spot c0
      subst this
      refine ⟨b, off, rfl, hl, by unfold maxLen at hm; omega, hz, fun i hi => ?_, fun i hi => ?_⟩
      · have := hc i (by omega)
        rw [← this]
        unfold Addr.add
        split
        · simp_all
        · rfl
      · refine hw _ ?_
        rw [List.getD_eq_getElem?_getD, List.getElem?_eq_getElem (by omega)]
        exact List.getElem_mem _
theorem IsRow.bound {k : IntKind} {w : World} {a : Option Addr} {len cap : Nat} {zs : List Int} (h : IsRow k w a len cap zs) : len ≤ cap ∧ cap ≤ 9223372036854775807 := by
  rcases h with ⟨_, rfl, rfl, _⟩ | ⟨x, _, hl, hm, _⟩
  · omega
  · unfold maxLen at hm; omega
end Go.Proofs.Ytipaolkgafhliaa
