/-
  Own text: the law MatrixMakes, walked.
-/
import Derived.Test.YtipaolkgafhliaaMRow
import Derived.Test.YtipaolkgafhliaaRPowers
import Derived.Test.YtipaolkgafhliaaOpenM
import Derived.Deep.DeepCutAuto
namespace Go.Proofs.Ytipaolkgafhliaa
open Go.RowKit

theorem rsame_mats (R Cn : Nat) (hm : R * Cn ≤ 65025) (wx : World) (g : Nat) (l5 : List Int) (A6 : Option Addr) (C6 : Nat) (l6 : List Int) (F : Nat → Nat → Nat) (h5 : Dat wx g (R * Cn) l5) (h6 : Sl wx A6 (R * Cn) C6 l6) (c5 : ∀ i k, i < R → k < Cn → co l5 (i * Cn + k) = F i k) (c6 : ∀ i k, i < R → k < Cn → co l6 (i * Cn + k) = F i k) :
    Calls Try.prog 21 #[.agg #[.int .i64 R, .int .i64 Cn, .slice (some ⟨g, 0, none⟩) ((R * Cn : Nat)) (R * Cn)], .agg #[.int .i64 R, .int .i64 Cn, .slice A6 ((R * Cn : Nat)) C6]] wx fun e w' => e = .returned (.bool true) ∧ Below wx.heap.size wx w' := by
  have h5' := h5.sl (by omega)
  have e : l5 = l6 := rows_eq (r := R) (c := Cn) h5'.bytes.by_ h6.bytes.by_ h5'.bytes.size h6.bytes.size (fun i k hi hk => by rw [c5 i k hi hk, c6 i k hi hk])
  subst e
  exact rsame_true R Cn _ A6 (R * Cn) _ C6 l5 wx h5'.bytes h6.bytes
end Go.Proofs.Ytipaolkgafhliaa
