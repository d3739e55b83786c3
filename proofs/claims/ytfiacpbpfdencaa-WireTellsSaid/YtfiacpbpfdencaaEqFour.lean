/-
  Own text: two arrays of four bytes, held against each other.
-/
import Derived.Test.YtfiacpbpfdencaaRows
import Derived.WalkKit
import Derived.ProofKit
import Derived.OpenShut
import Derived.ChangeKeysEq
namespace Go.Proofs.Ytfiacpbpfdencaa
open Go.RowKit

theorem eq_four (w : World) (a0 a1 a2 a3 b0 b1 b2 b3 : Int) :
    (Op.equalIn 10000 73 (.agg #[.int .u8 a0, .int .u8 a1, .int .u8 a2, .int .u8 a3]) (.agg #[.int .u8 b0, .int .u8 b1, .int .u8 b2, .int .u8 b3])).run Try.prog w = .ok (a0 == b0 && a1 == b1 && a2 == b2 && a3 == b3) w := by
  obtain ⟨i, hi⟩ : ∃ i, Try.prog.info? 5 = some i := Option.isSome_iff_exists.1 (by kernel_rfl)
  have hc : Try.prog.cellsOf 5 = 1 := by kernel_rfl
  rw [show (10000 : Nat) = 9999 + 1 from rfl, run_equalIn_array w 9999 _ _ Try.underlying73 hi, hc]
  have hr : List.range 4 = [0, 1, 2, 3] := rfl
  have he : ∀ (w : World) (x y : Int), (Op.equalIn 9999 5 (.int .u8 x) (.int .u8 y)).run Try.prog w = .ok (x == y) w := fun w x y => run_equalIn_int w 9998 5 .u8 .u8 x y Try.underlying5
  have hp : ∀ (w : World) (x0 x1 x2 x3 : Int), (part 5 #[.int .u8 x0, .int .u8 x1, .int .u8 x2, .int .u8 x3] 0).run Try.prog w = .ok (.int .u8 x0) w ∧ (part 5 #[.int .u8 x0, .int .u8 x1, .int .u8 x2, .int .u8 x3] 1).run Try.prog w = .ok (.int .u8 x1) w ∧ (part 5 #[.int .u8 x0, .int .u8 x1, .int .u8 x2, .int .u8 x3] 2).run Try.prog w = .ok (.int .u8 x2) w ∧ (part 5 #[.int .u8 x0, .int .u8 x1, .int .u8 x2, .int .u8 x3] 3).run Try.prog w = .ok (.int .u8 x3) w := fun w x0 x1 x2 x3 => ⟨by kernel_rfl, by kernel_rfl, by kernel_rfl, by kernel_rfl⟩
  rw [hr]
  cases h0 : a0 == b0 <;> cases h1 : a1 == b1 <;> cases h2 : a2 == b2 <;> cases h3 : a3 == b3 <;> simp [Op.eqItems, Sem.run_bind, hp, he, h0, h1, h2, h3, Result.andThen_ok]
end Go.Proofs.Ytfiacpbpfdencaa
