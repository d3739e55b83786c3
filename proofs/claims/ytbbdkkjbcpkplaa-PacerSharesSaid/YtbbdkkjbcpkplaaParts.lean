/-
  Own text: the two halves of the document's wide number (Parts), walked.
-/
import Derived.Test.YtbbdkkjbcpkplaaWideD
namespace Go.Proofs.Ytbbdkkjbcpkplaa
open Go.RowKit

theorem ret_two {k k' : IntKind} {a b c d : Int} (h : a = b) (h' : c = d) : Ending.returned (.tuple #[.int k a, .int k' c]) = .returned (.tuple #[.int k b, .int k' d]) := by rw [h, h']
theorem limbs_two (x : Nat) (h : x < 65536 ^ 8) : x = limb x 0 + 65536 * limb x 1 + 4294967296 * limb x 2 + 281474976710656 * limb x 3 + 18446744073709551616 * (limb x 4 + 65536 * limb x 5 + 4294967296 * limb x 6 + 281474976710656 * limb x 7) := by
  have q8 : x / 65536 ^ (7 + 1) = 0 := Nat.div_eq_of_lt h
  have q7 : x / 65536 ^ (6 + 1) = limb x 7 := by rw [limb_div x 7, q8]; omega
  have q6 : x / 65536 ^ (5 + 1) = 65536 * limb x 7 + limb x 6 := by rw [limb_div x 6, q7]
  have q5 : x / 65536 ^ (4 + 1) = 65536 * (65536 * limb x 7 + limb x 6) + limb x 5 := by rw [limb_div x 5, q6]
  have q4 : x / 65536 ^ (3 + 1) = 65536 * (65536 * (65536 * limb x 7 + limb x 6) + limb x 5) + limb x 4 := by rw [limb_div x 4, q5]
  have q3 := limb_div x 3
  have q2 := limb_div x 2
  have q1 := limb_div x 1
  have q0 := limb_div x 0
  rw [q4] at q3
  simp only [Nat.reduceAdd] at q0 q1 q2
  simp only [Nat.pow_zero, Nat.div_one] at q0
  omega
end Go.Proofs.Ytbbdkkjbcpkplaa
