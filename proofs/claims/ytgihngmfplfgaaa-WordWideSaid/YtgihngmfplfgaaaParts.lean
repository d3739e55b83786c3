/-
  Own text: the two halves of the document's wide number (Parts), walked.
-/
import Derived.Test.YtgihngmfplfgaaaWideD
namespace Go.Proofs.Ytgihngmfplfgaaa
open Go.RowKit

theorem ret_two {k k' : IntKind} {a b c d : Int} (h : a = b) (h' : c = d) : Ending.returned (.tuple #[.int k a, .int k' c]) = .returned (.tuple #[.int k b, .int k' d]) := by rw [h, h']
theorem limbs_two (x : Nat) (h : x < 65536 ^ 8) : x = limb x 0 + 65536 * limb x 1 + 4294967296 * limb x 2 + 281474976710656 * limb x 3 + 18446744073709551616 * (limb x 4 + 65536 * limb x 5 + 4294967296 * limb x 6 + 281474976710656 * limb x 7) := by
  have q8 : x / 65536 ^ (7 + 1) = 0 := Nat.div_eq_of_lt h
  have q7 : x / 65536 ^ (6 + 1) = limb x 7 := by rw [limb_div x 7, q8]; omega
  have q6 : x / 65536 ^ (5 + 1) = 65536 * limb x 7 + limb x 6 := by rw [limb_div x 6, q7]
  have q5 : x / 65536 ^ (4 + 1) = 65536 * (65536 * limb x 7 + limb x 6) + limb x 5 := by rw [limb_div x 5, q6]
  have q4 : x / 65536 ^ (3 + 1) = 65536 * (65536 * (65536 * limb x 7 + limb x 6) + limb x 5) + limb x 4 := by rw [limb_div x 4, q5]
  have q3 := limb_div x 3
  have q2 := limb_div x 2
  have q1 := limb_div x 1
  have q0 := limb_div x 0
  rw [q4] at q3
  simp only [Nat.reduceAdd] at q0 q1 q2
  simp only [Nat.pow_zero, Nat.div_one] at q0
  omega
set_option maxRecDepth 100000 in
set_option maxHeartbeats 1000000 in
theorem parts_any (m : Bool) (x : Nat) (w : World) (hx : x ≤ 85070591730234615865843651857942052864) :
    Calls Try.prog 20 #[wideV m x] w fun e w' => e = .returned (.tuple #[.int .i64 ((if m then -(x : Int) else x) / 18446744073709551616), .int .u64 ((if m then -(x : Int) else x) % 18446744073709551616)]) ∧ Below w.heap.size w w' := by
  have S := limbs_two x (by omega)
  have l0 := limb_lt x 0
  have l1 := limb_lt x 1
  have l2 := limb_lt x 2
  have l3 := limb_lt x 3
  have l4 := limb_lt x 4
  have l5 := limb_lt x 5
  have l6 := limb_lt x 6
  have l7 := limb_lt x 7
  have HS := Lib.hid S
  have HX := Lib.hid hx
  clear S hx
  cases m
  all_goals
    go_enter Try.func20, Try.ntmps20
    go_wp2
    refine wp_loop_rounds 5 ?_
    iterate 4 (rw [rounds_succ]; go_wp2)
    generalize hU : (((limb x 3 : Nat) : Int) * 65536 + ((limb x 2 : Nat) : Int)) * 65536 + ((limb x 1 : Nat) : Int) = u1 
    generalize hV : (((limb x 7 : Nat) : Int) * 65536 + ((limb x 6 : Nat) : Int)) * 65536 + ((limb x 5 : Nat) : Int) = v1 
    generalize hL : u1 * 65536 + ((limb x 0 : Nat) : Int) = lo
    generalize hH : v1 * 65536 + ((limb x 4 : Nat) : Int) = hi
    obtain ⟨e1, e2, e3, e4, e5⟩ : (x : Int) = lo + 18446744073709551616 * hi ∧ 0 ≤ lo ∧ lo ≤ 18446744073709551615 ∧ 0 ≤ hi ∧ hi ≤ 4611686018427387904 := by
      have := HS.out
      have := HX.out
      omega
    have HE := Lib.hid e1
    clear hU hV hL hH HS HX e1 l0 l1 l2 l3 l4 l5 l6 l7
    cases hz : (lo == 0)
    all_goals
      rw [rounds_succ]
      go_wp2
      all_goals go_ret2
      all_goals
        simp only [beq_iff_eq, beq_eq_false_iff_ne, ne_eq] at hz
        exact ⟨ret_two (by have := HE.out; omega) (by have := HE.out; first | omega | (rw [IntKind.wrap_u64]; omega)), (Below.refl _ _).alloc (by simp) _⟩
end Go.Proofs.Ytgihngmfplfgaaa
