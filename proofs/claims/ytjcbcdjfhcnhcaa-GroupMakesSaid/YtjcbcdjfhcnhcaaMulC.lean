/-
  Own text: the code's product of two numbers (Mul64, Wide, Mul), walked; without the document's.
-/
import Derived.Test.YtjcbcdjfhcnhcaaWordB
import Derived.Laws.MathBits
namespace Go.Proofs.Ytjcbcdjfhcnhcaa
open Go.RowKit

theorem ret_two {k k' : IntKind} {a b c d : Int} (h : a = b) (h' : c = d) : Ending.returned (.tuple #[.int k a, .int k' c]) = .returned (.tuple #[.int k b, .int k' d]) := by rw [h, h']
theorem and_low (x : Int) (h0 : 0 ≤ x) (h1 : x ≤ 18446744073709551615) : bits .and .u64 x 4294967295 = x % 4294967296 := by
  obtain ⟨X, rfl⟩ : ∃ X : Nat, x = X := ⟨x.toNat, by omega⟩
  have m1 : ((X : Int) % ((2 ^ IntKind.u64.bits : Nat) : Int)).toNat = X := by
    show ((X : Int) % 18446744073709551616).toNat = X
    omega
  have m2 : ((4294967295 : Int) % ((2 ^ IntKind.u64.bits : Nat) : Int)).toNat = 2 ^ 32 - 1 := by decide
  simp only [bits, BitVec.toNat_and, BitVec.toNat_ofInt, m1, m2, Nat.and_two_pow_sub_one_eq_mod]
  rw [IntKind.wrap_u64]
  omega
theorem wrap_lo (n : Int) : 0 ≤ IntKind.u64.wrap n ∧ IntKind.u64.wrap n ≤ 18446744073709551615 := by rw [IntKind.wrap_u64]; omega

theorem mul64_any (x y : Int) (w : World) (hx0 : 0 ≤ x) (hx : x ≤ 18446744073709551615) (hy0 : 0 ≤ y) (hy : y ≤ 18446744073709551615) :
    Calls Try.prog 133 #[.int .u64 x, .int .u64 y] w fun e w' => e = .returned (.tuple #[.int .u64 (x * y / 18446744073709551616), .int .u64 (x * y % 18446744073709551616)]) ∧ w = w' := by
  go_enter Try.func133, Try.ntmps133
  go_wp2
  go_ret2
  refine ⟨ret_two ?_ (by rw [IntKind.wrap_u64]), rfl⟩
  rw [and_low x hx0 hx, and_low y hy0 hy, and_low _ (wrap_lo _).1 (wrap_lo _).2]
  simp only [IntKind.wrap_u64]
  exact mul64_arith x y hx0 (by omega) hy0 (by omega)

/-- A product's two halves. -/
def hiZ (z : Int) : Int := z / 18446744073709551616
def loZ (z : Int) : Int := z % 18446744073709551616
theorem halves (z : Int) : z = hiZ z * 18446744073709551616 + loZ z ∧ 0 ≤ loZ z ∧ loZ z ≤ 18446744073709551615 := by unfold hiZ loZ; omega

theorem hi_lo (a b : Int) (ha : -9223372036854775808 ≤ a) (ha' : a ≤ 9223372036854775807) (hb : -9223372036854775808 ≤ b) (hb' : b ≤ 9223372036854775807) : -4611686018427387904 ≤ hiZ (a * b) ∧ hiZ (a * b) ≤ 4611686018427387904 := by
  have h : (a * b).natAbs ≤ 9223372036854775808 * 9223372036854775808 := by
    rw [Int.natAbs_mul]; exact Nat.mul_le_mul (by omega) (by omega)
  unfold hiZ
  generalize a * b = z at *
  omega

theorem wide_any (a b : Int) (w : World) (ha : -9223372036854775808 ≤ a) (ha' : a ≤ 9223372036854775807) (hb : -9223372036854775808 ≤ b) (hb' : b ≤ 9223372036854775807) :
    Calls Try.prog 129 #[.int .i64 a, .int .i64 b] w fun e w' => e = .returned (.tuple #[.int .i64 (hiZ (a * b)), .int .u64 (loZ (a * b))]) ∧ w = w' := by
  have c := fun w => mul64_any (IntKind.u64.wrap a) (IntKind.u64.wrap b) w (wrap_lo a).1 (wrap_lo a).2 (wrap_lo b).1 (wrap_lo b).2
  obtain ⟨k1, k2⟩ := hi_lo a b ha ha' hb hb'
  by_cases h1 : a < 0
  · by_cases h2 : b < 0
    · have ea : IntKind.u64.wrap a = a + 18446744073709551616 := by rw [IntKind.wrap_u64]; omega
      have eb : IntKind.u64.wrap b = b + 18446744073709551616 := by rw [IntKind.wrap_u64]; omega
      have em : (a + 18446744073709551616) * (b + 18446744073709551616) = a * b + 18446744073709551616 * (a + b + 18446744073709551616) := by grind
      have hP : (a + 18446744073709551616) * (b + 18446744073709551616) / 18446744073709551616 = hiZ (a * b) + (a + b + 18446744073709551616) := by rw [em]; unfold hiZ; generalize a * b = z; omega
      have hQ : (a + 18446744073709551616) * (b + 18446744073709551616) % 18446744073709551616 = loZ (a * b) := by rw [em]; unfold loZ; generalize a * b = z; omega
      rw [ea, eb, hP, hQ] at c
      generalize hiZ (a * b) = H at *
      generalize loZ (a * b) = L at *
      clear em hP hQ
      go_enter Try.func129, Try.ntmps129
      go_wp2_with (go_at_call 133; refine (c _).mono ?_; clear c; rintro e w' ⟨rfl, rfl⟩)
      go_ret2
      exact ⟨ret_two (by first | rfl | (simp only [wrap64, IntKind.wrap_u64]; omega)) rfl, rfl⟩
    · have ea : IntKind.u64.wrap a = a + 18446744073709551616 := by rw [IntKind.wrap_u64]; omega
      have eb : IntKind.u64.wrap b = b := by rw [IntKind.wrap_u64]; omega
      have em : (a + 18446744073709551616) * (b) = a * b + 18446744073709551616 * b := by grind
      have hP : (a + 18446744073709551616) * (b) / 18446744073709551616 = hiZ (a * b) + b := by rw [em]; unfold hiZ; generalize a * b = z; omega
      have hQ : (a + 18446744073709551616) * (b) % 18446744073709551616 = loZ (a * b) := by rw [em]; unfold loZ; generalize a * b = z; omega
      rw [ea, eb, hP, hQ] at c
      generalize hiZ (a * b) = H at *
      generalize loZ (a * b) = L at *
      clear em hP hQ
      go_enter Try.func129, Try.ntmps129
      go_wp2_with (go_at_call 133; refine (c _).mono ?_; clear c; rintro e w' ⟨rfl, rfl⟩)
      go_ret2
      exact ⟨ret_two (by first | rfl | (simp only [wrap64, IntKind.wrap_u64]; omega)) rfl, rfl⟩
  · by_cases h2 : b < 0
    · have ea : IntKind.u64.wrap a = a := by rw [IntKind.wrap_u64]; omega
      have eb : IntKind.u64.wrap b = b + 18446744073709551616 := by rw [IntKind.wrap_u64]; omega
      have em : (a) * (b + 18446744073709551616) = a * b + 18446744073709551616 * a := by grind
      have hP : (a) * (b + 18446744073709551616) / 18446744073709551616 = hiZ (a * b) + a := by rw [em]; unfold hiZ; generalize a * b = z; omega
      have hQ : (a) * (b + 18446744073709551616) % 18446744073709551616 = loZ (a * b) := by rw [em]; unfold loZ; generalize a * b = z; omega
      rw [ea, eb, hP, hQ] at c
      generalize hiZ (a * b) = H at *
      generalize loZ (a * b) = L at *
      clear em hP hQ
      go_enter Try.func129, Try.ntmps129
      go_wp2_with (go_at_call 133; refine (c _).mono ?_; clear c; rintro e w' ⟨rfl, rfl⟩)
      go_ret2
      exact ⟨ret_two (by first | rfl | (simp only [wrap64, IntKind.wrap_u64]; omega)) rfl, rfl⟩
    · have ea : IntKind.u64.wrap a = a := by rw [IntKind.wrap_u64]; omega
      have eb : IntKind.u64.wrap b = b := by rw [IntKind.wrap_u64]; omega
      have em : (a) * (b) = a * b + 18446744073709551616 * 0 := by grind
      have hP : (a) * (b) / 18446744073709551616 = hiZ (a * b) + 0 := by rw [em]; unfold hiZ; generalize a * b = z; omega
      have hQ : (a) * (b) % 18446744073709551616 = loZ (a * b) := by rw [em]; unfold loZ; generalize a * b = z; omega
      rw [ea, eb, hP, hQ] at c
      generalize hiZ (a * b) = H at *
      generalize loZ (a * b) = L at *
      clear em hP hQ
      go_enter Try.func129, Try.ntmps129
      go_wp2_with (go_at_call 133; refine (c _).mono ?_; clear c; rintro e w' ⟨rfl, rfl⟩)
      go_ret2
      exact ⟨ret_two (by first | rfl | (simp only [wrap64, IntKind.wrap_u64]; omega)) rfl, rfl⟩
theorem mul_any (a b : Int) (w : World) (ha : -9223372036854775808 ≤ a) (ha' : a ≤ 9223372036854775807) (hb : -9223372036854775808 ≤ b) (hb' : b ≤ 9223372036854775807) :
    Calls Try.prog 122 #[.int .i64 a, .int .i64 b] w fun e w' => e = .returned (.int .i64 (held (a * b))) ∧ w = w' := by
  have c := fun w => wide_any a b w ha ha' hb hb'
  obtain ⟨hv, l0, l1⟩ := halves (a * b)
  obtain ⟨k1, k2⟩ := hi_lo a b ha ha' hb hb'
  generalize hiZ (a * b) = H at *
  generalize loZ (a * b) = L at *
  generalize a * b = z at *
  have HV := Lib.hid hv
  clear hv
  by_cases hl : L ≤ 9223372036854775807
  · have e1 : IntKind.i64.wrap L = L := by rw [IntKind.wrap_i64]; omega
    have e2 : L / 9223372036854775808 = 0 := by omega
    cases hH : (H == 0)
    all_goals
      go_enter Try.func122, Try.ntmps122
      go_wp2_with (go_at_call 129; refine (c _).mono ?_; clear c; rintro e w' ⟨rfl, rfl⟩)
      all_goals go_ret
      all_goals exact ⟨ret_int (by have := HV.out; simp only [beq_iff_eq, beq_eq_false_iff_ne, ne_eq] at hH; unfold held; omega), rfl⟩
  · have e1 : IntKind.i64.wrap L = L - 18446744073709551616 := by rw [IntKind.wrap_i64]; omega
    have e2 : (L - 18446744073709551616) / 9223372036854775808 = -1 := by omega
    cases hH : (H == -1)
    all_goals
      go_enter Try.func122, Try.ntmps122
      go_wp2_with (go_at_call 129; refine (c _).mono ?_; clear c; rintro e w' ⟨rfl, rfl⟩)
      all_goals go_ret
      all_goals exact ⟨ret_int (by have := HV.out; simp only [beq_iff_eq, beq_eq_false_iff_ne, ne_eq] at hH; unfold held; omega), rfl⟩
end Go.Proofs.Ytjcbcdjfhcnhcaa
