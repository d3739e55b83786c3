/-
  Own text: the page's examples of layer 1 hold ('awake'); the laws WordFloors, WordBack, WordNewer, walked.
-/
import Derived.Test.YtopnceniihgkpaaWordA
namespace Go.Proofs.Ytopnceniihgkpaa
open Go.RowKit



theorem newer_facts (a b : Int) (ha : 0 ≤ a) (ha' : a ≤ 4294967295) (hb : 0 ≤ b) (hb' : b ≤ 4294967295) :
    (a = b → behindZ a b = 0 ∧ behindZ b a = 0) ∧ (a ≠ b → behindZ a b ≠ -2147483648 → (0 < behindZ a b ↔ ¬ 0 < behindZ b a)) := by
  unfold behindZ wrap32; omega

/-- Quotient times divisor, and rest, are the number again; the rest is on the divisor's side of 0 and less than it. -/
theorem floor_rest (a b : Int) (ha : -9223372036854775808 ≤ a) (ha' : a ≤ 9223372036854775807) (hb : -9223372036854775808 ≤ b) (hb' : b ≤ 9223372036854775807) (h0 : b ≠ 0) (h1 : ¬ (a = -9223372036854775808 ∧ b = -1)) :
    floorZ a b * b + restZ a b = a ∧ (0 < b → 0 ≤ restZ a b ∧ restZ a b < b) ∧ (b < 0 → restZ a b ≤ 0 ∧ b < restZ a b) := by
  have e := Int.tdiv_mul_add_tmod a b
  have s := tmod_sign a b
  have l : (a.tmod b).natAbs < b.natAbs := by rw [Int.natAbs_tmod]; exact Nat.mod_lt _ (by omega)
  have k : (a.tdiv b).natAbs = a.natAbs / b.natAbs := Int.natAbs_tdiv a b
  have hq : -9223372036854775808 ≤ a.tdiv b ∧ a.tdiv b ≤ 9223372036854775807 := by
    by_cases b1 : b = 1
    · subst b1; simp; omega
    · by_cases b2 : b = -1
      · subst b2; simp; omega
      · have : a.natAbs / b.natAbs ≤ a.natAbs / 2 := Nat.div_le_div_left (by omega) (by omega)
        omega
  have w1 : wrap64 (a.tdiv b) = a.tdiv b := IntWalk.wrap64_in _ hq
  by_cases u : unevenB a b = true
  · have u' : a.tmod b ≠ 0 ∧ (¬ (a < 0 ↔ b < 0)) := by simpa [unevenB] using u
    have hq2 : -9223372036854775808 ≤ a.tdiv b - 1 := by
      by_cases b1 : b = 1
      · subst b1; simp at u'
      · by_cases b2 : b = -1
        · subst b2; simp at u'
        · have : a.natAbs / b.natAbs ≤ a.natAbs / 2 := Nat.div_le_div_left (by omega) (by omega)
          omega
    have w2 : wrap64 (a.tdiv b - 1) = a.tdiv b - 1 := IntWalk.wrap64_in _ (by omega)
    have w3 : wrap64 (a.tmod b + b) = a.tmod b + b := IntWalk.wrap64_in _ (by omega)
    unfold floorZ restZ
    rw [if_neg h0, if_neg h1, if_neg h0, if_pos u, if_pos u, w1, w2, w3]
    refine ⟨?_, ?_, ?_⟩
    · rw [Int.sub_mul]; omega
    · intro h; omega
    · intro h; omega
  · have u' : a.tmod b = 0 ∨ (a < 0 ↔ b < 0) := by
      simp [unevenB] at u
      by_cases z : a.tmod b = 0
      · exact Or.inl z
      · exact Or.inr (u z)
    unfold floorZ restZ
    rw [if_neg h0, if_neg h1, if_neg h0, if_neg u, if_neg u, w1]
    refine ⟨e, ?_, ?_⟩
    · intro h; omega
    · intro h; omega
theorem wrap_back (x r a : Int) (h : x + r = a) (ha : -9223372036854775808 ≤ a) (ha' : a ≤ 9223372036854775807) : wrap64 (wrap64 x + r) = a := by
  unfold wrap64; omega

/-- A quotient by a number above 0, rounded down. -/
theorem floor_div (a b : Int) (ha : -9223372036854775808 ≤ a) (ha' : a ≤ 9223372036854775807) (hb : 0 < b) (hb' : b ≤ 9223372036854775807) : floorZ a b = a / b := by
  obtain ⟨h1, h2, _⟩ := floor_rest a b ha ha' (by omega) hb' (by omega) (by omega)
  obtain ⟨h3, h4⟩ := h2 hb
  have e : a / b = (floorZ a b * b + restZ a b) / b := by rw [h1]
  rw [e, Int.add_comm, Int.add_mul_ediv_right _ _ (by omega), Int.ediv_eq_zero_of_lt h3 h4]
  omega
end Go.Proofs.Ytopnceniihgkpaa
