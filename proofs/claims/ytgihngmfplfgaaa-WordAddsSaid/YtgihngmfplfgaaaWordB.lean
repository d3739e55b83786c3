/-
  Own text: the page's examples of layer 1 hold ('awake'); the laws WordFloors, WordBack, WordNewer, walked.
-/
import Derived.Test.YtgihngmfplfgaaaWordA
namespace Go.Proofs.Ytgihngmfplfgaaa
open Go.RowKit

theorem awake_any (w : World) : Calls Try.prog 12 #[] w fun e w' => e = .returned (.bool true) ∧ w = w' := by
  have e1 : floorZ (-7) 2 = -4 := by decide +kernel
  have e2 : restZ (-7) 2 = 1 := by decide +kernel
  have e3 : held (9223372036854775807 + 1) = 9223372036854775807 := by decide +kernel
  have e4 : behindZ 1 4294967295 = 2 := by decide +kernel
  have c1 := fun w => floor_any (-7) 2 w
  have c2 := fun w => rest_any (-7) 2 w
  have c3 := fun w => add_any 9223372036854775807 1 w (by omega) (by omega) (by omega) (by omega)
  have c4 := fun w => behind_any 1 4294967295 w
  rw [e1] at c1; rw [e2] at c2; rw [e3] at c3; rw [e4] at c4
  clear e1 e2 e3 e4
  go_enter Try.func12, Try.ntmps12
  go_wp2_with (first
    | (go_at_call 29; refine (c1 _).mono ?_; rintro e w' ⟨rfl, rfl⟩)
    | (go_at_call 31; refine (c2 _).mono ?_; rintro e w' ⟨rfl, rfl⟩)
    | (go_at_call 13; refine (c3 _).mono ?_; rintro e w' ⟨rfl, rfl⟩)
    | (go_at_call 35; refine (c4 _).mono ?_; rintro e w' ⟨rfl, rfl⟩))
  go_ret
  exact ⟨rfl, rfl⟩

theorem floors_walk (a b : Int) (w : World) :
    Calls Try.prog 7 #[.int .i64 a, .int .i64 b] w fun e w' => e = .returned (.bool true) ∧ w = w' := by
  go_enter Try.func7, Try.ntmps7
  go_wp2_with (first
    | (go_at_call 12; refine (awake_any _).mono ?_; rintro e w' ⟨rfl, rfl⟩)
    | (go_at_call 29; refine (floor_any _ _ _).mono ?_; rintro e w' ⟨rfl, rfl⟩)
    | (go_at_call 30; refine (rfloor_any _ _ _).mono ?_; rintro e w' ⟨rfl, rfl⟩)
    | (go_at_call 31; refine (rest_any _ _ _).mono ?_; rintro e w' ⟨rfl, rfl⟩)
    | (go_at_call 32; refine (rrest_any _ _ _).mono ?_; rintro e w' ⟨rfl, rfl⟩))
  all_goals go_ret
  all_goals exact ⟨rfl, rfl⟩

theorem newer_facts (a b : Int) (ha : 0 ≤ a) (ha' : a ≤ 4294967295) (hb : 0 ≤ b) (hb' : b ≤ 4294967295) :
    (a = b → behindZ a b = 0 ∧ behindZ b a = 0) ∧ (a ≠ b → behindZ a b ≠ -2147483648 → (0 < behindZ a b ↔ ¬ 0 < behindZ b a)) := by
  unfold behindZ wrap32; omega

theorem newer_walk (a b : Int) (w : World) (ha : 0 ≤ a) (ha' : a ≤ 4294967295) (hb : 0 ≤ b) (hb' : b ≤ 4294967295) :
    Calls Try.prog 10 #[.int .u32 a, .int .u32 b] w fun e w' => e = .returned (.bool true) ∧ w = w' := by
  go_enter Try.func10, Try.ntmps10
  go_wp2_with (first
    | (go_at_call 12; refine (awake_any _).mono ?_; rintro e w' ⟨rfl, rfl⟩)
    | (go_at_call 35; refine (behind_any _ _ _).mono ?_; rintro e w' ⟨rfl, rfl⟩)
    | (go_at_call 36; refine (rbehind_any _ _ _ (by omega) (by omega) (by omega) (by omega)).mono ?_; rintro e w' ⟨rfl, rfl⟩)
    | (go_at_call 37; refine (newer_any _ _ _).mono ?_; rintro e w' ⟨rfl, rfl⟩))
  all_goals go_ret
  all_goals refine ⟨ret_bool ?_, rfl⟩
  all_goals show _ = true
  all_goals first | rfl | (have hf := newer_facts a b ha ha' hb hb'; grind)
/-- Quotient times divisor, and rest, are the number again; the rest is on the divisor's side of 0 and less than it. -/
theorem floor_rest (a b : Int) (ha : -9223372036854775808 ≤ a) (ha' : a ≤ 9223372036854775807) (hb : -9223372036854775808 ≤ b) (hb' : b ≤ 9223372036854775807) (h0 : b ≠ 0) (h1 : ¬ (a = -9223372036854775808 ∧ b = -1)) :
    floorZ a b * b + restZ a b = a ∧ (0 < b → 0 ≤ restZ a b ∧ restZ a b < b) ∧ (b < 0 → restZ a b ≤ 0 ∧ b < restZ a b) := by
  have e := Int.tdiv_mul_add_tmod a b
  have s := tmod_sign a b
  have l : (a.tmod b).natAbs < b.natAbs := by rw [Int.natAbs_tmod]; exact Nat.mod_lt _ (by omega)
  have k : (a.tdiv b).natAbs = a.natAbs / b.natAbs := Int.natAbs_tdiv a b
  have hq : -9223372036854775808 ≤ a.tdiv b ∧ a.tdiv b ≤ 9223372036854775807 := by
    by_cases b1 : b = 1
    · subst b1; simp; omega
    · by_cases b2 : b = -1
      · subst b2; simp; omega
      · have : a.natAbs / b.natAbs ≤ a.natAbs / 2 := Nat.div_le_div_left (by omega) (by omega)
        omega
  have w1 : wrap64 (a.tdiv b) = a.tdiv b := IntWalk.wrap64_in _ hq
  by_cases u : unevenB a b = true
  · have u' : a.tmod b ≠ 0 ∧ (¬ (a < 0 ↔ b < 0)) := by simpa [unevenB] using u
    have hq2 : -9223372036854775808 ≤ a.tdiv b - 1 := by
      by_cases b1 : b = 1
      · subst b1; simp at u'
      · by_cases b2 : b = -1
        · subst b2; simp at u'
        · have : a.natAbs / b.natAbs ≤ a.natAbs / 2 := Nat.div_le_div_left (by omega) (by omega)
          omega
    have w2 : wrap64 (a.tdiv b - 1) = a.tdiv b - 1 := IntWalk.wrap64_in _ (by omega)
    have w3 : wrap64 (a.tmod b + b) = a.tmod b + b := IntWalk.wrap64_in _ (by omega)
    unfold floorZ restZ
    rw [if_neg h0, if_neg h1, if_neg h0, if_pos u, if_pos u, w1, w2, w3]
    refine ⟨?_, ?_, ?_⟩
    · rw [Int.sub_mul]; omega
    · intro h; omega
    · intro h; omega
  · have u' : a.tmod b = 0 ∨ (a < 0 ↔ b < 0) := by
      simp [unevenB] at u
      by_cases z : a.tmod b = 0
      · exact Or.inl z
      · exact Or.inr (u z)
    unfold floorZ restZ
    rw [if_neg h0, if_neg h1, if_neg h0, if_neg u, if_neg u, w1]
    refine ⟨e, ?_, ?_⟩
    · intro h; omega
    · intro h; omega
theorem wrap_back (x r a : Int) (h : x + r = a) (ha : -9223372036854775808 ≤ a) (ha' : a ≤ 9223372036854775807) : wrap64 (wrap64 x + r) = a := by
  unfold wrap64; omega

theorem back_walk (a b : Int) (w : World) (ha : -9223372036854775808 ≤ a) (ha' : a ≤ 9223372036854775807) (hb : -9223372036854775808 ≤ b) (hb' : b ≤ 9223372036854775807) :
    Calls Try.prog 8 #[.int .i64 a, .int .i64 b] w fun e w' => e = .returned (.bool true) ∧ w = w' := by
  go_enter Try.func8, Try.ntmps8
  go_wp2_with (first
    | (go_at_call 12; refine (awake_any _).mono ?_; rintro e w' ⟨rfl, rfl⟩)
    | (go_at_call 29; refine (floor_any _ _ _).mono ?_; rintro e w' ⟨rfl, rfl⟩)
    | (go_at_call 31; refine (rest_any _ _ _).mono ?_; rintro e w' ⟨rfl, rfl⟩))
  all_goals go_ret
  all_goals refine ⟨ret_bool ?_, rfl⟩
  all_goals show _ = true
  all_goals first
    | rfl
    | (subst_vars; have hf := floor_rest _ b ha ha' hb hb' (by assumption) (by grind)
       have hw := wrap_back _ _ _ hf.1 ha ha'
       grind)
end Go.Proofs.Ytgihngmfplfgaaa
