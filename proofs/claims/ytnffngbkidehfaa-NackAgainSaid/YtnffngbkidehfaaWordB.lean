/-
  Own text: what the loop-free functions of package word answer (Add, Sub, Clamp, Abs, Abs64, Floor, Rest, Behind, Newer), that the page's examples hold ('awake'), and the same of the document's own answers where they hold no wide number.
  the page's examples of layer 1 hold ('awake'); the laws WordFloors, WordBack, WordNewer, walked.
-/
import Derived.Test.YtnffngbkidehfaaByteA
import Derived.WalkKit
import Derived.ProofKit
import Derived.OpenShut
namespace Go.Proofs.Ytnffngbkidehfaa
open Go.RowKit

theorem u64_lo {n : Int} (h : (Lit.int .u64 n).wf = true) : 0 ≤ n ∧ n ≤ 18446744073709551615 := by
  simp [Lit.wf, IntKind.min, IntKind.max, IntKind.bits, IntKind.signed] at h; omega

/-- Held at the limits. -/
def held (n : Int) : Int := max (-9223372036854775808) (min n 9223372036854775807)
theorem held_lo (n : Int) : -9223372036854775808 ≤ held n ∧ held n ≤ 9223372036854775807 := by unfold held; omega
theorem held_eq {n : Int} (h : -9223372036854775808 ≤ n) (h' : n ≤ 9223372036854775807) : held n = n := by unfold held; omega



/-- Held within two others. -/
def clampZ (n l h : Int) : Int := if n < l ∨ h < l then l else if h < n then h else n
theorem clamp_any (n l h : Int) (w : World) :
    Calls Try.prog 89 #[.int .i64 n, .int .i64 l, .int .i64 h] w fun e w' => e = .returned (.int .i64 (clampZ n l h)) ∧ w = w' := by
  go_enter Try.func89, Try.ntmps89
  go_wp2
  all_goals go_ret
  all_goals exact ⟨ret_int (by unfold clampZ; split <;> (try split) <;> omega), rfl⟩


/-- Without its sign, held. -/
def absZ (n : Int) : Int := held (if n < 0 then -n else n)

/-- Without its sign, as a word. -/
def abs64Z (n : Int) : Int := if n < 0 then -n else n

/-- Is the quotient that is cut off toward 0 above the true one? -/
def unevenB (a b : Int) : Bool := a.tmod b != 0 && decide (a < 0) != decide (b < 0)

/-- How far behind, going round. -/
def behindZ (a b : Int) : Int := wrap32 (a - b)
theorem behind_any (a b : Int) (w : World) :
    Calls Try.prog 72 #[.int .u32 a, .int .u32 b] w fun e w' => e = .returned (.int .i64 (behindZ a b)) ∧ w = w' := by
  go_enter Try.func72, Try.ntmps72
  go_wp2
  all_goals go_ret
  all_goals exact ⟨ret_int (by unfold behindZ wrap64 wrap32; omega), rfl⟩
theorem rbehind_any (a b : Int) (w : World) (ha : 0 ≤ a) (ha' : a ≤ 4294967295) (hb : 0 ≤ b) (hb' : b ≤ 4294967295) :
    Calls Try.prog 68 #[.int .u32 a, .int .u32 b] w fun e w' => e = .returned (.int .i64 (behindZ a b)) ∧ w = w' := by
  go_enter Try.func68, Try.ntmps68
  go_wp2
  all_goals go_ret
  all_goals exact ⟨ret_int (by unfold behindZ wrap32; omega), rfl⟩

/-- A quotient, rounded down, held. -/
def floorZ (a b : Int) : Int := if b = 0 then 0 else if a = -9223372036854775808 ∧ b = -1 then 9223372036854775807 else if unevenB a b then wrap64 (wrap64 (a.tdiv b) - 1) else wrap64 (a.tdiv b)
/-- What a quotient that is rounded down leaves. -/
def restZ (a b : Int) : Int := if b = 0 then 0 else if unevenB a b then wrap64 (a.tmod b + b) else a.tmod b
theorem tmod_sign (a b : Int) : (a.tmod b ≠ 0 → (a.tmod b < 0 ↔ a < 0)) ∧ (b = -1 → a.tmod b = 0) := by
  refine ⟨fun h => ?_, fun h => by subst h; simp⟩
  by_cases ha : a < 0
  · have := Int.tmod_nonneg (a := -a) b (by omega)
    rw [Int.neg_tmod] at this
    omega
  · have := Int.tmod_nonneg (a := a) b (by omega)
    omega
end Go.Proofs.Ytnffngbkidehfaa
namespace Go.Proofs.Ytnffngbkidehfaa
open Go.RowKit



theorem newer_facts (a b : Int) (ha : 0 ≤ a) (ha' : a ≤ 4294967295) (hb : 0 ≤ b) (hb' : b ≤ 4294967295) :
    (a = b → behindZ a b = 0 ∧ behindZ b a = 0) ∧ (a ≠ b → behindZ a b ≠ -2147483648 → (0 < behindZ a b ↔ ¬ 0 < behindZ b a)) := by
  unfold behindZ wrap32; omega

/-- Quotient times divisor, and rest, are the number again; the rest is on the divisor's side of 0 and less than it. -/
theorem floor_rest (a b : Int) (ha : -9223372036854775808 ≤ a) (ha' : a ≤ 9223372036854775807) (hb : -9223372036854775808 ≤ b) (hb' : b ≤ 9223372036854775807) (h0 : b ≠ 0) (h1 : ¬ (a = -9223372036854775808 ∧ b = -1)) :
    floorZ a b * b + restZ a b = a ∧ (0 < b → 0 ≤ restZ a b ∧ restZ a b < b) ∧ (b < 0 → restZ a b ≤ 0 ∧ b < restZ a b) := by
  have e := Int.tdiv_mul_add_tmod a b
  have s := tmod_sign a b
  have l : (a.tmod b).natAbs < b.natAbs := by rw [Int.natAbs_tmod]; exact Nat.mod_lt _ (by omega)
  have k : (a.tdiv b).natAbs = a.natAbs / b.natAbs := Int.natAbs_tdiv a b
  have hq : -9223372036854775808 ≤ a.tdiv b ∧ a.tdiv b ≤ 9223372036854775807 := by
    by_cases b1 : b = 1
    · subst b1; simp; omega
    · by_cases b2 : b = -1
      · subst b2; simp; omega
      · have : a.natAbs / b.natAbs ≤ a.natAbs / 2 := Nat.div_le_div_left (by omega) (by omega)
        omega
  have w1 : wrap64 (a.tdiv b) = a.tdiv b := IntWalk.wrap64_in _ hq
  by_cases u : unevenB a b = true
  · have u' : a.tmod b ≠ 0 ∧ (¬ (a < 0 ↔ b < 0)) := by simpa [unevenB] using u
    have hq2 : -9223372036854775808 ≤ a.tdiv b - 1 := by
      by_cases b1 : b = 1
      · subst b1; simp at u'
      · by_cases b2 : b = -1
        · subst b2; simp at u'
        · have : a.natAbs / b.natAbs ≤ a.natAbs / 2 := Nat.div_le_div_left (by omega) (by omega)
          omega
    have w2 : wrap64 (a.tdiv b - 1) = a.tdiv b - 1 := IntWalk.wrap64_in _ (by omega)
    have w3 : wrap64 (a.tmod b + b) = a.tmod b + b := IntWalk.wrap64_in _ (by omega)
    unfold floorZ restZ
    rw [if_neg h0, if_neg h1, if_neg h0, if_pos u, if_pos u, w1, w2, w3]
    refine ⟨?_, ?_, ?_⟩
    · rw [Int.sub_mul]; omega
    · intro h; omega
    · intro h; omega
  · have u' : a.tmod b = 0 ∨ (a < 0 ↔ b < 0) := by
      simp [unevenB] at u
      by_cases z : a.tmod b = 0
      · exact Or.inl z
      · exact Or.inr (u z)
    unfold floorZ restZ
    rw [if_neg h0, if_neg h1, if_neg h0, if_neg u, if_neg u, w1]
    refine ⟨e, ?_, ?_⟩
    · intro h; omega
    · intro h; omega
theorem wrap_back (x r a : Int) (h : x + r = a) (ha : -9223372036854775808 ≤ a) (ha' : a ≤ 9223372036854775807) : wrap64 (wrap64 x + r) = a := by
  unfold wrap64; omega

/-- A quotient by a number above 0, rounded down. -/
theorem floor_div (a b : Int) (ha : -9223372036854775808 ≤ a) (ha' : a ≤ 9223372036854775807) (hb : 0 < b) (hb' : b ≤ 9223372036854775807) : floorZ a b = a / b := by
  obtain ⟨h1, h2, _⟩ := floor_rest a b ha ha' (by omega) hb' (by omega) (by omega)
  obtain ⟨h3, h4⟩ := h2 hb
  have e : a / b = (floorZ a b * b + restZ a b) / b := by rw [h1]
  rw [e, Int.add_comm, Int.add_mul_ediv_right _ _ (by omega), Int.ediv_eq_zero_of_lt h3 h4]
  omega
end Go.Proofs.Ytnffngbkidehfaa
