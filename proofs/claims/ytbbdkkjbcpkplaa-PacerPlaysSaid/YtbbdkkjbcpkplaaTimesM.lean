/-
  Own text: the document's product of wide numbers (Times), walked.
-/
import Derived.Test.YtbbdkkjbcpkplaaWideD
namespace Go.Proofs.Ytbbdkkjbcpkplaa
open Go.RowKit

/-- What is carried into piece k, where y is multiplied by z. -/
def mcarry (z y k : Nat) : Nat := z * (y % 65536 ^ k) / 65536 ^ k
theorem mcarry_zero (z y : Nat) : mcarry z y 0 = 0 := by simp [mcarry, Nat.mod_one]
theorem mcarry_le (z y k : Nat) (hz : z ≤ 65535) : mcarry z y k ≤ 65535 := by
  unfold mcarry
  have h := pow_pos' k
  have a := Nat.mod_lt y h
  rw [Nat.div_le_iff_le_mul_add_pred h]
  have : z * (y % 65536 ^ k) ≤ 65535 * 65536 ^ k := Nat.mul_le_mul hz (Nat.le_of_lt a)
  rw [Nat.mul_comm (65536 ^ k)]
  omega
theorem mcarry_succ (z y k : Nat) : mcarry z y (k + 1) = (z * limb y k + mcarry z y k) / 65536 := by
  unfold mcarry
  have h := pow_pos' k
  rw [mod_split, Nat.pow_succ, ← Nat.div_div_eq_div_mul, Nat.mul_add, Nat.mul_left_comm, Nat.add_comm, Nat.add_mul_div_left _ _ h]
  congr 1
  omega
theorem mlimb (z y k : Nat) : limb (z * y) k = (z * limb y k + mcarry z y k) % 65536 := by
  have h := pow_pos' k
  have e : z * y / 65536 ^ k = z * (y / 65536 ^ k) + mcarry z y k := by
    unfold mcarry
    have q := Nat.div_add_mod y (65536 ^ k)
    have : z * y = z * (y % 65536 ^ k) + 65536 ^ k * (z * (y / 65536 ^ k)) := by
      rw [Nat.mul_left_comm, ← Nat.mul_add]
      congr 1
      omega
    rw [this, Nat.add_mul_div_left _ _ h, Nat.add_comm]
  show z * y / 65536 ^ k % 65536 = _
  rw [e, limb_div y k, Nat.mul_add, Nat.add_assoc, Nat.mul_left_comm, Nat.mul_add_mod]
theorem mcarry_last (z y k : Nat) (hz : z ≤ 65535) (hy : y < 65536 ^ k) : mcarry z y k = limb (z * y) k := by
  have hm := mcarry_le z y k hz
  unfold limb
  have : z * y / 65536 ^ k = mcarry z y k := by unfold mcarry; rw [Nat.mod_eq_of_lt hy]
  rw [this]
  omega
theorem limb_shift_lo (z i j : Nat) (h : j < i) : limb (z * 65536 ^ i) j = 0 := by
  unfold limb
  obtain ⟨d, rfl⟩ : ∃ d, i = j + (d + 1) := ⟨i - j - 1, by omega⟩
  rw [Nat.pow_add, Nat.mul_left_comm, Nat.mul_div_cancel_left _ (pow_pos' j), Nat.pow_succ, ← Nat.mul_assoc, Nat.mul_mod_left]
theorem limb_shift (z i j : Nat) : limb (z * 65536 ^ i) (i + j) = limb z j := by
  unfold limb
  rw [Nat.pow_add, ← Nat.div_div_eq_div_mul, Nat.mul_div_cancel _ (pow_pos' i)]
/-- The row that is added for piece i. -/
theorem row_limbs (z y i j : Nat) (hz : z ≤ 65535) (hy : y < 65536 ^ 4) :
    limb (z * y * 65536 ^ i) j = (if j = i + 4 then mcarry z y 4 else if i ≤ j ∧ j < i + 4 then limb (z * y) (j - i) else 0) := by
  by_cases h : j < i
  · rw [limb_shift_lo _ _ _ h, if_neg (by omega), if_neg (by omega)]
  · obtain ⟨d, rfl⟩ : ∃ d, j = i + d := ⟨j - i, by omega⟩
    rw [limb_shift, Nat.add_sub_cancel_left]
    by_cases h4 : d = 4
    · subst h4
      rw [if_pos rfl, mcarry_last z y 4 hz hy]
    · by_cases h5 : d < 4
      · rw [if_neg (by omega), if_pos (by omega)]
      · rw [if_neg (by omega), if_neg (by omega)]
        refine limb_big _ _ ?_
        have a : z * y < 65536 ^ 5 := by
          have : z * y ≤ 65535 * y := Nat.mul_le_mul_right y hz
          omega
        exact Nat.lt_of_lt_of_le a (Nat.pow_le_pow_right (by decide) (by omega))
theorem part_sum (x y i : Nat) : x % 65536 ^ i * y + limb x i * y * 65536 ^ i = x % 65536 ^ (i + 1) * y := by
  rw [mod_split, Nat.add_mul, Nat.mul_assoc (65536 ^ i), Nat.mul_comm (65536 ^ i)]
  omega

theorem row_store {w : World} {b : Nat} {t : TypeId} {f : Nat → Value} (R : w.rowIs b t 10 f) (m : Bool) (x : Nat) :
    ((((((((((w.setCell ⟨b, 0, none⟩ (.bool m)).setCell ⟨b, 1, none⟩ (.int .u64 (limb x 0))).setCell ⟨b, 2, none⟩ (.int .u64 (limb x 1))).setCell ⟨b, 3, none⟩ (.int .u64 (limb x 2))).setCell ⟨b, 4, none⟩ (.int .u64 (limb x 3))).setCell ⟨b, 5, none⟩ (.int .u64 (limb x 4))).setCell ⟨b, 6, none⟩ (.int .u64 (limb x 5))).setCell ⟨b, 7, none⟩ (.int .u64 (limb x 6))).setCell ⟨b, 8, none⟩ (.int .u64 (limb x 7))).setCell ⟨b, 9, none⟩ (.int .u64 (limb x 8))).rowIs b t 10 (wcell m (limb x)) :=
  ((((((((((R.set 0 _).set 1 _).set 2 _).set 3 _).set 4 _).set 5 _).set 6 _).set 7 _).set 8 _).set 9 _).congr fun i hi => by
    match i, hi with
    | 0, _ => rfl
    | 1, _ => rfl
    | 2, _ => rfl
    | 3, _ => rfl
    | 4, _ => rfl
    | 5, _ => rfl
    | 6, _ => rfl
    | 7, _ => rfl
    | 8, _ => rfl
    | 9, _ => rfl
    | n + 10, h => omega
theorem row_store_other {w : World} {b b' : Nat} {t : TypeId} {n : Nat} {f : Nat → Value} (R : w.rowIs b t n f) (h : b ≠ b') (v0 v1 v2 v3 v4 v5 v6 v7 v8 v9 : Value) : ((((((((((w.setCell ⟨b', 0, none⟩ v0).setCell ⟨b', 1, none⟩ v1).setCell ⟨b', 2, none⟩ v2).setCell ⟨b', 3, none⟩ v3).setCell ⟨b', 4, none⟩ v4).setCell ⟨b', 5, none⟩ v5).setCell ⟨b', 6, none⟩ v6).setCell ⟨b', 7, none⟩ v7).setCell ⟨b', 8, none⟩ v8).setCell ⟨b', 9, none⟩ v9).rowIs b t n f :=
  ((((((((((R.setOther (a := ⟨b', 0, none⟩) h _).setOther (a := ⟨b', 1, none⟩) h _).setOther (a := ⟨b', 2, none⟩) h _).setOther (a := ⟨b', 3, none⟩) h _).setOther (a := ⟨b', 4, none⟩) h _).setOther (a := ⟨b', 5, none⟩) h _).setOther (a := ⟨b', 6, none⟩) h _).setOther (a := ⟨b', 7, none⟩) h _).setOther (a := ⟨b', 8, none⟩) h _).setOther (a := ⟨b', 9, none⟩) h _)
end Go.Proofs.Ytbbdkkjbcpkplaa
