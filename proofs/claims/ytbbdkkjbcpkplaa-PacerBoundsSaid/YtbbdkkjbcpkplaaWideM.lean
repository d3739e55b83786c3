/-
  Own text: a wide number's pieces of 16 bits, the lowest first; how they are added, taken away, multiplied. Plain arithmetic.
-/
import Derived.Test.YtbbdkkjbcpkplaaByteA
import Derived.WalkKit
import Derived.ProofKit
import Derived.OpenShut
import Derived.Deep.OwnRows
import Derived.Deep.QuietTactic
import Derived.BigQuiet
import Derived.Lib.Hide
namespace Go.Proofs.Ytbbdkkjbcpkplaa
open Go.RowKit

theorem rowIs_drewN {w : World} {b : Nat} {t : TypeId} {n : Nat} {f : Nat → Value} (h : w.rowIs b t n f) (k : Nat) : (w.drewN k).rowIs b t n f := h
/-- The piece number i of x. -/
def limb (x i : Nat) : Nat := x / 65536 ^ i % 65536
theorem limb_lt (x i : Nat) : limb x i < 65536 := Nat.mod_lt _ (by decide)
/-- What is carried into piece i, where x and y are added. -/
def carry (x y i : Nat) : Nat := (x % 65536 ^ i + y % 65536 ^ i) / 65536 ^ i
theorem pow_pos' (i : Nat) : 0 < 65536 ^ i := Nat.pow_pos (by decide)
theorem mod_split (x i : Nat) : x % 65536 ^ (i + 1) = 65536 ^ i * limb x i + x % 65536 ^ i := by
  rw [Nat.pow_succ, Nat.mod_mul, limb]; omega
theorem limb_div (x i : Nat) : x / 65536 ^ i = 65536 * (x / 65536 ^ (i + 1)) + limb x i := by
  rw [Nat.pow_succ, ← Nat.div_div_eq_div_mul, limb]; omega
theorem carry_zero (x y : Nat) : carry x y 0 = 0 := by simp [carry, Nat.mod_one]
theorem carry_le (x y i : Nat) : carry x y i ≤ 1 := by
  unfold carry
  have h := pow_pos' i
  have a := Nat.mod_lt x h
  have b := Nat.mod_lt y h
  have : (x % 65536 ^ i + y % 65536 ^ i) / 65536 ^ i < 2 := by rw [Nat.div_lt_iff_lt_mul h]; omega
  omega
theorem carry_succ (x y i : Nat) : carry x y (i + 1) = (limb x i + limb y i + carry x y i) / 65536 := by
  unfold carry
  have h := pow_pos' i
  rw [mod_split, mod_split, Nat.pow_succ, ← Nat.div_div_eq_div_mul]
  have e : 65536 ^ i * limb x i + x % 65536 ^ i + (65536 ^ i * limb y i + y % 65536 ^ i) = (x % 65536 ^ i + y % 65536 ^ i) + 65536 ^ i * (limb x i + limb y i) := by
    rw [Nat.mul_add]; omega
  rw [e, Nat.add_mul_div_left _ _ h]
  congr 1
  omega
theorem limb_add (x y i : Nat) : limb (x + y) i = (limb x i + limb y i + carry x y i) % 65536 := by
  have h := pow_pos' i
  have e : (x + y) / 65536 ^ i = x / 65536 ^ i + y / 65536 ^ i + carry x y i := by
    unfold carry
    have hx := Nat.div_add_mod x (65536 ^ i)
    have hy := Nat.div_add_mod y (65536 ^ i)
    have e2 : x + y = (x % 65536 ^ i + y % 65536 ^ i) + 65536 ^ i * (x / 65536 ^ i + y / 65536 ^ i) := by rw [Nat.mul_add]; omega
    rw [e2, Nat.add_mul_div_left _ _ h]
    omega
  unfold limb
  rw [e]
  omega
theorem limb_big (x i : Nat) (h : x < 65536 ^ i) : limb x i = 0 := by unfold limb; rw [Nat.div_eq_of_lt h]
/-- What is taken from piece i, where y is taken from x. -/
def take (x y i : Nat) : Nat := if x % 65536 ^ i < y % 65536 ^ i then 1 else 0
theorem take_zero (x y : Nat) : take x y 0 = 0 := by simp [take, Nat.mod_one]
theorem take_succ (x y i : Nat) : take x y (i + 1) = 1 - (limb x i + 65536 - limb y i - take x y i) / 65536 := by
  have h := pow_pos' i
  have a := Nat.mod_lt x h
  have b := Nat.mod_lt y h
  have lx := limb_lt x i
  have ly := limb_lt y i
  unfold take
  rw [mod_split, mod_split]
  rcases Nat.lt_trichotomy (limb x i) (limb y i) with c | c | c
  · have d := Nat.mul_le_mul_left (65536 ^ i) (show limb x i + 1 ≤ limb y i from c)
    rw [Nat.mul_add] at d
    rw [if_pos (by omega)]
    split <;> omega
  · rw [c]
    by_cases e : x % 65536 ^ i < y % 65536 ^ i
    · rw [if_pos (by omega), if_pos e]; omega
    · rw [if_neg (by omega), if_neg e]; omega
  · have d := Nat.mul_le_mul_left (65536 ^ i) (show limb y i + 1 ≤ limb x i from c)
    rw [Nat.mul_add] at d
    rw [if_neg (by omega)]
    split <;> omega
theorem limb_sub (x y i : Nat) (hyx : y ≤ x) : limb (x - y) i = (limb x i + 65536 - limb y i - take x y i) % 65536 := by
  have h := pow_pos' i
  have hx := Nat.div_add_mod x (65536 ^ i)
  have hy := Nat.div_add_mod y (65536 ^ i)
  have a := Nat.mod_lt x h
  have b := Nat.mod_lt y h
  have hd : y / 65536 ^ i ≤ x / 65536 ^ i := Nat.div_le_div_right hyx
  unfold limb take
  by_cases e : x % 65536 ^ i < y % 65536 ^ i
  · have hlt : y / 65536 ^ i < x / 65536 ^ i := by
      rcases Nat.lt_or_ge (y / 65536 ^ i) (x / 65536 ^ i) with g | g
      · exact g
      · have : y / 65536 ^ i = x / 65536 ^ i := by omega
        rw [this] at hy; omega
    have q : x - y = (65536 ^ i + x % 65536 ^ i - y % 65536 ^ i) + 65536 ^ i * (x / 65536 ^ i - y / 65536 ^ i - 1) := by
      have : 65536 ^ i * (x / 65536 ^ i) = 65536 ^ i * (y / 65536 ^ i) + 65536 ^ i + 65536 ^ i * (x / 65536 ^ i - y / 65536 ^ i - 1) := by
        rw [← Nat.mul_succ, ← Nat.mul_add]; congr 1; omega
      omega
    have r : (x - y) / 65536 ^ i = x / 65536 ^ i - y / 65536 ^ i - 1 := by
      rw [q, Nat.add_mul_div_left _ _ h, Nat.div_eq_of_lt (by omega)]; omega
    rw [r, if_pos e]
    omega
  · have q : x - y = (x % 65536 ^ i - y % 65536 ^ i) + 65536 ^ i * (x / 65536 ^ i - y / 65536 ^ i) := by
      have : 65536 ^ i * (x / 65536 ^ i) = 65536 ^ i * (y / 65536 ^ i) + 65536 ^ i * (x / 65536 ^ i - y / 65536 ^ i) := by
        rw [← Nat.mul_add]; congr 1; omega
      omega
    have r : (x - y) / 65536 ^ i = x / 65536 ^ i - y / 65536 ^ i := by
      rw [q, Nat.add_mul_div_left _ _ h, Nat.div_eq_of_lt (by omega)]; omega
    rw [r, if_neg e]
    omega
theorem take_le (x y i : Nat) : take x y i ≤ 1 := by unfold take; split <;> omega

theorem limb_digits (x : Nat) (h : x < 18446744073709551616) : (limb x 0 : Int) = x % 65536 ∧ (limb x 1 : Int) = x / 65536 % 65536 ∧ (limb x 2 : Int) = x / 65536 / 65536 % 65536 ∧ (limb x 3 : Int) = x / 65536 / 65536 / 65536 % 65536 ∧
    limb x 4 = 0 ∧ limb x 5 = 0 ∧ limb x 6 = 0 ∧ limb x 7 = 0 ∧ limb x 8 = 0 := by
  refine ⟨?_, ?_, ?_, ?_, limb_big _ _ (by omega), limb_big _ _ (by omega), limb_big _ _ (by omega), limb_big _ _ (by omega), limb_big _ _ (by omega)⟩ <;> simp only [limb] <;> omega
theorem limb_same (x y j : Nat) (h : x / 65536 ^ (j + 1) = y / 65536 ^ (j + 1)) (e : limb x j = limb y j) : x / 65536 ^ j = y / 65536 ^ j := by
  rw [limb_div x j, limb_div y j, h, e]
theorem limb_cmp (x y j : Nat) (h : x / 65536 ^ (j + 1) = y / 65536 ^ (j + 1)) (e : limb x j ≠ limb y j) : limb x j < limb y j ↔ x < y := by
  have a := limb_div x j
  have b := limb_div y j
  constructor
  · intro c
    exact Nat.lt_of_div_lt_div (c := 65536 ^ j) (by omega)
  · intro c
    have : x / 65536 ^ j ≤ y / 65536 ^ j := Nat.div_le_div_right (by omega)
    omega
/-- A wide number's cells: the sign, and nine pieces. -/
def wcell (m : Bool) (g : Nat → Nat) : Nat → Value
  | 0 => .bool m
  | i + 1 => .int .u64 (g i)
/-- A wide number. -/
abbrev wideV (m : Bool) (x : Nat) : Value := .agg #[.bool m, .int .u64 (limb x 0), .int .u64 (limb x 1), .int .u64 (limb x 2), .int .u64 (limb x 3), .int .u64 (limb x 4), .int .u64 (limb x 5), .int .u64 (limb x 6), .int .u64 (limb x 7), .int .u64 (limb x 8)]
theorem wide_cells {w : World} {b : Nat} {t : TypeId} {m : Bool} {g : Nat → Nat} (R : w.rowIs b t 10 (wcell m g)) :
    w.cell? ⟨b, 0, none⟩ = some (.bool m) ∧ w.cell? ⟨b, 1, none⟩ = some (.int .u64 (g 0)) ∧ w.cell? ⟨b, 2, none⟩ = some (.int .u64 (g 1)) ∧ w.cell? ⟨b, 3, none⟩ = some (.int .u64 (g 2)) ∧ w.cell? ⟨b, 4, none⟩ = some (.int .u64 (g 3)) ∧ w.cell? ⟨b, 5, none⟩ = some (.int .u64 (g 4)) ∧ w.cell? ⟨b, 6, none⟩ = some (.int .u64 (g 5)) ∧ w.cell? ⟨b, 7, none⟩ = some (.int .u64 (g 6)) ∧ w.cell? ⟨b, 8, none⟩ = some (.int .u64 (g 7)) ∧ w.cell? ⟨b, 9, none⟩ = some (.int .u64 (g 8)) :=
  ⟨R.cell (i := 0) (by omega), R.cell (i := 1) (by omega), R.cell (i := 2) (by omega), R.cell (i := 3) (by omega), R.cell (i := 4) (by omega), R.cell (i := 5) (by omega), R.cell (i := 6) (by omega), R.cell (i := 7) (by omega), R.cell (i := 8) (by omega), R.cell (i := 9) (by omega)⟩
theorem wide_free {w : World} {b : Nat} {t : TypeId} {n : Nat} {f : Nat → Value} (R : w.rowIs b t n f) :
    w.frozen? ⟨b, 0, none⟩ = false ∧ w.frozen? ⟨b, 1, none⟩ = false ∧ w.frozen? ⟨b, 2, none⟩ = false ∧ w.frozen? ⟨b, 3, none⟩ = false ∧ w.frozen? ⟨b, 4, none⟩ = false ∧ w.frozen? ⟨b, 5, none⟩ = false ∧ w.frozen? ⟨b, 6, none⟩ = false ∧ w.frozen? ⟨b, 7, none⟩ = false ∧ w.frozen? ⟨b, 8, none⟩ = false ∧ w.frozen? ⟨b, 9, none⟩ = false :=
  ⟨R.frozen 0, R.frozen 1, R.frozen 2, R.frozen 3, R.frozen 4, R.frozen 5, R.frozen 6, R.frozen 7, R.frozen 8, R.frozen 9⟩
theorem below_wide {B : Nat} {a w : World} (h : Below B a w) {b : Nat} (hb : B ≤ b) (v0 v1 v2 v3 v4 v5 v6 v7 v8 v9 : Value) :
    Below B a ((((((((((w.setCell ⟨b, 0, none⟩ v0).setCell ⟨b, 1, none⟩ v1).setCell ⟨b, 2, none⟩ v2).setCell ⟨b, 3, none⟩ v3).setCell ⟨b, 4, none⟩ v4).setCell ⟨b, 5, none⟩ v5).setCell ⟨b, 6, none⟩ v6).setCell ⟨b, 7, none⟩ v7).setCell ⟨b, 8, none⟩ v8).setCell ⟨b, 9, none⟩ v9) :=
  (Below.setCell (Below.setCell (Below.setCell (Below.setCell (Below.setCell (Below.setCell (Below.setCell (Below.setCell (Below.setCell (Below.setCell h (p := ⟨b, 0, none⟩) hb v0) (p := ⟨b, 1, none⟩) hb v1) (p := ⟨b, 2, none⟩) hb v2) (p := ⟨b, 3, none⟩) hb v3) (p := ⟨b, 4, none⟩) hb v4) (p := ⟨b, 5, none⟩) hb v5) (p := ⟨b, 6, none⟩) hb v6) (p := ⟨b, 7, none⟩) hb v7) (p := ⟨b, 8, none⟩) hb v8) (p := ⟨b, 9, none⟩) hb v9)
end Go.Proofs.Ytbbdkkjbcpkplaa
