/-
  Own text: remainders of 32 bits: a step, so many steps, bytes one behind the other; what is turned within 32 bits is seen. Plain arithmetic.
-/
import Derived.Test.YtfiacpbpfdencaaRows
import Derived.WalkKit
import Derived.ProofKit
import Derived.OpenShut
import Derived.Lib.Hide
namespace Go.Proofs.Ytfiacpbpfdencaa
open Go.RowKit

/-- A step of a remainder. -/
def one (r : BitVec 32) : BitVec 32 := (r >>> 1) ^^^ (if r.getLsbD 0 then 3988292384#32 else 0#32)
theorem one_zero : one 0#32 = 0#32 := by decide
theorem xor_cancel (x y p : BitVec 32) : x ^^^ y = (x ^^^ p) ^^^ (y ^^^ p) := by
  have : (x ^^^ p) ^^^ (y ^^^ p) = (x ^^^ y) ^^^ (p ^^^ p) := by ac_rfl
  rw [this, BitVec.xor_self, BitVec.xor_zero]
theorem one_xor (a b : BitVec 32) : one (a ^^^ b) = one a ^^^ one b := by
  unfold one
  rw [BitVec.getLsbD_xor, BitVec.ushiftRight_xor_distrib]
  cases a.getLsbD 0 <;> cases b.getLsbD 0
  · simp
  · simp [BitVec.xor_assoc]
  · simp only [Bool.bne_false, ↓reduceIte, Bool.false_eq_true, BitVec.xor_zero]; ac_rfl
  · simp only [bne_self_eq_false, ↓reduceIte, Bool.false_eq_true, BitVec.xor_zero]; exact xor_cancel _ _ _
/-- So many steps. -/
def ones : Nat → BitVec 32 → BitVec 32
  | 0, r => r
  | n + 1, r => ones n (one r)
theorem ones_zero : ∀ n, ones n 0#32 = 0#32
  | 0 => rfl
  | n + 1 => by show ones n (one 0#32) = _; rw [one_zero]; exact ones_zero n
theorem ones_xor : ∀ (n : Nat) (a b : BitVec 32), ones n (a ^^^ b) = ones n a ^^^ ones n b
  | 0, _, _ => rfl
  | n + 1, a, b => by show ones n (one _) = ones n (one a) ^^^ ones n (one b); rw [one_xor, ones_xor n]
theorem ones_add : ∀ (m n : Nat) (r : BitVec 32), ones (m + n) r = ones n (ones m r)
  | 0, n, r => by simp [ones]
  | m + 1, n, r => by rw [show m + 1 + n = (m + n) + 1 by omega]; show ones (m + n) (one r) = ones n (ones m (one r)); exact ones_add m n _
theorem ones_succ (n : Nat) (r : BitVec 32) : ones (n + 1) r = one (ones n r) := ones_add n 1 r
theorem one_null (a : BitVec 32) (h : one a = 0#32) : a = 0#32 := by
  have h31 : (one a).getLsbD 31 = false := by rw [h]; rfl
  have l0 : a.getLsbD 0 = false := by
    unfold one at h31
    rw [BitVec.getLsbD_xor, BitVec.getLsbD_ushiftRight] at h31
    rw [BitVec.getLsbD_of_ge a (1 + 31) (by omega)] at h31
    cases h0 : a.getLsbD 0
    · rfl
    · rw [h0] at h31; exact absurd h31 (by decide)
  have hs : a >>> 1 = 0#32 := by
    unfold one at h
    rw [l0] at h
    simpa using h
  apply BitVec.eq_of_getLsbD_eq
  intro i hi
  rw [BitVec.getLsbD_zero]
  cases i with
  | zero => exact l0
  | succ i =>
    have := congrArg (fun x => BitVec.getLsbD x i) hs
    simp only [BitVec.getLsbD_ushiftRight, BitVec.getLsbD_zero] at this
    rw [← this, Nat.add_comm]
theorem ones_null : ∀ (n : Nat) (a : BitVec 32), ones n a = 0#32 → a = 0#32
  | 0, _, h => h
  | n + 1, a, h => one_null a (ones_null n (one a) h)
theorem xor_null {a b : BitVec 32} (h : a ^^^ b = 0#32) : a = b := by
  have : a ^^^ b ^^^ b = 0#32 ^^^ b := by rw [h]
  simpa [BitVec.xor_assoc] using this
theorem ones_inj {n : Nat} {a b : BitVec 32} (h : ones n a = ones n b) : a = b :=
  xor_null (ones_null n _ (by rw [ones_xor, h, BitVec.xor_self]))
theorem ones_shift : ∀ (k : Nat) (r : BitVec 32), (∀ i, i < k → r.getLsbD i = false) → ones k r = r >>> k
  | 0, r, _ => by simp [ones]
  | k + 1, r, h => by
    have e : one r = r >>> 1 := by unfold one; rw [h 0 (by omega)]; simp
    show ones k (one r) = _
    rw [e, ones_shift k (r >>> 1) (fun i hi => by rw [BitVec.getLsbD_ushiftRight]; exact h _ (by omega)), ← BitVec.shiftRight_add, Nat.add_comm]

/-- A byte, in its lowest bits. -/
def byteB (z : Int) : BitVec 32 := BitVec.ofInt 32 z
/-- Bytes, one behind the other. -/
def fold (r : BitVec 32) (l : List Int) : BitVec 32 := l.foldl (fun r b => ones 8 (r ^^^ byteB b)) r
theorem fold_append (r : BitVec 32) (a b : List Int) : fold r (a ++ b) = fold (fold r a) b := List.foldl_append
theorem fold_snoc (r : BitVec 32) (zs : List Int) (k : Nat) (h : k < zs.length) : fold r (zs.take (k + 1)) = ones 8 (fold r (zs.take k) ^^^ byteB (zs.getD k 0)) := by
  rw [List.take_succ_eq_append_getElem h, fold_append, List.getD_eq_getElem?_getD, List.getElem?_eq_getElem h]
  rfl
/-- What the first remainder comes to. -/
theorem fold_xor : ∀ (l : List Int) (r s : BitVec 32), fold (r ^^^ s) l = ones (8 * l.length) r ^^^ fold s l
  | [], r, s => rfl
  | b :: l, r, s => by
    show fold (ones 8 (r ^^^ s ^^^ byteB b)) l = ones (8 * (l.length + 1)) r ^^^ fold (ones 8 (s ^^^ byteB b)) l
    rw [BitVec.xor_assoc, ones_xor, fold_xor l, Nat.mul_succ, Nat.add_comm, ones_add]
/-- The sum of bytes behind others. -/
def more (s : BitVec 32) (l : List Int) : BitVec 32 := ~~~ (fold (~~~ s) l)

theorem byte_high (b : BitVec 32) (hb : b.toNat < 256) (i : Nat) (hi : 8 ≤ i) : b.getLsbD i = false := by
  rw [← BitVec.testBit_toNat]
  exact Nat.testBit_lt_two_pow (Nat.lt_of_lt_of_le hb (Nat.pow_le_pow_right (n := 2) (by omega) hi))
theorem low_high (x : BitVec 32) : (x &&& 255#32) ^^^ (x >>> 8 <<< 8) = x := by
  apply BitVec.eq_of_getLsbD_eq
  intro i hi
  rw [BitVec.getLsbD_xor, BitVec.getLsbD_and, BitVec.getLsbD_shiftLeft, BitVec.getLsbD_ushiftRight]
  by_cases h : i < 8
  · have : (255#32).getLsbD i = true := by
      rcases (show i = 0 ∨ i = 1 ∨ i = 2 ∨ i = 3 ∨ i = 4 ∨ i = 5 ∨ i = 6 ∨ i = 7 by omega) with rfl | rfl | rfl | rfl | rfl | rfl | rfl | rfl <;> rfl
    simp [h, this]
  · have : (255#32).getLsbD i = false := byte_high _ (by decide) i (by omega)
    rw [this, show 8 + (i - 8) = i by omega]
    simp [h, hi]
theorem shift_low (x y : BitVec 32) (h : y.toNat < 256) : (x ^^^ y) >>> 8 = x >>> 8 := by
  rw [BitVec.ushiftRight_xor_distrib]
  have : y >>> 8 = 0#32 := by
    apply BitVec.eq_of_getLsbD_eq
    intro i hi
    rw [BitVec.getLsbD_ushiftRight, BitVec.getLsbD_zero]
    exact byte_high y h _ (by omega)
  rw [this, BitVec.xor_zero]
/-- Steps by the table: the lowest 8 bits go by it, the others only move down. -/
theorem table_step (r b : BitVec 32) (hb : b.toNat < 256) : ones 8 ((r ^^^ b) &&& 255#32) ^^^ r >>> 8 = ones 8 (r ^^^ b) := by
  have e := low_high (r ^^^ b)
  have h : ones 8 ((r ^^^ b) >>> 8 <<< 8) = r >>> 8 := by
    rw [ones_shift 8 _ (fun i hi => by rw [BitVec.getLsbD_shiftLeft]; simp [hi]), shift_low r b hb]
    apply BitVec.eq_of_getLsbD_eq
    intro i hi
    simp only [BitVec.getLsbD_ushiftRight, BitVec.getLsbD_shiftLeft]
    by_cases g : 8 + i < 32
    · simp [g]
    · rw [BitVec.getLsbD_of_ge r (8 + i) (by omega)]; simp; exact fun h => absurd h g
  conv => rhs; rw [← e, ones_xor, h]
end Go.Proofs.Ytfiacpbpfdencaa
