/-
  Own text: bits that are turned, and what they do to a remainder. Plain arithmetic.
-/
import Derived.Test.YtfiacpbpfdencaaOpen
namespace Go.Proofs.Ytfiacpbpfdencaa
open Go.RowKit

theorem small_bit (b : BitVec 32) (k : Nat) (hb : b.toNat < 2 ^ k) (i : Nat) (hi : k ≤ i) : b.getLsbD i = false := by
  rw [← BitVec.testBit_toNat]
  exact Nat.testBit_lt_two_pow (Nat.lt_of_lt_of_le hb (Nat.pow_le_pow_right (by omega) hi))
theorem ones_up (k m : Nat) (b : BitVec 32) (hk : k + m ≤ 32) (hb : b.toNat < 2 ^ m) : ones k (b <<< k) = b := by
  rw [ones_shift k _ (fun i hi => by rw [BitVec.getLsbD_shiftLeft]; simp [hi])]
  apply BitVec.eq_of_getLsbD_eq
  intro i hi
  rw [BitVec.getLsbD_ushiftRight, BitVec.getLsbD_shiftLeft]
  by_cases h : k + i < 32
  · simp [h, show k + i - k = i by omega]
  · rw [small_bit b m hb i (by omega)]; simp; intro h'; exact absurd h' h
theorem fold_four (R b0 b1 b2 b3 : BitVec 32) (h1 : b1.toNat < 2 ^ 8) (h2 : b2.toNat < 2 ^ 8) (h3 : b3.toNat < 2 ^ 8) :
    ones 8 (ones 8 (ones 8 (ones 8 (R ^^^ b0) ^^^ b1) ^^^ b2) ^^^ b3) = ones 32 (R ^^^ (b0 ^^^ b1 <<< 8 ^^^ b2 <<< 16 ^^^ b3 <<< 24)) := by
  conv => lhs; rw [← ones_up 8 8 b1 (by omega) h1, ← ones_up 16 8 b2 (by omega) h2, ← ones_up 24 8 b3 (by omega) h3]
  have e16 : ∀ x, ones 8 (ones 8 x) = ones 16 x := fun x => (ones_add 8 8 x).symm
  have e24 : ∀ x, ones 8 (ones 16 x) = ones 24 x := fun x => (ones_add 16 8 x).symm
  have e32 : ∀ x, ones 8 (ones 24 x) = ones 32 x := fun x => (ones_add 24 8 x).symm
  rw [← ones_xor 8 (R ^^^ b0), e16, ← ones_xor 16, e24, ← ones_xor 24, e32]
  congr 1
  generalize b1 <<< 8 = c1
  generalize b2 <<< 16 = c2
  generalize b3 <<< 24 = c3
  simp only [BitVec.xor_assoc]
theorem byteB_sb (s : BitVec 32) : byteB (sb s 0) = s &&& 255#32 ∧ byteB (sb s 1) = (s >>> 8) &&& 255#32 ∧ byteB (sb s 2) = (s >>> 16) &&& 255#32 ∧ byteB (sb s 3) = s >>> 24 := by
  have hs := s.isLt
  refine ⟨?_, ?_, ?_, ?_⟩ <;> apply BitVec.eq_of_toNat_eq <;> unfold byteB sb <;> rw [BitVec.toNat_ofInt]
  · rw [BitVec.toNat_and, show (255#32).toNat = 255 from rfl, and_255]
    show ((s.toNat : Int) % 256 % 4294967296).toNat = _
    omega
  · rw [BitVec.toNat_and, show (255#32).toNat = 255 from rfl, and_255, BitVec.toNat_ushiftRight, Nat.shiftRight_eq_div_pow]
    show ((s.toNat : Int) / 256 % 256 % 4294967296).toNat = s.toNat / 256 % 256
    omega
  · rw [BitVec.toNat_and, show (255#32).toNat = 255 from rfl, and_255, BitVec.toNat_ushiftRight, Nat.shiftRight_eq_div_pow]
    show ((s.toNat : Int) / 65536 % 256 % 4294967296).toNat = s.toNat / 65536 % 256
    omega
  · rw [BitVec.toNat_ushiftRight, Nat.shiftRight_eq_div_pow]
    show ((s.toNat : Int) / 16777216 % 4294967296).toNat = s.toNat / 16777216
    omega
theorem bit_255 (i : Nat) : (255#32).getLsbD i = decide (i < 8) := by
  by_cases h : i < 8
  · rcases (show i = 0 ∨ i = 1 ∨ i = 2 ∨ i = 3 ∨ i = 4 ∨ i = 5 ∨ i = 6 ∨ i = 7 by omega) with rfl | rfl | rfl | rfl | rfl | rfl | rfl | rfl <;> rfl
  · rw [byte_high _ (by decide) i (by omega)]; simp [h]
theorem bytes_word (s : BitVec 32) : (s &&& 255#32) ^^^ ((s >>> 8) &&& 255#32) <<< 8 ^^^ ((s >>> 16) &&& 255#32) <<< 16 ^^^ (s >>> 24) <<< 24 = s := by
  apply BitVec.eq_of_getLsbD_eq
  intro i hi
  simp only [BitVec.getLsbD_xor, BitVec.getLsbD_and, BitVec.getLsbD_shiftLeft, BitVec.getLsbD_ushiftRight, bit_255]
  by_cases h8 : i < 8
  · simp [h8, show i < 16 by omega, show i < 24 by omega]
  · by_cases h16 : i < 16
    · simp [h8, h16, hi, show i < 24 by omega, show i - 8 < 8 by omega, show 8 + (i - 8) = i by omega]
    · by_cases h24 : i < 24
      · simp [h8, h16, h24, hi, show ¬ i - 8 < 8 by omega, show i - 16 < 8 by omega, show 16 + (i - 16) = i by omega]
      · simp [h8, h16, h24, hi, show ¬ i - 8 < 8 by omega, show ¬ i - 16 < 8 by omega, show 24 + (i - 24) = i by omega]
/-- Whatever was sealed comes to the same remainder. -/
theorem fold_seal (R : BitVec 32) : fold R (sealL (~~~ R)) = ones 32 (BitVec.allOnes 32) := by
  obtain ⟨e0, e1, e2, e3⟩ := byteB_sb (~~~ R)
  have b : ∀ j, (byteB (sb (~~~ R) j)).toNat < 2 ^ 8 := fun j => (byteB_small _ (sb_range _ j).1 (sb_range _ j).2).1
  show ones 8 (ones 8 (ones 8 (ones 8 (R ^^^ byteB (sb (~~~ R) 0)) ^^^ byteB (sb (~~~ R) 1)) ^^^ byteB (sb (~~~ R) 2)) ^^^ byteB (sb (~~~ R) 3)) = _
  rw [fold_four _ _ _ _ _ (b 1) (b 2) (b 3), e0, e1, e2, e3, bytes_word]
  congr 1
  apply BitVec.eq_of_getLsbD_eq
  intro i hi
  rw [BitVec.getLsbD_xor, BitVec.getLsbD_not, BitVec.getLsbD_allOnes]
  cases R.getLsbD i <;> simp [hi]
theorem opens_fold (n : Nat) (Z : List Int) (h : opensB n Z = true) : fold (~~~ 0#32) Z = ones 32 (BitVec.allOnes 32) := by
  unfold opensB sameB at h
  simp only [decide_eq_true_eq] at h
  have e : fold (~~~ 0#32) Z = fold (fold (~~~ 0#32) (Z.take n)) (Z.drop n) := by rw [← fold_append, List.take_append_drop]
  rw [e, h]
  exact fold_seal _
/-- A byte is turned. -/
theorem fold_set : ∀ (Z : List Int) (q : Nat) (r x : BitVec 32) (z : Int), q < Z.length → byteB z = byteB (Z.getD q 0) ^^^ x → fold r (Z.set q z) = fold r Z ^^^ ones (8 * (Z.length - q)) x
  | [], _, _, _, _, h, _ => by simp at h
  | c :: t, 0, r, x, z, _, hz => by
    show fold (ones 8 (r ^^^ byteB z)) t = fold (ones 8 (r ^^^ byteB c)) t ^^^ ones (8 * (t.length + 1 - 0)) x
    rw [hz, List.getD_cons_zero, ← BitVec.xor_assoc, ones_xor, BitVec.xor_comm (ones 8 (r ^^^ byteB c)), fold_xor, BitVec.xor_comm, Nat.sub_zero, Nat.mul_succ, Nat.add_comm, ones_add]
  | c :: t, q + 1, r, x, z, h, hz => by
    show fold (ones 8 (r ^^^ byteB c)) (t.set q z) = fold (ones 8 (r ^^^ byteB c)) t ^^^ _
    rw [fold_set t q _ x z (by simpa using h) (by simpa using hz)]
    simp
/-- The remainder 2^i. -/
def bitB (i : Nat) : BitVec 32 := BitVec.ofNat 32 (2 ^ i)
theorem bitB_toNat (i : Nat) (h : i < 32) : (bitB i).toNat = 2 ^ i := by
  unfold bitB
  rw [BitVec.toNat_ofNat, Nat.mod_eq_of_lt]
  exact Nat.pow_lt_pow_right (by omega) h
theorem bitB_bit (i j : Nat) (h : i < 32) : (bitB i).getLsbD j = decide (i = j) := by
  rw [← BitVec.testBit_toNat, bitB_toNat i h, Nat.testBit_two_pow]
theorem ones_bit (i m : Nat) (hi : i < 32) (hm : i ≤ m) : ones m (bitB i) = ones (m - i) 1#32 := by
  have e : bitB i = 1#32 <<< i := by
    apply BitVec.eq_of_getLsbD_eq
    intro j hj
    rw [bitB_bit i j hi, BitVec.getLsbD_shiftLeft, BitVec.getLsbD_one]
    by_cases h : i = j
    · subst h; simp [hj]
    · by_cases g : j < i
      · simp [h, g]
      · have h3 : ¬ j - i = 0 := fun h2 => h (by omega)
        simp [h, g, h3]
  obtain ⟨d, rfl⟩ : ∃ d, m = i + d := ⟨m - i, by omega⟩
  rw [ones_add, e, ones_up i 1 1#32 (by omega) (by decide), Nat.add_sub_cancel_left]
/-- Bit number k is turned: what that does, seen from a place 'first' of the list on. -/
theorem fold_turn (Z : List Int) (first i : Nat) (r : BitVec 32) (z : Int) (hi : i < 32) (hk : first + i < 8 * Z.length) (hz : byteB z = byteB (Z.getD ((first + i) / 8) 0) ^^^ bitB ((first + i) % 8)) :
    fold r (Z.set ((first + i) / 8) z) = fold r Z ^^^ ones (8 * Z.length - first) (bitB i) := by
  rw [fold_set Z _ r _ z (by omega) hz, ones_bit _ _ (by omega) (by omega), ones_bit i _ hi (by omega)]
  congr 2
  omega
theorem bit_new (M : BitVec 32) (i : Nat) (hi : i < 32) (hM : M.toNat < 2 ^ i) : M ^^^ bitB i ≠ 0#32 ∧ (M ^^^ bitB i).toNat < 2 ^ (i + 1) := by
  constructor
  · intro h
    have : (M ^^^ bitB i).getLsbD i = true := by rw [BitVec.getLsbD_xor, small_bit M i hM i (Nat.le_refl _), bitB_bit i i hi]; simp
    rw [h] at this
    simp at this
  · rw [BitVec.toNat_xor, bitB_toNat i hi]
    exact Nat.xor_lt_two_pow (Nat.lt_of_lt_of_le hM (Nat.pow_le_pow_right (by omega) (by omega))) (Nat.pow_lt_pow_right (by omega) (by omega))
/-- Where bits are turned that make up M, it does not open. -/
theorem turned_shut (n : Nat) (Z Z0 : List Int) (N : Nat) (M : BitVec 32) (h0 : opensB n Z0 = true) (h : fold (~~~ 0#32) Z = fold (~~~ 0#32) Z0 ^^^ ones N M) (hM : M ≠ 0#32) : opensB n Z = false := by
  cases ho : opensB n Z
  · rfl
  · rw [opens_fold n Z ho, opens_fold n Z0 h0] at h
    have : ones N M = 0#32 := by
      have e : ones 32 (BitVec.allOnes 32) ^^^ ones 32 (BitVec.allOnes 32) = ones 32 (BitVec.allOnes 32) ^^^ (ones 32 (BitVec.allOnes 32) ^^^ ones N M) := by rw [← h]
      rw [BitVec.xor_self, ← BitVec.xor_assoc, BitVec.xor_self, BitVec.zero_xor] at e
      exact e.symm
    exact absurd (ones_null N M this) hM
/-- What Seal makes, with bits turned. -/
structure Turned (Z0 Z : List Int) (first i : Nat) (tb : Bool) : Prop where
  len : Z.length = Z0.length
  range : ∀ z ∈ Z, 0 ≤ z ∧ z ≤ 255
  said : ∃ M : BitVec 32, M.toNat < 2 ^ i ∧ fold (~~~ 0#32) Z = fold (~~~ 0#32) Z0 ^^^ ones (8 * Z0.length - first) M ∧ (tb = false → M = 0#32 ∧ Z = Z0) ∧ (tb = true → M ≠ 0#32)
theorem Turned.start (Z0 : List Int) (first : Nat) (h : ∀ z ∈ Z0, 0 ≤ z ∧ z ≤ 255) : Turned Z0 Z0 first 0 false :=
  ⟨rfl, h, 0#32, by decide, by rw [ones_zero, BitVec.xor_zero], fun _ => ⟨rfl, rfl⟩, (fun h => nomatch h)⟩
theorem Turned.on {Z0 Z : List Int} {first i : Nat} {tb : Bool} (h : Turned Z0 Z first i tb) : Turned Z0 Z first (i + 1) tb := by
  obtain ⟨M, h1, h2⟩ := h.said
  exact ⟨h.len, h.range, M, by rw [Nat.pow_succ]; omega, h2⟩
theorem Turned.turn {Z0 Z : List Int} {first i : Nat} {tb : Bool} (h : Turned Z0 Z first i tb) (z : Int) (hi : i < 32) (hk : first + i < 8 * Z0.length) (h0 : 0 ≤ z) (h1 : z ≤ 255)
    (hz : byteB z = byteB (Z.getD ((first + i) / 8) 0) ^^^ bitB ((first + i) % 8)) : Turned Z0 (Z.set ((first + i) / 8) z) first (i + 1) true := by
  obtain ⟨M, m1, m2, m3, m4⟩ := h.said
  obtain ⟨n1, n2⟩ := bit_new M i hi m1
  refine ⟨by rw [List.length_set, h.len], fun y hy => ?_, M ^^^ bitB i, n2, ?_, (fun h => nomatch h), fun _ => n1⟩
  · rcases List.mem_or_eq_of_mem_set hy with g | rfl
    · exact h.range y g
    · exact ⟨h0, h1⟩
  · rw [fold_turn Z first i _ z hi (by rw [h.len]; exact hk) hz, m2, h.len, ones_xor, BitVec.xor_assoc]
theorem turn_val (z : Int) (h0 : 0 ≤ z) (h1 : z ≤ 255) (j : Nat) (hj : j < 8) :
    0 ≤ bits .xor .u8 z (2 ^ j % 256) ∧ bits .xor .u8 z (2 ^ j % 256) ≤ 255 ∧ byteB (bits .xor .u8 z (2 ^ j % 256)) = byteB z ^^^ bitB j := by
  obtain ⟨x, rfl⟩ : ∃ x : Nat, z = x := ⟨z.toNat, by omega⟩
  have e2 : ((2 : Int) ^ j % 256) = ((2 ^ j : Nat) : Int) := by
    rcases (show j = 0 ∨ j = 1 ∨ j = 2 ∨ j = 3 ∨ j = 4 ∨ j = 5 ∨ j = 6 ∨ j = 7 by omega) with rfl | rfl | rfl | rfl | rfl | rfl | rfl | rfl <;> decide
  have hp : 2 ^ j < 2 ^ 8 := Nat.pow_lt_pow_right (by omega) hj
  have hx : x ^^^ 2 ^ j < 2 ^ 8 := Nat.xor_lt_two_pow (by omega) hp
  rw [e2]
  have hb := bitB_toNat j (by omega)
  generalize 2 ^ j = y at *
  have m1 : ((x : Int) % ((2 ^ IntKind.u8.bits : Nat) : Int)).toNat = x := by
    show ((x : Int) % 256).toNat = x
    omega
  have m2 : ((y : Int) % ((2 ^ IntKind.u8.bits : Nat) : Int)).toNat = y := by
    show ((y : Int) % 256).toNat = y
    omega
  have e : bits .xor .u8 (x : Int) (y : Int) = ((x ^^^ y : Nat) : Int) := by
    simp only [bits, BitVec.toNat_xor, BitVec.toNat_ofInt, m1, m2]
    rw [IntKind.wrap_u8]
    omega
  rw [e]
  refine ⟨by omega, by omega, ?_⟩
  apply BitVec.eq_of_toNat_eq
  rw [BitVec.toNat_xor, hb]
  unfold byteB
  have q : ∀ v : Nat, v < 256 → (BitVec.ofInt 32 (v : Int)).toNat = v := fun v hv => by
    rw [BitVec.toNat_ofInt]
    show ((v : Int) % 4294967296).toNat = v
    omega
  rw [q _ hx, q x (by omega)]
end Go.Proofs.Ytfiacpbpfdencaa
