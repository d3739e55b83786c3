/-
  Own text: the document's product, walked.
-/
import Derived.Test.YtipaolkgafhliaaGfC
namespace Go.Proofs.Ytipaolkgafhliaa
open Go.RowKit

theorem acc_lt (a b : Nat) (ha : a < 256) : ∀ k, k ≤ 8 → acc a b k < 2 ^ 15
  | 0, _ => by unfold acc; omega
  | k + 1, hk => by
    unfold acc
    have ih := acc_lt a b ha k (by omega)
    split
    · refine Nat.xor_lt_two_pow ih ?_
      rw [Nat.shiftLeft_eq]
      have : 2 ^ k ≤ 2 ^ 7 := Nat.pow_le_pow_right (by omega) (by omega)
      have h2 : a * 2 ^ k ≤ a * 2 ^ 7 := Nat.mul_le_mul_left _ this
      omega
    · exact ih
theorem rst_clear (n k : Nat) (hn : n < 2 ^ (k + 9)) (h : n.testBit (k + 8) = true) : n ^^^ (285 <<< k) < 2 ^ (k + 8) := by
  refine Nat.lt_pow_two_of_testBit _ fun i hi => ?_
  rw [Nat.testBit_xor, Nat.testBit_shiftLeft]
  by_cases e : i = k + 8
  · subst e; rw [h, show k + 8 - k = 8 by omega]; simp; decide
  · have h1 : n.testBit i = false := Nat.testBit_lt_two_pow (Nat.lt_of_lt_of_le hn (Nat.pow_le_pow_right (by omega) (by omega)))
    have h2 : (285 : Nat).testBit (i - k) = false := Nat.testBit_lt_two_pow (Nat.lt_of_lt_of_le (show 285 < 2 ^ 9 by omega) (Nat.pow_le_pow_right (by omega) (by omega)))
    rw [h1, h2]; simp
theorem rst_keep (n k : Nat) (hn : n < 2 ^ (k + 9)) (h : n.testBit (k + 8) = false) : n < 2 ^ (k + 8) := by
  refine Nat.lt_pow_two_of_testBit _ fun i hi => ?_
  by_cases e : i = k + 8
  · subst e; exact h
  · exact Nat.testBit_lt_two_pow (Nat.lt_of_lt_of_le hn (Nat.pow_le_pow_right (by omega) (by omega)))
theorem rst_lt (n : Nat) (hn : n < 2 ^ 15) : ∀ j, j ≤ 7 → rst n j < 2 ^ (15 - j)
  | 0, _ => hn
  | j + 1, hj => by
    have ih := rst_lt n hn j (by omega)
    unfold rst
    rw [show 15 - j = (6 - j) + 9 by omega] at ih
    rw [show 14 - j = (6 - j) + 8 by omega, show 15 - (j + 1) = (6 - j) + 8 by omega]
    split
    · rename_i h; exact rst_clear _ _ ih h
    · rename_i h; exact rst_keep _ _ ih (by simpa using h)
theorem bit_test (b k : Nat) : (((b : Int) / 2 ^ k).tmod 2 == 1) = b.testBit k := by
  have e : (b : Int) / 2 ^ k = ((b / 2 ^ k : Nat) : Int) := by simp
  rw [e, Nat.testBit_eq_decide_div_mod_eq, Int.tmod_eq_emod_of_nonneg (Int.natCast_nonneg _), Bool.eq_iff_iff]
  simp only [beq_iff_eq, decide_eq_true_eq]
  omega
theorem shl_small (a k : Nat) (ha : a < 512) (hk : k < 8) : wrap64 ((a : Int) * 2 ^ k) = ((a <<< k : Nat) : Int) := by
  have e : (a : Int) * 2 ^ k = ((a <<< k : Nat) : Int) := by rw [Nat.shiftLeft_eq]; simp
  have h : a <<< k < 65536 := by
    rw [Nat.shiftLeft_eq]
    have : 2 ^ k ≤ 2 ^ 7 := Nat.pow_le_pow_right (by omega) (by omega)
    have h2 : a * 2 ^ k ≤ a * 2 ^ 7 := Nat.mul_le_mul_left _ this
    omega
  rw [e]
  generalize a <<< k = s at *
  unfold wrap64
  omega
theorem shl_lt (a k : Nat) (ha : a < 512) (hk : k < 8) : a <<< k < 65536 := by
    rw [Nat.shiftLeft_eq]
    have : 2 ^ k ≤ 2 ^ 7 := Nat.pow_le_pow_right (by omega) (by omega)
    have h2 : a * 2 ^ k ≤ a * 2 ^ 7 := Nat.mul_le_mul_left _ this
    omega
theorem rst_down (N q : Nat) (hq : q < 7) : rst N (7 - q) = if (rst N (6 - q)).testBit (q + 8) then rst N (6 - q) ^^^ (285 <<< q) else rst N (6 - q) := by
  rw [show 7 - q = (6 - q) + 1 by omega]
  conv => lhs; unfold rst
  rw [show 14 - (6 - q) = q + 8 by omega, show 6 - (6 - q) = q by omega]
set_option maxRecDepth 100000 in
theorem rmul_any (a b : Nat) (ha : a < 256) (hb : b < 256) (w : World) :
    Calls Try.prog 34 #[.int .u8 a, .int .u8 b] w fun e w' => e = .returned (.int .u8 (gm a b)) ∧ w = w' := by
  have HG := Lib.hid (show gm a b = rst (acc a b 8) 7 from rfl)
  have HL := Lib.hid (fun j hj => rst_lt (acc a b 8) (acc_lt a b ha 8 (by omega)) j hj)
  have HD := Lib.hid (fun q hq => rst_down (acc a b 8) q hq)
  have hg := gm_lt ha hb
  generalize gm a b = g at *
  go_enter Try.func34, Try.ntmps34
  go_wp2
  go_loop [5, 6] (fun n i => ∃ k : Nat, k ≤ 8 ∧ i = .int .i64 k ∧ n = .int .i64 (acc a b k)) (fun _ i => 8 - (intOf i).toNat)
  case atStart => exact ⟨0, by omega, rfl, rfl⟩
  case round =>
    obtain ⟨k, hk, rfl, rfl⟩ := hrel
    by_cases hlt : k < 8
    · have k0 : (0 : Int) ≤ k := by omega
      have k1 : (k : Int) < 8 := by omega
      have l1 := acc_lt a b ha k hk
      have bt := bit_test b k
      have s1 := shl_small a k (by omega) hlt
      have s2 := bits_i64 (acc a b k) (a <<< k) (by omega) (shl_lt a k (by omega) hlt)
      have HA := Lib.hid (show acc a b (k + 1) = if b.testBit k then acc a b k ^^^ (a <<< k) else acc a b k from rfl)
      generalize a <<< k = s at *
      generalize acc a b k = n at *
      cases hb : b.testBit k
      all_goals
        rw [hb] at bt
        have HB := Lib.hid hb
        clear hb
        go_wp2
        go_round
        case rel => exact ⟨k + 1, by omega, by go_num, by rw [HA.out, HB.out]; rfl⟩
        case measure => simp [intOf]; omega
    · obtain rfl : k = 8 := by omega
      generalize acc a b 8 = N at *
      go_wp2
      go_loop [5, 7] (fun n i => ∃ m : Nat, m ≤ 7 ∧ i = .int .i64 ((m : Int) + 7) ∧ n = .int .i64 (rst N (7 - m))) (fun _ i => (intOf i).toNat)
      case atStart => exact ⟨7, by omega, rfl, rfl⟩
      case round =>
        obtain ⟨m, hm, rfl, rfl⟩ := hrel
        by_cases hlt : 0 < m
        · obtain ⟨q, rfl⟩ : ∃ q, m = q + 1 := ⟨m - 1, by omega⟩
          rw [show ((q + 1 : Nat) : Int) + 7 = (q : Int) + 8 by omega, show 7 - (q + 1) = 6 - q by omega]
          have q0 : (0 : Int) ≤ q := by omega
          have q1 : (q : Int) < 7 := by omega
          have l1 : rst N (6 - q) < 32768 := Nat.lt_of_lt_of_le (HL.out (6 - q) (by omega)) (show 2 ^ (15 - (6 - q)) ≤ 2 ^ 15 from Nat.pow_le_pow_right (by omega) (by omega))
          have bt := bit_test (rst N (6 - q)) (q + 8)
          have s1 : wrap64 ((285 : Int) * 2 ^ q) = ((285 <<< q : Nat) : Int) := shl_small 285 q (by omega) (by omega)
          have s2 := bits_i64 (rst N (6 - q)) (285 <<< q) (by omega) (shl_lt 285 q (by omega) (by omega))
          have HA := Lib.hid (HD.out q (by omega))
          generalize 285 <<< q = s at *
          generalize rst N (6 - q) = n at *
          have t1 : ((q : Int) + 8).toNat = q + 8 := by omega
          cases hb : n.testBit (q + 8)
          all_goals
            rw [hb] at bt
            have HB := Lib.hid hb
            clear hb
            go_wp2
            go_round
            case rel => exact ⟨q, by omega, by first | rfl | go_num | (congr 1; omega), by rw [HA.out, HB.out]; rfl⟩
            case measure => simp [intOf]; omega
        · obtain rfl : m = 0 := by omega
          have l1 : rst N 7 < 256 := HL.out 7 (by omega)
          rw [← HG.out] at l1
          go_wp2
          go_ret
          exact ⟨ret_int (by have h := l1; rw [HG.out] at h ⊢; omega), rfl⟩
end Go.Proofs.Ytipaolkgafhliaa
