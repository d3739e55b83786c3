/-
  Own text: Clamp, Has, Holes, awake, walked.
-/
import Derived.Test.YtopnceniihgkpaaSqD
namespace Go.Proofs.Ytopnceniihgkpaa
open Go.RowKit

theorem and_bit_all (b : BitVec 64) (d : Nat) : ((bits .and .u64 (b.toNat : Int) ((1#64 <<< d).toNat : Int)) != 0) = b.getLsbD d := by
  by_cases h : d < 64
  · exact and_bit b d h
  · have e : (1#64 <<< d).toNat = 0 := by
      have := bit_is d
      rw [decide_eq_true (by omega)] at this
      have := beq_iff_eq.1 this
      omega
    rw [e, BitVec.getLsbD_of_ge _ _ (by omega)]
    have := and64 b.toNat 0 b.isLt (by omega)
    rw [Nat.and_zero] at this
    rw [this]
    rfl
/-- Held within 0 and 64. -/
def upto64 (n : Int) : Nat := (min n 64).toNat
theorem clamp8_any (n : Int) (h0 : -9223372036854775808 ≤ n) (h1 : n ≤ 9223372036854775807) (w : World) :
    Calls Try.prog 29 #[.int .i64 n, .int .i64 0, .int .i64 64] w fun e w' => e = .returned (.int .i64 (upto64 n)) ∧ w = w' := by
  have hu : (n < 0 → upto64 n = 0) ∧ (0 ≤ n → n ≤ 64 → (upto64 n : Int) = n) ∧ (64 < n → upto64 n = 64) := by unfold upto64; omega
  have HU := Lib.hid hu
  clear hu
  by_cases h : n < 0
  · rw [HU.out.1 h]
    go_enter Try.func29, Try.ntmps29
    go_wp2
    go_ret
    exact ⟨rfl, rfl⟩
  · by_cases h2 : n ≤ 64
    · rw [HU.out.2.1 (by omega) h2]
      go_enter Try.func29, Try.ntmps29
      go_wp2
      go_ret
      exact ⟨rfl, rfl⟩
    · rw [HU.out.2.2 (by omega)]
      go_enter Try.func29, Try.ntmps29
      go_wp2
      go_ret
      exact ⟨rfl, rfl⟩
theorem holes_pop (g : BitVec 64) (c : Nat) (hc : c ≤ 64) : pop (g <<< (64 - c)).toNat = cnt g.getLsbD c := by
  have hs : ∀ p : Nat → Bool, cnt p 64 = cnt p (64 - c) + cnt (fun i => p (i + (64 - c))) c := fun p => by rw [← cnt_add]; congr 1; omega
  rw [pop_bv, hs]
  have h1 : cnt (g <<< (64 - c)).getLsbD (64 - c) = 0 := cnt_none (fun i hi => by simp [hi])
  rw [h1, Nat.zero_add]
  apply cnt_congr
  intro i hi
  have h2 : i + (64 - c) < 64 := by omega
  have h3 : ¬ i + (64 - c) < 64 - c := by omega
  rw [BitVec.getLsbD_shiftLeft]
  simp [h2]
end Go.Proofs.Ytopnceniihgkpaa
