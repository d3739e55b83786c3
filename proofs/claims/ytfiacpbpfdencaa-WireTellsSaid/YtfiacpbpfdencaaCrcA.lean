/-
  Own text: what package crc's functions on one remainder answer (step, Step), and the document's.
-/
import Derived.Test.YtfiacpbpfdencaaCrcM
import Derived.Test.YtfiacpbpfdencaaByteA
import Derived.Deep.OwnRows
import Derived.Deep.QuietTactic
import Derived.BigQuiet
import Derived.Outline
namespace Go.Proofs.Ytfiacpbpfdencaa
open Go.RowKit

theorem u32_mod (a : BitVec 32) : ((a.toNat : Int) % ((2 ^ IntKind.u32.bits : Nat) : Int)).toNat = a.toNat := by
  have := a.isLt
  show ((a.toNat : Int) % 4294967296).toNat = a.toNat
  omega
theorem bits_xor (a b : BitVec 32) : bits .xor .u32 (a.toNat : Int) (b.toNat : Int) = ((a ^^^ b).toNat : Int) := by
  have h := (a ^^^ b).isLt
  simp only [bits, BitVec.toNat_xor, BitVec.toNat_ofInt, u32_mod]
  rw [IntKind.wrap_u32, ← BitVec.toNat_xor]
  omega
theorem bits_and (a b : BitVec 32) : bits .and .u32 (a.toNat : Int) (b.toNat : Int) = ((a &&& b).toNat : Int) := by
  have h := (a &&& b).isLt
  simp only [bits, BitVec.toNat_and, BitVec.toNat_ofInt, u32_mod]
  rw [IntKind.wrap_u32, ← BitVec.toNat_and]
  omega
theorem bits_xor' (a b : BitVec 32) (x y : Int) (hx : x = a.toNat) (hy : y = b.toNat) : bits .xor .u32 x y = ((a ^^^ b).toNat : Int) := by subst hx hy; exact bits_xor a b
theorem half (r : BitVec 32) : (r.toNat : Int) / (2 : Int) = ((r >>> 1).toNat : Int) := by
  rw [BitVec.toNat_ushiftRight, Nat.shiftRight_eq_div_pow]; simp
theorem low_bit (r : BitVec 32) : bits .and .u32 (r.toNat : Int) 1 = (r.toNat : Int) % 2 := by
  have := bits_and r 1#32
  rw [show ((1#32).toNat : Int) = 1 from rfl] at this
  rw [this, BitVec.toNat_and, show (1#32).toNat = 1 from rfl, Nat.and_one_is_mod]
  rfl
theorem one_odd (r : BitVec 32) (h : ((r.toNat : Int) % 2 == 1) = true) : bits .xor .u32 ((r.toNat : Int) / 2) 3988292384 = ((one r).toNat : Int) := by
  have hb : r.getLsbD 0 = true := by rw [← BitVec.testBit_toNat, Nat.testBit_zero]; simp at h ⊢; omega
  rw [bits_xor' (r >>> 1) 3988292384#32 _ 3988292384 (half r) rfl]
  unfold one
  rw [hb]; rfl
theorem one_even (r : BitVec 32) (h : ((r.toNat : Int) % 2 == 1) = false) : (r.toNat : Int) / 2 = ((one r).toNat : Int) := by
  have hb : r.getLsbD 0 = false := by rw [← BitVec.testBit_toNat, Nat.testBit_zero]; simp at h ⊢; omega
  rw [half r]
  unfold one
  rw [hb]; simp

theorem step_any (r : BitVec 32) (w : World) :
    Calls Try.prog 40 #[.int .u32 r.toNat] w fun e w' => e = .returned (.int .u32 (one r).toNat) ∧ w = w' := by
  have hr := r.isLt
  have hl := low_bit r
  cases h : ((r.toNat : Int) % 2 == 1)
  · have H := one_even r h
    have HH := Lib.hid H; clear H
    go_enter Try.func40, Try.ntmps40
    go_wp2
    all_goals go_ret
    all_goals exact ⟨ret_int HH.out, rfl⟩
  · have H := one_odd r h
    go_enter Try.func40, Try.ntmps40
    go_wp2
    all_goals go_ret
    all_goals exact ⟨rfl, rfl⟩
theorem rone_any (r : BitVec 32) (w : World) :
    Calls Try.prog 48 #[.int .u32 r.toNat] w fun e w' => e = .returned (.int .u32 (one r).toNat) ∧ w = w' := by
  have hr := r.isLt
  cases h : ((r.toNat : Int) % 2 == 1)
  · have H := one_even r h
    have HH := Lib.hid H; clear H
    go_enter Try.func48, Try.ntmps48
    go_wp2
    all_goals go_ret
    all_goals exact ⟨ret_int HH.out, rfl⟩
  · have H := one_odd r h
    go_enter Try.func48, Try.ntmps48
    go_wp2
    all_goals go_ret
    all_goals exact ⟨rfl, rfl⟩

theorem bstep_any (r b : BitVec 32) (w : World) (hb : b.toNat < 256) :
    Calls Try.prog 26 #[.int .u32 r.toNat, .int .u8 b.toNat] w fun e w' => e = .returned (.int .u32 (ones 8 (r ^^^ b)).toNat) ∧ w = w' := by
  have H := bits_xor r b
  go_enter Try.func26, Try.ntmps26
  go_wp2
  go_loop [0, 9] (fun v i => ∃ k : Nat, k ≤ 8 ∧ i = .int .i64 k ∧ v = .int .u32 (ones k (r ^^^ b)).toNat) (fun _ i => 8 - (intOf i).toNat)
  case atStart => exact ⟨0, by omega, rfl, rfl⟩
  case round =>
    obtain ⟨k, hk, rfl, rfl⟩ := hrel
    by_cases hlt : k < 8
    · go_wp2_with (go_at_call 40; refine (step_any _ _).mono ?_; rintro e w' ⟨rfl, rfl⟩)
      go_round
      case rel => exact ⟨k + 1, by omega, by go_num, by rw [ones_succ]⟩
      case measure => simp [intOf]; omega
    · obtain rfl : k = 8 := by omega
      go_wp2
      go_ret
      exact ⟨rfl, rfl⟩
theorem rstep_any (r b : BitVec 32) (w : World) (hb : b.toNat < 256) :
    Calls Try.prog 46 #[.int .u32 r.toNat, .int .u8 b.toNat] w fun e w' => e = .returned (.int .u32 (ones 8 (r ^^^ b)).toNat) ∧ w = w' := by
  have H := bits_xor r b
  go_enter Try.func46, Try.ntmps46
  go_wp2
  go_loop [0, 5] (fun v i => ∃ k : Nat, k ≤ 8 ∧ i = .int .i64 k ∧ v = .int .u32 (ones k (r ^^^ b)).toNat) (fun _ i => 8 - (intOf i).toNat)
  case atStart => exact ⟨0, by omega, rfl, rfl⟩
  case round =>
    obtain ⟨k, hk, rfl, rfl⟩ := hrel
    by_cases hlt : k < 8
    · go_wp2_with (go_at_call 48; refine (rone_any _ _).mono ?_; rintro e w' ⟨rfl, rfl⟩)
      go_round
      case rel => exact ⟨k + 1, by omega, by go_num, by rw [ones_succ]⟩
      case measure => simp [intOf]; omega
    · obtain rfl : k = 8 := by omega
      go_wp2
      go_ret
      exact ⟨rfl, rfl⟩
end Go.Proofs.Ytfiacpbpfdencaa
