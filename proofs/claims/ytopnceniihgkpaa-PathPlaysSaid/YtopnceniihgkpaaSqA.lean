/-
  Own text: words of 64 bits: and, or, shifts; math/bits.OnesCount64, walked.
-/
import Derived.Test.YtopnceniihgkpaaSqM
import Derived.StillTailTactics
namespace Go.Proofs.Ytopnceniihgkpaa
open Go.RowKit

theorem u64_mod (a : Nat) (h : a < 18446744073709551616) : ((a : Int) % ((2 ^ IntKind.u64.bits : Nat) : Int)).toNat = a := by
  show ((a : Int) % 18446744073709551616).toNat = a
  omega
theorem and64 (a b : Nat) (ha : a < 18446744073709551616) (hb : b < 18446744073709551616) : bits .and .u64 (a : Int) (b : Int) = ((a &&& b : Nat) : Int) := by
  have h : a &&& b < 2 ^ 64 := Nat.and_lt_two_pow _ hb
  simp only [bits, BitVec.toNat_and, BitVec.toNat_ofInt, u64_mod a ha, u64_mod b hb]
  rw [IntKind.wrap_u64]
  omega
theorem or64 (a b : Nat) (ha : a < 18446744073709551616) (hb : b < 18446744073709551616) : bits .or .u64 (a : Int) (b : Int) = ((a ||| b : Nat) : Int) := by
  have h : a ||| b < 2 ^ 64 := Nat.or_lt_two_pow ha hb
  simp only [bits, BitVec.toNat_or, BitVec.toNat_ofInt, u64_mod a ha, u64_mod b hb]
  rw [IntKind.wrap_u64]
  omega
theorem and64i (a b : Int) (x y : Nat) (hx : a = x) (hy : b = y) (ha : x < 18446744073709551616) (hb : y < 18446744073709551616) : bits .and .u64 a b = ((x &&& y : Nat) : Int) := by
  subst hx hy; exact and64 x y ha hb
theorem and127 (v : Int) (x : Nat) (hx : v = x) (h : x < 9223372036854775808) : bits .and .i64 v 127 = ((x % 128 : Nat) : Int) := by
  subst hx
  have m1 : ((x : Int) % ((2 ^ IntKind.i64.bits : Nat) : Int)).toNat = x := by
    show ((x : Int) % 18446744073709551616).toNat = x
    omega
  have m2 : ((127 : Int) % ((2 ^ IntKind.i64.bits : Nat) : Int)).toNat = 2 ^ 7 - 1 := rfl
  simp only [bits, BitVec.toNat_and, BitVec.toNat_ofInt, m1, m2, Nat.and_two_pow_sub_one_eq_mod]
  rw [IntKind.wrap_i64]
  omega
theorem ones_any (x : Nat) (hx : x < 18446744073709551616) (w : World) :
    Calls Try.prog 52 #[.int .u64 x] w fun e w' => e = .returned (.int .i64 (pop x)) ∧ w = w' := by
  obtain ⟨z, hz, hzb, hp⟩ := pop_swar x
  have ha1 : x / 2 &&& mk8 0x55 8 < 2 ^ 63 := Nat.and_lt_two_pow _ (by decide)
  have ha2 : x &&& mk8 0x55 8 < 2 ^ 63 := Nat.and_lt_two_pow _ (by decide)
  have e1 : bits .and .u64 ((x : Int) / 2) 6148914691236517205 = ((x / 2 &&& mk8 0x55 8 : Nat) : Int) := and64i _ _ _ _ (by omega) (by decide) (by omega) (by decide)
  have e2 : bits .and .u64 (x : Int) 6148914691236517205 = ((x &&& mk8 0x55 8 : Nat) : Int) := and64i _ _ _ _ (by omega) (by decide) (by omega) (by decide)
  obtain ⟨y, hy⟩ : ∃ y, y = g1 8 x := ⟨_, rfl⟩
  have hy1 : y = (x / 2 &&& mk8 0x55 8) + (x &&& mk8 0x55 8) := hy
  generalize x / 2 &&& mk8 0x55 8 = a1 at *
  generalize x &&& mk8 0x55 8 = a2 at *
  have hb1 : y / 4 &&& mk8 0x33 8 < 2 ^ 62 := Nat.and_lt_two_pow _ (by decide)
  have hb2 : y &&& mk8 0x33 8 < 2 ^ 62 := Nat.and_lt_two_pow _ (by decide)
  have e3 : bits .and .u64 (((a1 : Int) + a2) / 4) 3689348814741910323 = ((y / 4 &&& mk8 0x33 8 : Nat) : Int) := and64i _ _ _ _ (by omega) (by decide) (by omega) (by decide)
  have e4 : bits .and .u64 ((a1 : Int) + a2) 3689348814741910323 = ((y &&& mk8 0x33 8 : Nat) : Int) := and64i _ _ _ _ (by omega) (by decide) (by omega) (by decide)
  obtain ⟨u, hu⟩ : ∃ u, u = g2 8 y := ⟨_, rfl⟩
  have hu1 : u = (y / 4 &&& mk8 0x33 8) + (y &&& mk8 0x33 8) := hu
  generalize y / 4 &&& mk8 0x33 8 = b1 at *
  generalize y &&& mk8 0x33 8 = b2 at *
  have e5 : bits .and .u64 (((b1 : Int) + b2) / 16 + ((b1 : Int) + b2)) 1085102592571150095 = (z : Int) := by
    rw [and64i _ _ (u / 16 + u) (mk8 0x0f 8) (by omega) (by decide) (by omega) (by decide), ← hz]
    unfold pp g3
    rw [← hy, ← hu]
  have hl := pop_le x
  generalize pop x = p at *
  clear hz hu hy hu1 hy1
  go_enter Try.func52, Try.ntmps52
  go_wp2
  go_ret
  refine ⟨ret_int ?_, rfl⟩
  rw [and127 _ (z + z / 256 + (z + z / 256) / 65536 + (z + z / 256 + (z + z / 256) / 65536) / 4294967296) (by omega) (by omega)]
  omega
end Go.Proofs.Ytopnceniihgkpaa
