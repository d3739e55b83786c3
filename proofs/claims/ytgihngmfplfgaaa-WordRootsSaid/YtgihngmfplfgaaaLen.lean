/-
  Own text: bits.Len64 tells how many bits a word needs: the library's own Go text, walked. (By the elder walk: this text does not import the kit of the newer one.)
-/
import Derived.Test.YtgihngmfplfgaaaChecked
import Derived.Lib.Walk
import Derived.Lib.BitFns
namespace Go.Proofs.Ytgihngmfplfgaaa

/-- A word's bits: k of them, and those of its highest byte. -/
theorem len_part (x y : Int) (k p : Nat) (hp : p = 2 ^ k) (h0 : 0 ≤ y) (h1 : y ≤ 255) (e : y.toNat = x.toNat / p) (hk : k ≤ 56) (hx : x.toNat < 18446744073709551616) (h : k = 0 ∨ p ≤ x.toNat) :
    Lib.len8 y = (Lib.bitLen y.toNat : Int) ∧ (Lib.bitLen x.toNat : Int) = k + Lib.bitLen y.toNat ∧ Lib.bitLen y.toNat ≤ 8 := by
  subst hp
  refine ⟨Lib.len8_of y h0 h1, ?_, Lib.bitLen_le8' y h0 h1⟩
  rcases h with h | h
  · subst h
    rw [e]; simp
  · rw [Lib.bitLen_shift k x.toNat h hx, e]
    omega

set_option maxHeartbeats 4000000 in
set_option maxRecDepth 100000 in
theorem len64_any (x : Int) (w : World) (hx0 : 0 ≤ x) (hx : x ≤ 18446744073709551615) :
    Calls Try.prog 46 #[.int .u64 x] w fun e w' => e = .returned (.int .i64 (Lib.bitLen x.toNat)) ∧ w' = w := by
  go_enter Try.func46, Try.ntmps46
  go_wp2
  all_goals go_ret
  all_goals refine ⟨congrArg Ending.returned (congrArg (Value.int IntKind.i64) ?_), rfl⟩
  · obtain ⟨a, b, c⟩ := len_part x (x / 4294967296 / 65536 / 256 % 256) 56 72057594037927936 rfl (by omega) (by omega) (by omega) (by omega) (by omega) (by omega)
    rw [a]; omega
  · obtain ⟨a, b, c⟩ := len_part x (x / 4294967296 / 65536 % 256) 48 281474976710656 rfl (by omega) (by omega) (by omega) (by omega) (by omega) (by omega)
    rw [a]; omega
  · obtain ⟨a, b, c⟩ := len_part x (x / 4294967296 / 256 % 256) 40 1099511627776 rfl (by omega) (by omega) (by omega) (by omega) (by omega) (by omega)
    rw [a]; omega
  · obtain ⟨a, b, c⟩ := len_part x (x / 4294967296 % 256) 32 4294967296 rfl (by omega) (by omega) (by omega) (by omega) (by omega) (by omega)
    rw [a]; omega
  · obtain ⟨a, b, c⟩ := len_part x (x / 65536 / 256 % 256) 24 16777216 rfl (by omega) (by omega) (by omega) (by omega) (by omega) (by omega)
    rw [a]; omega
  · obtain ⟨a, b, c⟩ := len_part x (x / 65536 % 256) 16 65536 rfl (by omega) (by omega) (by omega) (by omega) (by omega) (by omega)
    rw [a]; omega
  · obtain ⟨a, b, c⟩ := len_part x (x / 256 % 256) 8 256 rfl (by omega) (by omega) (by omega) (by omega) (by omega) (by omega)
    rw [a]; omega
  · obtain ⟨a, b, c⟩ := len_part x (x % 256) 0 1 rfl (by omega) (by omega) (by omega) (by omega) (by omega) (by omega)
    rw [a]; omega
end Go.Proofs.Ytgihngmfplfgaaa
