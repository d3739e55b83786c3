/-
  Own text: the law WordGets, walked.
-/
import Derived.Test.YtjcbcdjfhcnhcaaByteA
namespace Go.Proofs.Ytjcbcdjfhcnhcaa
open Go.RowKit

/-- The word of some bytes, the highest first. -/
def wordOf (l : List Int) : Int := l.foldl (fun w b => w * 256 + b) 0
theorem wordOf_snoc (zs : List Int) (k : Nat) (h : k < zs.length) : wordOf (zs.take (k + 1)) = wordOf (zs.take k) * 256 + zs.getD k 0 := by
  unfold wordOf
  rw [List.take_succ_eq_append_getElem h, List.foldl_append, List.getD_eq_getElem?_getD, List.getElem?_eq_getElem h]
  rfl
theorem wordOf_bound (zs : List Int) (len : Nat) (hl : len ≤ zs.length) (hz : ∀ i, i < len → 0 ≤ zs.getD i 0 ∧ zs.getD i 0 ≤ 255) : ∀ k, k ≤ len → 0 ≤ wordOf (zs.take k) ∧ wordOf (zs.take k) < 256 ^ k
  | 0, _ => by simp [wordOf]
  | k + 1, h => by
    have ih := wordOf_bound zs len hl hz k (by omega)
    have hb := hz k (by omega)
    rw [wordOf_snoc zs k (by omega), Int.pow_succ]
    omega
theorem wordOf_step {w : World} {b off len cap : Nat} {zs : List Int} (h : RowAt .u8 w b off len cap zs) (k : Nat) (hk : k < len) (h8 : k < 8) :
    0 ≤ wordOf (zs.take k) ∧ wordOf (zs.take k) ≤ 72057594037927935 ∧ 0 ≤ zs.getD k 0 ∧ zs.getD k 0 ≤ 255 ∧ wordOf (zs.take (k + 1)) = wordOf (zs.take k) * 256 + zs.getD k 0 := by
  have hs := h.size
  have hle := h.le
  have hz : ∀ i, i < len → 0 ≤ zs.getD i 0 ∧ zs.getD i 0 ≤ 255 := fun i hi => by
    have := h.wf i hi
    simp [Lit.wf, IntKind.min, IntKind.max, IntKind.bits, IntKind.signed] at this
    simpa using this
  obtain ⟨a, c⟩ := wordOf_bound zs len (by omega) hz k (by omega)
  refine ⟨a, ?_, (hz k hk).1, (hz k hk).2, wordOf_snoc zs k (by omega)⟩
  have : (256 : Int) ^ k ≤ 72057594037927936 := by
    rcases (show k = 0 ∨ k = 1 ∨ k = 2 ∨ k = 3 ∨ k = 4 ∨ k = 5 ∨ k = 6 ∨ k = 7 by omega) with rfl | rfl | rfl | rfl | rfl | rfl | rfl | rfl <;> decide
  omega

theorem rget_any (b off len cap : Nat) (zs : List Int) (w : World) (h : RowAt .u8 w b off len cap zs) :
    Calls Try.prog 74 #[.slice (some ⟨b, off, none⟩) len cap] w fun e w' => e = .returned (.int .u64 (wordOf (zs.take (min len 8)))) ∧ w = w' := by
  have hm : len ≤ 9223372036854775807 := by have := h.le; have := h.max; omega
  go_enter Try.func74, Try.ntmps74
  go_wp2
  go_loop [3, 4] (fun v i => ∃ k : Nat, k ≤ len ∧ k ≤ 8 ∧ i = .int .i64 k ∧ v = .int .u64 (wordOf (zs.take k))) (fun _ i => len - (intOf i).toNat)
  case atStart => exact ⟨0, by omega, by omega, rfl, rfl⟩
  case round =>
    obtain ⟨k, hk, hk8, rfl, rfl⟩ := hrel
    by_cases hlt : k < len ∧ k < 8
    · obtain ⟨h1, h2⟩ := hlt
      have c := h.cell k h1
      go_wp2
      go_round
      case rel =>
        refine ⟨k + 1, by omega, by omega, by go_num, congrArg _ ?_⟩
        obtain ⟨a1, a2, a3, a4, a5⟩ := wordOf_step h k h1 h2
        rw [a5, IntKind.wrap_u64, IntKind.wrap_u64, IntKind.wrap_u64, ← List.getD_eq_getElem?_getD]
        omega
      case measure => simp [intOf]; omega
    · by_cases h1 : k < len
      · have h2 : ¬ k < 8 := by omega
        go_wp2
        go_ret
        exact ⟨ret_int (by rw [show min len 8 = k by omega]), rfl⟩
      · go_wp2
        go_ret
        exact ⟨ret_int (by rw [show min len 8 = k by omega]), rfl⟩

theorem or_byte (W b : Int) (h0 : 0 ≤ W) (h1 : W ≤ 72057594037927935) (h2 : 0 ≤ b) (h3 : b ≤ 255) : bits .or .u64 (W * 256) b = W * 256 + b := by
  obtain ⟨X, rfl⟩ : ∃ X : Nat, W = X := ⟨W.toNat, by omega⟩
  obtain ⟨Y, rfl⟩ : ∃ Y : Nat, b = Y := ⟨b.toNat, by omega⟩
  have m1 : (((X : Int) * 256) % ((2 ^ IntKind.u64.bits : Nat) : Int)).toNat = X * 256 := by
    show (((X : Int) * 256) % 18446744073709551616).toNat = X * 256
    omega
  have m2 : ((Y : Int) % ((2 ^ IntKind.u64.bits : Nat) : Int)).toNat = Y := by
    show ((Y : Int) % 18446744073709551616).toNat = Y
    omega
  have o : X * 256 ||| Y = X * 256 + Y := by
    rw [show X * 256 = X <<< 8 from (Nat.shiftLeft_eq X 8).symm, ← Nat.shiftLeft_add_eq_or_of_lt (by omega)]
  simp only [bits, BitVec.toNat_or, BitVec.toNat_ofInt, m1, m2, o]
  rw [IntKind.wrap_u64]
  omega

theorem get_any (b off len cap : Nat) (zs : List Int) (w : World) (h : RowAt .u8 w b off len cap zs) (hl : 0 < len) :
    Calls Try.prog 96 #[.slice (some ⟨b, off, none⟩) len cap] w fun e w' => e = .returned (.int .u64 (wordOf (zs.take (min len 8)))) ∧ w = w' := by
  have hc := h.max
  have hle := h.le
  by_cases h8 : len ≤ 8
  · go_enter Try.func96, Try.ntmps96
    go_wp2
    go_loop [3, 12] (fun v i => ∃ k : Nat, k ≤ len ∧ i = .int .i64 k ∧ v = .int .u64 (wordOf (zs.take k))) (fun _ i => len - (intOf i).toNat)
    case atStart => exact ⟨0, by omega, rfl, rfl⟩
    case round =>
      obtain ⟨k, hk, rfl, rfl⟩ := hrel
      by_cases h1 : k < len
      · have c := h.cell k (by omega)
        obtain ⟨a1, a2, a3, a4, a5⟩ := wordOf_step h k (by omega) (by omega)
        have A5 := Lib.hid a5
        have o := or_byte _ _ a1 a2 a3 a4
        rw [List.getD_eq_getElem?_getD] at c o a3 a4
        have A4 := Lib.hid o
        clear a5 o
        go_wp2
        go_round
        case rel =>
          refine ⟨k + 1, by omega, by go_num, congrArg _ ?_⟩
          rw [A5.out, A4.out, List.getD_eq_getElem?_getD]
        case measure => simp [intOf]; omega
      · obtain rfl : k = len := by omega
        clear hk h1
        go_wp2
        go_ret
        exact ⟨ret_int (by first | rfl | (rw [show min len 8 = 8 by omega])), rfl⟩
  · have e8 : max (8 : Int) 0 = 8 := by decide
    go_enter Try.func96, Try.ntmps96
    go_wp2
    clear e8
    go_loop [3, 12] (fun v i => ∃ k : Nat, k ≤ 8 ∧ i = .int .i64 k ∧ v = .int .u64 (wordOf (zs.take k))) (fun _ i => 8 - (intOf i).toNat)
    case atStart => exact ⟨0, by omega, rfl, rfl⟩
    case round =>
      obtain ⟨k, hk, rfl, rfl⟩ := hrel
      by_cases h1 : k < 8
      · have c := h.cell k (by omega)
        obtain ⟨a1, a2, a3, a4, a5⟩ := wordOf_step h k (by omega) (by omega)
        have A5 := Lib.hid a5
        have o := or_byte _ _ a1 a2 a3 a4
        rw [List.getD_eq_getElem?_getD] at c o a3 a4
        have A4 := Lib.hid o
        clear a5 o
        go_wp2
        go_round
        case rel =>
          refine ⟨k + 1, by omega, by go_num, congrArg _ ?_⟩
          rw [A5.out, A4.out, List.getD_eq_getElem?_getD]
        case measure => simp [intOf]; omega
      · obtain rfl : k = 8 := by omega
        clear hk h1
        go_wp2
        go_ret
        exact ⟨ret_int (by first | rfl | (rw [show min len 8 = 8 by omega])), rfl⟩

theorem get_zero (a : Option Addr) (cap : Nat) (w : World) :
    Calls Try.prog 96 #[.slice a 0 cap] w fun e w' => e = .returned (.int .u64 0) ∧ w = w' := by
  go_enter Try.func96, Try.ntmps96
  go_wp2
  refine wp_loop_rounds 1 ?_
  rw [rounds_succ]
  go_wp2
  go_ret
  exact ⟨rfl, rfl⟩
theorem rget_zero (a : Option Addr) (cap : Nat) (w : World) :
    Calls Try.prog 74 #[.slice a 0 cap] w fun e w' => e = .returned (.int .u64 0) ∧ w = w' := by
  go_enter Try.func74, Try.ntmps74
  go_wp2
  refine wp_loop_rounds 1 ?_
  rw [rounds_succ]
  go_wp2
  go_ret
  exact ⟨rfl, rfl⟩

end Go.Proofs.Ytjcbcdjfhcnhcaa
