/-
  Own text: Sum, the document's More, and that the page's example holds ('awake').
-/
import Derived.Test.YtfiacpbpfdencaaCrcB
import Derived.Lib.SlBytesConst
namespace Go.Proofs.Ytfiacpbpfdencaa
open Go.RowKit

/-- The sum of bytes. -/
def sumB (l : List Int) : BitVec 32 := more 0#32 l
theorem sum_any (t : Nat) (a : Option Addr) (len cap : Nat) (l : List Int) (w : World) (ht : IsTab w t) (hl : Bytes w a len l) :
    Calls Try.prog 39 #[.pointer (some ⟨t, 0, none⟩), .slice a len cap] w fun e w' => e = .returned (.int .u32 (sumB l).toNat) ∧ w = w' := by
  have c := more_any t 0#32 a len cap l w ht hl
  rw [show ((0#32).toNat : Int) = 0 from rfl, show more 0#32 l = sumB l from rfl] at c
  generalize sumB l = s at *
  go_enter Try.func39, Try.ntmps39
  go_wp2_with (go_at_call 47; refine c.mono ?_; rintro e w' ⟨rfl, rfl⟩)
  go_ret
  exact ⟨rfl, rfl⟩

set_option maxRecDepth 100000 in
theorem rmore_any (s : BitVec 32) (a : Option Addr) (len cap : Nat) (l : List Int) (w : World) (hl : Bytes w a len l) :
    Calls Try.prog 34 #[.int .u32 s.toNat, .slice a len cap] w fun e w' => e = .returned (.int .u32 (more s l).toNat) ∧ w = w' := by
  have hm := hl.max
  have n1 := bits_not s
  obtain ⟨ns, hns⟩ : ∃ ns, ns = ~~~ s := ⟨_, rfl⟩
  obtain ⟨m, hm2⟩ : ∃ m, m = more s l := ⟨_, rfl⟩
  have HM : Hid (∀ f, f = fold ns l → m = ~~~ f) := Lib.hid (fun f e => by rw [hm2, e, hns]; rfl)
  rw [← hm2]
  clear hm2
  rw [← hns] at n1
  have HN := Lib.hid hns
  clear hns
  go_enter Try.func34, Try.ntmps34
  go_wp2
  clear n1
  go_loop [5, 6] (fun v i => ∃ k : Nat, k ≤ len ∧ i = .int .i64 k ∧ v = .int .u32 (fold ns (l.take k)).toNat) (fun _ i => len - (intOf i).toNat)
  case atStart => exact ⟨0, by omega, rfl, rfl⟩
  case round =>
    obtain ⟨k, hk, rfl, rfl⟩ := hrel
    by_cases hlt : k < len
    · obtain ⟨b, off, rfl, c⟩ : ∃ b off, a = some ⟨b, off, none⟩ ∧ w.cell? ⟨b, off + k, none⟩ = some (.int .u8 (l.getD k 0)) := by
        rcases hl.cell with h | ⟨_, b, off, e, _, h⟩
        · omega
        · exact ⟨b, off, e, h k hlt⟩
      have HS := Lib.hid (fold_snoc ns l k (by have := hl.size; omega))
      obtain ⟨z0, z1⟩ := hl.byte k hlt
      have HL := Lib.hid hl
      clear hl
      generalize fold ns (l.take k) = r at *
      generalize l.getD k 0 = z at *
      obtain ⟨b1, b2⟩ := byteB_small z z0 z1
      have cs := fun w => rstep_any r (byteB z) w b1
      rw [b2] at cs
      have CS := Lib.hid cs
      clear cs b1 b2
      go_wp2_with (go_at_call 46; refine (CS.out _).mono ?_; rintro e w' ⟨rfl, rfl⟩)
      go_round
      case rel => exact ⟨k + 1, by omega, by go_num, by rw [HS.out]⟩
      case measure => simp [intOf]; omega
    · obtain rfl : k = len := by omega
      have e : l.take k = l := List.take_of_length_le (by have := hl.size; omega)
      rw [e]
      have n2 := bits_not (fold ns l)
      rw [← HM.out _ rfl] at n2
      go_wp2
      go_ret
      exact ⟨rfl, rfl⟩

theorem digits_sum : sumB [49, 50, 51, 52, 53, 54, 55, 56, 57] = 3421780262#32 := by decide +kernel
theorem digits_block (w : World) : Bytes (w.alloc (.cells #[.int .u8 49, .int .u8 50, .int .u8 51, .int .u8 52, .int .u8 53, .int .u8 54, .int .u8 55, .int .u8 56, .int .u8 57] 5 (9, 10))) (some ⟨w.heap.size, 0, none⟩) 9 [49, 50, 51, 52, 53, 54, 55, 56, 57] :=
  new_block w _ _ _ _ rfl [49, 50, 51, 52, 53, 54, 55, 56, 57] rfl (by decide) (by decide) 9 rfl
end Go.Proofs.Ytfiacpbpfdencaa
