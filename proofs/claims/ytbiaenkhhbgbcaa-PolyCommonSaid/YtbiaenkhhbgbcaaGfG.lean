/-
  Own text: sums of many; that it is a field, walked.
-/
import Derived.Test.YtbiaenkhhbgbcaaGfE
import Derived.Test.YtbiaenkhhbgbcaaByteA
import Derived.Deep.Cut
namespace Go.Proofs.Ytbiaenkhhbgbcaa
open Go.RowKit

/-- The sum of many. -/
def xorL (l : List Int) : Nat := l.foldl (fun s z => s ^^^ z.toNat) 0
theorem xorL_snoc (l : List Int) (k : Nat) (h : k < l.length) : xorL (l.take (k + 1)) = xorL (l.take k) ^^^ (l.getD k 0).toNat := by
  unfold xorL
  rw [List.take_succ_eq_append_getElem h, List.foldl_append, List.getD_eq_getElem?_getD, List.getElem?_eq_getElem h]
  rfl
theorem xorL_lt (l : List Int) (h : ∀ z ∈ l, 0 ≤ z ∧ z ≤ 255) : xorL l < 256 := by
  have aux : ∀ (l : List Int) (s : Nat), s < 2 ^ 8 → (∀ z ∈ l, 0 ≤ z ∧ z ≤ 255) → l.foldl (fun s z => s ^^^ z.toNat) s < 2 ^ 8 := by
    intro l
    induction l with
    | nil => intro s hs _; exact hs
    | cons z l ih =>
      intro s hs hl
      have hz := hl z (by simp)
      exact ih _ (Nat.xor_lt_two_pow hs (by omega)) (fun y hy => hl y (by simp [hy]))
  exact aux l 0 (by omega) h
set_option maxRecDepth 100000 in
theorem add_any (a : Option Addr) (len cap : Nat) (l : List Int) (w : World) (hl : Bytes w a len l) :
    Calls Try.prog 30 #[.slice a len cap] w fun e w' => e = .returned (.int .u8 (xorL l)) ∧ w = w' := by
  have hm := hl.max
  go_enter Try.func30, Try.ntmps30
  go_wp2
  go_loop [3, 5, 8] (fun s _ i => ∃ k : Nat, k ≤ len ∧ i = .int .i64 k ∧ s = .int .u8 (xorL (l.take k))) (fun _ _ i => len - (intOf i).toNat)
  case atStart => exact ⟨0, by omega, rfl, rfl⟩
  case round =>
    obtain ⟨k, hk, rfl, rfl⟩ := hrel
    by_cases hlt : k < len
    · obtain ⟨b, off, rfl, c⟩ : ∃ b off, a = some ⟨b, off, none⟩ ∧ w.cell? ⟨b, off + k, none⟩ = some (.int .u8 (l.getD k 0)) := by
        rcases hl.cell with h | ⟨_, b, off, e, _, h⟩
        · omega
        · exact ⟨b, off, e, h k hlt⟩
      have HS := Lib.hid (xorL_snoc l k (by have := hl.size; omega))
      have hr := xorL_lt (l.take k) (fun z hz => hl.range z (List.mem_of_mem_take hz))
      obtain ⟨z0, z1⟩ := hl.byte k hlt
      have HL := Lib.hid hl
      clear hl
      generalize xorL (l.take k) = r at *
      generalize l.getD k 0 = z at *
      obtain ⟨y, rfl⟩ : ∃ y : Nat, z = y := ⟨z.toNat, by omega⟩
      have hb := bits_u8 r y hr (by omega)
      go_wp2
      go_round
      case rel => exact ⟨k + 1, by omega, by go_num, by rw [HS.out]; rfl⟩
      case measure => simp [intOf]; omega
    · obtain rfl : k = len := by omega
      have e : l.take k = l := List.take_of_length_le (by have := hl.size; omega)
      rw [e]
      go_wp2
      go_ret
      exact ⟨rfl, rfl⟩
/-- The tables are there, and what was there is as it was. -/
def Kept (t : Nat) (w0 w : World) : Prop := IsTab w t ∧ Below w0.heap.size w0 w
theorem Kept.drewN {t : Nat} {w0 w : World} (h : Kept t w0 w) (n : Nat) : Kept t w0 (w.drewN n) := ⟨h.1, below_drewN h.2 n⟩
theorem Kept.alloc {t : Nat} {w0 w : World} (h : Kept t w0 w) (o : Obj) : Kept t w0 (w.alloc o) :=
  ⟨h.1.below ((Below.refl w.heap.size w).alloc (Nat.le_refl _) _) h.1.lt, h.2.alloc h.2.size _⟩
theorem kmul_any (t a b : Nat) (ha : a < 256) (hb : b < 256) (w0 w : World) (hk : Kept t w0 w) :
    Calls Try.prog 33 #[.pointer (some ⟨t, 0, none⟩), .int .u8 a, .int .u8 b] w fun e w' => e = .returned (.int .u8 (gm a b)) ∧ Kept t w0 w' :=
  (mul_any t a b ha hb w hk.1).mono fun _ _ ⟨h, n, e⟩ => ⟨h, by rw [e]; exact hk.drewN n⟩
theorem add_block (l : List Int) (C : Array Value) (hC : C.toList = l.map (Value.int .u8)) (hz : ∀ z ∈ l, 0 ≤ z ∧ z ≤ 255) (n : Nat) (hn : n = l.length) (hm : n ≤ 9223372036854775807) (r : Nat) (hr : xorL l = r) (w : World) (cap : Nat) :
    Calls Try.prog 30 #[.slice (some ⟨w.heap.size, 0, none⟩) n cap] (w.alloc (.cells C 5)) fun e w' => e = .returned (.int .u8 r) ∧ w.alloc (.cells C 5) = w' := by
  have h := add_any _ n cap l _ (new_block w C 5 (0, 0) _ rfl l hC (by omega) hz n hn)
  rwa [hr] at h
end Go.Proofs.Ytbiaenkhhbgbcaa
