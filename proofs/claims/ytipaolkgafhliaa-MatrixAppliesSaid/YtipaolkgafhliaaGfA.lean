/-
  Own text: what package gf's small functions answer (timesX, New).
-/
import Derived.Test.YtipaolkgafhliaaGfM
import Derived.Test.YtipaolkgafhliaaByteA
import Derived.StillTailTactics
namespace Go.Proofs.Ytipaolkgafhliaa
open Go.RowKit

theorem bits_u8 (a b : Nat) (ha : a < 256) (hb : b < 256) : bits .xor .u8 (a : Int) (b : Int) = ((a ^^^ b : Nat) : Int) := by
  have h : a ^^^ b < 2 ^ 8 := Nat.xor_lt_two_pow (by omega) (by omega)
  have m1 : (((a : Int)) % ((2 ^ IntKind.u8.bits : Nat) : Int)).toNat = a := by
    show ((a : Int) % 256).toNat = a
    omega
  have m2 : (((b : Int)) % ((2 ^ IntKind.u8.bits : Nat) : Int)).toNat = b := by
    show ((b : Int) % 256).toNat = b
    omega
  simp only [bits, BitVec.toNat_xor, BitVec.toNat_ofInt, m1, m2]
  rw [IntKind.wrap_u8]
  omega
theorem bits_i64 (a b : Nat) (ha : a < 65536) (hb : b < 65536) : bits .xor .i64 (a : Int) (b : Int) = ((a ^^^ b : Nat) : Int) := by
  have h : a ^^^ b < 2 ^ 16 := Nat.xor_lt_two_pow (by omega) (by omega)
  have m1 : (((a : Int)) % ((2 ^ IntKind.i64.bits : Nat) : Int)).toNat = a := by
    show ((a : Int) % 18446744073709551616).toNat = a
    omega
  have m2 : (((b : Int)) % ((2 ^ IntKind.i64.bits : Nat) : Int)).toNat = b := by
    show ((b : Int) % 18446744073709551616).toNat = b
    omega
  simp only [bits, BitVec.toNat_xor, BitVec.toNat_ofInt, m1, m2]
  exact IntWalk.i64_in _ (by omega)
theorem tx_low (a : Nat) (h : a < 128) : tx a = 2 * a := by
  unfold tx
  rw [Nat.testBit_lt_two_pow (show a < 2 ^ 7 by omega)]; simp
theorem tx_high (a : Nat) (h : 128 ≤ a) (h2 : a < 256) : tx a = 2 * a ^^^ 285 := by
  have : ∀ a, a < 256 → 128 ≤ a → tx a = 2 * a ^^^ 285 := by decide +kernel
  exact this a h2 h
set_option maxRecDepth 100000 in
theorem timesx_any (a : Nat) (ha : a < 256) (w : World) :
    Calls Try.prog 41 #[.int .u8 a] w fun e w' => e = .returned (.int .u8 (tx a)) ∧ w = w' := by
  have ht := tx_all a ha
  by_cases h : a < 128
  · have H := Lib.hid (tx_low a h)
    go_enter Try.func41, Try.ntmps41
    go_wp2
    go_ret
    exact ⟨ret_int (by rw [H.out]; go_num), rfl⟩
  · have H := Lib.hid (tx_high a (by omega) ha)
    have hb := bits_i64 (2 * a) 285 (by omega) (by omega)
    rw [← H.out, show ((2 * a : Nat) : Int) = (a : Int) * 2 by omega, show ((285 : Nat) : Int) = 285 from rfl] at hb
    go_enter Try.func41, Try.ntmps41
    go_wp2
    go_ret
    exact ⟨ret_int (by first | done | omega), rfl⟩
theorem zero_tables (w : World) : (zeroValue 69).run Try.prog w = .ok (.agg (Array.replicate 766 (.int .u8 0))) w := by kernel_rfl
/-- The log of an element, as it stands in the table. -/
def lgT (c : Nat) : Nat := if c = 0 then 0 else lg c
/-- What stands in the tables. -/
def tabF (j : Nat) : Value := if j < 510 then .int .u8 (pw j) else .int .u8 (lgT (j - 510))
/-- Behind so many rounds. -/
def tabG (k j : Nat) : Value :=
  if j < 510 then (if j % 255 < k then .int .u8 (pw j) else .int .u8 0) else (if j - 510 ≠ 0 ∧ lg (j - 510) < k then .int .u8 (lg (j - 510)) else .int .u8 0)
/-- The tables, in their block. -/
def IsTab (w : World) (b : Nat) : Prop := w.rowIs b 69 766 tabF
theorem tab_start (w : World) : (w.alloc (.cells (Array.replicate 766 (.int .u8 0)) 69)).rowIs w.heap.size 69 766 (tabG 0) := by
  have h := World.rowIs_alloc w (Array.replicate 766 (.int .u8 0)) 69 (tabG 0) (fun i hi => by
    simp at hi
    simp [tabG, hi])
  simpa using h
theorem tab_step (k : Nat) (hk : k < 255) (j : Nat) (hj : j < 766) :
    (if j = 510 + pw k then Value.int .u8 (k : Int) else if j = k + 255 then .int .u8 (pw k) else if j = k then .int .u8 (pw k) else tabG k j) = tabG (k + 1) j := by
  have hl := lg_pw k hk
  have hp := pw_lt k
  have hn := pw_ne k
  unfold tabG
  by_cases h1 : j < 510
  · rw [if_neg (by omega), if_pos h1, if_pos h1]
    by_cases h2 : j = k + 255
    · subst h2; rw [if_pos rfl, if_pos (by omega), pw_per]
    · rw [if_neg h2]
      by_cases h3 : j = k
      · subst h3; rw [if_pos rfl, if_pos (by omega)]
      · rw [if_neg h3]
        by_cases h4 : j % 255 < k
        · rw [if_pos h4, if_pos (by omega)]
        · rw [if_neg h4, if_neg (by omega)]
  · rw [if_neg (show ¬ j = k + 255 by omega), if_neg (show ¬ j = k by omega), if_neg h1, if_neg h1]
    by_cases h2 : j = 510 + pw k
    · subst h2
      rw [if_pos rfl, show 510 + pw k - 510 = pw k by omega, hl, if_pos ⟨hn, by omega⟩]
    · rw [if_neg h2]
      by_cases h3 : j - 510 ≠ 0 ∧ lg (j - 510) < k
      · rw [if_pos h3, if_pos ⟨h3.1, by omega⟩]
      · rw [if_neg h3, if_neg]
        rintro ⟨h4, h5⟩
        have h6 : lg (j - 510) = k := by
          rcases Nat.lt_or_ge (lg (j - 510)) k with g | g
          · exact absurd ⟨h4, g⟩ h3
          · omega
        have h7 := (lg_all (j - 510) (by omega) h4).2
        rw [h6] at h7
        omega
theorem tab_end (j : Nat) (hj : j < 766) : tabG 255 j = tabF j := by
  unfold tabG tabF lgT
  by_cases h1 : j < 510
  · rw [if_pos h1, if_pos h1, if_pos (by omega)]
  · rw [if_neg h1, if_neg h1]
    by_cases h2 : j - 510 = 0
    · rw [if_neg (by omega), if_pos h2]; rfl
    · rw [if_pos ⟨h2, (lg_all _ (by omega) h2).1⟩, if_neg h2]
set_option maxRecDepth 100000 in
theorem new_any (w : World) :
    Calls Try.prog 18 #[] w fun e w' => e = .returned (.pointer (some ⟨w.heap.size, 0, none⟩)) ∧ IsTab w' w.heap.size ∧ Below w.heap.size w w' := by
  have z := zero_tables
  have T0 := Lib.hid (tab_start w)
  generalize Array.replicate 766 (Value.int .u8 0) = A at *
  go_enter Try.func18, Try.ntmps18
  go_wp2
  go_loopw [2, 3, 6] (fun a _ i wr => ∃ k : Nat, k ≤ 255 ∧ i = .int .i64 k ∧ a = .int .u8 (pw k) ∧ wr.rowIs w.heap.size 69 766 (tabG k) ∧ Below w.heap.size w wr) (fun _ _ i _ => 255 - (intOf i).toNat)
  case atStart => exact ⟨0, by omega, rfl, rfl, T0.out, (Below.refl _ _).alloc (by simp) _⟩
  case round =>
    obtain ⟨k, hk, rfl, rfl, R, B⟩ := hrel
    by_cases hlt : k < 255
    · have p1 := pw_lt k
      have HS := Lib.hid (tab_step k hlt)
      have HP := Lib.hid (show pw (k + 1) = tx (pw k) from rfl)
      have cs := fun w => timesx_any (pw k) p1 w
      have CS := Lib.hid cs
      clear cs
      generalize pw k = p at *
      have c1 := R.cell (i := k) (by omega)
      have c2 := R.cell (i := k + 255) (by omega)
      have c3 := R.cell (i := 510 + p) (by omega)
      have f1 := R.frozen k
      have f2 := R.frozen (k + 255)
      have f3 := R.frozen (510 + p)
      have HR := Lib.hid R
      clear R
      go_wp2_with (go_at_call 41; refine (CS.out _).mono ?_; rintro e w' ⟨rfl, rfl⟩)
      go_roundw
      case rel =>
        refine ⟨k + 1, by omega, by go_num, by rw [HP.out], ?_, ((B.setCell (p := ⟨w.heap.size, k, none⟩) (Nat.le_refl _) _).setCell (p := ⟨w.heap.size, k + 255, none⟩) (Nat.le_refl _) _).setCell (p := ⟨w.heap.size, 510 + p, none⟩) (Nat.le_refl _) _⟩
        exact (((HR.out.set k _).set (k + 255) _).set (510 + p) _).congr (fun j hj => HS.out j hj)
      case measure => simp [intOf]; omega
    · obtain rfl : k = 255 := by omega
      go_wp2
      go_ret
      exact ⟨rfl, R.congr (fun i hi => tab_end i hi), B⟩
end Go.Proofs.Ytipaolkgafhliaa
