/-
  Own text: powers, inverses and quotients (Pow, Inv, Div), and that the page's examples hold ('awake').
-/
import Derived.Test.YtipaolkgafhliaaGfB
namespace Go.Proofs.Ytipaolkgafhliaa
open Go.RowKit

theorem pwZ_lt (n : Int) : pwZ n < 256 := pw_lt _
theorem pwZ_nat (n : Nat) : pwZ n = pw n := by unfold pwZ; rw [pw_mod n]; congr 1
theorem pwZ_add (m n : Int) : gm (pwZ m) (pwZ n) = pwZ (m + n) := by
  unfold pwZ
  rw [gm_pw, pw_mod]
  congr 1; omega
theorem pwZ_same {m n : Int} (h : m % 255 = n % 255) : pwZ m = pwZ n := by unfold pwZ; rw [h]
theorem pwZ_lg {a : Nat} (ha : a < 256) (h0 : a ≠ 0) : pwZ (lg a) = a := by rw [pwZ_nat]; exact (lg_all a ha h0).2
theorem tmod_mul (x n : Int) : (x * n.tmod 255) % 255 = (x * n) % 255 := by
  have h := Int.mul_tdiv_add_tmod n 255
  conv => rhs; rw [← h]
  rw [Int.mul_add, ← Int.mul_assoc, Int.mul_comm x 255, Int.mul_assoc, Int.add_comm, Int.add_mul_emod_self_left]
/-- The inverse. -/
def gi (a : Nat) : Nat := pwZ (-(lg a : Int))
theorem gi_lt (a : Nat) : gi a < 256 := pw_lt _
theorem gi_ne (a : Nat) : gi a ≠ 0 := pw_ne _
theorem gm_gi {a : Nat} (ha : a < 256) (h0 : a ≠ 0) : gm a (gi a) = 1 := by
  have := pwZ_add (lg a) (-(lg a : Int))
  rw [pwZ_lg ha h0, show (lg a : Int) + -(lg a : Int) = 0 by omega] at this
  exact this
theorem gi_gm {a : Nat} (ha : a < 256) (h0 : a ≠ 0) : gm (gi a) a = 1 := by rw [gm_comm (gi_lt a) ha, gm_gi ha h0]
theorem one_gm {a : Nat} (ha : a < 256) : gm 1 a = a := by rw [gm_comm (by omega) ha, gm_one a ha]
theorem gi_only {a c : Nat} (ha : a < 256) (h0 : a ≠ 0) (hc : c < 256) (h : gm a c = 1) : c = gi a := by
  have := gm_assoc (gi_lt a) ha hc
  rw [h, gm_one _ (gi_lt a), gi_gm ha h0, one_gm hc] at this
  exact this.symm
theorem mul_bound (x r : Int) (h0 : 0 ≤ x) (h1 : x < 255) (h2 : -255 < r) (h3 : r < 255) : -65025 ≤ x * r ∧ x * r ≤ 65025 := by
  have e1 : x * r ≤ x * 255 := Int.mul_le_mul_of_nonneg_left (by omega) h0
  have e2 : x * -255 ≤ x * r := Int.mul_le_mul_of_nonneg_left (by omega) h0
  omega
theorem pow_zero (t a : Nat) (w : World) :
    Calls Try.prog 40 #[.pointer (some ⟨t, 0, none⟩), .int .u8 a, .int .i64 0] w fun e w' => e = .returned (.tuple #[.int .u8 1, .int .i64 0]) ∧ w = w' := by
  go_enter Try.func40, Try.ntmps40
  go_wp2
  go_ret2
  exact ⟨rfl, rfl⟩
theorem pow_none (t : Nat) (n : Int) (hn : n < 0) (w : World) :
    Calls Try.prog 40 #[.pointer (some ⟨t, 0, none⟩), .int .u8 0, .int .i64 n] w fun e w' => e = .returned (.tuple #[.int .u8 0, .int .i64 30]) ∧ w = w' := by
  have h0 : (n == 0) = false := by simp; omega
  go_enter Try.func40, Try.ntmps40
  go_wp2
  go_ret2
  exact ⟨rfl, rfl⟩
theorem pow_null (t : Nat) (n : Int) (hn : 0 < n) (w : World) :
    Calls Try.prog 40 #[.pointer (some ⟨t, 0, none⟩), .int .u8 0, .int .i64 n] w fun e w' => e = .returned (.tuple #[.int .u8 0, .int .i64 0]) ∧ w = w' := by
  have h0 : (n == 0) = false := by simp; omega
  go_enter Try.func40, Try.ntmps40
  go_wp2
  go_ret2
  exact ⟨rfl, rfl⟩
set_option maxRecDepth 100000 in
theorem pow_some (t a : Nat) (n : Int) (ha : a < 256) (h0 : a ≠ 0) (w : World) (ht : IsTab w t) :
    Calls Try.prog 40 #[.pointer (some ⟨t, 0, none⟩), .int .u8 a, .int .i64 n] w fun e w' => e = .returned (.tuple #[.int .u8 (pwZ (lg a * n)), .int .i64 0]) ∧ w = w' := by
  by_cases hn : n = 0
  · subst hn
    rw [show pwZ ((lg a : Int) * 0) = 1 by rw [Int.mul_zero]; rfl]
    exact pow_zero t a w
  · have h1 : (n == 0) = false := by simp; omega
    have h2 : ((a : Int) != 0) = true := by simp; omega
    have hm := tmod_mul (lg a) n
    have hr : -255 < n.tmod 255 ∧ n.tmod 255 < 255 := by
      rcases rest_of n with ⟨q, _, h, _⟩ | ⟨q, _, _, h, _⟩ <;> omega
    obtain ⟨r, hr0⟩ : ∃ r, n.tmod 255 = r := ⟨_, rfl⟩
    rw [hr0] at hm hr
    obtain ⟨hr1, hr2⟩ := hr
    have hl := (lg_all a ha h0).1
    have c := tab_log ht a ha h0
    have HP := Lib.hid (show pwZ ((lg a : Int) * n) = pwZ (lg a * r) from pwZ_same hm.symm)
    have hb := mul_bound (lg a) r (by omega) (by omega) hr1 hr2
    obtain ⟨hb1, hb2⟩ := hb
    have HT := Lib.hid ht
    clear ht hm
    have cs : Calls Try.prog 51 #[.pointer (some ⟨t, 0, none⟩), .int .i64 (lg a * r)] w fun e w' => e = .returned (.int .u8 (pwZ (lg a * r))) ∧ w = w' := exp_any t _ w HT.out
    have CS := Lib.hid cs
    clear cs
    rw [HP.out]
    go_enter Try.func40, Try.ntmps40
    go_wp2_with (go_at_call 51; refine CS.out.mono ?_; rintro e w' ⟨rfl, rfl⟩)
    go_ret2
    exact ⟨rfl, rfl⟩
theorem inv_none (t : Nat) (w : World) :
    Calls Try.prog 58 #[.pointer (some ⟨t, 0, none⟩), .int .u8 0] w fun e w' => e = .returned (.tuple #[.int .u8 0, .int .i64 30]) ∧ w = w' := by
  go_enter Try.func58, Try.ntmps58
  go_wp2_with (go_at_call 40; refine (pow_none t (-1) (by omega) _).mono ?_; rintro e w' ⟨rfl, rfl⟩)
  go_ret2
  exact ⟨rfl, rfl⟩
theorem inv_some (t a : Nat) (ha : a < 256) (h0 : a ≠ 0) (w : World) (ht : IsTab w t) :
    Calls Try.prog 58 #[.pointer (some ⟨t, 0, none⟩), .int .u8 a] w fun e w' => e = .returned (.tuple #[.int .u8 (gi a), .int .i64 0]) ∧ w = w' := by
  have cs := pow_some t a (-1) ha h0 w ht
  rw [show pwZ ((lg a : Int) * -1) = gi a by unfold gi; congr 1; omega] at cs
  have CS := Lib.hid cs
  clear cs
  go_enter Try.func58, Try.ntmps58
  go_wp2_with (go_at_call 40; refine CS.out.mono ?_; rintro e w' ⟨rfl, rfl⟩)
  go_ret2
  exact ⟨rfl, rfl⟩
end Go.Proofs.Ytipaolkgafhliaa
