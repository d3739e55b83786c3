/-
  Own text: what the tables' functions on elements answer (Exp, Log, Mul, Pow, Inv, Div).
-/
import Derived.Test.YtipaolkgafhliaaGfA
namespace Go.Proofs.Ytipaolkgafhliaa
open Go.RowKit

theorem IsTab.below {w w' : World} {b : Nat} (h : IsTab w b) {B : Nat} (hb : Below B w w') (hB : b < B) : IsTab w' b := World.rowIs.of_block h (hb.block b hB)
/-- x to any power. -/
def pwZ (n : Int) : Nat := pw (n % 255).toNat
theorem tab_pow {w : World} {t : Nat} (h : IsTab w t) (n : Nat) (hn : n < 510) : w.cell? ⟨t, n, none⟩ = some (.int .u8 (pw n)) := by
  have := h.cell (i := n) (by omega)
  rwa [show tabF n = .int .u8 (pw n) by unfold tabF; rw [if_pos hn]] at this
theorem tab_log {w : World} {t : Nat} (h : IsTab w t) (a : Nat) (ha : a < 256) (h0 : a ≠ 0) : w.cell? ⟨t, 510 + a, none⟩ = some (.int .u8 (lg a)) := by
  have := h.cell (i := 510 + a) (by omega)
  rwa [show tabF (510 + a) = .int .u8 (lg a) by unfold tabF lgT; rw [if_neg (by omega), show 510 + a - 510 = a by omega, if_neg h0]] at this
theorem rest_of (n : Int) : (∃ q : Nat, q < 255 ∧ n.tmod 255 = q ∧ (n % 255).toNat = q) ∨ (∃ q : Nat, 0 < q ∧ q < 255 ∧ n.tmod 255 = (q : Int) - 255 ∧ (n % 255).toNat = q) := by
  have h1 := Int.tmod_eq_emod (a := n) (b := 255)
  by_cases h : 0 ≤ n
  · refine .inl ⟨(n % 255).toNat, by omega, ?_, rfl⟩
    rw [Int.tmod_eq_emod_of_nonneg h]; omega
  · by_cases h0 : n % 255 = 0
    · refine .inl ⟨0, by omega, ?_, by omega⟩
      rw [h1, if_pos (.inr (Int.dvd_of_emod_eq_zero h0))]; omega
    · refine .inr ⟨(n % 255).toNat, by omega, by omega, ?_, rfl⟩
      rw [h1, if_neg (by rintro (h' | h'); exact h h'; exact h0 (Int.emod_eq_zero_of_dvd h'))]
      omega
set_option maxRecDepth 100000 in
theorem exp_any (t : Nat) (n : Int) (w : World) (ht : IsTab w t) :
    Calls Try.prog 51 #[.pointer (some ⟨t, 0, none⟩), .int .i64 n] w fun e w' => e = .returned (.int .u8 (pwZ n)) ∧ w = w' := by
  rcases rest_of n with ⟨q, h1, h2, h3⟩ | ⟨q, h0, h1, h2, h3⟩
  · have c := tab_pow ht q (by omega)
    have HP := Lib.hid (show pwZ n = pw q by unfold pwZ; rw [h3])
    have HT := Lib.hid ht
    clear ht h3
    have q1 : (q : Int) < 255 := by omega
    go_enter Try.func51, Try.ntmps51
    go_wp2
    go_ret
    exact ⟨ret_int (by rw [HP.out]), rfl⟩
  · have c := tab_pow ht q (by omega)
    have HP := Lib.hid (show pwZ n = pw q by unfold pwZ; rw [h3])
    have HT := Lib.hid ht
    clear ht h3
    have q1 : (q : Int) < 255 := by omega
    have q2 : (0 : Int) < q := by omega
    go_enter Try.func51, Try.ntmps51
    go_wp2
    go_ret
    exact ⟨ret_int (by rw [HP.out]), rfl⟩
theorem mul_any (t a b : Nat) (ha : a < 256) (hb : b < 256) (w : World) (ht : IsTab w t) :
    Calls Try.prog 59 #[.pointer (some ⟨t, 0, none⟩), .int .u8 a, .int .u8 b] w fun e w' => e = .returned (.int .u8 (gm a b)) ∧ ∃ n, w' = w.drewN n := by
  by_cases h0 : a = 0
  · subst h0
    rw [zero_gm]
    go_enter Try.func59, Try.ntmps59
    go_wp2
    go_ret
    exact ⟨rfl, 0, rfl⟩
  · have h2 : ((a : Int) == 0) = false := by simp; omega
    by_cases h1 : b = 0
    · subst h1
      rw [gm_zero]
      go_enter Try.func59, Try.ntmps59
      go_wp2
      go_ret
      exact ⟨rfl, 0, rfl⟩
    · have h3 : ((b : Int) == 0) = false := by simp; omega
      have HG := Lib.hid (gm_eq ha hb h0 h1)
      have c1 := tab_log ht a ha h0
      have c2 := tab_log ht b hb h1
      have l1 := (lg_all a ha h0).1
      have l2 := (lg_all b hb h1).1
      have c3 := tab_pow ht (lg a + lg b) (by omega)
      have HT := Lib.hid ht
      clear ht
      generalize lg a = x at *
      generalize lg b = y at *
      rw [HG.out]
      generalize pw (x + y) = z at *
      have x1 : (a : Int) < 256 := by omega
      have x2 : (b : Int) < 256 := by omega
      have x0 : (0 : Int) ≤ a := by omega
      have y0 : (0 : Int) ≤ b := by omega
      have s1 : IntKind.i64.wrap ((x : Int) + y) = (x : Int) + y := IntWalk.i64_in _ (by omega)
      have s2 : (0 : Int) ≤ (x : Int) + y := by omega
      have s3 : ((x : Int) + y).toNat = x + y := by omega
      have s4 : (x : Int) + y < 510 := by omega
      go_enter Try.func59, Try.ntmps59
      go_wp2
      go_quiet (fail)
      go_wp2
      go_ret
      exact ⟨rfl, _, rfl⟩
end Go.Proofs.Ytipaolkgafhliaa
