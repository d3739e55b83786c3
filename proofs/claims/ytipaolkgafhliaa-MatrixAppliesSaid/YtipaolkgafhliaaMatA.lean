/-
  Own text: the small ones of package matrix, walked: fits, Right, has, New.
-/
import Derived.Test.YtipaolkgafhliaaGfR3
import Derived.Lib.Hide
import Derived.Handy
namespace Go.Proofs.Ytipaolkgafhliaa
open Go.RowKit

theorem fits_yes (n : Nat) (hn : n ≤ 255) (w : World) : Calls Try.prog 36 #[.int .i64 n] w fun e w' => e = .returned (.bool true) ∧ w = w' := by
  go_enter Try.func36, Try.ntmps36
  go_wp2
  go_ret
  exact ⟨ret_bool (decide_eq_true (by omega)), rfl⟩
theorem fits_no (n : Int) (hn : ¬ (0 ≤ n ∧ n ≤ 255)) (w : World) : Calls Try.prog 36 #[.int .i64 n] w fun e w' => e = .returned (.bool false) ∧ w = w' := by
  rcases Int.lt_or_le n 0 with h | h
  · go_enter Try.func36, Try.ntmps36
    go_wp2
    go_ret
    exact ⟨rfl, rfl⟩
  · have h2 : 255 < n := by omega
    clear hn
    go_enter Try.func36, Try.ntmps36
    go_wp2
    go_ret
    exact ⟨ret_bool (decide_eq_false (by omega)), rfl⟩
theorem fits_any (n : Int) (w : World) : Calls Try.prog 36 #[.int .i64 n] w fun e w' => e = .returned (.bool (decide (0 ≤ n ∧ n ≤ 255))) ∧ w = w' := by
  by_cases h : 0 ≤ n ∧ n ≤ 255
  · obtain ⟨m, rfl⟩ : ∃ m : Nat, n = m := ⟨n.toNat, by omega⟩
    rw [decide_eq_true h]
    exact fits_yes m (by omega) w
  · rw [decide_eq_false h]
    exact fits_no n h w
/-- Is it right? -/
def RightM (r c : Int) (n : Nat) : Prop := (0 ≤ r ∧ r ≤ 255) ∧ (0 ≤ c ∧ c ≤ 255) ∧ (n : Int) = r * c
instance (r c : Int) (n : Nat) : Decidable (RightM r c n) := by unfold RightM; infer_instance
theorem right_yes (r c n : Nat) (hr : r ≤ 255) (hc : c ≤ 255) (hn : n = r * c) (a : Option Addr) (cap : Nat) (w : World) :
    Calls Try.prog 13 #[.agg #[.int .i64 r, .int .i64 c, .slice a n cap]] w fun e w' => e = .returned (.bool true) ∧ Below w.heap.size w w' := by
  have hm : r * c ≤ 65025 := Nat.mul_le_mul hr hc
  obtain ⟨m, hmm⟩ : ∃ m : Nat, r * c = m := ⟨_, rfl⟩
  have hmi : (r : Int) * c = m := by rw [← hmm]; omega
  rw [hmm] at hm hn
  subst hn
  have F1 := Lib.hid (fits_yes r hr)
  have F2 := Lib.hid (fits_yes c hc)
  clear hmm
  go_enter Try.func13, Try.ntmps13
  go_wp2_with first
    | ((with_reducible refine (F1.out _).mono ?_); rintro e w1 ⟨rfl, rfl⟩)
    | ((with_reducible refine (F2.out _).mono ?_); rintro e w1 ⟨rfl, rfl⟩)
  go_ret
  exact ⟨rfl, (Below.refl _ _).alloc (Nat.le_refl _) _⟩
theorem right_len (r c n : Nat) (hr : r ≤ 255) (hc : c ≤ 255) (hn : n ≠ r * c) (a : Option Addr) (cap : Nat) (w : World) :
    Calls Try.prog 13 #[.agg #[.int .i64 r, .int .i64 c, .slice a n cap]] w fun e w' => e = .returned (.bool false) ∧ Below w.heap.size w w' := by
  have hm : r * c ≤ 65025 := Nat.mul_le_mul hr hc
  obtain ⟨m, hmm⟩ : ∃ m : Nat, r * c = m := ⟨_, rfl⟩
  have hmi : (r : Int) * c = m := by rw [← hmm]; omega
  rw [hmm] at hm hn
  have hni : ¬ (n : Int) = m := by omega
  have hnb : ((n : Int) == m) = false := by simpa using hni
  have F1 := Lib.hid (fits_yes r hr)
  have F2 := Lib.hid (fits_yes c hc)
  clear hmm
  go_enter Try.func13, Try.ntmps13
  go_wp2_with first
    | ((with_reducible refine (F1.out _).mono ?_); rintro e w1 ⟨rfl, rfl⟩)
    | ((with_reducible refine (F2.out _).mono ?_); rintro e w1 ⟨rfl, rfl⟩)
  go_ret
  exact ⟨rfl, (Below.refl _ _).alloc (Nat.le_refl _) _⟩
theorem right_rows (r c : Int) (n : Nat) (hr : ¬ (0 ≤ r ∧ r ≤ 255)) (a : Option Addr) (cap : Nat) (w : World) :
    Calls Try.prog 13 #[.agg #[.int .i64 r, .int .i64 c, .slice a n cap]] w fun e w' => e = .returned (.bool false) ∧ Below w.heap.size w w' := by
  have F1 := Lib.hid (fits_no r hr)
  clear hr
  go_enter Try.func13, Try.ntmps13
  go_wp2_with ((with_reducible refine (F1.out _).mono ?_); rintro e w1 ⟨rfl, rfl⟩)
  go_ret
  exact ⟨rfl, (Below.refl _ _).alloc (Nat.le_refl _) _⟩
theorem right_cols (r : Nat) (c : Int) (n : Nat) (hr : r ≤ 255) (hc : ¬ (0 ≤ c ∧ c ≤ 255)) (a : Option Addr) (cap : Nat) (w : World) :
    Calls Try.prog 13 #[.agg #[.int .i64 r, .int .i64 c, .slice a n cap]] w fun e w' => e = .returned (.bool false) ∧ Below w.heap.size w w' := by
  have F1 := Lib.hid (fits_yes r hr)
  have F2 := Lib.hid (fits_no c hc)
  clear hr hc
  go_enter Try.func13, Try.ntmps13
  go_wp2_with first
    | ((with_reducible refine (F1.out _).mono ?_); rintro e w1 ⟨rfl, rfl⟩)
    | ((with_reducible refine (F2.out _).mono ?_); rintro e w1 ⟨rfl, rfl⟩)
  go_ret
  exact ⟨rfl, (Below.refl _ _).alloc (Nat.le_refl _) _⟩
theorem right_any (r c : Int) (n : Nat) (a : Option Addr) (cap : Nat) (w : World) :
    Calls Try.prog 13 #[.agg #[.int .i64 r, .int .i64 c, .slice a n cap]] w fun e w' => e = .returned (.bool (decide (RightM r c n))) ∧ Below w.heap.size w w' := by
  by_cases hr : 0 ≤ r ∧ r ≤ 255
  · obtain ⟨R, rfl⟩ : ∃ m : Nat, r = m := ⟨r.toNat, by omega⟩
    by_cases hc : 0 ≤ c ∧ c ≤ 255
    · obtain ⟨C, rfl⟩ : ∃ m : Nat, c = m := ⟨c.toNat, by omega⟩
      by_cases hn : n = R * C
      · rw [decide_eq_true (show RightM R C n from ⟨hr, hc, by rw [hn]; omega⟩)]
        exact right_yes R C n (by omega) (by omega) hn a cap w
      · rw [decide_eq_false (show ¬ RightM R C n from fun h => hn (by have := h.2.2; rw [← Int.natCast_mul] at this; omega))]
        exact right_len R C n (by omega) (by omega) hn a cap w
    · rw [decide_eq_false (show ¬ RightM R c n from fun h => hc h.2.1)]
      exact right_cols R c n (by omega) hc a cap w
  · rw [decide_eq_false (show ¬ RightM r c n from fun h => hr h.1)]
    exact right_rows r c n hr a cap w
theorem has_any (r c i : Int) (n : Nat) (a : Option Addr) (cap : Nat) (w : World) :
    Calls Try.prog 37 #[.agg #[.int .i64 r, .int .i64 c, .slice a n cap], .int .i64 i] w fun e w' => e = .returned (.bool (decide (0 ≤ i ∧ i < r))) ∧ Below w.heap.size w w' := by
  rcases Int.lt_or_le i 0 with h | h
  · go_enter Try.func37, Try.ntmps37
    go_wp2
    go_ret
    refine ⟨ret_bool ?_, (Below.refl _ _).alloc (Nat.le_refl _) _⟩
    show false = _
    symm
    simp
    omega
  · go_enter Try.func37, Try.ntmps37
    go_wp2
    go_ret
    refine ⟨ret_bool ?_, (Below.refl _ _).alloc (Nat.le_refl _) _⟩
    show decide (i < r) = _
    congr 1
    simp [h]
/-- New's answer: a matrix of noughts in a block of its own. -/
def Newed (r c : Nat) (w : World) (e : Ending) (w' : World) : Prop :=
  ∃ g, e = .returned (.tuple #[.agg #[.int .i64 r, .int .i64 c, .slice (some ⟨g, 0, none⟩) (r * c) (r * c)], .int .i64 0]) ∧ w.heap.size ≤ g ∧ Row8 w' g 5 (List.replicate (r * c) 0) ∧ Below w.heap.size w w'
/-- Nothing, and why. -/
def Refused (k : Int) (w : World) (e : Ending) (w' : World) : Prop :=
  e = .returned (.tuple #[.agg #[.int .i64 0, .int .i64 0, .slice none 0 0], .int .i64 k]) ∧ Below w.heap.size w w'
theorem new_none (r c : Int) (h : ¬ ((0 ≤ r ∧ r ≤ 255) ∧ 0 ≤ c ∧ c ≤ 255)) (w : World) : Calls Try.prog 16 #[.int .i64 r, .int .i64 c] w (Refused 50 w) := by
  by_cases hr : 0 ≤ r ∧ r ≤ 255
  · obtain ⟨R, rfl⟩ : ∃ m : Nat, r = m := ⟨r.toNat, by omega⟩
    have F1 := Lib.hid (fits_yes R (by omega))
    have F2 := Lib.hid (fits_no c (fun g => h ⟨hr, g⟩))
    clear h hr
    go_enter Try.func16, Try.ntmps16
    go_wp2_with first
      | ((with_reducible refine (F1.out _).mono ?_); rintro e w1 ⟨rfl, rfl⟩)
      | ((with_reducible refine (F2.out _).mono ?_); rintro e w1 ⟨rfl, rfl⟩)
    go_returns
    exact ⟨rfl, (Below.refl _ _).alloc (Nat.le_refl _) _⟩
  · have F1 := Lib.hid (fits_no r hr)
    clear h hr
    go_enter Try.func16, Try.ntmps16
    go_wp2_with ((with_reducible refine (F1.out _).mono ?_); rintro e w1 ⟨rfl, rfl⟩)
    go_returns
    exact ⟨rfl, (Below.refl _ _).alloc (Nat.le_refl _) _⟩
theorem made_row' (W : World) (n : Nat) (t : TypeId) (b : Nat) (hb : b = W.heap.size) : Row8 (W.alloc (.cells (madeCells #[.int .u8 0] n) t)) b t (List.replicate n 0) := by rw [hb]; exact made_row W n t
theorem new_some (r c : Nat) (hr : r ≤ 255) (hc : c ≤ 255) (w : World) : Calls Try.prog 16 #[.int .i64 r, .int .i64 c] w (Newed r c w) := by
  have hm : r * c ≤ 65025 := Nat.mul_le_mul hr hc
  unfold Newed
  obtain ⟨m, hmm⟩ : ∃ m : Nat, r * c = m := ⟨_, rfl⟩
  have hmi : (r : Int) * c = m := by rw [← hmm]; omega
  rw [hmm] at hm ⊢
  clear hmm
  have F1 := Lib.hid (fits_yes r hr)
  have F2 := Lib.hid (fits_yes c hc)
  have hmk := fun w => run_make_row' (P := Try.prog) 22 5 (.int .u8 0) 1 Try.underlying22 info_u8 rfl .i64 .i64 m (by omega) (by omega) w
  go_enter Try.func16, Try.ntmps16
  go_wp2_with first
    | ((with_reducible refine (F1.out _).mono ?_); rintro e w1 ⟨rfl, rfl⟩)
    | ((with_reducible refine (F2.out _).mono ?_); rintro e w1 ⟨rfl, rfl⟩)
  go_returns
  refine ⟨_, rfl, by omega, made_row' _ _ _ _ (by simp), by go_grown⟩
end Go.Proofs.Ytipaolkgafhliaa
