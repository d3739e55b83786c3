/-
  Own text: a bucket in plain numbers.
-/
import Derived.Test.YtblnmddphichgaaWordB
namespace Go.Proofs.Ytblnmddphichgaa
open Go.RowKit

/-- A bucket: rate, burst, held, spent, full. -/
structure Bk where
  ra : Int
  bu : Int
  he : Int
  sp : Int
  fu : Int
def okB (r b : Int) : Bool := decide (1 ≤ r ∧ r ≤ 1048576 ∧ 1 ≤ b ∧ b ≤ 16777216)
def Bk.may (k : Bk) (n : Int) : Bool := decide (0 ≤ n ∧ n ≤ k.he)
def Bk.take (k : Bk) (n : Int) : Bk := if k.may n = true then ⟨k.ra, k.bu, k.he - n, k.sp + n, k.fu⟩ else k
/-- What comes in so many ticks. -/
def Bk.come (k : Bk) (t : Int) : Int := held (k.ra * (if t < 0 then 0 else t))
/-- What of it is kept. -/
def Bk.kept (k : Bk) (t : Int) : Int := if k.bu - k.he < k.come t then k.bu - k.he else k.come t
def Bk.tick (k : Bk) (t : Int) : Bk := ⟨k.ra, k.bu, k.he + k.kept t, k.sp, held (k.fu + (k.come t - k.kept t))⟩
def Bk.change (k : Bk) (r b : Int) : Bk := if okB r b = true then ⟨r, b, if b < k.he then b else k.he, k.sp, k.fu⟩ else k
/-- What may be: behind so many calls. -/
structure Bk.fit (k : Bk) (i : Nat) : Prop where
  r1 : 1 ≤ k.ra
  r2 : k.ra ≤ 1048576
  b1 : 1 ≤ k.bu
  b2 : k.bu ≤ 16777216
  h1 : 0 ≤ k.he
  h2 : k.he ≤ k.bu
  s1 : 0 ≤ k.sp
  s2 : k.sp ≤ 16777216 * (i : Int)
  f1 : 0 ≤ k.fu
  f2 : k.fu ≤ 9223372036854775807
theorem Bk.come_lo {k : Bk} {i : Nat} (h : k.fit i) (t : Int) : 0 ≤ k.come t ∧ k.come t ≤ 9223372036854775807 := by
  have := h.r1
  unfold Bk.come
  have h0 : 0 ≤ k.ra * (if t < 0 then 0 else t) := Int.mul_nonneg (by omega) (by split <;> omega)
  generalize k.ra * (if t < 0 then 0 else t) = z at *
  unfold held
  omega
theorem Bk.kept_lo {k : Bk} {i : Nat} (h : k.fit i) (t : Int) : 0 ≤ k.kept t ∧ k.kept t ≤ k.come t ∧ k.he + k.kept t ≤ k.bu := by
  have := k.come_lo h t
  have := h.h2
  unfold Bk.kept
  split <;> omega
theorem Bk.tick_fit {k : Bk} {i : Nat} (h : k.fit i) (t : Int) : (k.tick t).fit i := by
  have h1 := k.come_lo h t
  have h2 := k.kept_lo h t
  have h3 := h.h1
  have h4 := h.f1
  refine ⟨h.r1, h.r2, h.b1, h.b2, ?_, ?_, h.s1, h.s2, ?_, ?_⟩
  · show 0 ≤ k.he + k.kept t; omega
  · show k.he + k.kept t ≤ k.bu; omega
  · show 0 ≤ held (k.fu + (k.come t - k.kept t)); unfold held; omega
  · exact (held_lo _).2
theorem Bk.fit.more {k : Bk} {i : Nat} (h : k.fit i) : k.fit (i + 1) := ⟨h.r1, h.r2, h.b1, h.b2, h.h1, h.h2, h.s1, by have := h.s2; push_cast; omega, h.f1, h.f2⟩
theorem Bk.take_fit {k : Bk} {i : Nat} (h : k.fit i) (n : Int) : (k.take n).fit (i + 1) := by
  unfold Bk.take
  split
  · rename_i hm
    simp only [Bk.may, decide_eq_true_eq] at hm
    have := h.h2
    have := h.b2
    have := h.s1
    have := h.s2
    exact ⟨h.r1, h.r2, h.b1, h.b2, by dsimp only; omega, by dsimp only; omega, by dsimp only; omega, by dsimp only; push_cast; omega, h.f1, h.f2⟩
  · exact h.more
theorem Bk.change_fit {k : Bk} {i : Nat} (h : k.fit i) (r b : Int) : (k.change r b).fit i := by
  unfold Bk.change
  split
  · rename_i hm
    simp only [okB, decide_eq_true_eq] at hm
    have := h.h1
    exact ⟨by dsimp only; omega, by dsimp only; omega, by dsimp only; omega, by dsimp only; omega, by dsimp only; split <;> omega, by dsimp only; split <;> omega, h.s1, h.s2, h.f1, h.f2⟩
  · exact h
def Bk.new (r b : Int) : Bk := ⟨r, b, b, 0, 0⟩
theorem Bk.new_fit {r b : Int} (h : okB r b = true) : (Bk.new r b).fit 0 := by
  simp only [okB, decide_eq_true_eq] at h
  unfold Bk.new
  refine ⟨?_, ?_, ?_, ?_, ?_, ?_, ?_, ?_, ?_, ?_⟩ <;> (dsimp only; omega)
/-- One call. -/
def Bk.act (k : Bk) (kd a b : Int) : Bk := if kd = 0 then k.take a else if kd = 1 then k.tick a else if kd = 2 then k.change a b else k
theorem Bk.act_fit {k : Bk} {i : Nat} (h : k.fit i) (kd a b : Int) : (k.act kd a b).fit (i + 1) := by
  unfold Bk.act
  split
  · exact k.take_fit h a
  · split
    · exact (k.tick_fit h a).more
    · split
      · exact (k.change_fit h a b).more
      · exact h.more
/-- The least number of ticks. -/
def Bk.wait (k : Bk) (n : Int) : Int := if k.may n = true then 0 else -((k.he - n) / k.ra)
theorem Bk.wait_lo {k : Bk} {i : Nat} (h : k.fit i) (n : Int) (h0 : 0 ≤ n) (h1 : n ≤ k.bu) : 0 ≤ k.wait n ∧ k.wait n ≤ 16777216 := by
  unfold Bk.wait
  split
  · omega
  · rename_i hm
    simp only [Bk.may, decide_eq_true_eq] at hm
    have := h.b2
    have := h.h1
    have hr := h.r1
    have e1 : (k.he - n) / k.ra ≤ 0 := Int.ediv_nonpos_of_nonpos_of_neg (by omega) (by omega)
    have e2 : -16777216 ≤ (k.he - n) / k.ra := by
      refine Int.le_ediv_of_mul_le (by omega) ?_
      have : -16777216 * k.ra ≤ -16777216 * 1 := by
        have := Int.mul_le_mul_of_nonneg_left hr (show (0 : Int) ≤ 16777216 by omega)
        omega
      omega
    omega
/-- Behind the wait so many may go. -/
theorem Bk.wait_may {k : Bk} {i : Nat} (h : k.fit i) (n : Int) (h0 : 0 ≤ n) (h1 : n ≤ k.bu) : (k.tick (k.wait n)).may n = true := by
  have hk := k.kept_lo h (k.wait n)
  have hw := k.wait_lo h n h0 h1
  unfold Bk.may
  apply decide_eq_true
  refine ⟨h0, ?_⟩
  show n ≤ k.he + k.kept (k.wait n)
  by_cases hm : k.may n = true
  · simp only [Bk.may, decide_eq_true_eq] at hm
    omega
  · have hwt : k.wait n = -((k.he - n) / k.ra) := by unfold Bk.wait; rw [if_neg hm]
    have hr := h.r1
    have hr2 := h.r2
    have hc : k.come (k.wait n) = k.ra * k.wait n := by
      unfold Bk.come
      rw [if_neg (by omega)]
      have h2 : k.ra * k.wait n ≤ 1048576 * 16777216 := Int.mul_le_mul hr2 hw.2 hw.1 (by omega)
      have h3 : 0 ≤ k.ra * k.wait n := Int.mul_nonneg (by omega) hw.1
      generalize k.ra * k.wait n = z at *
      unfold held
      omega
    have hq : k.ra * ((k.he - n) / k.ra) ≤ k.he - n := Int.mul_ediv_self_le (by omega)
    have hcc : n - k.he ≤ k.come (k.wait n) := by
      rw [hc, hwt, Int.mul_neg]
      omega
    unfold Bk.kept
    split <;> omega
/-- A tick earlier they may not. -/
theorem Bk.wait_not {k : Bk} {i : Nat} (h : k.fit i) (n : Int) (h0 : 0 ≤ n) (h1 : n ≤ k.bu) (ht : 0 < k.wait n) : (k.tick (k.wait n - 1)).may n = false := by
  have hw := k.wait_lo h n h0 h1
  unfold Bk.may
  apply decide_eq_false
  rintro ⟨_, h2⟩
  have h3 : n ≤ k.he + k.kept (k.wait n - 1) := h2
  by_cases hm : k.may n = true
  · unfold Bk.wait at ht; rw [if_pos hm] at ht; omega
  · have hwt : k.wait n = -((k.he - n) / k.ra) := by unfold Bk.wait; rw [if_neg hm]
    have hr := h.r1
    have hc : k.come (k.wait n - 1) ≤ k.ra * (k.wait n - 1) := by
      unfold Bk.come
      rw [if_neg (by omega)]
      have h3 : 0 ≤ k.ra * (k.wait n - 1) := Int.mul_nonneg (by omega) (by omega)
      generalize k.ra * (k.wait n - 1) = z at *
      unfold held
      omega
    have hk := (k.kept_lo h (k.wait n - 1)).2.1
    have hq : k.he - n < k.ra * ((k.he - n) / k.ra) + k.ra := Int.lt_mul_ediv_self_add (by omega)
    rw [hwt, Int.mul_sub, Int.mul_neg] at hc
    rw [hwt] at hk h3
    omega
/-- Not more goes than the burst and what comes: held and spent, of a bucket that began with so much. -/
theorem Bk.take_sum (k : Bk) (n : Int) : (k.take n).he + (k.take n).sp = k.he + k.sp := by
  unfold Bk.take
  split
  · dsimp only; omega
  · rfl
theorem Bk.take_keeps (k : Bk) (n : Int) : (k.take n).ra = k.ra ∧ (k.take n).bu = k.bu := by
  unfold Bk.take
  split <;> exact ⟨rfl, rfl⟩
theorem Bk.tick_sum {k : Bk} {i : Nat} (h : k.fit i) (t : Int) (h0 : 0 ≤ t) : (k.tick t).he + (k.tick t).sp ≤ k.he + k.sp + k.ra * t := by
  have hk := (k.kept_lo h t).2.1
  have hr := h.r1
  have hc : k.come t ≤ k.ra * t := by
    unfold Bk.come
    rw [if_neg (by omega)]
    have h3 : 0 ≤ k.ra * t := Int.mul_nonneg (by omega) h0
    generalize k.ra * t = z at *
    unfold held
    omega
  show k.he + k.kept t + k.sp ≤ _
  omega
end Go.Proofs.Ytblnmddphichgaa
