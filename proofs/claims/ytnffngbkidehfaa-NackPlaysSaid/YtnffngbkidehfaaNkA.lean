/-
  Own text: what the code compares; its two questions on a run, walked.
-/
import Derived.Test.YtnffngbkidehfaaNkM
import Derived.BigQuiet
import Derived.BigRegion
import Derived.Deep.Cut
import Derived.Deep.RegionLaw
namespace Go.Proofs.Ytnffngbkidehfaa.Nk
open Go.RowKit

/-- The code's answer on two numbers. -/
def cmpI (x y : Int) : Int := if x < y then -1 else if y < x then 1 else 0
theorem cmpI_any (x y : Int) (w : World) :
    Calls Try.prog 112 #[.int .u32 x, .int .u32 y] w fun e w' => e = .returned (.int .i64 (cmpI x y)) ∧ w' = w := by
  unfold cmpI
  by_cases h1 : x < y
  · rw [if_pos h1]
    go_enter Try.func112, Try.ntmps112
    go_wp2
    go_ret
    exact ⟨rfl, rfl⟩
  · rw [if_neg h1]
    by_cases h2 : y < x
    · rw [if_pos h2]
      go_enter Try.func112, Try.ntmps112
      go_wp2
      go_ret
      exact ⟨rfl, rfl⟩
    · rw [if_neg h2]
      go_enter Try.func112, Try.ntmps112
      go_wp2
      go_ret
      exact ⟨rfl, rfl⟩
theorem cmpJ_any (x y : Int) (w : World) :
    Calls Try.prog 109 #[.int .i64 x, .int .i64 y] w fun e w' => e = .returned (.int .i64 (cmpI x y)) ∧ w' = w := by
  unfold cmpI
  by_cases h1 : x < y
  · rw [if_pos h1]
    go_enter Try.func109, Try.ntmps109
    go_wp2
    go_ret
    exact ⟨rfl, rfl⟩
  · rw [if_neg h1]
    by_cases h2 : y < x
    · rw [if_pos h2]
      go_enter Try.func109, Try.ntmps109
      go_wp2
      go_ret
      exact ⟨rfl, rfl⟩
    · rw [if_neg h2]
      go_enter Try.func109, Try.ntmps109
      go_wp2
      go_ret
      exact ⟨rfl, rfl⟩
def It.val (x : It) : Value := .agg #[.int .u32 x.key, .int .i64 x.due]
/-- One run in a block of its own. -/
theorem one_new (w : World) (x : It) (fr : Nat × Nat) (hf : fr = (0, 0)) : TBlk (w.alloc (.cells #[.int .u32 x.key, .int .i64 x.due] 167 fr)) w.heap.size (icells [x]) := by
  subst hf
  exact Go.Deep.blk_alloc_new w _
set_option maxRecDepth 100000 in
theorem due_any (x : It) (t : Int) (w : World) :
    Calls Try.prog 108 #[x.val, .int .i64 t] w fun e w' => e = .returned (.int .i64 (cmpI x.due t)) ∧ Below w.heap.size w w' := by
  unfold It.val
  obtain ⟨W1, hW1⟩ : ∃ W1, W1 = w.alloc (.cells #[.int .u32 x.key, .int .i64 x.due] 167) := ⟨_, rfl⟩
  have hb1 : Below w.heap.size w W1 := by rw [hW1]; exact (Below.refl _ _).alloc (Nat.le_refl _) _
  have hx1 : TBlk W1 w.heap.size (icells [x]) := by rw [hW1]; exact one_new w x _ rfl
  have x1 := hx1.cell 1
  simp only [icells, List.getElem?_cons_succ, List.getElem?_cons_zero] at x1
  have C1 := Lib.hid (fun w => cmpJ_any x.due t w)
  have HB1 := Lib.hid hb1
  have HW1 := Lib.hid hW1
  clear hb1 hx1 hW1
  generalize cmpI x.due t = z at *
  generalize x.key = xk at *
  generalize x.due = xd at *
  go_enter Try.func108, Try.ntmps108
  go_upto_region 1 with fail
  rw [← HW1.out]
  go_wp2_with (first
    | (go_at_call 109; (with_reducible refine (C1.out _).mono ?_); rintro e w1 ⟨rfl, rfl⟩)
    | fail)
  go_ret
  exact ⟨rfl, HB1.out⟩
theorem cmpI_zero (x y : Int) : (cmpI x y == 0) = decide (x = y) := by
  unfold cmpI
  by_cases h1 : x < y
  · rw [if_pos h1, decide_eq_false (by omega)]; rfl
  · rw [if_neg h1]
    by_cases h2 : y < x
    · rw [if_pos h2, decide_eq_false (by omega)]; rfl
    · rw [if_neg h2, decide_eq_true (by omega)]; rfl
set_option maxRecDepth 100000 in
theorem is_any (x : It) (k : Int) (c : Nat) (w : World) (hc : w.cell? ⟨c, 0, none⟩ = some (.int .u32 k)) :
    Calls Try.prog 111 #[x.val, .pointer (some ⟨c, 0, none⟩)] w fun e w' => e = .returned (.bool (decide (x.key = k))) ∧ Below w.heap.size w w' := by
  unfold It.val
  obtain ⟨W1, hW1⟩ : ∃ W1, W1 = w.alloc (.cells #[.int .u32 x.key, .int .i64 x.due] 167) := ⟨_, rfl⟩
  have hb1 : Below w.heap.size w W1 := by rw [hW1]; exact (Below.refl _ _).alloc (Nat.le_refl _) _
  have hx1 : TBlk W1 w.heap.size (icells [x]) := by rw [hW1]; exact one_new w x _ rfl
  have x0 := hx1.cell 0
  simp only [icells, List.getElem?_cons_zero] at x0
  have c0 : W1.cell? ⟨c, 0, none⟩ = some (.int .u32 k) := (hb1.cell (p := ⟨c, 0, none⟩) (World.block_lt_of_cell? w _ hc)).trans hc
  have C1 := Lib.hid (fun w => cmpI_any x.key k w)
  obtain ⟨b, hb⟩ : ∃ b, (cmpI x.key k == 0) = b := ⟨_, rfl⟩
  have hb2 : decide (x.key = k) = b := by rw [← hb, cmpI_zero]
  rw [hb2]
  have HB1 := Lib.hid hb1
  have HW1 := Lib.hid hW1
  clear hb1 hx1 hW1 hb2 hc
  generalize cmpI x.key k = z at *
  generalize x.key = xk at *
  generalize x.due = xd at *
  go_enter Try.func111, Try.ntmps111
  go_upto_region 1 with fail
  rw [← HW1.out]
  go_wp2_with (first
    | (go_at_call 112; (with_reducible refine (C1.out _).mono ?_); rintro e w1 ⟨rfl, rfl⟩)
    | fail)
  go_ret
  exact ⟨rfl, HB1.out⟩
end Go.Proofs.Ytnffngbkidehfaa.Nk
