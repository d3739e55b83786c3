/-
  Own text: doubled, the closure of Choose, slices.IndexFunc and slices.DeleteFunc at two numbers, walked. (Written by gen_mpr.py.)
-/
import Derived.Test.YtblnmddphichgaaMpL
import Derived.Test.YtblnmddphichgaaPtU
import Derived.Lib.SliceRun
import Derived.BigFrame
namespace Go.Proofs.Ytblnmddphichgaa.Mp
open Go.RowKit

def dbl (r lo st : Int) : Bool := if r = 1 then (if 6553 ≤ lo then true else decide (st ≠ 0)) else decide (r ≤ 0)
theorem doubled_any (r : Int) (p o : Nat) (q : Pn) (w : World) (h : PLie w p o q) :
    Calls Try.prog 42 #[.int .i64 r, .pointer (some ⟨p, o, none⟩)] w fun e w' => e = .returned (.bool (dbl r q.st.lo q.state)) ∧ w = w' := by
  have CS := Lib.hid (state_any p o q w h)
  obtain ⟨x0, _, _, _, _⟩ := h.st.cells
  clear h
  generalize q.state = st at *
  generalize q.st.lo = lo at *
  unfold dbl
  by_cases h1 : r = 1
  · subst h1
    rw [if_pos rfl]
    by_cases h2 : 6553 ≤ lo
    · rw [if_pos h2]
      go_enter Try.func42, Try.ntmps42
      go_wp2_with (first
        | (go_at_call 38; (with_reducible refine (CS.out).mono ?_); rintro e w1 ⟨rfl, rfl⟩)
        | fail)
      go_ret
      exact ⟨rfl, rfl⟩
    · rw [if_neg h2]
      go_enter Try.func42, Try.ntmps42
      go_wp2_with (first
        | (go_at_call 38; (with_reducible refine (CS.out).mono ?_); rintro e w1 ⟨rfl, rfl⟩)
        | fail)
      go_ret
      exact ⟨ret_bool (by by_cases h3 : st = 0 <;> simp [h3]), rfl⟩
  · rw [if_neg h1]
    go_enter Try.func42, Try.ntmps42
    go_wp2
    go_ret
    exact ⟨ret_bool (by simp), rfl⟩
/-- What the closure of Choose answers of a way x, where y is the first one. -/
def lost (P : Nat → Pn) (x y : Nat) : Bool := decide ((P x).state = 2 ∧ (P y).state ≠ 2)
theorem closure_any (c f p lb C x y : Nat) (P : Nat → Pn) (w : World) (hx : x < 2) (hc : w.cell? ⟨c, 0, none⟩ = some (.slice (some ⟨lb, 0, none⟩) 2 C)) (hf : w.cell? ⟨f, 0, none⟩ = some (.pointer (some ⟨p, y * 15, none⟩))) (hl : w.cell? ⟨lb, x, none⟩ = some (.pointer (some ⟨p, x * 15, none⟩))) (hpx : PLie w p (x * 15) (P x)) (hpy : PLie w p (y * 15) (P y)) :
    Calls Try.prog 44 #[.int .i64 (x : Int), .pointer (some ⟨c, 0, none⟩), .pointer (some ⟨f, 0, none⟩)] w fun e w' => e = .returned (.bool (lost P x y)) ∧ w = w' := by
  have CX := Lib.hid (state_any p (x * 15) (P x) w hpx)
  have CY := Lib.hid (state_any p (y * 15) (P y) w hpy)
  have h0 : (0 : Int) ≤ (x : Int) := by omega
  have h1 : (x : Int) < 2 := by omega
  unfold lost
  generalize (P x).state = sx at *
  generalize (P y).state = sy at *
  generalize x * 15 = ox at *
  generalize y * 15 = oy at *
  clear hpx hpy hx
  by_cases h2 : sx = 2
  · go_enter Try.func44, Try.ntmps44
    go_wp2_with (first
      | (go_at_call 38; (with_reducible refine (CX.out).mono ?_); rintro e w1 ⟨rfl, rfl⟩)
      | (go_at_call 38; (with_reducible refine (CY.out).mono ?_); rintro e w1 ⟨rfl, rfl⟩)
      | fail)
    go_ret
    exact ⟨ret_bool (by by_cases h3 : sy = 2 <;> simp [h2, h3]), rfl⟩
  · go_enter Try.func44, Try.ntmps44
    go_wp2_with (first
      | (go_at_call 38; (with_reducible refine (CX.out).mono ?_); rintro e w1 ⟨rfl, rfl⟩)
      | (go_at_call 38; (with_reducible refine (CY.out).mono ?_); rintro e w1 ⟨rfl, rfl⟩)
      | fail)
    go_ret
    exact ⟨ret_bool (by simp [h2]), rfl⟩
abbrev CF (c f : Nat) : Value := .func (.func 44) #[] #[.pointer (some ⟨c, 0, none⟩), .pointer (some ⟨f, 0, none⟩)]
set_option maxRecDepth 100000 in
theorem index2_any (g c f a b : Nat) (z : Bool) (w : World) (ha : w.cell? ⟨g, 0, none⟩ = some (.int .i64 (a : Int))) (hb : w.cell? ⟨g, 1, none⟩ = some (.int .i64 (b : Int)))
    (h0 : Calls Try.prog 44 #[.int .i64 (a : Int), .pointer (some ⟨c, 0, none⟩), .pointer (some ⟨f, 0, none⟩)] w fun e w' => e = .returned (.bool false) ∧ w = w')
    (h1 : Calls Try.prog 44 #[.int .i64 (b : Int), .pointer (some ⟨c, 0, none⟩), .pointer (some ⟨f, 0, none⟩)] w fun e w' => e = .returned (.bool z) ∧ w = w') :
    Calls Try.prog 60 #[.slice (some ⟨g, 0, none⟩) 2 2, CF c f] w fun e w' => e = .returned (.int .i64 (if z then 1 else -1)) ∧ w = w' := by
  have C0 := Lib.hid h0
  have C1 := Lib.hid h1
  clear h0 h1
  generalize (a : Int) = za at *
  generalize (b : Int) = zb at *
  go_enter Try.func60, Try.ntmps60
  go_wp2
  refine wp_loop_rounds 3 ?_
  rw [rounds_succ]
  go_wp2_with (first
    | (go_at_call 44; (with_reducible refine (C0.out).mono ?_); rintro e w1 ⟨rfl, rfl⟩)
    | fail)
  rw [rounds_succ]
  cases z with
  | true =>
    go_wp2_with (first
      | (go_at_call 44; (with_reducible refine (C1.out).mono ?_); rintro e w1 ⟨rfl, rfl⟩)
      | fail)
    go_ret
    exact ⟨rfl, rfl⟩
  | false =>
    go_wp2_with (first
      | (go_at_call 44; (with_reducible refine (C1.out).mono ?_); rintro e w1 ⟨rfl, rfl⟩)
      | fail)
    rw [rounds_succ]
    go_wp2
    go_ret
    exact ⟨rfl, rfl⟩
theorem zero_int (w : World) : (zeroValue 3).run Try.prog w = .ok (.int .i64 0) w := by kernel_rfl
set_option maxRecDepth 100000 in
theorem delete2_any (g c f a b : Nat) (z : Bool) (w : World) (ha : w.cell? ⟨g, 0, none⟩ = some (.int .i64 (a : Int))) (hb : w.cell? ⟨g, 1, none⟩ = some (.int .i64 (b : Int))) (hfz : w.frozen? ⟨g, 1, none⟩ = false)
    (h0 : Calls Try.prog 44 #[.int .i64 (a : Int), .pointer (some ⟨c, 0, none⟩), .pointer (some ⟨f, 0, none⟩)] w fun e w' => e = .returned (.bool false) ∧ w = w')
    (h1 : Calls Try.prog 44 #[.int .i64 (b : Int), .pointer (some ⟨c, 0, none⟩), .pointer (some ⟨f, 0, none⟩)] w fun e w' => e = .returned (.bool z) ∧ w = w') :
    Calls Try.prog 43 #[.slice (some ⟨g, 0, none⟩) 2 2, CF c f] w fun e w' => (z = false → e = .returned (.slice (some ⟨g, 0, none⟩) 2 2) ∧ w = w') ∧ (z = true → e = .returned (.slice (some ⟨g, 0, none⟩) 1 2) ∧ w' = w.setCell ⟨g, 1, none⟩ (.int .i64 0)) := by
  have CI := Lib.hid (index2_any g c f a b z w ha hb h0 h1)
  have h1c : ∀ j, j < 1 → (w.cell? ⟨g, 1 + j, none⟩).isSome = true := fun j hj => by
    obtain rfl : j = 0 := by omega
    show (w.cell? ⟨g, 1, none⟩).isSome = true
    rw [hb]
    rfl
  have h1f : ∀ j, j < 1 → w.frozen? ⟨g, 1 + j, none⟩ = false := fun j hj => by
    obtain rfl : j = 0 := by omega
    exact hfz
  have hcl : ∀ ty, (Builtin.clear_ #[47] ty #[.slice (some ⟨g, 1, none⟩) 1 1]).run Try.prog w = .ok (.tuple #[]) (w.setCells g 1 (List.replicate 1 (.int .i64 0))) :=
    fun ty => Lib.run_clear_slice w 47 3 ty (.int .i64 0) Try.underlying47 zero_int rfl rfl g 1 1 1 (by decide) (fun j hj => h1c j hj) (fun j hj => h1f j hj)
  have hsc : w.setCells g 1 (List.replicate 1 (.int .i64 0)) = w.setCell ⟨g, 1, none⟩ (.int .i64 0) := rfl
  rw [hsc] at hcl
  clear h0 h1 ha hb hfz hsc h1c h1f
  cases z with
  | false =>
    go_enter Try.func43, Try.ntmps43
    go_wp2_with (first
      | (go_at_call 60; (with_reducible refine (CI.out).mono ?_); rintro e w1 ⟨rfl, rfl⟩)
      | fail)
    go_ret
    exact ⟨fun _ => ⟨rfl, rfl⟩, fun h => (by cases h)⟩
  | true =>
    go_enter Try.func43, Try.ntmps43
    go_wp2_with (first
      | (go_at_call 60; (with_reducible refine (CI.out).mono ?_); rintro e w1 ⟨rfl, rfl⟩)
      | fail)
    refine wp_loop_rounds 1 ?_
    rw [rounds_succ]
    go_wp2_with (simp only [hcl])
    go_ret
    exact ⟨fun h => (by cases h), fun _ => ⟨rfl, rfl⟩⟩
end Go.Proofs.Ytblnmddphichgaa.Mp
