/-
  Own text: cmp.Compare and cmp.Or at two numbers, walked.
-/
import Derived.Test.YtblnmddphichgaaByteA
import Derived.BigQuiet
namespace Go.Proofs.Ytblnmddphichgaa
open Go.RowKit

/-- The code's answer on two numbers. -/
def cmpI (x y : Int) : Int := if x < y then -1 else if y < x then 1 else 0
theorem cmpI_any (x y : Int) (w : World) :
    Calls Try.prog 52 #[.int .i64 x, .int .i64 y] w fun e w' => e = .returned (.int .i64 (cmpI x y)) ∧ w' = w := by
  unfold cmpI
  by_cases h1 : x < y
  · rw [if_pos h1]
    go_enter Try.func52, Try.ntmps52
    go_wp2
    go_ret
    exact ⟨rfl, rfl⟩
  · rw [if_neg h1]
    by_cases h2 : y < x
    · rw [if_pos h2]
      go_enter Try.func52, Try.ntmps52
      go_wp2
      go_ret
      exact ⟨rfl, rfl⟩
    · rw [if_neg h2]
      go_enter Try.func52, Try.ntmps52
      go_wp2
      go_ret
      exact ⟨rfl, rfl⟩
/-- The first one that isn't 0. -/
def orI (x y : Int) : Int := if x = 0 then y else x
set_option maxRecDepth 100000 in
theorem or2_any (x y : Int) (g : Nat) (w : World) (c0 : w.cell? ⟨g, 0, none⟩ = some (.int .i64 x)) (c1 : w.cell? ⟨g, 1, none⟩ = some (.int .i64 y)) :
    Calls Try.prog 51 #[.slice (some ⟨g, 0, none⟩) 2 2] w fun e w' => e = .returned (.int .i64 (orI x y)) ∧ w = w' := by
  have HC := Lib.hid (And.intro c0 c1)
  clear c0 c1
  have HO : Hid ((¬ x = 0 → orI x y = x) ∧ (x = 0 → orI x y = y)) := Lib.hid ⟨fun h => if_neg h, fun h => if_pos h⟩
  generalize orI x y = z at *
  go_enter Try.func51, Try.ntmps51
  go_wp2
  go_loopw [8] (fun i wr => ∃ j : Nat, i = .int .i64 (j : Int) ∧ Hid (j ≤ 2) ∧ Hid (wr = w) ∧ Hid (1 ≤ j → x = 0) ∧ Hid (2 ≤ j → y = 0)) (fun i _ => 2 - (intOf i).toNat)
  case atStart => exact ⟨0, rfl, Lib.hid (by omega), Lib.hid rfl, Lib.hid (by omega), Lib.hid (by omega)⟩
  case round =>
    obtain ⟨j, rfl, HJ, HW, HX, HY⟩ := hrel
    have hw := HW.out.symm
    subst hw
    obtain ⟨c0, c1⟩ := HC.out
    have hj := HJ.out
    rcases (by omega : j = 0 ∨ j = 1 ∨ j = 2) with rfl | rfl | rfl
    · by_cases h0 : x = 0
      · have H0 := Lib.hid h0
        have h0b : (x != 0) = false := by simp [h0]
        clear h0 hj
        go_wp2
        go_roundw
        case rel => exact ⟨1, rfl, Lib.hid (by omega), Lib.hid True.intro, Lib.hid (fun _ => H0.out), Lib.hid (by omega)⟩
        case measure => simp [intOf]
      · have HZ := Lib.hid (HO.out.1 h0)
        go_wp2
        go_ret
        exact ⟨ret_int HZ.out.symm, rfl⟩
    · have HZ := Lib.hid (HO.out.2 (HX.out (by omega)))
      by_cases h0 : y = 0
      · have H0 := Lib.hid h0
        have h0b : (y != 0) = false := by simp [h0]
        clear h0 hj
        go_wp2
        go_roundw
        case rel => exact ⟨2, rfl, Lib.hid (by omega), Lib.hid True.intro, Lib.hid (fun _ => HX.out (by omega)), Lib.hid (fun _ => H0.out)⟩
        case measure => simp [intOf]
      · go_wp2
        go_ret
        exact ⟨ret_int HZ.out.symm, rfl⟩
    · have HZ := Lib.hid (HO.out.2 (HX.out (by omega)))
      have HZ2 := Lib.hid (HY.out (by omega))
      clear hj
      go_wp2
      go_ret
      exact ⟨ret_int (by rw [HZ.out, HZ2.out]), rfl⟩
end Go.Proofs.Ytblnmddphichgaa
