/-
  Own text: the page's example of layer 14 holds.
-/
import Derived.Test.YtopnceniihgkpaaPtC
namespace Go.Proofs.Ytopnceniihgkpaa
open Go.RowKit

theorem zcells_eq : Pn.zero.cells = #[.int .i64 0, .int .i64 0, .int .i64 0, .int .i64 0, .int .i64 0, .bool false, .int .u32 0, .int .u64 0, .int .i64 0, .int .i64 0, .int .i64 0, .int .i64 0, .int .i64 0, .int .i64 0, .int .u32 0] := rfl
/-- A way by which nothing has come for so many ticks. -/
def Pn.still (j : Int) : Pn := ⟨Sk.zero, Sn.zero, j, 0, 0, 0⟩
theorem Pn.still_ok {j : Int} (h0 : 0 ≤ j) (h1 : j ≤ 100) : (Pn.still j).ok := ⟨h0, by show j ≤ 1073741824; omega, .inl ⟨rfl, rfl⟩⟩
theorem Pn.still_tick {j : Int} (h0 : 0 ≤ j) (h1 : j < 19) : (Pn.still j).tick = Pn.still (j + 1) ∧ (Pn.still j).fires = false := by
  have e : more30 (Pn.still j).q = j + 1 := by
    show (if j < 1073741824 then j + 1 else 1073741824) = j + 1
    rw [if_pos (by omega)]
  unfold Pn.tick Pn.fires
  rw [e, if_pos (by omega), if_pos (by omega)]
  exact ⟨rfl, rfl⟩
theorem Pn.still_last : (Pn.still 19).fires = true ∧ (Pn.still 19).tick.state = 1 := by decide +kernel
set_option maxRecDepth 100000 in
set_option maxHeartbeats 1000000 in
theorem awake14_any (w : World) :
    Calls Try.prog 6 #[] w fun e w' => e = .returned (.bool true) ∧ Below w.heap.size w w' := by
  obtain ⟨W, hW⟩ : ∃ W, W = w.alloc (.cells Pn.zero.cells 31) := ⟨_, rfl⟩
  have HB := Lib.hid (show Below w.heap.size w W by rw [hW]; exact (Below.refl _ _).alloc (Nat.le_refl _) _)
  have HP := Lib.hid (show PLie W w.heap.size 0 (Pn.still 0) by rw [hW]; exact Lies.new w Pn.zero.cells _ (Below.refl _ _))
  have CT : Hid (∀ j : Nat, j < 19 → ∀ w', PLie w' w.heap.size 0 (Pn.still j) → Calls Try.prog 10 #[.pointer (some ⟨w.heap.size, 0, none⟩)] w' fun e w1 => e = .returned (.bool false) ∧ Hid (PLie w1 w.heap.size 0 (Pn.still ((j + 1 : Nat) : Int))) ∧ Hid (Prt w.heap.size 0 15 w' w1)) := Lib.hid (fun j hj w' hp => by
    have h := tick_any w.heap.size 0 (Pn.still j) (Pn.still_ok (by omega) (by omega)) w' hp
    obtain ⟨e1, e2⟩ := Pn.still_tick (j := (j : Int)) (by omega) (by omega)
    rw [e1, e2] at h
    exact h)
  have CL : Hid (∀ w', PLie w' w.heap.size 0 (Pn.still 19) → Calls Try.prog 10 #[.pointer (some ⟨w.heap.size, 0, none⟩)] w' fun e w1 => e = .returned (.bool true) ∧ Hid (PLie w1 w.heap.size 0 (Pn.still 19).tick) ∧ Hid (Prt w.heap.size 0 15 w' w1)) := Lib.hid (fun w' hp => by
    have h := tick_any w.heap.size 0 (Pn.still 19) (Pn.still_ok (by omega) (by omega)) w' hp
    rw [Pn.still_last.1] at h
    exact h)
  have CS : Hid (∀ w', PLie w' w.heap.size 0 (Pn.still 19) → Calls Try.prog 12 #[.pointer (some ⟨w.heap.size, 0, none⟩)] w' fun e w1 => e = .returned (.int .i64 0) ∧ w' = w1) := Lib.hid (fun w' hp => state_any w.heap.size 0 (Pn.still 19) w' hp)
  have CU : Hid (∀ w', PLie w' w.heap.size 0 (Pn.still 19).tick → Calls Try.prog 12 #[.pointer (some ⟨w.heap.size, 0, none⟩)] w' fun e w1 => e = .returned (.int .i64 1) ∧ w' = w1) := Lib.hid (fun w' hp => by
    have h := state_any w.heap.size 0 (Pn.still 19).tick w' hp
    rw [Pn.still_last.2] at h
    exact h)
  rw [zcells_eq] at hW
  generalize (Pn.still 19).tick = pl at *
  go_enter Try.func6, Try.ntmps6
  go_upto_region 2 with fail
  rw [← hW]
  clear hW
  go_wp2
  go_loopw [2] (fun i wr => ∃ j : Nat, i = .int .i64 (j : Int) ∧ Hid (j ≤ 19) ∧ Hid (PLie wr w.heap.size 0 (Pn.still j)) ∧ Hid (Below w.heap.size w wr)) (fun i _ => 19 - (intOf i).toNat)
  case atStart => exact ⟨0, rfl, Lib.hid (Nat.zero_le _), HP, HB⟩
  case round =>
    obtain ⟨j, rfl, HJ, HP, HW⟩ := hrel
    have hj := HJ.out
    by_cases hlt : j < 19
    · have k1 : (j : Int) < 19 := by omega
      have HJ2 : Hid (j + 1 ≤ 19) := Lib.hid (by omega)
      have HD : Hid (19 - (j + 1) < 19 - j) := Lib.hid (by omega)
      have CT1 := Lib.hid (CT.out j hlt wr HP.out)
      clear hlt hj
      go_wp2_with (first
        | (go_at_call 10; (with_reducible refine (CT1.out).mono ?_); rintro e w1 ⟨rfl, HP1, HT1⟩; have HW1 := Lib.hid (HT1.out.bel HW.out HW.out.size (Nat.le_refl _)))
        | fail)
      go_roundw
      case rel => exact ⟨j + 1, by go_num, HJ2, HP1, HW1⟩
      case measure => have := HD.out; simp [intOf] <;> omega
    · obtain rfl : j = 19 := by omega
      have HP : Hid (PLie wr w.heap.size 0 (Pn.still 19)) := HP
      clear hlt hj HJ
      go_wp2_with (first
        | (go_at_call 12; (with_reducible refine (CS.out _ HP.out).mono ?_); rintro e w1 ⟨rfl, rfl⟩)
        | (go_at_call 10; (with_reducible refine (CL.out _ HP.out).mono ?_); rintro e w2 ⟨rfl, HP2, HT2⟩; have HW2 := Lib.hid (HT2.out.bel HW.out HW.out.size (Nat.le_refl _)); clear HP CS)
        | (go_at_call 12; (with_reducible refine (CU.out _ HP2.out).mono ?_); rintro e w3 ⟨rfl, rfl⟩)
        | fail)
      go_ret
      exact ⟨rfl, HW2.out⟩
end Go.Proofs.Ytopnceniihgkpaa
