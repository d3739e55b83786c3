/-
  Own text: markLost and Heard, walked.
-/
import Derived.Test.YtopnceniihgkpaaPtA
namespace Go.Proofs.Ytopnceniihgkpaa
open Go.RowKit

set_option maxRecDepth 100000 in
theorem marklost_any (b o i c : Nat) (p : Pn) (hf : p.st.fit i) (hi : i ≤ 100000000) (hc : (c : Int) ≤ 9223372036854775807) (w : World) (h : PLie w b o p) :
    Calls Try.prog 24 #[.pointer (some ⟨b, o, none⟩), .int .i64 c] w fun e w' => e = .returned (.tuple #[]) ∧ Hid (PLie w' b o ⟨p.st.marks (min c 64), p.sn, p.q, p.pr, p.ga, p.nx⟩) ∧ Hid (Prt b o 15 w w') := by
  obtain ⟨m, hm⟩ : ∃ m, m = min c 64 := ⟨_, rfl⟩
  have hm2 : m ≤ 64 := by omega
  have hcs : ((c : Int) ≤ 64 ∧ m = c) ∨ (¬ (c : Int) ≤ 64 ∧ m = 64) := by omega
  rw [← hm]
  have H := Lib.hid h
  have HI := Lib.hid hi
  have CM : Hid (∀ (j : Nat) (w' : World), j ≤ 64 → PLie w' b o ⟨p.st.marks j, p.sn, p.q, p.pr, p.ga, p.nx⟩ → Calls Try.prog 25 #[.pointer (some ⟨b, o, none⟩), .bool true] w' fun e w1 => e = .returned (.tuple #[]) ∧ Hid (PLie w1 b o ⟨p.st.marks (j + 1), p.sn, p.q, p.pr, p.ga, p.nx⟩) ∧ Hid (Prt b o 15 w' w1)) := Lib.hid (fun j w' hj hp =>
    (kmark_any true b o (i + j) (p.st.marks j) (Sk.marks_fit hf j) (by omega) w' hp.st).mono fun _ _ ⟨e, h1, h2⟩ => ⟨e, Lib.hid (hp.putst h2.out h1.out), Lib.hid (h2.out.wide (Nat.le_refl _) (by omega))⟩)
  have HM := Lib.hid hm2
  have k1 : (m : Int) ≤ 64 := by omega
  clear hm hm2 h hi hf
  rcases hcs with ⟨h1, rfl⟩ | ⟨h1, rfl⟩
  all_goals
    go_enter Try.func24, Try.ntmps24
    go_wp2
  · go_loopw [6] (fun q wr => ∃ j : Nat, q = .int .i64 (j : Int) ∧ Hid (j ≤ m) ∧ Hid (PLie wr b o ⟨p.st.marks j, p.sn, p.q, p.pr, p.ga, p.nx⟩) ∧ Hid (Prt b o 15 w wr)) (fun q _ => m - (intOf q).toNat)
    case atStart => exact ⟨0, rfl, Lib.hid (Nat.zero_le _), Lib.hid H.out, Lib.hid (Prt.refl _ _ _ _)⟩
    case round =>
      obtain ⟨j, rfl, HJ, HP, HW⟩ := hrel
      have hj := HJ.out
      by_cases hlt : j < m
      · have k2 : (j : Int) < m := by omega
        have k3 : (j : Int) ≤ 64 := by omega
        have HJ2 : Hid (j + 1 ≤ m) := Lib.hid (by omega)
        have HD : Hid (m - (j + 1) < m - j) := Lib.hid (by omega)
        have CM1 := Lib.hid (CM.out j wr (by omega) HP.out)
        clear hlt hj
        go_wp2_with (first
          | (go_at_call 25; (with_reducible refine (CM1.out).mono ?_); rintro e w1 ⟨rfl, HP1, HW1⟩; have HW2 := Lib.hid (HW.out.trans HW1.out))
          | fail)
        go_roundw
        case rel => exact ⟨j + 1, by go_num, HJ2, HP1, HW2⟩
        case measure => have := HD.out; simp [intOf] <;> omega
      · obtain rfl : j = m := by omega
        clear hlt hj
        go_wp2
        go_end0
        exact ⟨rfl, HP, HW⟩
  · go_loopw [6] (fun q wr => ∃ j : Nat, q = .int .i64 (j : Int) ∧ Hid (j ≤ 64) ∧ Hid (PLie wr b o ⟨p.st.marks j, p.sn, p.q, p.pr, p.ga, p.nx⟩) ∧ Hid (Prt b o 15 w wr)) (fun q _ => 64 - (intOf q).toNat)
    case atStart => exact ⟨0, rfl, Lib.hid (Nat.zero_le _), Lib.hid H.out, Lib.hid (Prt.refl _ _ _ _)⟩
    case round =>
      obtain ⟨j, rfl, HJ, HP, HW⟩ := hrel
      have hj := HJ.out
      by_cases hlt : j < 64
      · have k2 : (j : Int) < 64 := by omega
        have k3 : (j : Int) ≤ 64 := by omega
        have HJ2 : Hid (j + 1 ≤ 64) := Lib.hid (by omega)
        have HD : Hid (64 - (j + 1) < 64 - j) := Lib.hid (by omega)
        have CM1 := Lib.hid (CM.out j wr (by omega) HP.out)
        clear hlt hj
        go_wp2_with (first
          | (go_at_call 25; (with_reducible refine (CM1.out).mono ?_); rintro e w1 ⟨rfl, HP1, HW1⟩; have HW2 := Lib.hid (HW.out.trans HW1.out))
          | fail)
        go_roundw
        case rel => exact ⟨j + 1, by go_num, HJ2, HP1, HW2⟩
        case measure => have := HD.out; simp [intOf] <;> omega
      · obtain rfl : j = 64 := by omega
        clear hlt hj
        go_wp2
        go_end0
        exact ⟨rfl, HP, HW⟩
end Go.Proofs.Ytopnceniihgkpaa
