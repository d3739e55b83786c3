/-
  Own text: the document's Check, walked.
-/
import Derived.Test.YtldhlknmabpanaaGreatK12
import Derived.Deep.DeepCutAuto
namespace Go.Proofs.YtldhlknmabpanaaGreat
open Go.RowKit

set_option maxRecDepth 100000 in
set_option maxHeartbeats 8000000 in
theorem rcheck_1 (ses seq path tick A B K M ix : Int) (da : Option Addr) (dl dc : Nat) (l : List Int) (w : World) (hl : Bytes w da dl l) (bb cb : Bool) (HBB : Hid (bb = decide (K = 0 ∧ M = 0 ∧ ix = 0))) (_HCB : Hid (cb = decide (1 ≤ K ∧ K ≤ 16 ∧ 0 ≤ M ∧ M ≤ 16 ∧ 1 ≤ dl ∧ dl ≤ 1200))) (R : Int) (HS : Hid (R = if (0 ≤ path ∧ path < 2) ∧ bb = true ∧ dl = 0 then 0 else 73)) :
    Calls Tryz.prog 62 #[.agg #[.int .i64 1, .int .u32 ses, .int .u32 seq, .int .i64 path, .int .u32 tick, .int .u32 A, .int .u32 B, .int .i64 K, .int .i64 M, .int .i64 ix, .slice da dl dc]] w fun e w' => e = .returned (.int .i64 R) ∧ Below w.heap.size w w' := by
  have HX := dbox_all w ⟨1, ses, seq, path, tick, A, B, K, M, ix, da, dl, dc⟩ 50 l hl
  dsimp only [Dg.cells] at HX
  have hm := hl.max
  clear hl
  go_enter Tryz.func62, Tryz.ntmps62
  go_upto_region 1 with fail
  obtain ⟨⟨_, x0, x1, x2, x3, x4, x5, x6, x7, x8, x9, x10⟩, hl0, hb0⟩ := HX.out _ (Below.refl _ _)
  have HL0 := Lib.hid hl0
  have HB0 := Lib.hid hb0
  clear hl0 hb0 HX
  generalize w.alloc (.cells #[.int .i64 1, .int .u32 ses, .int .u32 seq, .int .i64 path, .int .u32 tick, .int .u32 A, .int .u32 B, .int .i64 K, .int .i64 M, .int .i64 ix, .slice da dl dc] 50) = w0 at *
  go_upto_region 2 with fail
  go_cut [4] (fun s wx => s = .bool bb ∧ w0 = wx)
  case first =>
    obtain ⟨b1, e1⟩ : ∃ b1, (K == 0) = b1 := ⟨_, rfl⟩
    obtain ⟨b2, e2⟩ : ∃ b2, (M == 0) = b2 := ⟨_, rfl⟩
    obtain ⟨b3, e3⟩ : ∃ b3, (ix == 0) = b3 := ⟨_, rfl⟩
    have HEE : Hid (bb = (b1 && (b2 && b3))) := Lib.hid (by rw [HBB.out, ← e1, ← e2, ← e3, Bool.eq_iff_iff]; simp)
    clear HBB
    rcases b1 with _ | _
    case' true => rcases b2 with _ | _
    case' true.true => rcases b3 with _ | _
    all_goals
      go_wp2_with fail
      go_meet
      exact ⟨congrArg Value.bool HEE.out.symm, rfl⟩
  case rest =>
    obtain ⟨rfl, rfl⟩ := hcut
    rcases bb with _ | _
    all_goals go_wp2_with fail
    all_goals
      go_ret
      refine ⟨ret_int ?_, HB0.out⟩
      rw [HS.out]
      first
        | (rw [if_pos (by (try simp) <;> omega)]; done)
        | (rw [if_neg (by (try simp) <;> omega)]; done)
set_option maxRecDepth 100000 in
set_option maxHeartbeats 8000000 in
theorem rcheck_2 (ses seq path tick A B K M ix : Int) (da : Option Addr) (dl dc : Nat) (l : List Int) (w : World) (hl : Bytes w da dl l) (bb cb : Bool) (HBB : Hid (bb = decide (K = 0 ∧ M = 0 ∧ ix = 0))) (HCB : Hid (cb = decide (1 ≤ K ∧ K ≤ 16 ∧ 0 ≤ M ∧ M ≤ 16 ∧ 1 ≤ dl ∧ dl ≤ 1200))) (R : Int) (HS : Hid (R = if (0 ≤ path ∧ path < 2) ∧ cb = true ∧ 0 ≤ ix ∧ ix < K then 0 else 73)) :
    Calls Tryz.prog 62 #[.agg #[.int .i64 2, .int .u32 ses, .int .u32 seq, .int .i64 path, .int .u32 tick, .int .u32 A, .int .u32 B, .int .i64 K, .int .i64 M, .int .i64 ix, .slice da dl dc]] w fun e w' => e = .returned (.int .i64 R) ∧ Below w.heap.size w w' := by
  have hcK : cb = true → (1 ≤ K ∧ K ≤ 16) ∧ 0 ≤ M ∧ M ≤ 16 := by
    intro h
    have h2 := HCB.out
    rw [h] at h2
    have := decide_eq_true_iff.1 h2.symm
    omega
  have HX := dbox_all w ⟨2, ses, seq, path, tick, A, B, K, M, ix, da, dl, dc⟩ 50 l hl
  dsimp only [Dg.cells] at HX
  have hm := hl.max
  clear hl
  go_enter Tryz.func62, Tryz.ntmps62
  go_upto_region 1 with fail
  obtain ⟨⟨_, x0, x1, x2, x3, x4, x5, x6, x7, x8, x9, x10⟩, hl0, hb0⟩ := HX.out _ (Below.refl _ _)
  have HL0 := Lib.hid hl0
  have HB0 := Lib.hid hb0
  clear hl0 hb0 HX
  generalize w.alloc (.cells #[.int .i64 2, .int .u32 ses, .int .u32 seq, .int .i64 path, .int .u32 tick, .int .u32 A, .int .u32 B, .int .i64 K, .int .i64 M, .int .i64 ix, .slice da dl dc] 50) = w0 at *
  go_upto_region 2 with fail
  go_cut [4] (fun s wx => s = .bool bb ∧ w0 = wx)
  case first =>
    obtain ⟨b1, e1⟩ : ∃ b1, (K == 0) = b1 := ⟨_, rfl⟩
    obtain ⟨b2, e2⟩ : ∃ b2, (M == 0) = b2 := ⟨_, rfl⟩
    obtain ⟨b3, e3⟩ : ∃ b3, (ix == 0) = b3 := ⟨_, rfl⟩
    have HEE : Hid (bb = (b1 && (b2 && b3))) := Lib.hid (by rw [HBB.out, ← e1, ← e2, ← e3, Bool.eq_iff_iff]; simp)
    clear HBB
    rcases b1 with _ | _
    case' true => rcases b2 with _ | _
    case' true.true => rcases b3 with _ | _
    all_goals
      go_wp2_with fail
      go_meet
      exact ⟨congrArg Value.bool HEE.out.symm, rfl⟩
  case rest =>
    obtain ⟨rfl, rfl⟩ := hcut
    go_upto_region 13 with fail
    go_cut [5] (fun s wx => s = .bool cb ∧ w0 = wx)
    case first =>
      go_wp2_with fail
      all_goals
        go_meet
        refine ⟨congrArg Value.bool ?_, rfl⟩
        rw [HCB.out]
        first
          | (rw [decide_eq_decide]; omega)
          | (symm; rw [decide_eq_false_iff_not]; omega)
          | (symm; rw [decide_eq_true_iff]; omega)
    case rest =>
      obtain ⟨rfl, rfl⟩ := hcut
      rcases cb with _ | _
      case' true => have hk1 : wrap64 (K - 1) = K - 1 := by have := hcK rfl; unfold wrap64; omega
      case' true => have hk2 : wrap64 (K + M) = K + M := by have := hcK rfl; unfold wrap64; omega
      case' true => have hk3 : wrap64 (K + M - 1) = K + M - 1 := by have := hcK rfl; unfold wrap64; omega
      all_goals clear hcK HBB HCB
      all_goals go_wp2_with fail
      all_goals
        go_ret
        refine ⟨ret_int ?_, HB0.out⟩
        rw [HS.out]
        first
          | (rw [if_pos (by (try simp) <;> omega)]; done)
          | (rw [if_neg (by (try simp) <;> omega)]; done)
set_option maxRecDepth 100000 in
set_option maxHeartbeats 8000000 in
theorem rcheck_3 (ses seq path tick A B K M ix : Int) (da : Option Addr) (dl dc : Nat) (l : List Int) (w : World) (hl : Bytes w da dl l) (bb cb : Bool) (HBB : Hid (bb = decide (K = 0 ∧ M = 0 ∧ ix = 0))) (HCB : Hid (cb = decide (1 ≤ K ∧ K ≤ 16 ∧ 0 ≤ M ∧ M ≤ 16 ∧ 1 ≤ dl ∧ dl ≤ 1200))) (R : Int) (HS : Hid (R = if (0 ≤ path ∧ path < 2) ∧ cb = true ∧ K ≤ ix ∧ ix < K + M then 0 else 73)) :
    Calls Tryz.prog 62 #[.agg #[.int .i64 3, .int .u32 ses, .int .u32 seq, .int .i64 path, .int .u32 tick, .int .u32 A, .int .u32 B, .int .i64 K, .int .i64 M, .int .i64 ix, .slice da dl dc]] w fun e w' => e = .returned (.int .i64 R) ∧ Below w.heap.size w w' := by
  have hcK : cb = true → (1 ≤ K ∧ K ≤ 16) ∧ 0 ≤ M ∧ M ≤ 16 := by
    intro h
    have h2 := HCB.out
    rw [h] at h2
    have := decide_eq_true_iff.1 h2.symm
    omega
  have HX := dbox_all w ⟨3, ses, seq, path, tick, A, B, K, M, ix, da, dl, dc⟩ 50 l hl
  dsimp only [Dg.cells] at HX
  have hm := hl.max
  clear hl
  go_enter Tryz.func62, Tryz.ntmps62
  go_upto_region 1 with fail
  obtain ⟨⟨_, x0, x1, x2, x3, x4, x5, x6, x7, x8, x9, x10⟩, hl0, hb0⟩ := HX.out _ (Below.refl _ _)
  have HL0 := Lib.hid hl0
  have HB0 := Lib.hid hb0
  clear hl0 hb0 HX
  generalize w.alloc (.cells #[.int .i64 3, .int .u32 ses, .int .u32 seq, .int .i64 path, .int .u32 tick, .int .u32 A, .int .u32 B, .int .i64 K, .int .i64 M, .int .i64 ix, .slice da dl dc] 50) = w0 at *
  go_upto_region 2 with fail
  go_cut [4] (fun s wx => s = .bool bb ∧ w0 = wx)
  case first =>
    obtain ⟨b1, e1⟩ : ∃ b1, (K == 0) = b1 := ⟨_, rfl⟩
    obtain ⟨b2, e2⟩ : ∃ b2, (M == 0) = b2 := ⟨_, rfl⟩
    obtain ⟨b3, e3⟩ : ∃ b3, (ix == 0) = b3 := ⟨_, rfl⟩
    have HEE : Hid (bb = (b1 && (b2 && b3))) := Lib.hid (by rw [HBB.out, ← e1, ← e2, ← e3, Bool.eq_iff_iff]; simp)
    clear HBB
    rcases b1 with _ | _
    case' true => rcases b2 with _ | _
    case' true.true => rcases b3 with _ | _
    all_goals
      go_wp2_with fail
      go_meet
      exact ⟨congrArg Value.bool HEE.out.symm, rfl⟩
  case rest =>
    obtain ⟨rfl, rfl⟩ := hcut
    go_upto_region 13 with fail
    go_cut [5] (fun s wx => s = .bool cb ∧ w0 = wx)
    case first =>
      go_wp2_with fail
      all_goals
        go_meet
        refine ⟨congrArg Value.bool ?_, rfl⟩
        rw [HCB.out]
        first
          | (rw [decide_eq_decide]; omega)
          | (symm; rw [decide_eq_false_iff_not]; omega)
          | (symm; rw [decide_eq_true_iff]; omega)
    case rest =>
      obtain ⟨rfl, rfl⟩ := hcut
      rcases cb with _ | _
      case' true => have hk1 : wrap64 (K - 1) = K - 1 := by have := hcK rfl; unfold wrap64; omega
      case' true => have hk2 : wrap64 (K + M) = K + M := by have := hcK rfl; unfold wrap64; omega
      case' true => have hk3 : wrap64 (K + M - 1) = K + M - 1 := by have := hcK rfl; unfold wrap64; omega
      all_goals clear hcK HBB HCB
      all_goals go_wp2_with fail
      all_goals
        go_ret
        refine ⟨ret_int ?_, HB0.out⟩
        rw [HS.out]
        first
          | (rw [if_pos (by (try simp) <;> omega)]; done)
          | (rw [if_neg (by (try simp) <;> omega)]; done)
end Go.Proofs.YtldhlknmabpanaaGreat
