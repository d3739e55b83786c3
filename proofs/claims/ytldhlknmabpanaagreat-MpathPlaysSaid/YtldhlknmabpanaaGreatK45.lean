/-
  Own text: the document's Check, walked.
  Own text: the document's Check, all kinds.
-/
import Derived.Test.YtldhlknmabpanaaGreatK12
import Derived.Test.YtldhlknmabpanaaGreatK43
import Derived.Test.YtldhlknmabpanaaGreatK44
import Derived.Deep.DeepCutAuto
namespace Go.Proofs.YtldhlknmabpanaaGreat
open Go.RowKit

set_option maxRecDepth 100000 in
set_option maxHeartbeats 8000000 in
theorem rcheck_5 (ses seq path tick A B K M ix : Int) (da : Option Addr) (dl dc : Nat) (l : List Int) (w : World) (hl : Bytes w da dl l) (bb cb : Bool) (HBB : Hid (bb = decide (K = 0 ∧ M = 0 ∧ ix = 0))) (_HCB : Hid (cb = decide (1 ≤ K ∧ K ≤ 16 ∧ 0 ≤ M ∧ M ≤ 16 ∧ 1 ≤ dl ∧ dl ≤ 1200))) (R : Int) (HS : Hid (R = if (0 ≤ path ∧ path < 2) ∧ bb = true ∧ dl = 4 then 0 else 73)) :
    Calls Tryz.prog 62 #[.agg #[.int .i64 5, .int .u32 ses, .int .u32 seq, .int .i64 path, .int .u32 tick, .int .u32 A, .int .u32 B, .int .i64 K, .int .i64 M, .int .i64 ix, .slice da dl dc]] w fun e w' => e = .returned (.int .i64 R) ∧ Below w.heap.size w w' := by
  have HX := dbox_all w ⟨5, ses, seq, path, tick, A, B, K, M, ix, da, dl, dc⟩ 50 l hl
  dsimp only [Dg.cells] at HX
  have hm := hl.max
  clear hl
  go_enter Tryz.func62, Tryz.ntmps62
  go_upto_region 1 with fail
  obtain ⟨⟨_, x0, x1, x2, x3, x4, x5, x6, x7, x8, x9, x10⟩, hl0, hb0⟩ := HX.out _ (Below.refl _ _)
  have HL0 := Lib.hid hl0
  have HB0 := Lib.hid hb0
  clear hl0 hb0 HX
  generalize w.alloc (.cells #[.int .i64 5, .int .u32 ses, .int .u32 seq, .int .i64 path, .int .u32 tick, .int .u32 A, .int .u32 B, .int .i64 K, .int .i64 M, .int .i64 ix, .slice da dl dc] 50) = w0 at *
  go_upto_region 2 with fail
  go_cut [4] (fun s wx => s = .bool bb ∧ w0 = wx)
  case first =>
    obtain ⟨b1, e1⟩ : ∃ b1, (K == 0) = b1 := ⟨_, rfl⟩
    obtain ⟨b2, e2⟩ : ∃ b2, (M == 0) = b2 := ⟨_, rfl⟩
    obtain ⟨b3, e3⟩ : ∃ b3, (ix == 0) = b3 := ⟨_, rfl⟩
    have HEE : Hid (bb = (b1 && (b2 && b3))) := Lib.hid (by rw [HBB.out, ← e1, ← e2, ← e3, Bool.eq_iff_iff]; simp)
    clear HBB
    rcases b1 with _ | _
    case' true => rcases b2 with _ | _
    case' true.true => rcases b3 with _ | _
    all_goals
      go_wp2_with fail
      go_meet
      exact ⟨congrArg Value.bool HEE.out.symm, rfl⟩
  case rest =>
    obtain ⟨rfl, rfl⟩ := hcut
    rcases bb with _ | _
    all_goals go_wp2_with fail
    all_goals
      go_ret
      refine ⟨ret_int ?_, HB0.out⟩
      rw [HS.out]
      first
        | (rw [if_pos (by (try simp) <;> omega)]; done)
        | (rw [if_neg (by (try simp) <;> omega)]; done)
set_option maxRecDepth 100000 in
set_option maxHeartbeats 8000000 in
theorem rcheck_6 (ses seq path tick A B K M ix : Int) (da : Option Addr) (dl dc : Nat) (l : List Int) (w : World) (hl : Bytes w da dl l) (bb cb : Bool) (HBB : Hid (bb = decide (K = 0 ∧ M = 0 ∧ ix = 0))) (_HCB : Hid (cb = decide (1 ≤ K ∧ K ≤ 16 ∧ 0 ≤ M ∧ M ≤ 16 ∧ 1 ≤ dl ∧ dl ≤ 1200))) (R : Int) (HS : Hid (R = if (0 ≤ path ∧ path < 2) ∧ bb = true ∧ dl = 0 then 0 else 73)) :
    Calls Tryz.prog 62 #[.agg #[.int .i64 6, .int .u32 ses, .int .u32 seq, .int .i64 path, .int .u32 tick, .int .u32 A, .int .u32 B, .int .i64 K, .int .i64 M, .int .i64 ix, .slice da dl dc]] w fun e w' => e = .returned (.int .i64 R) ∧ Below w.heap.size w w' := by
  have HX := dbox_all w ⟨6, ses, seq, path, tick, A, B, K, M, ix, da, dl, dc⟩ 50 l hl
  dsimp only [Dg.cells] at HX
  have hm := hl.max
  clear hl
  go_enter Tryz.func62, Tryz.ntmps62
  go_upto_region 1 with fail
  obtain ⟨⟨_, x0, x1, x2, x3, x4, x5, x6, x7, x8, x9, x10⟩, hl0, hb0⟩ := HX.out _ (Below.refl _ _)
  have HL0 := Lib.hid hl0
  have HB0 := Lib.hid hb0
  clear hl0 hb0 HX
  generalize w.alloc (.cells #[.int .i64 6, .int .u32 ses, .int .u32 seq, .int .i64 path, .int .u32 tick, .int .u32 A, .int .u32 B, .int .i64 K, .int .i64 M, .int .i64 ix, .slice da dl dc] 50) = w0 at *
  go_upto_region 2 with fail
  go_cut [4] (fun s wx => s = .bool bb ∧ w0 = wx)
  case first =>
    obtain ⟨b1, e1⟩ : ∃ b1, (K == 0) = b1 := ⟨_, rfl⟩
    obtain ⟨b2, e2⟩ : ∃ b2, (M == 0) = b2 := ⟨_, rfl⟩
    obtain ⟨b3, e3⟩ : ∃ b3, (ix == 0) = b3 := ⟨_, rfl⟩
    have HEE : Hid (bb = (b1 && (b2 && b3))) := Lib.hid (by rw [HBB.out, ← e1, ← e2, ← e3, Bool.eq_iff_iff]; simp)
    clear HBB
    rcases b1 with _ | _
    case' true => rcases b2 with _ | _
    case' true.true => rcases b3 with _ | _
    all_goals
      go_wp2_with fail
      go_meet
      exact ⟨congrArg Value.bool HEE.out.symm, rfl⟩
  case rest =>
    obtain ⟨rfl, rfl⟩ := hcut
    rcases bb with _ | _
    all_goals go_wp2_with fail
    all_goals
      go_ret
      refine ⟨ret_int ?_, HB0.out⟩
      rw [HS.out]
      first
        | (rw [if_pos (by (try simp) <;> omega)]; done)
        | (rw [if_neg (by (try simp) <;> omega)]; done)
set_option maxRecDepth 100000 in
set_option maxHeartbeats 8000000 in
theorem rcheck_7 (ses seq path tick A B K M ix : Int) (da : Option Addr) (dl dc : Nat) (l : List Int) (w : World) (hl : Bytes w da dl l) (bb cb : Bool) (HBB : Hid (bb = decide (K = 0 ∧ M = 0 ∧ ix = 0))) (_HCB : Hid (cb = decide (1 ≤ K ∧ K ≤ 16 ∧ 0 ≤ M ∧ M ≤ 16 ∧ 1 ≤ dl ∧ dl ≤ 1200))) (R : Int) (HS : Hid (R = if (0 ≤ path ∧ path < 2) ∧ bb = true ∧ A = 0 ∧ B = 0 ∧ dl = 0 then 0 else 73)) :
    Calls Tryz.prog 62 #[.agg #[.int .i64 7, .int .u32 ses, .int .u32 seq, .int .i64 path, .int .u32 tick, .int .u32 A, .int .u32 B, .int .i64 K, .int .i64 M, .int .i64 ix, .slice da dl dc]] w fun e w' => e = .returned (.int .i64 R) ∧ Below w.heap.size w w' := by
  have HX := dbox_all w ⟨7, ses, seq, path, tick, A, B, K, M, ix, da, dl, dc⟩ 50 l hl
  dsimp only [Dg.cells] at HX
  have hm := hl.max
  clear hl
  go_enter Tryz.func62, Tryz.ntmps62
  go_upto_region 1 with fail
  obtain ⟨⟨_, x0, x1, x2, x3, x4, x5, x6, x7, x8, x9, x10⟩, hl0, hb0⟩ := HX.out _ (Below.refl _ _)
  have HL0 := Lib.hid hl0
  have HB0 := Lib.hid hb0
  clear hl0 hb0 HX
  generalize w.alloc (.cells #[.int .i64 7, .int .u32 ses, .int .u32 seq, .int .i64 path, .int .u32 tick, .int .u32 A, .int .u32 B, .int .i64 K, .int .i64 M, .int .i64 ix, .slice da dl dc] 50) = w0 at *
  go_upto_region 2 with fail
  go_cut [4] (fun s wx => s = .bool bb ∧ w0 = wx)
  case first =>
    obtain ⟨b1, e1⟩ : ∃ b1, (K == 0) = b1 := ⟨_, rfl⟩
    obtain ⟨b2, e2⟩ : ∃ b2, (M == 0) = b2 := ⟨_, rfl⟩
    obtain ⟨b3, e3⟩ : ∃ b3, (ix == 0) = b3 := ⟨_, rfl⟩
    have HEE : Hid (bb = (b1 && (b2 && b3))) := Lib.hid (by rw [HBB.out, ← e1, ← e2, ← e3, Bool.eq_iff_iff]; simp)
    clear HBB
    rcases b1 with _ | _
    case' true => rcases b2 with _ | _
    case' true.true => rcases b3 with _ | _
    all_goals
      go_wp2_with fail
      go_meet
      exact ⟨congrArg Value.bool HEE.out.symm, rfl⟩
  case rest =>
    obtain ⟨rfl, rfl⟩ := hcut
    rcases bb with _ | _
    all_goals go_wp2_with fail
    all_goals
      go_ret
      refine ⟨ret_int ?_, HB0.out⟩
      rw [HS.out]
      first
        | (rw [if_pos (by (try simp) <;> omega)]; done)
        | (rw [if_neg (by (try simp) <;> omega)]; done)
set_option maxRecDepth 100000 in
set_option maxHeartbeats 8000000 in
theorem rcheck_8 (ses seq path tick A B K M ix : Int) (da : Option Addr) (dl dc : Nat) (l : List Int) (w : World) (hl : Bytes w da dl l) (bb cb : Bool) (HBB : Hid (bb = decide (K = 0 ∧ M = 0 ∧ ix = 0))) (_HCB : Hid (cb = decide (1 ≤ K ∧ K ≤ 16 ∧ 0 ≤ M ∧ M ≤ 16 ∧ 1 ≤ dl ∧ dl ≤ 1200))) (R : Int) (HS : Hid (R = if (0 ≤ path ∧ path < 2) ∧ bb = true ∧ B = 0 ∧ dl = 0 then 0 else 73)) :
    Calls Tryz.prog 62 #[.agg #[.int .i64 8, .int .u32 ses, .int .u32 seq, .int .i64 path, .int .u32 tick, .int .u32 A, .int .u32 B, .int .i64 K, .int .i64 M, .int .i64 ix, .slice da dl dc]] w fun e w' => e = .returned (.int .i64 R) ∧ Below w.heap.size w w' := by
  have HX := dbox_all w ⟨8, ses, seq, path, tick, A, B, K, M, ix, da, dl, dc⟩ 50 l hl
  dsimp only [Dg.cells] at HX
  have hm := hl.max
  clear hl
  go_enter Tryz.func62, Tryz.ntmps62
  go_upto_region 1 with fail
  obtain ⟨⟨_, x0, x1, x2, x3, x4, x5, x6, x7, x8, x9, x10⟩, hl0, hb0⟩ := HX.out _ (Below.refl _ _)
  have HL0 := Lib.hid hl0
  have HB0 := Lib.hid hb0
  clear hl0 hb0 HX
  generalize w.alloc (.cells #[.int .i64 8, .int .u32 ses, .int .u32 seq, .int .i64 path, .int .u32 tick, .int .u32 A, .int .u32 B, .int .i64 K, .int .i64 M, .int .i64 ix, .slice da dl dc] 50) = w0 at *
  go_upto_region 2 with fail
  go_cut [4] (fun s wx => s = .bool bb ∧ w0 = wx)
  case first =>
    obtain ⟨b1, e1⟩ : ∃ b1, (K == 0) = b1 := ⟨_, rfl⟩
    obtain ⟨b2, e2⟩ : ∃ b2, (M == 0) = b2 := ⟨_, rfl⟩
    obtain ⟨b3, e3⟩ : ∃ b3, (ix == 0) = b3 := ⟨_, rfl⟩
    have HEE : Hid (bb = (b1 && (b2 && b3))) := Lib.hid (by rw [HBB.out, ← e1, ← e2, ← e3, Bool.eq_iff_iff]; simp)
    clear HBB
    rcases b1 with _ | _
    case' true => rcases b2 with _ | _
    case' true.true => rcases b3 with _ | _
    all_goals
      go_wp2_with fail
      go_meet
      exact ⟨congrArg Value.bool HEE.out.symm, rfl⟩
  case rest =>
    obtain ⟨rfl, rfl⟩ := hcut
    rcases bb with _ | _
    all_goals go_wp2_with fail
    all_goals
      go_ret
      refine ⟨ret_int ?_, HB0.out⟩
      rw [HS.out]
      first
        | (rw [if_pos (by (try simp) <;> omega)]; done)
        | (rw [if_neg (by (try simp) <;> omega)]; done)
end Go.Proofs.YtldhlknmabpanaaGreat
namespace Go.Proofs.YtldhlknmabpanaaGreat
open Go.RowKit

open Classical in
set_option maxRecDepth 100000 in
set_option maxHeartbeats 4000000 in
theorem rcheck_any (d : Dg) (l : List Int) (w : World) (hl : Bytes w d.da d.dl l) :
    Calls Tryz.prog 62 #[d.val] w fun e w' => e = .returned (.int .i64 (chk d l)) ∧ Below w.heap.size w w' := by
  have HX := dbox_all w d 50 l hl
  obtain ⟨R, hR⟩ : ∃ R, R = chk d l := ⟨_, rfl⟩
  have HR := Lib.hid hR
  rw [← hR]
  clear hR
  unfold chk at HR
  have hm := hl.max
  obtain ⟨kind, ses, seq, path, tick, A, B, K, M, ix, da, dl, dc⟩ := d
  dsimp only [Dg.val, Dg.cells] at *
  by_cases h1 : kind < 1
  · clear hl
    obtain ⟨b1, e1⟩ : ∃ b1, (K == 0) = b1 := ⟨_, rfl⟩
    obtain ⟨b2, e2⟩ : ∃ b2, (M == 0) = b2 := ⟨_, rfl⟩
    obtain ⟨b3, e3⟩ : ∃ b3, (ix == 0) = b3 := ⟨_, rfl⟩
    go_enter Tryz.func62, Tryz.ntmps62
    go_wp2
    all_goals
      go_ret
      exact ⟨ret_int (by rw [HR.out, if_pos (.inl h1)]), (Below.refl w.heap.size w).alloc (Nat.le_refl _) _⟩
  by_cases h8 : 8 < kind
  · clear hl
    obtain ⟨b1, e1⟩ : ∃ b1, (K == 0) = b1 := ⟨_, rfl⟩
    obtain ⟨b2, e2⟩ : ∃ b2, (M == 0) = b2 := ⟨_, rfl⟩
    obtain ⟨b3, e3⟩ : ∃ b3, (ix == 0) = b3 := ⟨_, rfl⟩
    go_enter Tryz.func62, Tryz.ntmps62
    go_wp2
    all_goals
      go_ret
      exact ⟨ret_int (by rw [HR.out, if_pos (.inr h8)]), (Below.refl w.heap.size w).alloc (Nat.le_refl _) _⟩
  rw [if_neg (by omega)] at HR
  have key : ∀ (P : Prop) [Decidable P], (formP ⟨kind, ses, seq, path, tick, A, B, K, M, ix, da, dl, dc⟩ l ↔ P) → Hid (R = if (0 ≤ path ∧ path < 2) ∧ P then 0 else 73) := fun P _ e => Lib.hid (by
    rw [HR.out]
    by_cases h : (0 ≤ path ∧ path < 2) ∧ P
    · rw [if_pos h, if_neg (not_not_intro ⟨h.1.1, h.1.2, e.2 h.2⟩)]
    · rw [if_neg h, if_pos (fun g => h ⟨⟨g.1, g.2.1⟩, e.1 g.2.2⟩)])
  clear HX
  rcases (show kind = 1 ∨ kind = 2 ∨ kind = 3 ∨ kind = 4 ∨ kind = 5 ∨ kind = 6 ∨ kind = 7 ∨ kind = 8 by omega) with rfl | rfl | rfl | rfl | rfl | rfl | rfl | rfl
  · exact rcheck_1 ses seq path tick A B K M ix da dl dc l w hl _ _ (Lib.hid rfl) (Lib.hid rfl) R (key _ (by simp [formP, bareB, codedB]))
  · exact rcheck_2 ses seq path tick A B K M ix da dl dc l w hl _ _ (Lib.hid rfl) (Lib.hid rfl) R (key _ (by simp [formP, bareB, codedB]))
  · exact rcheck_3 ses seq path tick A B K M ix da dl dc l w hl _ _ (Lib.hid rfl) (Lib.hid rfl) R (key _ (by simp [formP, bareB, codedB]))
  · exact rcheck_4 ses seq path tick A B K M ix da dl dc l w hl _ _ (Lib.hid rfl) (Lib.hid rfl) R (key _ (by simp [formP, bareB, codedB]))
  · exact rcheck_5 ses seq path tick A B K M ix da dl dc l w hl _ _ (Lib.hid rfl) (Lib.hid rfl) R (key _ (by simp [formP, bareB, codedB]))
  · exact rcheck_6 ses seq path tick A B K M ix da dl dc l w hl _ _ (Lib.hid rfl) (Lib.hid rfl) R (key _ (by simp [formP, bareB, codedB]))
  · exact rcheck_7 ses seq path tick A B K M ix da dl dc l w hl _ _ (Lib.hid rfl) (Lib.hid rfl) R (key _ (by simp [formP, bareB, codedB]))
  · exact rcheck_8 ses seq path tick A B K M ix da dl dc l w hl _ _ (Lib.hid rfl) (Lib.hid rfl) R (key _ (by simp [formP, bareB, codedB]))
end Go.Proofs.YtldhlknmabpanaaGreat
