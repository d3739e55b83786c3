/-
  Own text: Trip, walked.
-/
import Derived.Test.YtopnceniihgkpaaStA
namespace Go.Proofs.Ytopnceniihgkpaa
open Go.RowKit

theorem clamp_trip (t : Int) : clampZ t 0 2000 = (if t < 0 then 0 else if 2000 < t then 2000 else t) := by
  unfold clampZ
  split <;> split <;> (try split) <;> omega
theorem abs_trip {a : Int} (h0 : -16000 ≤ a) (h1 : a ≤ 16000) : absZ a = absI a := by
  unfold absZ absI held
  split <;> omega
set_option maxRecDepth 100000 in
set_option maxHeartbeats 1000000 in
theorem trip13_any (t : Int) (b i : Nat) (s : Sk) (hf : s.fit i) (hi : i ≤ 1000) (w : World) (h : Blk13 25 w b s) :
    Calls Try.prog 15 #[.pointer (some ⟨b, 0, none⟩), .int .i64 t] w fun e w' => e = .returned (.tuple #[]) ∧ Hid (Blk13 25 w' b (s.trip t)) ∧ Hid (Frm13 b w w') := by
  have r0 := hf.r0
  have r1 := hf.r1
  have v0 := hf.v0
  have v1 := hf.v1
  have t0 := hf.t0
  have t1 := hf.t1
  obtain ⟨g0, g1⟩ := trip8_lo t
  have CC := Lib.hid (clamp_any t 0 2000)
  rw [clamp_trip t] at CC
  obtain ⟨q, hq⟩ : ∃ q, q = (if t < 0 then (0 : Int) else if 2000 < t then 2000 else t) := ⟨_, rfl⟩
  have h8 : trip8 t = 8 * q := by rw [hq]; rfl
  rw [← hq] at CC
  have hT : s.trip t = if s.tr = 0 then ⟨s.lo, trip8 t, trip8 t / 2, s.ma, s.tr + 1⟩ else ⟨s.lo, toward s.rt (trip8 t) 8, toward s.va (absI (trip8 t - s.rt)) 4, s.ma, s.tr + 1⟩ := rfl
  rw [h8] at g0 g1 hT
  have q0 : 0 ≤ q := by omega
  have q1 : q ≤ 2000 := by omega
  rw [hT]
  obtain ⟨c0, c1, c2, c3, c4⟩ := h.cells
  have f1 := h.frozen 1
  have f2 := h.frozen 2
  have f4 := h.frozen 4
  clear hT hq h8 hf
  by_cases h0 : s.tr = 0
  · rw [if_pos h0, h0, Int.zero_add]
    have HF := Lib.hid (((h.set1 (8 * q)).set2 (8 * q / 2)).set4 1)
    dsimp only at HF
    have d0 : (8 * q).tdiv 2 = 8 * q / 2 := Int.tdiv_eq_ediv_of_nonneg (by omega)
    clear h r0 r1 v0 v1
    generalize s.rt = rt at *
    generalize s.va = va at *
    generalize s.tr = tr at *
    generalize s.ma = ma at *
    generalize s.lo = lo at *
    go_enter Try.func15, Try.ntmps15
    go_wp2_with (first
      | (go_at_call 29; (with_reducible refine (CC.out _).mono ?_); rintro e w1 ⟨rfl, rfl⟩)
      | fail)
    all_goals go_end0
    all_goals exact ⟨rfl, HF, Lib.hid ((((Frm13.refl _ _).set _ _).set _ _).set _ _)⟩
  · rw [if_neg h0]
    have ha := absI_lo g0 g1 r0 r1
    have CA := Lib.hid (fun w => abs_any (8 * q - s.rt) w (by omega) (by omega))
    rw [abs_trip (a := 8 * q - s.rt) (by omega) (by omega)] at CA
    have CV := Lib.hid (toward_any s.va (absI (8 * q - s.rt)) 4 (by omega) (by omega) v0 (by omega) ha.1 (by omega))
    have CR := Lib.hid (toward_any s.rt (8 * q) 8 (by omega) (by omega) r0 (by omega) g0 (by omega))
    have HF := Lib.hid ((((h.drewN 1).set2 (toward s.va (absI (8 * q - s.rt)) 4)).set1 (toward s.rt (8 * q) 8)).set4 (s.tr + 1))
    dsimp only at HF
    have wr : IntKind.i64.wrap (8 * q - s.rt) = 8 * q - s.rt := by rw [IntKind.wrap_i64]; omega
    clear h ha v0 v1
    generalize toward s.va (absI (8 * q - s.rt)) 4 = zv at *
    generalize toward s.rt (8 * q) 8 = zr at *
    generalize absI (8 * q - s.rt) = av at *
    generalize s.rt = rt at *
    generalize s.va = va at *
    generalize s.tr = tr at *
    generalize s.ma = ma at *
    generalize s.lo = lo at *
    go_enter Try.func15, Try.ntmps15
    go_upto_region 3 with (first
      | (go_at_call 29; (with_reducible refine (CC.out _).mono ?_); rintro e w1 ⟨rfl, rfl⟩)
      | fail)
    refine wp_region_still_tail 15 (by kernel_rfl) (by kernel_rfl) ?_
    simp only [List.take_succ_cons, List.take_zero, List.drop_succ_cons, List.drop_zero]
    iterate 11 still_step
    still_call ((CA.out _).mono fun _ _ h => ⟨h.1, h.2.symm⟩)
    still_call ((CV.out _).mono fun _ _ h => ⟨h.1, h.2.symm⟩)
    iterate 2 still_step
    refine wpStill_nil ?_
    change wpList _ _ _ _ _ w.drew
    go_wp2_with (first
      | (go_at_call 30; (with_reducible refine (CR.out _).mono ?_); rintro e w1 ⟨rfl, rfl⟩)
      | fail)
    all_goals go_end0
    all_goals exact ⟨rfl, HF, Lib.hid ((((Frm13.refl _ _).drew.set _ _).set _ _).set _ _)⟩
end Go.Proofs.Ytopnceniihgkpaa
