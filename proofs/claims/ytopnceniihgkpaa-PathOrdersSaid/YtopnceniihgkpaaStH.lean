/-
  Own text: the document's Trip, walked.
  the document's Wait, Score, Need; the law's Same, walked.
-/
import Derived.Test.YtopnceniihgkpaaStF
import Derived.Deep.DeepCutAuto
namespace Go.Proofs.Ytopnceniihgkpaa
open Go.RowKit

theorem trip8_is (t : Int) : (t < 0 → trip8 t = 0) ∧ (¬ t < 0 → 2000 < t → trip8 t = 16000) ∧ (¬ t < 0 → ¬ 2000 < t → trip8 t = 8 * t) := by
  unfold trip8
  refine ⟨fun h => by rw [if_pos h]; rfl, fun h k => by rw [if_neg h, if_pos k]; rfl, fun h k => by rw [if_neg h, if_neg k]⟩
set_option maxRecDepth 100000 in
set_option maxHeartbeats 2000000 in
theorem rtrip_any (t : Int) (i : Nat) (s : Sk) (hf : s.fit i) (hi : i ≤ 1000000000) (w : World) :
    Calls Try.prog 16 #[SV s, .int .i64 t] w fun e w' => e = .returned (SV (s.trip t)) ∧ Below w.heap.size w w' := by
  obtain ⟨W, hW⟩ : ∃ W, W = (w.alloc (.cells #[.int .i64 s.lo, .int .i64 s.rt, .int .i64 s.va, .int .i64 s.ma, .int .i64 s.tr] 32)).alloc (.cells #[.int .i64 0, .int .i64 0, .int .i64 0, .int .i64 0, .int .i64 0] 32) := ⟨_, rfl⟩
  obtain ⟨hb, hx⟩ := Blk13.two w s Sk.zero _ _ hW
  obtain ⟨hx0, hz0⟩ := hx W (Below.refl _ _)
  have r0 := hf.r0
  have r1 := hf.r1
  have v0 := hf.v0
  have v1 := hf.v1
  have t0 := hf.t0
  have t1 := hf.t1
  obtain ⟨g0, g1⟩ := trip8_lo t
  have HQ := Lib.hid (trip8_is t)
  have hT : s.trip t = if s.tr = 0 then ⟨s.lo, trip8 t, trip8 t / 2, s.ma, s.tr + 1⟩ else ⟨s.lo, toward s.rt (trip8 t) 8, toward s.va (absI (trip8 t - s.rt)) 4, s.ma, s.tr + 1⟩ := rfl
  rw [hT]
  generalize trip8 t = T at *
  obtain ⟨c0, c1, c2, c3, c4⟩ := hx0.cells
  have f1 := hx0.frozen 1
  have f2 := hx0.frozen 2
  have f4 := hx0.frozen 4
  by_cases h0 : s.tr = 0
  · rw [if_pos h0, h0, Int.zero_add]
    rw [h0] at c4
    have HX := Lib.hid (((hx0.set4 1).set1 T).set2 (T / 2))
    have HZ := Lib.hid (((hz0.other (p := ⟨w.heap.size, 4, none⟩) (show w.heap.size + 1 ≠ w.heap.size by omega) (.int .i64 1)).other (p := ⟨w.heap.size, 1, none⟩) (show w.heap.size + 1 ≠ w.heap.size by omega) (.int .i64 T)).other (p := ⟨w.heap.size, 2, none⟩) (show w.heap.size + 1 ≠ w.heap.size by omega) (.int .i64 (T / 2)))
    have HB := Lib.hid (((hb.setCell (p := ⟨w.heap.size, 4, none⟩) (Nat.le_refl _) (.int .i64 1)).setCell (p := ⟨w.heap.size, 1, none⟩) (Nat.le_refl _) (.int .i64 T)).setCell (p := ⟨w.heap.size, 2, none⟩) (Nat.le_refl _) (.int .i64 (T / 2)))
    dsimp only at HX
    have d0 : T.tdiv 2 = T / 2 := Int.tdiv_eq_ediv_of_nonneg (by omega)
    unfold SV
    clear hf hT hb hx hx0 hz0 v0 v1 t0 t1 r0 r1
    rw [h0] at hW
    generalize s.lo = lo at *
    generalize s.rt = rt at *
    generalize s.va = va at *
    generalize s.tr = tr at *
    generalize s.ma = ma at *
    subst h0
    go_enter Try.func16, Try.ntmps16
    go_upto_region 1 with fail
    rw [← hW]
    clear hW
    go_cut [5] (fun s wx => s = .int .i64 T ∧ Hid (wx = W))
    case first =>
      by_cases h1 : t < 0
      · go_wp2
        go_meet
        exact ⟨by rw [HQ.out.1 h1], Lib.hid rfl⟩
      · by_cases h2 : 2000 < t
        · go_wp2
          go_meet
          exact ⟨by rw [HQ.out.2.1 h1 h2], Lib.hid rfl⟩
        · go_wp2
          go_meet
          exact ⟨by rw [HQ.out.2.2 h1 h2], Lib.hid rfl⟩
    case rest =>
      obtain ⟨rfl, HWC⟩ := hcut
      obtain rfl := HWC.out
      go_upto_region 5 with fail
      clear c0 c1 c2 c3 c4 f1 f2 f4
      generalize ((wc.setCell ⟨w.heap.size, 4, none⟩ (.int .i64 1)).setCell ⟨w.heap.size, 1, none⟩ (.int .i64 T)).setCell ⟨w.heap.size, 2, none⟩ (.int .i64 (T / 2)) = w2 at *
      obtain ⟨d0, d1, d2, d3, d4⟩ := HX.out.cells
      obtain ⟨z0, z1, z2, z3, z4⟩ := HZ.out.cells
      have g0 := HZ.out.frozen 0
      have g1 := HZ.out.frozen 1
      have g2 := HZ.out.frozen 2
      have g3 := HZ.out.frozen 3
      have g4 := HZ.out.frozen 4
      unfold Sk.zero at z0 z1 z2 z3 z4
      dsimp only at d0 d1 d2 d3 d4 z0 z1 z2 z3 z4
      go_wp2
      refine bodyPost_ret (v := .agg #[.int .i64 lo, .int .i64 T, .int .i64 (T / 2), .int .i64 ma, .int .i64 1]) (by simp [results, Try.results16, go_sem, z0, z1, z2, z3, z4]) rfl ?_
      exact ⟨rfl, set5_13 HB.out (by omega) _ _ _ _ _⟩
  · rw [if_neg h0]
    have ha := absI_lo g0 g1 r0 r1
    have CV := Lib.hid (rtoward_any s.va (absI (T - s.rt)) 4 (by omega) (by omega) v0 (by omega) ha.1 (by omega))
    have CR := Lib.hid (rtoward_any s.rt T 8 (by omega) (by omega) r0 (by omega) g0 (by omega))
    have hA : absI (T - s.rt) = if T - s.rt < 0 then -(T - s.rt) else T - s.rt := rfl
    have hne : ¬ s.tr + 1 = 1 := by omega
    have HX := Lib.hid (((hx0.set4 (s.tr + 1)).set2 (toward s.va (absI (T - s.rt)) 4)).set1 (toward s.rt T 8))
    have HZ := Lib.hid (((hz0.other (p := ⟨w.heap.size, 4, none⟩) (show w.heap.size + 1 ≠ w.heap.size by omega) (.int .i64 (s.tr + 1))).other (p := ⟨w.heap.size, 2, none⟩) (show w.heap.size + 1 ≠ w.heap.size by omega) (.int .i64 (toward s.va (absI (T - s.rt)) 4))).other (p := ⟨w.heap.size, 1, none⟩) (show w.heap.size + 1 ≠ w.heap.size by omega) (.int .i64 (toward s.rt T 8)))
    have HB := Lib.hid (((hb.setCell (p := ⟨w.heap.size, 4, none⟩) (Nat.le_refl _) (.int .i64 (s.tr + 1))).setCell (p := ⟨w.heap.size, 2, none⟩) (Nat.le_refl _) (.int .i64 (toward s.va (absI (T - s.rt)) 4))).setCell (p := ⟨w.heap.size, 1, none⟩) (Nat.le_refl _) (.int .i64 (toward s.rt T 8)))
    dsimp only at HX
    unfold SV
    clear hf hT hb hx hx0 hz0 v0 v1 ha
    generalize toward s.va (absI (T - s.rt)) 4 = zv at *
    generalize toward s.rt T 8 = zr at *
    generalize absI (T - s.rt) = av at *
    generalize s.lo = lo at *
    generalize s.rt = rt at *
    generalize s.va = va at *
    generalize s.tr = tr at *
    generalize s.ma = ma at *
    go_enter Try.func16, Try.ntmps16
    go_upto_region 1 with fail
    rw [← hW]
    clear hW
    have HAV := Lib.hid hA
    clear hA
    go_cut [5] (fun s wx => s = .int .i64 T ∧ Hid (wx = W))
    case first =>
      by_cases h1 : t < 0
      · go_wp2
        go_meet
        exact ⟨by rw [HQ.out.1 h1], Lib.hid rfl⟩
      · by_cases h2 : 2000 < t
        · go_wp2
          go_meet
          exact ⟨by rw [HQ.out.2.1 h1 h2], Lib.hid rfl⟩
        · go_wp2
          go_meet
          exact ⟨by rw [HQ.out.2.2 h1 h2], Lib.hid rfl⟩
    case rest =>
      obtain ⟨rfl, HWC⟩ := hcut
      obtain rfl := HWC.out
      have hA := HAV.out
      by_cases hb : T - rt < 0
      all_goals
        first | rw [if_pos hb] at hA | rw [if_neg hb] at hA
        subst hA
        go_upto_region 11 with (first
          | (go_at_call 32; (with_reducible refine (CV.out _).mono ?_); rintro e w1 ⟨rfl, rfl⟩)
          | (go_at_call 32; (with_reducible refine (CR.out _).mono ?_); rintro e w1 ⟨rfl, rfl⟩)
          | fail)
        clear c0 c1 c2 c3 c4 f1 f2 f4
        generalize ((wc.setCell ⟨w.heap.size, 4, none⟩ (.int .i64 (tr + 1))).setCell ⟨w.heap.size, 2, none⟩ (.int .i64 zv)).setCell ⟨w.heap.size, 1, none⟩ (.int .i64 zr) = w2 at *
        obtain ⟨d0, d1, d2, d3, d4⟩ := HX.out.cells
        obtain ⟨z0, z1, z2, z3, z4⟩ := HZ.out.cells
        have g0 := HZ.out.frozen 0
        have g1 := HZ.out.frozen 1
        have g2 := HZ.out.frozen 2
        have g3 := HZ.out.frozen 3
        have g4 := HZ.out.frozen 4
        unfold Sk.zero at z0 z1 z2 z3 z4
        dsimp only at d0 d1 d2 d3 d4 z0 z1 z2 z3 z4
        go_wp2
        refine bodyPost_ret (v := .agg #[.int .i64 lo, .int .i64 zr, .int .i64 zv, .int .i64 ma, .int .i64 (tr + 1)]) (by simp [results, Try.results16, go_sem, z0, z1, z2, z3, z4]) rfl ?_
        exact ⟨rfl, set5_13 HB.out (by omega) _ _ _ _ _⟩
theorem rtrip13_any (t : Int) (i : Nat) (s : Sk) (hf : s.fit i) (hi : i ≤ 1000) (w : World) :
    Calls Try.prog 16 #[SV s, .int .i64 t] w fun e w' => e = .returned (SV (s.trip t)) ∧ Below w.heap.size w w' := rtrip_any t i s hf (by omega) w
end Go.Proofs.Ytopnceniihgkpaa
namespace Go.Proofs.Ytopnceniihgkpaa
open Go.RowKit

set_option maxRecDepth 100000 in
theorem rscore13_any (s : Sk) (i : Nat) (hf : s.fit i) (w : World) :
    Calls Try.prog 39 #[SV s] w fun e w' => e = .returned (.int .i64 s.score) ∧ Below w.heap.size w w' := by
  obtain ⟨W, hW⟩ : ∃ W, W = w.alloc (.cells #[.int .i64 s.lo, .int .i64 s.rt, .int .i64 s.va, .int .i64 s.ma, .int .i64 s.tr] 32) := ⟨_, rfl⟩
  obtain ⟨hb, hx⟩ := Blk13.box w s _ hW
  obtain ⟨c0, c1, c2, c3, c4⟩ := (hx W (Below.refl _ _)).cells
  have HB := Lib.hid hb
  have l0 := hf.l0
  have l1 := hf.l1
  have r0 := hf.r0
  have r1 := hf.r1
  have sl := Sk.score_lo hf
  have hT : s.score = (65536 - s.lo) * 64 / (64 + s.rt) := rfl
  have d0 : ((65536 - s.lo) * 64).tdiv (64 + s.rt) = s.score := by rw [hT]; exact Int.tdiv_eq_ediv_of_nonneg (by omega)
  have d1 : ((65536 - s.lo) * 64) / (64 + s.rt) = s.score := rfl
  have hz : ¬ 64 + s.rt = 0 := by omega
  unfold SV
  clear hb hx hf hT
  generalize s.score = sc at *
  generalize s.rt = rt at *
  generalize s.va = va at *
  generalize s.tr = tr at *
  generalize s.ma = ma at *
  generalize s.lo = lo at *
  go_enter Try.func39, Try.ntmps39
  go_upto_region 1 with fail
  rw [← hW]
  clear hW
  go_wp2
  go_ret
  exact ⟨ret_int (by omega), HB.out⟩
set_option maxRecDepth 100000 in
set_option maxHeartbeats 1000000 in
theorem same13_any (s : Sk) (w : World) :
    Calls Try.prog 33 #[SV s, SV s] w fun e w' => e = .returned (.bool true) ∧ Below w.heap.size w w' := by
  obtain ⟨W, hW⟩ : ∃ W, W = (w.alloc (.cells #[.int .i64 s.lo, .int .i64 s.rt, .int .i64 s.va, .int .i64 s.ma, .int .i64 s.tr] 25)).alloc (.cells #[.int .i64 s.lo, .int .i64 s.rt, .int .i64 s.va, .int .i64 s.ma, .int .i64 s.tr] 32) := ⟨_, rfl⟩
  obtain ⟨hb, hx⟩ := Blk13.two w s s _ _ hW
  obtain ⟨hx0, hz0⟩ := hx W (Below.refl _ _)
  have HB := Lib.hid hb
  obtain ⟨c0, c1, c2, c3, c4⟩ := hx0.cells
  obtain ⟨d0, d1, d2, d3, d4⟩ := hz0.cells
  have k0 : (s.lo == s.lo) = true := by simp
  have k1 : (s.rt == s.rt) = true := by simp
  have k2 : (s.va == s.va) = true := by simp
  have k3 : (s.ma == s.ma) = true := by simp
  have k4 : (s.tr == s.tr) = true := by simp
  unfold SV
  clear hb hx hx0 hz0
  generalize s.lo = lo at *
  generalize s.rt = rt at *
  generalize s.va = va at *
  generalize s.ma = ma at *
  generalize s.tr = tr at *
  go_enter Try.func33, Try.ntmps33
  go_upto_region 1 with fail
  rw [← hW]
  clear hW
  go_wp2
  go_ret
  exact ⟨rfl, HB.out⟩
end Go.Proofs.Ytopnceniihgkpaa
