/-
  Own text: the law's play, walked: a script's trips and marks. (Written by gen_stj.py.)
-/
import Derived.Test.YtglopddibopjmaaStI
import Derived.BigRegion
namespace Go.Proofs.Ytglopddibopjmaa
open Go.RowKit

set_option maxRecDepth 100000 in
set_option maxHeartbeats 4000000 in
theorem played13_any (a : Option Addr) (n c : Nat) (P L : Nat → Bool) (T : Nat → Int) (w : World) (ho : Ops13 w a n P L T) :
    Calls Try.prog 8 #[.slice a n c] w fun x W => ∃ s : Sk, x = .returned (.tuple #[SV s, SV s, .bool true]) ∧ Hid (s.fit 300) ∧ Hid (Below w.heap.size w W) := by
  have HO := Lib.hid ho
  clear ho
  obtain ⟨W0, hW0⟩ : ∃ W0, W0 = (((w.alloc (.cells #[.int .i64 0, .int .i64 0, .int .i64 0, .int .i64 0, .int .i64 0] 25)).alloc (.cells #[.int .i64 0, .int .i64 0, .int .i64 0, .int .i64 0, .int .i64 0] 26)).alloc (.cells #[.int .i64 0, .int .i64 0, .int .i64 0, .int .i64 0, .int .i64 0] 25)).alloc (.cells #[.int .i64 0, .int .i64 0, .int .i64 0, .int .i64 0, .int .i64 0] 26) := ⟨_, rfl⟩
  have HL0 := Lib.hid (St13.start w hW0)
  unfold SV
  go_enter Try.func8, Try.ntmps8
  go_upto_region 3 with fail
  rw [← hW0]
  clear hW0
  go_wp2
  go_loopw [7] (fun i wr => ∃ (j : Nat) (s : Sk), i = .int .i64 (j : Int) ∧ j ≤ 300 ∧ Hid (s.fit j) ∧ Hid (St13 w s s wr)) (fun i _ => 300 - (intOf i).toNat)
  case atStart => exact ⟨0, Sk.zero, rfl, Nat.zero_le _, Lib.hid Sk.zero_fit, HL0⟩
  case round =>
    obtain ⟨j, s, rfl, hj, HF, HL⟩ := hrel
    clear HL0
    obtain ⟨wo, hwo⟩ : ∃ wo, wo = wr := ⟨_, rfl⟩
    subst hwo
    have k2 : (0 : Int) ≤ (j : Int) := by omega
    have k3 : (j : Int) ≤ 300 := by omega
    by_cases hlt : j < n ∧ j < 300
    · obtain ⟨g, off, rfl, hoc⟩ := HO.out.at_ hlt.1
      obtain ⟨c0, c1, c2⟩ := hoc wo HL.out.bel
      have HOC := Lib.hid hoc
      have k1 : (j : Int) < n := by omega
      have k4 : (j : Int) < 300 := by omega
      have HJK : Hid (j + 1 ≤ 300) := Lib.hid (by omega)
      have HJ9 : Hid (j ≤ 1000) := Lib.hid (by omega)
      have HA := Lib.hid (Sk.act_fit HF.out (P j) (L j) (T j))
      clear hlt hj hoc HO
      generalize P j = tp at *
      generalize L j = lo at *
      generalize T j = tk at *
      cases tp
      · have HAC : Hid (s.act false lo tk = s.mark lo) := Lib.hid (by unfold Sk.act; rw [if_neg (by simp)])
        have CT := Lib.hid (mark_st HF.out HJ9.out HL.out lo)
        have CR := Lib.hid (fun w' => rmark13_any lo j s HF.out HJ9.out w')
        rw [← HAC.out] at CT CR
        generalize s.act false lo tk = s2 at *
        clear HAC
        unfold SV at CR
        go_upto_region 10 with (first
          | (go_at_call 15; (with_reducible refine (CT.out).mono ?_); rintro e w4 ⟨rfl, HS4⟩)
          | fail)
        have HC4 : Hid (∀ w', Below w4.heap.size w4 w' → Blk13 26 w' (w.heap.size + 3) s ∧ w'.cell? ⟨g, off + j * 3 + 1, none⟩ = some (.bool lo)) := Lib.hid (fun w' h => ⟨HS4.out.doc.below h HS4.out.doc.lt, (HOC.out w' (HS4.out.bel.trans (h.mono HS4.out.bel.size))).2.1⟩)
        have CR4 : Hid (∀ w', Below w4.heap.size w4 w' → Calls Try.prog 19 #[.agg #[.int .i64 s.lo, .int .i64 s.rt, .int .i64 s.va, .int .i64 s.ma, .int .i64 s.tr], .bool lo] w' fun e w1 => e = .returned (.agg #[.int .i64 s2.lo, .int .i64 s2.rt, .int .i64 s2.va, .int .i64 s2.ma, .int .i64 s2.tr]) ∧ Below w4.heap.size w4 w1) := Lib.hid (fun w' h => (CR.out w').mono fun _ _ hh => ⟨hh.1, h.trans (hh.2.mono h.size)⟩)
        clear c0 c1 c2
        refine (wpIn_wide (n := 3)).1 ?_
        refine wpIn_grow_take (fun w' => Below w4.heap.size w4 w') (Below.refl _ _).drew 7 rfl (by kernel_rfl) (by kernel_rfl) (by kernel_rfl) ?_
        simp only [List.take_succ_cons, List.take_zero, List.drop_succ_cons, List.drop_zero]
        refine wpQuietIn_read (.agg #[.int .i64 s.lo, .int .i64 s.rt, .int .i64 s.va, .int .i64 s.ma, .int .i64 s.tr]) (fun _ _ _ _ => trivial) rfl (fun w' hw => ?_) ?_
        · obtain ⟨d0, d1, d2, d3, d4⟩ := (HC4.out w' hw).1.cells
          unfold Oper.quietAtIn
          go_simp
        simp only [Act.put, List.setIfInBounds_toArray, List.set_cons_zero, List.set_cons_succ]
        iterate 4 (refine wpQuietIn_step (fun _ _ _ _ => trivial) (fun K hK => ?_); go_simp; refine ⟨_, fun _ _ => rfl, hK _ ?_⟩; clear hK K)
        refine wpQuietIn_read (.bool lo) (fun _ _ _ _ => trivial) rfl (fun w' hw => ?_) ?_
        · have d5 := (HC4.out w' hw).2
          unfold Oper.quietAtIn
          go_simp
        simp only [Act.put, List.setIfInBounds_toArray, List.set_cons_zero, List.set_cons_succ]
        refine wpQuietIn_step (fun _ _ _ _ => trivial) (fun K hK => ?_)
        go_simp
        refine ⟨.agg #[.int .i64 s2.lo, .int .i64 s2.rt, .int .i64 s2.va, .int .i64 s2.ma, .int .i64 s2.tr], fun w' hw => callsIn_wide.2 (CR4.out w' hw), hK _ ?_⟩
        clear hK K
        refine wpQuietIn_nil ?_
        rintro w5 hw5
        have HS5 := Lib.hid (HS4.out.below hw5)
        have HS6 := Lib.hid (HS5.out.write s2)
        clear hw5 HS4 HC4 CR4
        obtain ⟨d0, d1, d2, d3, d4⟩ := HS5.out.doc.cells
        have f0 := HS5.out.doc.frozen 0
        have f1 := HS5.out.doc.frozen 1
        have f2 := HS5.out.doc.frozen 2
        have f3 := HS5.out.doc.frozen 3
        have f4 := HS5.out.doc.frozen 4
        gi_wp2
        go_upto_region 11 with fail
        clear d0 d1 d2 d3 d4 f0 f1 f2 f3 f4
        generalize ((((w5.setCell ⟨w.heap.size + 3, 0, none⟩ (.int .i64 s2.lo)).setCell ⟨w.heap.size + 3, 1, none⟩ (.int .i64 s2.rt)).setCell ⟨w.heap.size + 3, 2, none⟩ (.int .i64 s2.va)).setCell ⟨w.heap.size + 3, 3, none⟩ (.int .i64 s2.ma)).setCell ⟨w.heap.size + 3, 4, none⟩ (.int .i64 s2.tr) = w6 at *
        obtain ⟨d0, d1, d2, d3, d4⟩ := HS6.out.doc.cells
        obtain ⟨e0, e1, e2, e3, e4⟩ := HS6.out.code.cells
        have CS := Lib.hid (same13_any s2 w6)
        unfold SV at CS
        go_wp2_with (first
          | (go_at_call 20; (with_reducible refine (CS.out).mono ?_); rintro e w7 ⟨rfl, hb7⟩; have HS7 := Lib.hid (HS6.out.below hb7); clear hb7)
          | fail)
        go_roundw
        case rel => exact ⟨j + 1, s2, by go_num, HJK.out, HA, HS7⟩
        case measure => simp [intOf] <;> omega
      · have HAC : Hid (s.act true lo tk = s.trip tk) := Lib.hid (by unfold Sk.act; rw [if_pos rfl])
        have CT := Lib.hid (trip_st HF.out HJ9.out HL.out tk)
        have CR := Lib.hid (fun w' => rtrip13_any tk j s HF.out HJ9.out w')
        rw [← HAC.out] at CT CR
        generalize s.act true lo tk = s2 at *
        clear HAC
        unfold SV at CR
        go_upto_region 8 with (first
          | (go_at_call 17; (with_reducible refine (CT.out).mono ?_); rintro e w4 ⟨rfl, HS4⟩)
          | fail)
        have HC4 : Hid (∀ w', Below w4.heap.size w4 w' → Blk13 26 w' (w.heap.size + 3) s ∧ w'.cell? ⟨g, off + j * 3 + 2, none⟩ = some (.int .i64 tk)) := Lib.hid (fun w' h => ⟨HS4.out.doc.below h HS4.out.doc.lt, (HOC.out w' (HS4.out.bel.trans (h.mono HS4.out.bel.size))).2.2⟩)
        have CR4 : Hid (∀ w', Below w4.heap.size w4 w' → Calls Try.prog 18 #[.agg #[.int .i64 s.lo, .int .i64 s.rt, .int .i64 s.va, .int .i64 s.ma, .int .i64 s.tr], .int .i64 tk] w' fun e w1 => e = .returned (.agg #[.int .i64 s2.lo, .int .i64 s2.rt, .int .i64 s2.va, .int .i64 s2.ma, .int .i64 s2.tr]) ∧ Below w4.heap.size w4 w1) := Lib.hid (fun w' h => (CR.out w').mono fun _ _ hh => ⟨hh.1, h.trans (hh.2.mono h.size)⟩)
        clear c0 c1 c2
        refine (wpIn_wide (n := 3)).1 ?_
        refine wpIn_grow_take (fun w' => Below w4.heap.size w4 w') (Below.refl _ _).drew 7 rfl (by kernel_rfl) (by kernel_rfl) (by kernel_rfl) ?_
        simp only [List.take_succ_cons, List.take_zero, List.drop_succ_cons, List.drop_zero]
        refine wpQuietIn_read (.agg #[.int .i64 s.lo, .int .i64 s.rt, .int .i64 s.va, .int .i64 s.ma, .int .i64 s.tr]) (fun _ _ _ _ => trivial) rfl (fun w' hw => ?_) ?_
        · obtain ⟨d0, d1, d2, d3, d4⟩ := (HC4.out w' hw).1.cells
          unfold Oper.quietAtIn
          go_simp
        simp only [Act.put, List.setIfInBounds_toArray, List.set_cons_zero, List.set_cons_succ]
        iterate 4 (refine wpQuietIn_step (fun _ _ _ _ => trivial) (fun K hK => ?_); go_simp; refine ⟨_, fun _ _ => rfl, hK _ ?_⟩; clear hK K)
        refine wpQuietIn_read (.int .i64 tk) (fun _ _ _ _ => trivial) rfl (fun w' hw => ?_) ?_
        · have d5 := (HC4.out w' hw).2
          unfold Oper.quietAtIn
          go_simp
        simp only [Act.put, List.setIfInBounds_toArray, List.set_cons_zero, List.set_cons_succ]
        refine wpQuietIn_step (fun _ _ _ _ => trivial) (fun K hK => ?_)
        go_simp
        refine ⟨.agg #[.int .i64 s2.lo, .int .i64 s2.rt, .int .i64 s2.va, .int .i64 s2.ma, .int .i64 s2.tr], fun w' hw => callsIn_wide.2 (CR4.out w' hw), hK _ ?_⟩
        clear hK K
        refine wpQuietIn_nil ?_
        rintro w5 hw5
        have HS5 := Lib.hid (HS4.out.below hw5)
        have HS6 := Lib.hid (HS5.out.write s2)
        clear hw5 HS4 HC4 CR4
        obtain ⟨d0, d1, d2, d3, d4⟩ := HS5.out.doc.cells
        have f0 := HS5.out.doc.frozen 0
        have f1 := HS5.out.doc.frozen 1
        have f2 := HS5.out.doc.frozen 2
        have f3 := HS5.out.doc.frozen 3
        have f4 := HS5.out.doc.frozen 4
        gi_wp2
        go_upto_region 11 with fail
        clear d0 d1 d2 d3 d4 f0 f1 f2 f3 f4
        generalize ((((w5.setCell ⟨w.heap.size + 3, 0, none⟩ (.int .i64 s2.lo)).setCell ⟨w.heap.size + 3, 1, none⟩ (.int .i64 s2.rt)).setCell ⟨w.heap.size + 3, 2, none⟩ (.int .i64 s2.va)).setCell ⟨w.heap.size + 3, 3, none⟩ (.int .i64 s2.ma)).setCell ⟨w.heap.size + 3, 4, none⟩ (.int .i64 s2.tr) = w6 at *
        obtain ⟨d0, d1, d2, d3, d4⟩ := HS6.out.doc.cells
        obtain ⟨e0, e1, e2, e3, e4⟩ := HS6.out.code.cells
        have CS := Lib.hid (same13_any s2 w6)
        unfold SV at CS
        go_wp2_with (first
          | (go_at_call 20; (with_reducible refine (CS.out).mono ?_); rintro e w7 ⟨rfl, hb7⟩; have HS7 := Lib.hid (HS6.out.below hb7); clear hb7)
          | fail)
        go_roundw
        case rel => exact ⟨j + 1, s2, by go_num, HJK.out, HA, HS7⟩
        case measure => simp [intOf] <;> omega
    · have hend : n ≤ j ∨ (j < n ∧ j = 300) := by omega
      have HF9 : Hid (s.fit 300) := Lib.hid (HF.out.le hj)
      obtain ⟨d0, d1, d2, d3, d4⟩ := HL.out.doc.cells
      obtain ⟨e0, e1, e2, e3, e4⟩ := HL.out.code.cells
      obtain ⟨z0, z1, z2, z3, z4⟩ := HL.out.res0.cells
      obtain ⟨y0, y1, y2, y3, y4⟩ := HL.out.res1.cells
      have f0 := HL.out.res0.frozen 0
      have f1 := HL.out.res0.frozen 1
      have f2 := HL.out.res0.frozen 2
      have f3 := HL.out.res0.frozen 3
      have f4 := HL.out.res0.frozen 4
      have g0 := HL.out.res1.frozen 0
      have g1 := HL.out.res1.frozen 1
      have g2 := HL.out.res1.frozen 2
      have g3 := HL.out.res1.frozen 3
      have g4 := HL.out.res1.frozen 4
      unfold Sk.zero at z0 z1 z2 z3 z4 y0 y1 y2 y3 y4
      dsimp only at z0 z1 z2 z3 z4 y0 y1 y2 y3 y4
      have HB9 := Lib.hid HL.out.bel
      clear hlt HL HO hj HF
      rcases hend with hend | ⟨hend, rfl⟩
      all_goals
        go_upto_region 13 with fail
        go_region
        all_goals
          go_wp2
          refine bodyPost_ret (v := .tuple #[.agg #[.int .i64 s.lo, .int .i64 s.rt, .int .i64 s.va, .int .i64 s.ma, .int .i64 s.tr], .agg #[.int .i64 s.lo, .int .i64 s.rt, .int .i64 s.va, .int .i64 s.ma, .int .i64 s.tr], .bool true]) (by simp [results, Try.results8, go_sem, z0, z1, z2, z3, z4, y0, y1, y2, y3, y4]) rfl ?_
          exact ⟨s, rfl, HF9, Lib.hid (set5_13 (set5_13 HB9.out (Nat.le_refl _) _ _ _ _ _) (Nat.le_add_right _ _) _ _ _ _ _).drew⟩
end Go.Proofs.Ytglopddibopjmaa
