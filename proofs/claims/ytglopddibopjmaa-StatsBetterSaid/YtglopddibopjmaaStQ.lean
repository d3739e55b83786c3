/-
  Own text: law StatsBetter, walked. (Written by gen_stq.py.)
-/
import Derived.Test.YtglopddibopjmaaStL
namespace Go.Proofs.Ytglopddibopjmaa
open Go.RowKit

set_option maxRecDepth 100000 in
set_option maxHeartbeats 1000000 in
theorem better13_walk (a : Option Addr) (n c : Nat) (a' : Option Addr) (n' c' : Nat) (w : World) (hp : True → ∃ P L T, Ops13 w a n P L T) (hp' : True → ∃ P L T, Ops13 w a' n' P L T) :
    Calls Try.prog 5 #[.slice a n c, .slice a' n' c'] w (Yes13 w) := by
  obtain ⟨P, L, T, ho⟩ := hp trivial
  obtain ⟨P', L', T', ho'⟩ := hp' trivial
  have CP := Lib.hid (fun w1 (hb : Below w.heap.size w w1) => played13_any a n c P L T w1 (ho.below hb (Nat.le_refl _)))
  have CP' := Lib.hid (fun w1 (hb : Below w.heap.size w w1) => played13_any a' n' c' P' L' T' w1 (ho'.below hb (Nat.le_refl _)))
  clear ho hp ho' hp'
  unfold SV at CP CP'
  go_enter Try.func5, Try.ntmps5
  go_upto_region 4 with (first
    | (go_at_call 7; (refine (awake13_any _).mono ?_); rintro e w1 ⟨rfl, hb1⟩; have HB1 := Lib.hid hb1; clear hb1)
    | (go_at_call 8; (with_reducible refine (CP.out _ HB1.out).mono ?_); rintro e w2 ⟨s, rfl, HF, HN⟩; have HB2 := Lib.hid (HB1.out.trans (HN.out.mono HB1.out.size)))
    | fail)
  obtain ⟨W, hW⟩ : ∃ W, W = (w2.alloc (.cells #[.int .i64 s.lo, .int .i64 s.rt, .int .i64 s.va, .int .i64 s.ma, .int .i64 s.tr] 25)).alloc (.cells #[.int .i64 s.lo, .int .i64 s.rt, .int .i64 s.va, .int .i64 s.ma, .int .i64 s.tr] 26) := ⟨_, rfl⟩
  rw [← hW]
  obtain ⟨hb, hx⟩ := Blk13.two w2 s s _ _ hW
  have HB3 := Lib.hid (HB2.out.trans (hb.mono HB2.out.size))
  have HX := Lib.hid hx
  clear hW hb hx CP HB1 HB2 HN
  go_upto_region 5 with (first
    | (go_at_call 8; (with_reducible refine (CP'.out _ HB3.out).mono ?_); rintro e w4 ⟨s', rfl, HF', HN'⟩)
    | fail)
  obtain ⟨W', hW'⟩ : ∃ W', W' = (w4.alloc (.cells #[.int .i64 s'.lo, .int .i64 s'.rt, .int .i64 s'.va, .int .i64 s'.ma, .int .i64 s'.tr] 25)).alloc (.cells #[.int .i64 s'.lo, .int .i64 s'.rt, .int .i64 s'.va, .int .i64 s'.ma, .int .i64 s'.tr] 26) := ⟨_, rfl⟩
  rw [← hW']
  obtain ⟨hb', hx'⟩ := Blk13.two w4 s' s' _ _ hW'
  have hb4 : Below W.heap.size W W' := HN'.out.trans (hb'.mono HN'.out.size)
  have HB4 := Lib.hid (HB3.out.trans (hb4.mono HB3.out.size))
  have HY : Hid (∀ w', Below W'.heap.size W' w' → Blk13 25 w' w2.heap.size s ∧ Blk13 25 w' w4.heap.size s') := Lib.hid (fun w' h => ⟨(HX.out w' (hb4.trans (h.mono hb4.size))).1, (hx' w' h).1⟩)
  clear hW' hb' hx' CP' HN' hb4 HX HB3
  have hle : s'.lo ≤ s.lo → s'.rt ≤ s.rt → s.score ≤ s'.score := Sk.score_le HF.out HF'.out
  obtain ⟨c0, c1, c2, c3, c4⟩ := (HY.out W' (Below.refl _ _)).1.cells
  obtain ⟨d0, d1, d2, d3, d4⟩ := (HY.out W' (Below.refl _ _)).2.cells
  have CA : Hid (∀ w', Below W'.heap.size W' w' → Calls Try.prog 11 #[SV s] w' fun e w1 => e = .returned (.int .i64 s.score) ∧ Below W'.heap.size W' w1) := Lib.hid (fun w' h => (score13_any s 300 HF.out w').mono fun _ _ hh => ⟨hh.1, h.trans (hh.2.mono h.size)⟩)
  have CB : Hid (∀ w', Below W'.heap.size W' w' → Calls Try.prog 11 #[SV s'] w' fun e w1 => e = .returned (.int .i64 s'.score) ∧ Below W'.heap.size W' w1) := Lib.hid (fun w' h => (score13_any s' 300 HF'.out w').mono fun _ _ hh => ⟨hh.1, h.trans (hh.2.mono h.size)⟩)
  have CC : Hid (∀ w', Below W'.heap.size W' w' → Calls Try.prog 16 #[SV s, SV s'] w' fun e w1 => e = .returned (.bool (decide (s'.score < s.score))) ∧ Below W'.heap.size W' w1) := Lib.hid (fun w' h => (better13_any s s' 300 300 HF.out HF'.out w').mono fun _ _ hh => ⟨hh.1, h.trans (hh.2.mono h.size)⟩)
  have CD : Hid (∀ w', Below W'.heap.size W' w' → Calls Try.prog 16 #[SV s', SV s] w' fun e w1 => e = .returned (.bool (decide (s.score < s'.score))) ∧ Below W'.heap.size W' w1) := Lib.hid (fun w' h => (better13_any s' s 300 300 HF'.out HF.out w').mono fun _ _ hh => ⟨hh.1, h.trans (hh.2.mono h.size)⟩)
  unfold SV at CA CB CC CD
  generalize s.score = x at *
  generalize s'.score = y at *
  by_cases hlt : y < x
  · have e1 : decide (y < x) = true := decide_eq_true hlt
    have e2 : decide (x < y) = false := decide_eq_false (by omega)
    rw [e1] at CC
    rw [e2] at CD
    have hcs : ¬ s'.lo ≤ s.lo ∨ (s'.lo ≤ s.lo ∧ ¬ s'.rt ≤ s.rt) := by
      by_cases g1 : s'.lo ≤ s.lo
      · exact .inr ⟨g1, fun g2 => by have := hle g1 g2; omega⟩
      · exact .inl g1
    clear e1 e2 hle
    rcases hcs with g1 | ⟨g1, g2⟩
    all_goals
      go_upto_region 9 with fail
      clear c0 c1 c2 c3 c4 d0 d1 d2 d3 d4
      refine (wpIn_wide (n := 3)).1 ?_
      refine wpIn_class (fun w' => Below W'.heap.size W' w') (Below.refl _ _).drew rfl (by kernel_rfl) (by kernel_rfl) ?_
      refine wpQ_readw (.agg #[.int .i64 s.lo, .int .i64 s.rt, .int .i64 s.va, .int .i64 s.ma, .int .i64 s.tr]) (fun _ _ _ _ => trivial) rfl (fun w' hw => ?_) ?_
      · obtain ⟨c0, c1, c2, c3, c4⟩ := ((HY.out w' hw).1).cells
        unfold Oper.quietAtIn
        go_simp
      simp only [Act.put, List.setIfInBounds_toArray, List.set_cons_zero, List.set_cons_succ]
      refine wpQ_readw (.agg #[.int .i64 s'.lo, .int .i64 s'.rt, .int .i64 s'.va, .int .i64 s'.ma, .int .i64 s'.tr]) (fun _ _ _ _ => trivial) rfl (fun w' hw => ?_) ?_
      · obtain ⟨c0, c1, c2, c3, c4⟩ := ((HY.out w' hw).2).cells
        unfold Oper.quietAtIn
        go_simp
      simp only [Act.put, List.setIfInBounds_toArray, List.set_cons_zero, List.set_cons_succ]
      refine wpQuietIn_step (fun _ _ _ _ => trivial) (fun K hK => ?_)
      go_simp
      refine ⟨.bool true, fun w' hw => callsIn_wide.2 (CC.out w' hw), hK _ ?_⟩
      clear hK K
      (refine wpQuietIn_step (fun _ _ _ _ => trivial) (fun K hK => ?_); go_simp; refine ⟨_, fun _ _ => rfl, hK _ ?_⟩; clear hK K)
      refine wpQ_readw (.agg #[.int .i64 s'.lo, .int .i64 s'.rt, .int .i64 s'.va, .int .i64 s'.ma, .int .i64 s'.tr]) (fun _ _ _ _ => trivial) rfl (fun w' hw => ?_) ?_
      · obtain ⟨c0, c1, c2, c3, c4⟩ := ((HY.out w' hw).2).cells
        unfold Oper.quietAtIn
        go_simp
      simp only [Act.put, List.setIfInBounds_toArray, List.set_cons_zero, List.set_cons_succ]
      refine wpQ_readw (.agg #[.int .i64 s.lo, .int .i64 s.rt, .int .i64 s.va, .int .i64 s.ma, .int .i64 s.tr]) (fun _ _ _ _ => trivial) rfl (fun w' hw => ?_) ?_
      · obtain ⟨c0, c1, c2, c3, c4⟩ := ((HY.out w' hw).1).cells
        unfold Oper.quietAtIn
        go_simp
      simp only [Act.put, List.setIfInBounds_toArray, List.set_cons_zero, List.set_cons_succ]
      refine wpQuietIn_step (fun _ _ _ _ => trivial) (fun K hK => ?_)
      go_simp
      refine ⟨.bool false, fun w' hw => callsIn_wide.2 (CD.out w' hw), hK _ ?_⟩
      clear hK K
      iterate 3 (refine wpQuietIn_step (fun _ _ _ _ => trivial) (fun K hK => ?_); go_simp; refine ⟨_, fun _ _ => rfl, hK _ ?_⟩; clear hK K)
      refine wpQ_readw (.agg #[.int .i64 s.lo, .int .i64 s.rt, .int .i64 s.va, .int .i64 s.ma, .int .i64 s.tr]) (fun _ _ _ _ => trivial) rfl (fun w' hw => ?_) ?_
      · obtain ⟨c0, c1, c2, c3, c4⟩ := ((HY.out w' hw).1).cells
        unfold Oper.quietAtIn
        go_simp
      simp only [Act.put, List.setIfInBounds_toArray, List.set_cons_zero, List.set_cons_succ]
      refine wpQ_readw (.agg #[.int .i64 s'.lo, .int .i64 s'.rt, .int .i64 s'.va, .int .i64 s'.ma, .int .i64 s'.tr]) (fun _ _ _ _ => trivial) rfl (fun w' hw => ?_) ?_
      · obtain ⟨c0, c1, c2, c3, c4⟩ := ((HY.out w' hw).2).cells
        unfold Oper.quietAtIn
        go_simp
      simp only [Act.put, List.setIfInBounds_toArray, List.set_cons_zero, List.set_cons_succ]
      refine wpQuietIn_step (fun _ _ _ _ => trivial) (fun K hK => ?_)
      go_simp
      refine ⟨.bool true, fun w' hw => callsIn_wide.2 (CC.out w' hw), hK _ ?_⟩
      clear hK K
      refine wpQ_readw (.agg #[.int .i64 s.lo, .int .i64 s.rt, .int .i64 s.va, .int .i64 s.ma, .int .i64 s.tr]) (fun _ _ _ _ => trivial) rfl (fun w' hw => ?_) ?_
      · obtain ⟨c0, c1, c2, c3, c4⟩ := ((HY.out w' hw).1).cells
        unfold Oper.quietAtIn
        go_simp
      simp only [Act.put, List.setIfInBounds_toArray, List.set_cons_zero, List.set_cons_succ]
      refine wpQuietIn_step (fun _ _ _ _ => trivial) (fun K hK => ?_)
      go_simp
      refine ⟨.int .i64 x, fun w' hw => callsIn_wide.2 (CA.out w' hw), hK _ ?_⟩
      clear hK K
      refine wpQ_readw (.agg #[.int .i64 s'.lo, .int .i64 s'.rt, .int .i64 s'.va, .int .i64 s'.ma, .int .i64 s'.tr]) (fun _ _ _ _ => trivial) rfl (fun w' hw => ?_) ?_
      · obtain ⟨c0, c1, c2, c3, c4⟩ := ((HY.out w' hw).2).cells
        unfold Oper.quietAtIn
        go_simp
      simp only [Act.put, List.setIfInBounds_toArray, List.set_cons_zero, List.set_cons_succ]
      refine wpQuietIn_step (fun _ _ _ _ => trivial) (fun K hK => ?_)
      go_simp
      refine ⟨.int .i64 y, fun w' hw => callsIn_wide.2 (CB.out w' hw), hK _ ?_⟩
      clear hK K
      iterate 4 (refine wpQuietIn_step (fun _ _ _ _ => trivial) (fun K hK => ?_); go_simp; refine ⟨_, fun _ _ => rfl, hK _ ?_⟩; clear hK K)
      refine wpQuietIn_nil ?_
      rintro w6 hw6
      have HB6 := Lib.hid (below_13 HB4.out HB4.out.size hw6)
      clear hw6
      go_wp2
      go_ret
      exact ⟨rfl, HB6.out⟩
  · have e1 : decide (y < x) = false := decide_eq_false hlt
    rw [e1] at CC
    clear e1 CD hle
    have hcs : ¬ s'.lo ≤ s.lo ∨ (s'.lo ≤ s.lo ∧ ¬ s'.rt ≤ s.rt) ∨ (s'.lo ≤ s.lo ∧ s'.rt ≤ s.rt) := by omega
    rcases hcs with g1 | ⟨g1, g2⟩ | ⟨g1, g2⟩
    · go_upto_region 9 with fail
      clear c0 c1 c2 c3 c4 d0 d1 d2 d3 d4
      refine (wpIn_wide (n := 3)).1 ?_
      refine wpIn_class (fun w' => Below W'.heap.size W' w') (Below.refl _ _).drew rfl (by kernel_rfl) (by kernel_rfl) ?_
      refine wpQ_readw (.agg #[.int .i64 s.lo, .int .i64 s.rt, .int .i64 s.va, .int .i64 s.ma, .int .i64 s.tr]) (fun _ _ _ _ => trivial) rfl (fun w' hw => ?_) ?_
      · obtain ⟨c0, c1, c2, c3, c4⟩ := ((HY.out w' hw).1).cells
        unfold Oper.quietAtIn
        go_simp
      simp only [Act.put, List.setIfInBounds_toArray, List.set_cons_zero, List.set_cons_succ]
      refine wpQ_readw (.agg #[.int .i64 s'.lo, .int .i64 s'.rt, .int .i64 s'.va, .int .i64 s'.ma, .int .i64 s'.tr]) (fun _ _ _ _ => trivial) rfl (fun w' hw => ?_) ?_
      · obtain ⟨c0, c1, c2, c3, c4⟩ := ((HY.out w' hw).2).cells
        unfold Oper.quietAtIn
        go_simp
      simp only [Act.put, List.setIfInBounds_toArray, List.set_cons_zero, List.set_cons_succ]
      refine wpQuietIn_step (fun _ _ _ _ => trivial) (fun K hK => ?_)
      go_simp
      refine ⟨.bool false, fun w' hw => callsIn_wide.2 (CC.out w' hw), hK _ ?_⟩
      clear hK K
      (refine wpQuietIn_step (fun _ _ _ _ => trivial) (fun K hK => ?_); go_simp; refine ⟨_, fun _ _ => rfl, hK _ ?_⟩; clear hK K)
      iterate 3 (refine wpQuietIn_step (fun _ _ _ _ => trivial) (fun K hK => ?_); go_simp; refine hK _ ?_; clear hK K)
      iterate 3 (refine wpQuietIn_step (fun _ _ _ _ => trivial) (fun K hK => ?_); go_simp; refine ⟨_, fun _ _ => rfl, hK _ ?_⟩; clear hK K)
      refine wpQ_readw (.agg #[.int .i64 s.lo, .int .i64 s.rt, .int .i64 s.va, .int .i64 s.ma, .int .i64 s.tr]) (fun _ _ _ _ => trivial) rfl (fun w' hw => ?_) ?_
      · obtain ⟨c0, c1, c2, c3, c4⟩ := ((HY.out w' hw).1).cells
        unfold Oper.quietAtIn
        go_simp
      simp only [Act.put, List.setIfInBounds_toArray, List.set_cons_zero, List.set_cons_succ]
      refine wpQ_readw (.agg #[.int .i64 s'.lo, .int .i64 s'.rt, .int .i64 s'.va, .int .i64 s'.ma, .int .i64 s'.tr]) (fun _ _ _ _ => trivial) rfl (fun w' hw => ?_) ?_
      · obtain ⟨c0, c1, c2, c3, c4⟩ := ((HY.out w' hw).2).cells
        unfold Oper.quietAtIn
        go_simp
      simp only [Act.put, List.setIfInBounds_toArray, List.set_cons_zero, List.set_cons_succ]
      refine wpQuietIn_step (fun _ _ _ _ => trivial) (fun K hK => ?_)
      go_simp
      refine ⟨.bool false, fun w' hw => callsIn_wide.2 (CC.out w' hw), hK _ ?_⟩
      clear hK K
      refine wpQ_readw (.agg #[.int .i64 s.lo, .int .i64 s.rt, .int .i64 s.va, .int .i64 s.ma, .int .i64 s.tr]) (fun _ _ _ _ => trivial) rfl (fun w' hw => ?_) ?_
      · obtain ⟨c0, c1, c2, c3, c4⟩ := ((HY.out w' hw).1).cells
        unfold Oper.quietAtIn
        go_simp
      simp only [Act.put, List.setIfInBounds_toArray, List.set_cons_zero, List.set_cons_succ]
      refine wpQuietIn_step (fun _ _ _ _ => trivial) (fun K hK => ?_)
      go_simp
      refine ⟨.int .i64 x, fun w' hw => callsIn_wide.2 (CA.out w' hw), hK _ ?_⟩
      clear hK K
      refine wpQ_readw (.agg #[.int .i64 s'.lo, .int .i64 s'.rt, .int .i64 s'.va, .int .i64 s'.ma, .int .i64 s'.tr]) (fun _ _ _ _ => trivial) rfl (fun w' hw => ?_) ?_
      · obtain ⟨c0, c1, c2, c3, c4⟩ := ((HY.out w' hw).2).cells
        unfold Oper.quietAtIn
        go_simp
      simp only [Act.put, List.setIfInBounds_toArray, List.set_cons_zero, List.set_cons_succ]
      refine wpQuietIn_step (fun _ _ _ _ => trivial) (fun K hK => ?_)
      go_simp
      refine ⟨.int .i64 y, fun w' hw => callsIn_wide.2 (CB.out w' hw), hK _ ?_⟩
      clear hK K
      iterate 4 (refine wpQuietIn_step (fun _ _ _ _ => trivial) (fun K hK => ?_); go_simp; refine ⟨_, fun _ _ => rfl, hK _ ?_⟩; clear hK K)
      refine wpQuietIn_nil ?_
      rintro w6 hw6
      have HB6 := Lib.hid (below_13 HB4.out HB4.out.size hw6)
      clear hw6
      go_wp2
      go_ret
      exact ⟨rfl, HB6.out⟩
    · go_upto_region 9 with fail
      clear c0 c1 c2 c3 c4 d0 d1 d2 d3 d4
      refine (wpIn_wide (n := 3)).1 ?_
      refine wpIn_class (fun w' => Below W'.heap.size W' w') (Below.refl _ _).drew rfl (by kernel_rfl) (by kernel_rfl) ?_
      refine wpQ_readw (.agg #[.int .i64 s.lo, .int .i64 s.rt, .int .i64 s.va, .int .i64 s.ma, .int .i64 s.tr]) (fun _ _ _ _ => trivial) rfl (fun w' hw => ?_) ?_
      · obtain ⟨c0, c1, c2, c3, c4⟩ := ((HY.out w' hw).1).cells
        unfold Oper.quietAtIn
        go_simp
      simp only [Act.put, List.setIfInBounds_toArray, List.set_cons_zero, List.set_cons_succ]
      refine wpQ_readw (.agg #[.int .i64 s'.lo, .int .i64 s'.rt, .int .i64 s'.va, .int .i64 s'.ma, .int .i64 s'.tr]) (fun _ _ _ _ => trivial) rfl (fun w' hw => ?_) ?_
      · obtain ⟨c0, c1, c2, c3, c4⟩ := ((HY.out w' hw).2).cells
        unfold Oper.quietAtIn
        go_simp
      simp only [Act.put, List.setIfInBounds_toArray, List.set_cons_zero, List.set_cons_succ]
      refine wpQuietIn_step (fun _ _ _ _ => trivial) (fun K hK => ?_)
      go_simp
      refine ⟨.bool false, fun w' hw => callsIn_wide.2 (CC.out w' hw), hK _ ?_⟩
      clear hK K
      (refine wpQuietIn_step (fun _ _ _ _ => trivial) (fun K hK => ?_); go_simp; refine ⟨_, fun _ _ => rfl, hK _ ?_⟩; clear hK K)
      iterate 3 (refine wpQuietIn_step (fun _ _ _ _ => trivial) (fun K hK => ?_); go_simp; refine hK _ ?_; clear hK K)
      iterate 3 (refine wpQuietIn_step (fun _ _ _ _ => trivial) (fun K hK => ?_); go_simp; refine ⟨_, fun _ _ => rfl, hK _ ?_⟩; clear hK K)
      refine wpQ_readw (.agg #[.int .i64 s.lo, .int .i64 s.rt, .int .i64 s.va, .int .i64 s.ma, .int .i64 s.tr]) (fun _ _ _ _ => trivial) rfl (fun w' hw => ?_) ?_
      · obtain ⟨c0, c1, c2, c3, c4⟩ := ((HY.out w' hw).1).cells
        unfold Oper.quietAtIn
        go_simp
      simp only [Act.put, List.setIfInBounds_toArray, List.set_cons_zero, List.set_cons_succ]
      refine wpQ_readw (.agg #[.int .i64 s'.lo, .int .i64 s'.rt, .int .i64 s'.va, .int .i64 s'.ma, .int .i64 s'.tr]) (fun _ _ _ _ => trivial) rfl (fun w' hw => ?_) ?_
      · obtain ⟨c0, c1, c2, c3, c4⟩ := ((HY.out w' hw).2).cells
        unfold Oper.quietAtIn
        go_simp
      simp only [Act.put, List.setIfInBounds_toArray, List.set_cons_zero, List.set_cons_succ]
      refine wpQuietIn_step (fun _ _ _ _ => trivial) (fun K hK => ?_)
      go_simp
      refine ⟨.bool false, fun w' hw => callsIn_wide.2 (CC.out w' hw), hK _ ?_⟩
      clear hK K
      refine wpQ_readw (.agg #[.int .i64 s.lo, .int .i64 s.rt, .int .i64 s.va, .int .i64 s.ma, .int .i64 s.tr]) (fun _ _ _ _ => trivial) rfl (fun w' hw => ?_) ?_
      · obtain ⟨c0, c1, c2, c3, c4⟩ := ((HY.out w' hw).1).cells
        unfold Oper.quietAtIn
        go_simp
      simp only [Act.put, List.setIfInBounds_toArray, List.set_cons_zero, List.set_cons_succ]
      refine wpQuietIn_step (fun _ _ _ _ => trivial) (fun K hK => ?_)
      go_simp
      refine ⟨.int .i64 x, fun w' hw => callsIn_wide.2 (CA.out w' hw), hK _ ?_⟩
      clear hK K
      refine wpQ_readw (.agg #[.int .i64 s'.lo, .int .i64 s'.rt, .int .i64 s'.va, .int .i64 s'.ma, .int .i64 s'.tr]) (fun _ _ _ _ => trivial) rfl (fun w' hw => ?_) ?_
      · obtain ⟨c0, c1, c2, c3, c4⟩ := ((HY.out w' hw).2).cells
        unfold Oper.quietAtIn
        go_simp
      simp only [Act.put, List.setIfInBounds_toArray, List.set_cons_zero, List.set_cons_succ]
      refine wpQuietIn_step (fun _ _ _ _ => trivial) (fun K hK => ?_)
      go_simp
      refine ⟨.int .i64 y, fun w' hw => callsIn_wide.2 (CB.out w' hw), hK _ ?_⟩
      clear hK K
      iterate 4 (refine wpQuietIn_step (fun _ _ _ _ => trivial) (fun K hK => ?_); go_simp; refine ⟨_, fun _ _ => rfl, hK _ ?_⟩; clear hK K)
      refine wpQuietIn_nil ?_
      rintro w6 hw6
      have HB6 := Lib.hid (below_13 HB4.out HB4.out.size hw6)
      clear hw6
      go_wp2
      go_ret
      exact ⟨rfl, HB6.out⟩
    · go_upto_region 9 with (first
        | (go_at_call 16; (with_reducible refine (CC.out _ (Below.refl _ _)).mono ?_); rintro e w5 ⟨rfl, hb5⟩; have HB5 := Lib.hid hb5; clear hb5)
        | fail)
      clear c0 c1 c2 c3 c4 d0 d1 d2 d3 d4
      refine (wpIn_wide (n := 3)).1 ?_
      refine wpIn_class (fun w' => Below W'.heap.size W' w') HB5.out.drew rfl (by kernel_rfl) (by kernel_rfl) ?_
      refine wpQ_readw (.agg #[.int .i64 s.lo, .int .i64 s.rt, .int .i64 s.va, .int .i64 s.ma, .int .i64 s.tr]) (fun _ _ _ _ => trivial) rfl (fun w' hw => ?_) ?_
      · obtain ⟨c0, c1, c2, c3, c4⟩ := ((HY.out w' hw).1).cells
        unfold Oper.quietAtIn
        go_simp
      simp only [Act.put, List.setIfInBounds_toArray, List.set_cons_zero, List.set_cons_succ]
      refine wpQ_readw (.agg #[.int .i64 s'.lo, .int .i64 s'.rt, .int .i64 s'.va, .int .i64 s'.ma, .int .i64 s'.tr]) (fun _ _ _ _ => trivial) rfl (fun w' hw => ?_) ?_
      · obtain ⟨c0, c1, c2, c3, c4⟩ := ((HY.out w' hw).2).cells
        unfold Oper.quietAtIn
        go_simp
      simp only [Act.put, List.setIfInBounds_toArray, List.set_cons_zero, List.set_cons_succ]
      refine wpQuietIn_step (fun _ _ _ _ => trivial) (fun K hK => ?_)
      go_simp
      refine ⟨.bool false, fun w' hw => callsIn_wide.2 (CC.out w' hw), hK _ ?_⟩
      clear hK K
      (refine wpQuietIn_step (fun _ _ _ _ => trivial) (fun K hK => ?_); go_simp; refine ⟨_, fun _ _ => rfl, hK _ ?_⟩; clear hK K)
      iterate 3 (refine wpQuietIn_step (fun _ _ _ _ => trivial) (fun K hK => ?_); go_simp; refine hK _ ?_; clear hK K)
      iterate 3 (refine wpQuietIn_step (fun _ _ _ _ => trivial) (fun K hK => ?_); go_simp; refine ⟨_, fun _ _ => rfl, hK _ ?_⟩; clear hK K)
      refine wpQ_readw (.agg #[.int .i64 s.lo, .int .i64 s.rt, .int .i64 s.va, .int .i64 s.ma, .int .i64 s.tr]) (fun _ _ _ _ => trivial) rfl (fun w' hw => ?_) ?_
      · obtain ⟨c0, c1, c2, c3, c4⟩ := ((HY.out w' hw).1).cells
        unfold Oper.quietAtIn
        go_simp
      simp only [Act.put, List.setIfInBounds_toArray, List.set_cons_zero, List.set_cons_succ]
      refine wpQ_readw (.agg #[.int .i64 s'.lo, .int .i64 s'.rt, .int .i64 s'.va, .int .i64 s'.ma, .int .i64 s'.tr]) (fun _ _ _ _ => trivial) rfl (fun w' hw => ?_) ?_
      · obtain ⟨c0, c1, c2, c3, c4⟩ := ((HY.out w' hw).2).cells
        unfold Oper.quietAtIn
        go_simp
      simp only [Act.put, List.setIfInBounds_toArray, List.set_cons_zero, List.set_cons_succ]
      refine wpQuietIn_step (fun _ _ _ _ => trivial) (fun K hK => ?_)
      go_simp
      refine ⟨.bool false, fun w' hw => callsIn_wide.2 (CC.out w' hw), hK _ ?_⟩
      clear hK K
      refine wpQ_readw (.agg #[.int .i64 s.lo, .int .i64 s.rt, .int .i64 s.va, .int .i64 s.ma, .int .i64 s.tr]) (fun _ _ _ _ => trivial) rfl (fun w' hw => ?_) ?_
      · obtain ⟨c0, c1, c2, c3, c4⟩ := ((HY.out w' hw).1).cells
        unfold Oper.quietAtIn
        go_simp
      simp only [Act.put, List.setIfInBounds_toArray, List.set_cons_zero, List.set_cons_succ]
      refine wpQuietIn_step (fun _ _ _ _ => trivial) (fun K hK => ?_)
      go_simp
      refine ⟨.int .i64 x, fun w' hw => callsIn_wide.2 (CA.out w' hw), hK _ ?_⟩
      clear hK K
      refine wpQ_readw (.agg #[.int .i64 s'.lo, .int .i64 s'.rt, .int .i64 s'.va, .int .i64 s'.ma, .int .i64 s'.tr]) (fun _ _ _ _ => trivial) rfl (fun w' hw => ?_) ?_
      · obtain ⟨c0, c1, c2, c3, c4⟩ := ((HY.out w' hw).2).cells
        unfold Oper.quietAtIn
        go_simp
      simp only [Act.put, List.setIfInBounds_toArray, List.set_cons_zero, List.set_cons_succ]
      refine wpQuietIn_step (fun _ _ _ _ => trivial) (fun K hK => ?_)
      go_simp
      refine ⟨.int .i64 y, fun w' hw => callsIn_wide.2 (CB.out w' hw), hK _ ?_⟩
      clear hK K
      iterate 4 (refine wpQuietIn_step (fun _ _ _ _ => trivial) (fun K hK => ?_); go_simp; refine ⟨_, fun _ _ => rfl, hK _ ?_⟩; clear hK K)
      refine wpQuietIn_nil ?_
      rintro w6 hw6
      have HB6 := Lib.hid (below_13 HB4.out HB4.out.size hw6)
      clear hw6
      go_wp2
      go_ret
      exact ⟨ret_bool (by simp [hlt]), HB6.out⟩
end Go.Proofs.Ytglopddibopjmaa
