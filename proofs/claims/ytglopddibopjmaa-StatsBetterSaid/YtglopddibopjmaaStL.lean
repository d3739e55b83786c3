/-
  Own text: law StatsPlays, walked. (Written by gen_stl.py.)
-/
import Derived.Test.YtglopddibopjmaaStK
namespace Go.Proofs.Ytglopddibopjmaa
open Go.RowKit

/-- The law answers true; only new blocks were made. -/
def Yes13 (w : World) (e : Ending) (w' : World) : Prop := e = .returned (.bool true) ∧ Below w.heap.size w w'
theorem Sk.need_held (s : Sk) (c l : Int) : s.need (if c < 0 then 0 else c) l = s.need c l := by
  have h : (if (if c < 0 then (0 : Int) else c) < 0 then (0 : Int) else (if c < 0 then 0 else c)) = (if c < 0 then 0 else c) := by by_cases e : c < 0 <;> simp [e]
  rw [Sk.need_is, Sk.need_is, h]
theorem below_13 {B : Nat} {w W w' : World} (h : Below B w W) (hB : B ≤ W.heap.size) (k : Below W.heap.size W w') : Below B w w' := h.trans (k.mono hB)
set_option maxRecDepth 100000 in
set_option maxHeartbeats 1000000 in
theorem plays13_walk (a : Option Addr) (n c : Nat) (cnt lim : Int) (w : World) (hp : True → ∃ P L T, Ops13 w a n P L T) :
    Calls Try.prog 3 #[.slice a n c, .int .i64 cnt, .int .i64 lim] w (Yes13 w) := by
  obtain ⟨P, L, T, ho⟩ := hp trivial
  have CP := Lib.hid (fun w1 (hb : Below w.heap.size w w1) => played13_any a n c P L T w1 (ho.below hb (Nat.le_refl _)))
  clear ho hp
  unfold SV at CP
  go_enter Try.func3, Try.ntmps3
  go_upto_region 4 with (first
    | (go_at_call 7; (refine (awake13_any _).mono ?_); rintro e w1 ⟨rfl, hb1⟩; have HB1 := Lib.hid hb1; clear hb1)
    | (go_at_call 8; (with_reducible refine (CP.out _ HB1.out).mono ?_); rintro e w2 ⟨s, rfl, HF, HN⟩; have HB2 := Lib.hid (HB1.out.trans (HN.out.mono HB1.out.size)))
    | fail)
  obtain ⟨W, hW⟩ : ∃ W, W = (w2.alloc (.cells #[.int .i64 s.lo, .int .i64 s.rt, .int .i64 s.va, .int .i64 s.ma, .int .i64 s.tr] 25)).alloc (.cells #[.int .i64 s.lo, .int .i64 s.rt, .int .i64 s.va, .int .i64 s.ma, .int .i64 s.tr] 26) := ⟨_, rfl⟩
  rw [← hW]
  obtain ⟨hb, hx⟩ := Blk13.two w2 s s _ _ hW
  have HB3 := Lib.hid (HB2.out.trans (hb.mono HB2.out.size))
  have HX := Lib.hid hx
  clear hW hb hx CP HB1 HB2 HN
  have CA : Hid (∀ w', Below W.heap.size W w' → Calls Try.prog 9 #[SV s] w' fun e w1 => e = .returned (.int .i64 s.wait) ∧ Below W.heap.size W w1) := Lib.hid (fun w' h => (wait13_any s 300 HF.out w').mono fun _ _ hh => ⟨hh.1, h.trans (hh.2.mono h.size)⟩)
  have CB : Hid (∀ w', Below W.heap.size W w' → Calls Try.prog 10 #[SV s] w' fun e w1 => e = .returned (.int .i64 s.wait) ∧ Below W.heap.size W w1) := Lib.hid (fun w' h => (rwait13_any s 300 HF.out w').mono fun _ _ hh => ⟨hh.1, h.trans (hh.2.mono h.size)⟩)
  have CC : Hid (∀ w', Below W.heap.size W w' → Calls Try.prog 11 #[SV s] w' fun e w1 => e = .returned (.int .i64 s.score) ∧ Below W.heap.size W w1) := Lib.hid (fun w' h => (score13_any s 300 HF.out w').mono fun _ _ hh => ⟨hh.1, h.trans (hh.2.mono h.size)⟩)
  have CD : Hid (∀ w', Below W.heap.size W w' → Calls Try.prog 12 #[SV s] w' fun e w1 => e = .returned (.int .i64 s.score) ∧ Below W.heap.size W w1) := Lib.hid (fun w' h => (rscore13_any s 300 HF.out w').mono fun _ _ hh => ⟨hh.1, h.trans (hh.2.mono h.size)⟩)
  have HN0 := Lib.hid (Sk.need_held s cnt lim)
  unfold SV at CA CB CC CD
  generalize s.wait = wt at *
  generalize s.score = sc at *
  have n1 : (wt != wt) = false := by simp
  have n2 : (sc != sc) = false := by simp
  refine (wpIn_wide (n := 3)).1 ?_
  refine wpIn_class (fun w' => Below W.heap.size W w') (Below.refl _ _).drew rfl (by kernel_rfl) (by kernel_rfl) ?_
  iterate 3 (refine wpQuietIn_step (fun _ _ _ _ => trivial) (fun K hK => ?_); go_simp; refine ⟨_, fun _ _ => rfl, hK _ ?_⟩; clear hK K)
  refine wpQ_readw (.agg #[.int .i64 s.lo, .int .i64 s.rt, .int .i64 s.va, .int .i64 s.ma, .int .i64 s.tr]) (fun _ _ _ _ => trivial) rfl (fun w' hw => ?_) ?_
  · obtain ⟨c0, c1, c2, c3, c4⟩ := ((HX.out w' hw).1).cells
    unfold Oper.quietAtIn
    go_simp
  simp only [Act.put, List.setIfInBounds_toArray, List.set_cons_zero, List.set_cons_succ]
  refine wpQuietIn_step (fun _ _ _ _ => trivial) (fun K hK => ?_)
  go_simp
  refine ⟨.int .i64 wt, fun w' hw => callsIn_wide.2 (CA.out w' hw), hK _ ?_⟩
  clear hK K
  refine wpQ_readw (.agg #[.int .i64 s.lo, .int .i64 s.rt, .int .i64 s.va, .int .i64 s.ma, .int .i64 s.tr]) (fun _ _ _ _ => trivial) rfl (fun w' hw => ?_) ?_
  · obtain ⟨c0, c1, c2, c3, c4⟩ := ((HX.out w' hw).2).cells
    unfold Oper.quietAtIn
    go_simp
  simp only [Act.put, List.setIfInBounds_toArray, List.set_cons_zero, List.set_cons_succ]
  refine wpQuietIn_step (fun _ _ _ _ => trivial) (fun K hK => ?_)
  go_simp
  refine ⟨.int .i64 wt, fun w' hw => callsIn_wide.2 (CB.out w' hw), hK _ ?_⟩
  clear hK K
  iterate 3 (refine wpQuietIn_step (fun _ _ _ _ => trivial) (fun K hK => ?_); go_simp; refine ⟨_, fun _ _ => rfl, hK _ ?_⟩; clear hK K)
  refine wpQ_readw (.agg #[.int .i64 s.lo, .int .i64 s.rt, .int .i64 s.va, .int .i64 s.ma, .int .i64 s.tr]) (fun _ _ _ _ => trivial) rfl (fun w' hw => ?_) ?_
  · obtain ⟨c0, c1, c2, c3, c4⟩ := ((HX.out w' hw).1).cells
    unfold Oper.quietAtIn
    go_simp
  simp only [Act.put, List.setIfInBounds_toArray, List.set_cons_zero, List.set_cons_succ]
  refine wpQuietIn_step (fun _ _ _ _ => trivial) (fun K hK => ?_)
  go_simp
  refine ⟨.int .i64 sc, fun w' hw => callsIn_wide.2 (CC.out w' hw), hK _ ?_⟩
  clear hK K
  refine wpQ_readw (.agg #[.int .i64 s.lo, .int .i64 s.rt, .int .i64 s.va, .int .i64 s.ma, .int .i64 s.tr]) (fun _ _ _ _ => trivial) rfl (fun w' hw => ?_) ?_
  · obtain ⟨c0, c1, c2, c3, c4⟩ := ((HX.out w' hw).2).cells
    unfold Oper.quietAtIn
    go_simp
  simp only [Act.put, List.setIfInBounds_toArray, List.set_cons_zero, List.set_cons_succ]
  refine wpQuietIn_step (fun _ _ _ _ => trivial) (fun K hK => ?_)
  go_simp
  refine ⟨.int .i64 sc, fun w' hw => callsIn_wide.2 (CD.out w' hw), hK _ ?_⟩
  clear hK K
  iterate 2 (refine wpQuietIn_step (fun _ _ _ _ => trivial) (fun K hK => ?_); go_simp; refine ⟨_, fun _ _ => rfl, hK _ ?_⟩; clear hK K)
  refine wpQuietIn_nil ?_
  rintro w5 hw5
  have HB5 := Lib.hid (below_13 HB3.out HB3.out.size hw5)
  have HX5 : Hid (∀ w', Below w5.heap.size w5 w' → Blk13 25 w' w2.heap.size s ∧ Blk13 26 w' (w2.heap.size + 1) s) := Lib.hid (fun w' h => HX.out w' (below_13 hw5 (by have := hw5.size; omega) h))
  clear hw5 HX HB3 CA CB CC CD
  by_cases h1 : 1000 < cnt
  · go_wp2
    go_ret
    exact ⟨rfl, HB5.out⟩
  · by_cases h2 : 1000 < lim
    · go_wp2
      go_ret
      exact ⟨rfl, HB5.out⟩
    · go_upto_region 8 with fail
      have CN : Hid (∀ w', Below w5.heap.size w5 w' → Calls Try.prog 13 #[SV s, .int .i64 cnt, .int .i64 lim] w' fun e w1 => e = .returned (.int .i64 (s.need cnt lim)) ∧ Below w5.heap.size w5 w1) := Lib.hid (fun w' h => (need13_any s 300 HF.out cnt lim (by omega) (by omega) w').mono fun _ _ hh => ⟨hh.1, h.trans (hh.2.mono h.size)⟩)
      have CM : Hid (∀ w', Below w5.heap.size w5 w' → Calls Try.prog 14 #[SV s, .int .i64 (if cnt < 0 then 0 else cnt), .int .i64 lim] w' fun e w1 => e = .returned (.int .i64 (s.need cnt lim)) ∧ Below w5.heap.size w5 w1) := Lib.hid (fun w' h => (rneed13_any s 300 HF.out (if cnt < 0 then 0 else cnt) lim (by split <;> omega) (by split <;> omega) (by omega) w').mono fun _ _ hh => ⟨by rw [hh.1, HN0.out], h.trans (hh.2.mono h.size)⟩)
      unfold SV at CN CM
      generalize s.need cnt lim = nd at *
      have e1 : (nd == nd) = true := by simp
      clear h1 h2 HN0 HF
      by_cases hc : cnt < 0
      all_goals
        first | rw [if_pos hc] at CM | rw [if_neg hc] at CM
        first | have m1 : (cnt < 0) = True := eq_true hc | have m1 : (cnt < 0) = False := eq_false hc
        refine (wpIn_wide (n := 3)).1 ?_
        refine wpIn_class (fun w' => Below w5.heap.size w5 w') (Below.refl _ _).drew rfl (by kernel_rfl) (by kernel_rfl) ?_
        refine wpQ_readw (.agg #[.int .i64 s.lo, .int .i64 s.rt, .int .i64 s.va, .int .i64 s.ma, .int .i64 s.tr]) (fun _ _ _ _ => trivial) rfl (fun w' hw => ?_) ?_
        · obtain ⟨c0, c1, c2, c3, c4⟩ := ((HX5.out w' hw).1).cells
          unfold Oper.quietAtIn
          go_simp
        simp only [Act.put, List.setIfInBounds_toArray, List.set_cons_zero, List.set_cons_succ]
        iterate 2 (refine wpQuietIn_step (fun _ _ _ _ => trivial) (fun K hK => ?_); go_simp; refine ⟨_, fun _ _ => rfl, hK _ ?_⟩; clear hK K)
        refine wpQuietIn_step (fun _ _ _ _ => trivial) (fun K hK => ?_)
        go_simp
        refine ⟨.int .i64 nd, fun w' hw => callsIn_wide.2 (CN.out w' hw), hK _ ?_⟩
        clear hK K
        refine wpQ_readw (.agg #[.int .i64 s.lo, .int .i64 s.rt, .int .i64 s.va, .int .i64 s.ma, .int .i64 s.tr]) (fun _ _ _ _ => trivial) rfl (fun w' hw => ?_) ?_
        · obtain ⟨c0, c1, c2, c3, c4⟩ := ((HX5.out w' hw).2).cells
          unfold Oper.quietAtIn
          go_simp
        simp only [Act.put, List.setIfInBounds_toArray, List.set_cons_zero, List.set_cons_succ]
        iterate 3 (refine wpQuietIn_step (fun _ _ _ _ => trivial) (fun K hK => ?_); go_simp; refine ⟨_, fun _ _ => rfl, hK _ ?_⟩; clear hK K)
        refine wpQuietIn_step (fun _ _ _ _ => trivial) (fun K hK => ?_)
        go_simp
        refine ⟨.int .i64 nd, fun w' hw => callsIn_wide.2 (CM.out w' hw), hK _ ?_⟩
        clear hK K
        iterate 2 (refine wpQuietIn_step (fun _ _ _ _ => trivial) (fun K hK => ?_); go_simp; refine ⟨_, fun _ _ => rfl, hK _ ?_⟩; clear hK K)
        refine wpQuietIn_nil ?_
        rintro w6 hw6
        have HB6 := Lib.hid (below_13 HB5.out HB5.out.size hw6)
        clear hw6
        go_wp2
        go_ret
        exact ⟨rfl, HB6.out⟩
end Go.Proofs.Ytglopddibopjmaa
