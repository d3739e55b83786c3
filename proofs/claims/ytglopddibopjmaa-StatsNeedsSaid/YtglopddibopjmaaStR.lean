/-
  Own text: law StatsNeeds, walked.
-/
import Derived.Test.YtglopddibopjmaaStL
namespace Go.Proofs.Ytglopddibopjmaa
open Go.RowKit

set_option maxRecDepth 100000 in
set_option maxHeartbeats 1000000 in
theorem needs13_walk (a : Option Addr) (n c : Nat) (cnt : Int) (w : World) (hp : True → ∃ P L T, Ops13 w a n P L T) :
    Calls Try.prog 6 #[.slice a n c, .int .i64 cnt] w (Yes13 w) := by
  obtain ⟨P, L, T, ho⟩ := hp trivial
  have CP := Lib.hid (fun w1 (hb : Below w.heap.size w w1) => played13_any a n c P L T w1 (ho.below hb (Nat.le_refl _)))
  clear ho hp
  unfold SV at CP
  go_enter Try.func6, Try.ntmps6
  go_upto_region 4 with (first
    | (go_at_call 7; (refine (awake13_any _).mono ?_); rintro e w1 ⟨rfl, hb1⟩; have HB1 := Lib.hid hb1; clear hb1)
    | (go_at_call 8; (with_reducible refine (CP.out _ HB1.out).mono ?_); rintro e w2 ⟨s, rfl, HF, HN⟩; have HB2 := Lib.hid (HB1.out.trans (HN.out.mono HB1.out.size)))
    | fail)
  obtain ⟨W, hW⟩ : ∃ W, W = (w2.alloc (.cells #[.int .i64 s.lo, .int .i64 s.rt, .int .i64 s.va, .int .i64 s.ma, .int .i64 s.tr] 25)).alloc (.cells #[.int .i64 s.lo, .int .i64 s.rt, .int .i64 s.va, .int .i64 s.ma, .int .i64 s.tr] 26) := ⟨_, rfl⟩
  rw [← hW]
  obtain ⟨hb, hx⟩ := Blk13.two w2 s s _ _ hW
  have HB3 := Lib.hid (HB2.out.trans (hb.mono HB2.out.size))
  have HX := Lib.hid (hx W (Below.refl _ _)).1
  clear hW hb hx CP HB1 HB2 HN
  by_cases h0 : cnt < 0
  · go_wp2
    go_ret
    exact ⟨rfl, HB3.out⟩
  by_cases h1 : 255 < cnt
  · go_wp2
    go_ret
    exact ⟨rfl, HB3.out⟩
  have l0 := HF.out.l0
  have l1 := HF.out.l1
  obtain ⟨m0, m1, m2⟩ := s.many_is HF.out cnt (by omega)
  have m3 := s.many_le HF.out cnt (by omega)
  have C1 := Lib.hid (need13_any s 300 HF.out cnt 1099511627776 (by omega) (by omega))
  have C2 := Lib.hid (need13_any s 300 HF.out cnt 5 (by omega) (by omega))
  have C3 := Lib.hid (need13_any s 300 HF.out cnt (-1) (by omega) (by omega))
  have e1 : s.need cnt 1099511627776 = s.many cnt := by
    rw [Sk.need_is, if_neg (show ¬ cnt < 0 by omega), if_neg (show ¬ (1099511627776 : Int) < 0 by omega), if_pos (by omega)]
  have e2 : s.need cnt 5 = if s.many cnt < 5 then s.many cnt else 5 := by
    rw [Sk.need_is, if_neg (show ¬ cnt < 0 by omega), if_neg (show ¬ (5 : Int) < 0 by omega)]
  have e3 : s.need cnt (-1) = 0 := by
    rw [Sk.need_is, if_pos (show (-1 : Int) < 0 by omega), if_neg (by rw [if_neg (show ¬ cnt < 0 by omega)]; omega)]
  rw [e1] at C1
  rw [e2] at C2
  rw [e3] at C3
  unfold SV at C1 C2 C3
  clear e1 e2 e3
  generalize s.many cnt = m at *
  obtain ⟨c0, c1, c2, c3, c4⟩ := HX.out.cells
  have p1 : m * (65536 - s.lo) ≤ 255 * 65536 * 65536 := Int.mul_le_mul (by omega) (by omega) (by omega) (by omega)
  have p0 : 0 ≤ m * (65536 - s.lo) := Int.mul_nonneg m0 (by omega)
  have p2 : (m - 1) * (65536 - s.lo) = m * (65536 - s.lo) - (65536 - s.lo) := by rw [Int.sub_mul, Int.one_mul]
  have HA : Hid (∀ w', Below W.heap.size W w' → Below w.heap.size w w' ∧ Blk13 25 w' w2.heap.size s) := Lib.hid (fun w' h => ⟨below_13 HB3.out HB3.out.size h, HX.out.below h HX.out.lt⟩)
  have hm2 : (¬ m = 0 ∧ (m - 1) * (65536 - s.lo) < cnt * 65536) ∨ m = 0 := by omega
  clear m2 HF HX HB3
  by_cases h5 : m < 5
  all_goals
    first | rw [if_pos h5] at C2 | rw [if_neg h5] at C2
    rcases hm2 with ⟨g0, g1⟩ | g0
    all_goals
      have hz : m = 0 → cnt * 65536 ≤ 0 := fun e => by rw [e, Int.zero_mul] at m1; exact m1
      have HZ := Lib.hid hz
      clear hz
      first
      | (exfalso; omega)
      | (have hcz := HZ.out g0
         clear HZ
         subst g0
         go_wp2_with (first
          | (go_at_call 13; (with_reducible refine (C1.out _).mono ?_); rintro e w3 ⟨rfl, hb3⟩; have HB3 := Lib.hid hb3; obtain ⟨d0, d1, d2, d3, d4⟩ := (HA.out _ hb3).2.cells; clear hb3)
          | (go_at_call 13; (with_reducible refine (C2.out _).mono ?_); rintro e w4 ⟨rfl, hb4⟩; have HB4 := Lib.hid (below_13 HB3.out HB3.out.size hb4); clear hb4; obtain ⟨e0, e1, e2, e3, e4⟩ := (HA.out _ HB4.out).2.cells)
          | (go_at_call 13; (with_reducible refine (C3.out _).mono ?_); rintro e w5 ⟨rfl, hb5⟩; have HB5 := Lib.hid (below_13 HB4.out HB4.out.size hb5); clear hb5)
          | fail)
         go_ret
         exact ⟨ret_bool (by simp [*]), (HA.out _ HB5.out).1⟩)
      | (go_wp2_with (first
          | (go_at_call 13; (with_reducible refine (C1.out _).mono ?_); rintro e w3 ⟨rfl, hb3⟩; have HB3 := Lib.hid hb3; obtain ⟨d0, d1, d2, d3, d4⟩ := (HA.out _ hb3).2.cells; clear hb3)
          | (go_at_call 13; (with_reducible refine (C2.out _).mono ?_); rintro e w4 ⟨rfl, hb4⟩; have HB4 := Lib.hid (below_13 HB3.out HB3.out.size hb4); clear hb4; obtain ⟨e0, e1, e2, e3, e4⟩ := (HA.out _ HB4.out).2.cells)
          | (go_at_call 13; (with_reducible refine (C3.out _).mono ?_); rintro e w5 ⟨rfl, hb5⟩; have HB5 := Lib.hid (below_13 HB4.out HB4.out.size hb5); clear hb5)
          | fail)
         all_goals first | (exfalso; omega) | go_ret
         all_goals exact ⟨ret_bool (by simp [*] <;> omega), (HA.out _ HB5.out).1⟩)
      | fail
end Go.Proofs.Ytglopddibopjmaa
