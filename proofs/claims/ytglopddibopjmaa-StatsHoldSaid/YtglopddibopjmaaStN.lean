/-
  Own text: law StatsHold, walked.
-/
import Derived.Test.YtglopddibopjmaaStL
import Derived.BigRegion
import Derived.Deep.DeepCutAuto
namespace Go.Proofs.Ytglopddibopjmaa
open Go.RowKit

/-- Three ways side by side, all of the call's own. -/
structure Tri (w : World) (g x y : Nat) (s s1 s2 : Sk) (W : World) : Prop where
  base : Blk13 25 W g s
  bx : Blk13 25 W x s1
  by_ : Blk13 25 W y s2
  bel : Below w.heap.size w W
  gx : g ≠ x
  gy : g ≠ y
  xy : x ≠ y
  hx : w.heap.size ≤ x
  hy : w.heap.size ≤ y
theorem Tri.first {w : World} {g x y : Nat} {s s1 s2 s' : Sk} {W W' : World} (h : Tri w g x y s s1 s2 W) (hk : Blk13 25 W' x s') (hf : Frm13 x W W') : Tri w g x y s s' s2 W' :=
  ⟨h.base.keep (hf.block _ h.base.lt h.gx), hk, h.by_.keep (hf.block _ h.by_.lt h.xy.symm), hf.bel h.bel h.bel.size h.hx, h.gx, h.gy, h.xy, h.hx, h.hy⟩
theorem Tri.second {w : World} {g x y : Nat} {s s1 s2 s' : Sk} {W W' : World} (h : Tri w g x y s s1 s2 W) (hk : Blk13 25 W' y s') (hf : Frm13 y W W') : Tri w g x y s s1 s' W' :=
  ⟨h.base.keep (hf.block _ h.base.lt h.gy), h.bx.keep (hf.block _ h.bx.lt h.xy), hk, hf.bel h.bel h.bel.size h.hy, h.gx, h.gy, h.xy, h.hx, h.hy⟩
set_option maxRecDepth 100000 in
set_option maxHeartbeats 1000000 in
theorem hold13_walk (a : Option Addr) (n c : Nat) (w : World) (hp : True → ∃ P L T, Ops13 w a n P L T) :
    Calls Try.prog 4 #[.slice a n c] w (Yes13 w) := by
  obtain ⟨P, L, T, ho⟩ := hp trivial
  have CP := Lib.hid (fun w1 (hb : Below w.heap.size w w1) => played13_any a n c P L T w1 (ho.below hb (Nat.le_refl _)))
  clear ho hp
  unfold SV at CP
  go_enter Try.func4, Try.ntmps4
  go_upto_region 4 with (first
    | (go_at_call 7; (refine (awake13_any _).mono ?_); rintro e w1 ⟨rfl, hb1⟩; have HB1 := Lib.hid hb1; clear hb1)
    | (go_at_call 8; (with_reducible refine (CP.out _ HB1.out).mono ?_); rintro e w2 ⟨s, rfl, HF, HN⟩; have HB2 := Lib.hid (HB1.out.trans (HN.out.mono HB1.out.size)))
    | fail)
  obtain ⟨W, hW⟩ : ∃ W, W = (w2.alloc (.cells #[.int .i64 s.lo, .int .i64 s.rt, .int .i64 s.va, .int .i64 s.ma, .int .i64 s.tr] 25)).alloc (.cells #[.int .i64 s.lo, .int .i64 s.rt, .int .i64 s.va, .int .i64 s.ma, .int .i64 s.tr] 26) := ⟨_, rfl⟩
  rw [← hW]
  obtain ⟨hb, hx⟩ := Blk13.two w2 s s _ _ hW
  have HB3 := Lib.hid (HB2.out.trans (hb.mono HB2.out.size))
  have HX := Lib.hid (hx W (Below.refl _ _)).1
  clear hW hb hx CP HB1 HB2 HN
  obtain ⟨c0, c1, c2, c3, c4⟩ := HX.out.cells
  have l0 := HF.out.l0
  have l1 := HF.out.l1
  have r0 := HF.out.r0
  have r1 := HF.out.r1
  have v0 := HF.out.v0
  have v1 := HF.out.v1
  go_upto_region 6 with fail
  have HT : Hid (Tri w w2.heap.size W.heap.size (W.heap.size + 1) s s s ((W.alloc (.cells #[.int .i64 s.lo, .int .i64 s.rt, .int .i64 s.va, .int .i64 s.ma, .int .i64 s.tr] 25)).alloc (.cells #[.int .i64 s.lo, .int .i64 s.rt, .int .i64 s.va, .int .i64 s.ma, .int .i64 s.tr] 25)).drew) := Lib.hid (by
    obtain ⟨hb, hx⟩ := Blk13.two W s s 25 25 rfl
    obtain ⟨h0, h1⟩ := hx _ (Below.refl _ _).drew
    have := HX.out.lt
    have := HB3.out.size
    exact ⟨HX.out.below hb.drew HX.out.lt, h0, h1, HB3.out.trans (hb.drew.mono HB3.out.size), by omega, by omega, by omega, by omega, by omega⟩)
  have q0 : ∀ o, (W.alloc o).cell? ⟨w2.heap.size, 0, none⟩ = some (.int .i64 s.lo) ∧ (W.alloc o).cell? ⟨w2.heap.size, 1, none⟩ = some (.int .i64 s.rt) ∧ (W.alloc o).cell? ⟨w2.heap.size, 2, none⟩ = some (.int .i64 s.va) ∧ (W.alloc o).cell? ⟨w2.heap.size, 3, none⟩ = some (.int .i64 s.ma) ∧ (W.alloc o).cell? ⟨w2.heap.size, 4, none⟩ = some (.int .i64 s.tr) := fun o => (HX.out.below ((Below.refl _ _).alloc (Nat.le_refl _) o) HX.out.lt).cells
  have q1 : ∀ o o', ((W.alloc o).alloc o').cell? ⟨w2.heap.size, 0, none⟩ = some (.int .i64 s.lo) ∧ ((W.alloc o).alloc o').cell? ⟨w2.heap.size, 1, none⟩ = some (.int .i64 s.rt) ∧ ((W.alloc o).alloc o').cell? ⟨w2.heap.size, 2, none⟩ = some (.int .i64 s.va) ∧ ((W.alloc o).alloc o').cell? ⟨w2.heap.size, 3, none⟩ = some (.int .i64 s.ma) ∧ ((W.alloc o).alloc o').cell? ⟨w2.heap.size, 4, none⟩ = some (.int .i64 s.tr) := fun o o' => (HX.out.below (((Below.refl W.heap.size W).alloc (Nat.le_refl _) o).alloc (by simp) o') HX.out.lt).cells
  have n0 : ¬ w2.heap.size = W.heap.size := by have := HX.out.lt; omega
  have n1 : ¬ w2.heap.size = W.heap.size + 1 := by have := HX.out.lt; omega
  go_cut [6, 7] (fun s6 s7 wx => ∃ x y, s6 = .pointer (some ⟨x, 0, none⟩) ∧ s7 = .pointer (some ⟨y, 0, none⟩) ∧ Hid (Tri w w2.heap.size x y s s s wx))
  case first =>
    go_region
    all_goals
      go_wp2_with fail
      go_meet
      first
      | exact ⟨_, _, rfl, rfl, HT⟩
      | exact ⟨_, _, rfl, rfl, Lib.hid ⟨HT.out.base, HT.out.by_, HT.out.bx, HT.out.bel, HT.out.gy, HT.out.gx, HT.out.xy.symm, HT.out.hy, HT.out.hx⟩⟩
  case rest =>
    obtain ⟨x, y, rfl, rfl, HT3⟩ := hcut
    clear q0 q1 n0 n1 HT c0 c1 c2 c3 c4 HB3 HX
    have hlost := Sk.mark_lost HF.out
    have hcame := Sk.mark_came HF.out
    have M1 : Hid (∀ w', Tri w w2.heap.size x y s s s w' → Calls Try.prog 15 #[.pointer (some ⟨x, 0, none⟩), .bool true] w' fun e w1 => e = .returned (.tuple #[]) ∧ Hid (Tri w w2.heap.size x y s (s.mark true) s w1)) := Lib.hid (fun w' h => (mark13_any true x 300 s HF.out (by omega) w' h.bx).mono fun _ _ ⟨e, h1, h2⟩ => ⟨e, Lib.hid (h.first h1.out h2.out)⟩)
    have M2 : Hid (∀ s1 w', Tri w w2.heap.size x y s s1 s w' → Calls Try.prog 15 #[.pointer (some ⟨y, 0, none⟩), .bool false] w' fun e w1 => e = .returned (.tuple #[]) ∧ Hid (Tri w w2.heap.size x y s s1 (s.mark false) w1)) := Lib.hid (fun s1 w' h => (mark13_any false y 300 s HF.out (by omega) w' h.by_).mono fun _ _ ⟨e, h1, h2⟩ => ⟨e, Lib.hid (h.second h1.out h2.out)⟩)
    generalize s.mark true = sa at *
    generalize s.mark false = sb at *
    go_upto_region 9 with (first
      | (go_at_call 15; (with_reducible refine (M1.out _ HT3.out).mono ?_); rintro e w6 ⟨rfl, HT6⟩)
      | (go_at_call 15; (with_reducible refine (M2.out _ _ HT6.out).mono ?_); rintro e w7 ⟨rfl, HT7⟩)
      | fail)
    obtain ⟨c0, c1, c2, c3, c4⟩ := HT7.out.base.cells
    obtain ⟨d0, d1, d2, d3, d4⟩ := HT7.out.bx.cells
    obtain ⟨e0, e1, e2, e3, e4⟩ := HT7.out.by_.cells
    rcases hcame with h1 | ⟨h1, h2⟩
    · go_wp2
      go_ret
      exact ⟨ret_bool (by simp [*]), HT7.out.bel⟩
    · go_wp2
      go_ret
      exact ⟨ret_bool (by simp [*]), HT7.out.bel⟩
end Go.Proofs.Ytglopddibopjmaa
