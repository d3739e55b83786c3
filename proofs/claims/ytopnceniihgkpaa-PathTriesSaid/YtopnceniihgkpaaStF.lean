/-
  Own text: the document's Mark and Trip, walked.
-/
import Derived.Test.YtopnceniihgkpaaStD
namespace Go.Proofs.Ytopnceniihgkpaa
open Go.RowKit

theorem set5_13 {B c : Nat} {a w : World} (h : Below B a w) (hc : B ≤ c) (v0 v1 v2 v3 v4 : Value) : Below B a (((((w.setCell ⟨c, 0, none⟩ v0).setCell ⟨c, 1, none⟩ v1).setCell ⟨c, 2, none⟩ v2).setCell ⟨c, 3, none⟩ v3).setCell ⟨c, 4, none⟩ v4) :=
  ((((h.setCell (p := ⟨c, 0, none⟩) hc _).setCell (p := ⟨c, 1, none⟩) hc _).setCell (p := ⟨c, 2, none⟩) hc _).setCell (p := ⟨c, 3, none⟩) hc _).setCell (p := ⟨c, 4, none⟩) hc _
set_option maxRecDepth 100000 in
set_option maxHeartbeats 1000000 in
theorem rmark_any (lost : Bool) (i : Nat) (s : Sk) (hf : s.fit i) (hi : i ≤ 1000000000) (w : World) :
    Calls Try.prog 28 #[SV s, .bool lost] w fun e w' => e = .returned (SV (s.mark lost)) ∧ Below w.heap.size w w' := by
  obtain ⟨W, hW⟩ : ∃ W, W = (w.alloc (.cells #[.int .i64 s.lo, .int .i64 s.rt, .int .i64 s.va, .int .i64 s.ma, .int .i64 s.tr] 32)).alloc (.cells #[.int .i64 0, .int .i64 0, .int .i64 0, .int .i64 0, .int .i64 0] 32) := ⟨_, rfl⟩
  obtain ⟨hb, hx⟩ := Blk13.two w s Sk.zero _ _ hW
  obtain ⟨hx0, hz0⟩ := hx W (Below.refl _ _)
  have l0 := hf.l0
  have l1 := hf.l1
  have m0 := hf.m0
  have m1 := hf.m1
  have hT : s.mark lost = ⟨toward s.lo (if lost = true then 65535 else 0) 16, s.rt, s.va, s.ma + 1, s.tr⟩ := rfl
  have CT := Lib.hid (rtoward_any s.lo (if lost = true then 65535 else 0) 16 (by omega) (by omega) l0 l1 (by split <;> omega) (by split <;> omega))
  have HX := Lib.hid ((hx0.set3 (s.ma + 1)).set0 (toward s.lo (if lost = true then 65535 else 0) 16))
  have HZ := Lib.hid ((hz0.other (p := ⟨w.heap.size, 3, none⟩) (show w.heap.size + 1 ≠ w.heap.size by omega) (.int .i64 (s.ma + 1))).other (p := ⟨w.heap.size, 0, none⟩) (show w.heap.size + 1 ≠ w.heap.size by omega) (.int .i64 (toward s.lo (if lost = true then 65535 else 0) 16)))
  have HB := Lib.hid ((hb.setCell (p := ⟨w.heap.size, 3, none⟩) (Nat.le_refl _) (.int .i64 (s.ma + 1))).setCell (p := ⟨w.heap.size, 0, none⟩) (Nat.le_refl _) (.int .i64 (toward s.lo (if lost = true then 65535 else 0) 16)))
  dsimp only at HX
  obtain ⟨c0, c1, c2, c3, c4⟩ := hx0.cells
  have f0 := hx0.frozen 0
  have f3 := hx0.frozen 3
  rw [hT]
  unfold SV
  clear hf hT hb hx hx0 hz0 l0 l1
  generalize hto : (if lost = true then (65535 : Int) else 0) = to at *
  generalize toward s.lo to 16 = z at *
  generalize s.lo = lo at *
  generalize s.rt = rt at *
  generalize s.va = va at *
  generalize s.tr = tr at *
  generalize s.ma = ma at *
  cases lost
  all_goals
    simp only [Bool.false_eq_true, if_true, if_false] at hto
    subst hto
    go_enter Try.func28, Try.ntmps28
    go_upto_region 1 with fail
    rw [← hW]
    clear hW
    go_upto_region 5 with (first
      | (go_at_call 32; (with_reducible refine (CT.out _).mono ?_); rintro e w1 ⟨rfl, rfl⟩)
      | fail)
    clear c0 c1 c2 c3 c4 f0 f3
    generalize (W.setCell ⟨w.heap.size, 3, none⟩ (.int .i64 (ma + 1))).setCell ⟨w.heap.size, 0, none⟩ (.int .i64 z) = w2 at *
    obtain ⟨d0, d1, d2, d3, d4⟩ := HX.out.cells
    obtain ⟨z0, z1, z2, z3, z4⟩ := HZ.out.cells
    have g0 := HZ.out.frozen 0
    have g1 := HZ.out.frozen 1
    have g2 := HZ.out.frozen 2
    have g3 := HZ.out.frozen 3
    have g4 := HZ.out.frozen 4
    unfold Sk.zero at z0 z1 z2 z3 z4
    dsimp only at d0 d1 d2 d3 d4 z0 z1 z2 z3 z4
    go_wp2
    refine bodyPost_ret (v := .agg #[.int .i64 z, .int .i64 rt, .int .i64 va, .int .i64 (ma + 1), .int .i64 tr]) (by simp [results, Try.results28, go_sem, z0, z1, z2, z3, z4]) rfl ?_
    exact ⟨rfl, set5_13 HB.out (by omega) _ _ _ _ _⟩
theorem rmark13_any (lost : Bool) (i : Nat) (s : Sk) (hf : s.fit i) (hi : i ≤ 1000) (w : World) :
    Calls Try.prog 28 #[SV s, .bool lost] w fun e w' => e = .returned (SV (s.mark lost)) ∧ Below w.heap.size w w' := rmark_any lost i s hf (by omega) w
end Go.Proofs.Ytopnceniihgkpaa
