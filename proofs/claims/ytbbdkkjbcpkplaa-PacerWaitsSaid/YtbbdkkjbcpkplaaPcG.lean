/-
  Own text: the law's play, walked.
-/
import Derived.Test.YtbbdkkjbcpkplaaPcF
import Derived.BigRegion
namespace Go.Proofs.Ytbbdkkjbcpkplaa
open Go.RowKit

set_option maxRecDepth 100000 in
set_option maxHeartbeats 4000000 in
theorem played12_no (r bb : Int) (hok : okB r bb = false) (a : Option Addr) (n c : Nat) (w : World) :
    Calls Try.prog 8 #[.int .i64 r, .int .i64 bb, .slice a n c] w fun x W => x = .returned (.tuple #[.pointer none, KV Bk.zero, .bool true]) ∧ Below w.heap.size w W := by
  have CN := Lib.hid (new12_no r bb hok)
  have CR := Lib.hid (right_any r bb)
  rw [hok] at CR
  clear hok
  go_enter Try.func8, Try.ntmps8
  go_upto_region 2 with fail
  obtain ⟨W, hW⟩ : ∃ W, W = (w.alloc (.cells #[.int .i64 0, .int .i64 0, .int .i64 0, .int .i64 0, .int .i64 0] 26)).alloc (.cells #[.int .i64 0, .int .i64 0, .int .i64 0, .int .i64 0, .int .i64 0] 26) := ⟨_, rfl⟩
  rw [← hW]
  obtain ⟨hs, hb, h0, h1, _⟩ := Lo.start w r bb hW
  have HB := Lib.hid hb
  have H0 := Lib.hid h0
  have H1 := Lib.hid h1
  clear hW hs hb h0 h1
  go_upto_region 4 with (first
    | (go_at_call 15; (with_reducible refine (CN.out _).mono ?_); rintro e w1 ⟨rfl, HB1⟩)
    | (go_at_call 16; (with_reducible refine (CR.out _).mono ?_); rintro e w2 ⟨rfl, rfl⟩)
    | fail)
  have x0 := H0.out.below HB1.out H0.out.lt
  have x1 := H1.out.below HB1.out H1.out.lt
  have HBW := Lib.hid (HB.out.trans (HB1.out.mono HB.out.size))
  obtain ⟨z0, z1, z2, z3, z4⟩ := x0.cells
  obtain ⟨d0, d1, d2, d3, d4⟩ := x1.cells
  have f0 := x0.frozen 0
  have f1 := x0.frozen 1
  have f2 := x0.frozen 2
  have f3 := x0.frozen 3
  have f4 := x0.frozen 4
  unfold Bk.zero at z0 z1 z2 z3 z4 d0 d1 d2 d3 d4
  dsimp only at z0 z1 z2 z3 z4 d0 d1 d2 d3 d4
  clear x0 x1
  go_region
  all_goals
    go_wp2
    refine bodyPost_ret (v := .tuple #[.pointer none, .agg #[.int .i64 0, .int .i64 0, .int .i64 0, .int .i64 0, .int .i64 0], .bool true]) (by simp [results, Try.results8, go_sem, z0, z1, z2, z3, z4]) rfl ?_
    exact ⟨rfl, set5_below HBW.out.drew (Nat.le_refl _) _ _ _ _ _⟩
end Go.Proofs.Ytbbdkkjbcpkplaa
