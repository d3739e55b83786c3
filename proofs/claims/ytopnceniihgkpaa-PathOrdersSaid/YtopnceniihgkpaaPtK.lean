/-
  Own text: law PathPlays, walked.
-/
import Derived.Test.YtopnceniihgkpaaPtJ
namespace Go.Proofs.Ytopnceniihgkpaa
open Go.RowKit

/-- The law answers true; only new blocks were made. -/
def Yes14 (w : World) (e : Ending) (w' : World) : Prop := e = .returned (.bool true) ∧ Below w.heap.size w w'
/-- What Played answers, laid in two boxes: the first is written at once, the second behind. -/
theorem boxz14 {Z : Array Value} (hZ : Z = rowOf 78 Pn.zero.dc) (w : World) (p : Pn) : RB ((w.alloc (.cells p.cells 31)).alloc (.cells Z 37)) (w.heap.size + 1) Pn.zero := by
  subst hZ
  have h := RB.new (w.alloc (.cells p.cells 31)) Pn.zero
  simpa using h
theorem kept14 {Z : Array Value} (w : World) (p : Pn) {W : World} (h1 : RB W (w.heap.size + 1) p) (h3 : Below (w.heap.size + 1) ((w.alloc (.cells p.cells 31)).alloc (.cells Z 37)) W) :
    PLie W w.heap.size 0 p ∧ RB W (w.heap.size + 1) p ∧ Below w.heap.size w W := by
  refine ⟨?_, h1, (((Below.refl _ _).alloc (Nat.le_refl _) _).alloc (by simp) _).trans (h3.mono (by omega))⟩
  have h : PLie ((w.alloc (.cells p.cells 31)).alloc (.cells Z 37)) w.heap.size 0 p := Lies.new w p.cells _ ((Below.refl _ _).alloc (Nat.le_refl _) _)
  exact h.below h3 (by omega)
set_option maxRecDepth 100000 in
set_option maxHeartbeats 1000000 in
theorem plays14_walk (a : Option Addr) (n c : Nat) (w : World) (hp : True → ∃ K N T, Ops14 w a n K N T) :
    Calls Try.prog 3 #[.slice a n c] w (Yes14 w) := by
  obtain ⟨K, N, T, ho⟩ := hp trivial
  have CP := Lib.hid (fun w1 (hb : Below w.heap.size w w1) => played14_any a n c K N T w1 (ho.below hb (Nat.le_refl _)))
  have I37 := Lib.hid info37
  have zz := zero37
  obtain ⟨Z, hZ⟩ : ∃ Z, Z = rowOf 78 Pn.zero.dc := ⟨_, rfl⟩
  rw [← hZ] at zz
  have HZN := Lib.hid (boxz14 hZ)
  have HKP := Lib.hid (@kept14 Z)
  clear ho hp hZ
  go_enter Try.func3, Try.ntmps3
  go_upto_region 3 with (first
    | (go_at_call 6; (refine (awake14_any _).mono ?_); rintro e w1 ⟨rfl, hb1⟩; have HB1 := Lib.hid hb1; clear hb1)
    | fail)
  have CP1 := Lib.hid (CP.out _ HB1.out)
  clear CP
  unfold Pn.cells at CP1 HZN HKP
  go_wp2_with (first
    | (go_at_call 7; (with_reducible refine (CP1.out).mono ?_); rintro e w2 ⟨p, rfl, HF, HN⟩; have HB2 := Lib.hid (HB1.out.trans (HN.out.mono HB1.out.size)))
    | (with_reducible refine wpList_store_rowIs rfl 37 (.tmp 4) (.tmp 12) rfl (w2.heap.size + 1) rfl 78 p.dc rfl 37 Pn.zero.dc (HZN.out w2 p) I37.out p.dc_one ?_; intro w5 G5 G6 G7 G8; have HK := Lib.hid (HKP.out w2 p G5.out G7.out); clear G5 G6 G7 G8)
    | fail)
  go_ret
  exact ⟨rfl, HB2.out.trans (HK.out.2.2.mono HB2.out.size)⟩
end Go.Proofs.Ytopnceniihgkpaa
