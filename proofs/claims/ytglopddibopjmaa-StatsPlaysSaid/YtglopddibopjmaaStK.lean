/-
  Own text: the page's examples of layer 13 hold.
-/
import Derived.Test.YtglopddibopjmaaStJ
namespace Go.Proofs.Ytglopddibopjmaa
open Go.RowKit

theorem zero_trip : Sk.zero.trip 4 = ⟨0, 32, 16, 0, 1⟩ := by simp [Sk.trip, Sk.zero, trip8]
theorem first_fit : (⟨0, 32, 16, 0, 1⟩ : Sk).fit 1 := ⟨by decide, by decide, by decide, by decide, by decide, by decide, by decide, by decide, by decide, by decide⟩
set_option maxRecDepth 100000 in
set_option maxHeartbeats 1000000 in
theorem awake13_any (w : World) :
    Calls Try.prog 7 #[] w fun e w' => e = .returned (.bool true) ∧ Below w.heap.size w w' := by
  obtain ⟨W, hW⟩ : ∃ W, W = w.alloc (.cells #[.int .i64 0, .int .i64 0, .int .i64 0, .int .i64 0, .int .i64 0] 25) := ⟨_, rfl⟩
  obtain ⟨hb, hx⟩ := Blk13.box w Sk.zero _ hW
  have CT := Lib.hid (trip13_any 4 w.heap.size 0 Sk.zero Sk.zero_fit (by omega) W (hx W (Below.refl _ _)))
  rw [zero_trip] at CT
  have HB := Lib.hid hb
  have CW := Lib.hid (wait13_any ⟨0, 32, 16, 0, 1⟩ 1 first_fit)
  have e1 : (⟨0, 32, 16, 0, 1⟩ : Sk).wait = 12 := by decide +kernel
  have CN := Lib.hid (need13_any ⟨0, 32, 16, 0, 1⟩ 1 first_fit 4 10 (by omega) (by omega))
  have e2 : (⟨0, 32, 16, 0, 1⟩ : Sk).need 4 10 = 4 := by decide +kernel
  rw [e1] at CW
  rw [e2] at CN
  unfold SV at CW CN
  dsimp only at CW CN
  clear hb hx e1 e2
  go_enter Try.func7, Try.ntmps7
  go_upto_region 2 with fail
  rw [← hW]
  clear hW
  go_wp2_with (first
    | (go_at_call 17; (with_reducible refine (CT.out).mono ?_); rintro e w1 ⟨rfl, HK1, HF1⟩; obtain ⟨c0, c1, c2, c3, c4⟩ := HK1.out.cells; have HB1 := Lib.hid (HF1.out.bel HB.out HB.out.size (Nat.le_refl _)))
    | (go_at_call 9; (with_reducible refine (CW.out _).mono ?_); rintro e w2 ⟨rfl, hb2⟩; have HB2 := Lib.hid (HB1.out.trans (hb2.mono HB1.out.size)); obtain ⟨d0, d1, d2, d3, d4⟩ := (HK1.out.below hb2 HK1.out.lt).cells; clear hb2)
    | (go_at_call 13; (with_reducible refine (CN.out _).mono ?_); rintro e w3 ⟨rfl, hb3⟩; have HB3 := Lib.hid (HB2.out.trans (hb3.mono HB2.out.size)); clear hb3)
    | fail)
  go_ret
  exact ⟨rfl, HB3.out⟩
end Go.Proofs.Ytglopddibopjmaa
