/-
  Own text: law MpathPlays, walked. (Written by gen_mrp.py.)
-/
import Derived.Test.YtldhlknmabpanaaGreatK48
import Derived.Test.YtldhlknmabpanaaGreatK13
import Derived.Test.YtldhlknmabpanaaGreatK35
namespace Go.Proofs.YtldhlknmabpanaaGreat.Mp
open Go.RowKit

theorem played15_any (r bu ro : Int) (a : Option Addr) (n c : Nat) (w : World) (f : Nat → Op15) (ho : Ops15 w a n f) :
    Calls Tryz.prog 5 #[.agg #[.int .i64 r, .int .i64 bu, .int .i64 ro], .slice a n c] w (Play15 w) := by
  by_cases h : okB r bu = true ∧ 1 ≤ ro ∧ ro ≤ 256
  · obtain ⟨h1, h2, h3⟩ := h
    obtain ⟨room, rfl⟩ : ∃ room : Nat, ro = (room : Int) := ⟨ro.toNat, by omega⟩
    exact played15_yes r bu room h1 (by omega) (by omega) a n c f w ho
  · exact played15_no r bu ro h a n c w
set_option maxRecDepth 100000 in
set_option maxHeartbeats 2000000 in
theorem plays15_walk (r bu ro : Int) (a : Option Addr) (n c : Nat) (w : World) (hp : ∃ f, Ops15 w a n f) :
    Calls Tryz.prog 3 #[.agg #[.int .i64 r, .int .i64 bu, .int .i64 ro], .slice a n c] w (Yes15 w) := by
  obtain ⟨f, ho⟩ := hp
  obtain ⟨W, hW⟩ : ∃ W, W = w.alloc (.cells #[.int .i64 r, .int .i64 bu, .int .i64 ro] 23) := ⟨_, rfl⟩
  have hb : Below w.heap.size w W := by rw [hW]; exact (Below.refl _ _).alloc (Nat.le_refl _) _
  have hl : Lies W w.heap.size 0 #[.int .i64 r, .int .i64 bu, .int .i64 ro] := by rw [hW]; exact Lies.new w _ _ (Below.refl _ _)
  have HB := Lib.hid hb
  have HCL : Hid (∀ w', Below W.heap.size W w' → w'.cell? ⟨w.heap.size, 0, none⟩ = some (.int .i64 r) ∧ w'.cell? ⟨w.heap.size, 1, none⟩ = some (.int .i64 bu) ∧ w'.cell? ⟨w.heap.size, 2, none⟩ = some (.int .i64 ro)) := Lib.hid (fun w' h => ⟨(hl.below h hl.lt).cell 0 (by decide : 0 < 3), (hl.below h hl.lt).cell 1 (by decide : 1 < 3), (hl.below h hl.lt).cell 2 (by decide : 2 < 3)⟩)
  have CA := Lib.hid (awake15_any sender_api W)
  have CP : Hid (∀ w', Below W.heap.size W w' → Calls Tryz.prog 5 #[.agg #[.int .i64 r, .int .i64 bu, .int .i64 ro], .slice a n c] w' (Play15 w')) := Lib.hid (fun w' h => played15_any r bu ro a n c w' f (ho.below (hb.trans (h.mono hb.size))))
  have zz := zeroD
  obtain ⟨Z, hZ⟩ : ∃ Z, Z = dsa Sdz none 0 := ⟨_, rfl⟩
  have HZ167 : Hid (Z.size = 167) := Lib.hid (by rw [hZ, dsa_size])
  rw [← hZ] at zz
  have HW := Lib.hid hW
  clear hb hl hW hZ ho
  go_enter Tryz.func3, Tryz.ntmps3
  go_upto_region 1 with fail
  rw [← HW.out]
  go_upto_region 3 with (first
    | (go_at_call 4; (with_reducible refine (CA.out).mono ?_); rintro e w1 ⟨rfl, hb1⟩; have HB1 := Lib.hid hb1; clear hb1)
    | fail)
  obtain ⟨c0, c1, c2⟩ := HCL.out w1 HB1.out
  have CP1 := Lib.hid (CP.out w1 HB1.out)
  go_wp2_with (first
    | (go_at_call 5; (with_reducible refine (CP1.out).mono ?_); rintro e w2 ⟨v, R, rfl, HR, HB2⟩; have HZN : Hid (Lies (w2.alloc (.cells Z 40)) w2.heap.size 0 Z) := Lib.hid (Lies.new w2 Z _ (Below.refl _ _)); have HRZ : Hid (R.size = Z.size) := Lib.hid (by rw [HR.out.1, HZ167.out]); have HRI : Hid ((Tryz.prog.info? 40).map (·.size) = some R.size) := Lib.hid (infoR15 HR.out.1))
    | ((with_reducible refine wpList_store_lies rfl 40 (.tmp 6) (.tmp 15) rfl w2.heap.size 0 rfl R rfl Z HZN.out HRZ.out HRI.out HR.out.2 ?_); intro w3 N1 N2 N3)
    | fail)
  go_ret
  exact ⟨rfl, (HB.out.trans (HB1.out.mono HB.out.size)).trans ((HB2.out.trans ((N2.out.bel ((Below.refl _ _).alloc (Nat.le_refl _) _) (by simp) (Nat.le_refl _)).mono HB2.out.size)).mono (Nat.le_trans HB.out.size HB1.out.size))⟩
end Go.Proofs.YtldhlknmabpanaaGreat.Mp
