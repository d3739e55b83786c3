/-
  Own text: law MpathBounds where its sizes may not be; the whole law.
-/
import Derived.Test.YtblnmddphichgaaMpE
namespace Go.Proofs.Ytblnmddphichgaa.Mp
open Go.RowKit

set_option maxRecDepth 100000 in
set_option maxHeartbeats 4000000 in
theorem bounds15_bad {SB : World → (Nat → Prop) → Nat → Sd → Prop} (api : Api2 SB) (r bu ro : Int) (a : Option Addr) (n c : Nat) (h : r < 1 ∨ 100000 < r ∨ bu < 1 ∨ 100000 < bu ∨ ro < 1 ∨ 256 < ro) (w : World) :
    Calls Try.prog 3 #[.agg #[.int .i64 r, .int .i64 bu, .int .i64 ro], .slice a n c] w (Yes15 w) := by
  obtain ⟨W0, hW0⟩ : ∃ W0, W0 = w.alloc (.cells #[.int .i64 r, .int .i64 bu, .int .i64 ro] 23) := ⟨_, rfl⟩
  have hb0 : Below w.heap.size w W0 := by rw [hW0]; exact (Below.refl _ _).alloc (Nat.le_refl _) _
  have hL : Lies W0 w.heap.size 0 #[.int .i64 r, .int .i64 bu, .int .i64 ro] := by rw [hW0]; exact Lies.new w _ _ (Below.refl _ _)
  have HALL : Hid (∀ w', Below W0.heap.size W0 w' → w'.cell? ⟨w.heap.size, 0, none⟩ = some (.int .i64 r) ∧ w'.cell? ⟨w.heap.size, 1, none⟩ = some (.int .i64 bu) ∧ w'.cell? ⟨w.heap.size, 2, none⟩ = some (.int .i64 ro)) := Lib.hid (fun w' hb => ⟨(hL.below hb hL.lt).cell 0 (by decide : 0 < 3), (hL.below hb hL.lt).cell 1 (by decide : 1 < 3), (hL.below hb hL.lt).cell 2 (by decide : 2 < 3)⟩)
  have HB0 := Lib.hid hb0
  have HW0 := Lib.hid hW0
  have CA := Lib.hid (awake15_any api.api W0)
  clear hb0 hL hW0
  by_cases h0 : r < 1
  · clear h
    go_enter Try.func3, Try.ntmps3
    go_upto_region 1 with fail
    rw [← HW0.out]
    go_wp2_with (first
      | (go_at_call 5; (with_reducible refine (CA.out).mono ?_); rintro e w1 ⟨rfl, hb⟩; have HB1 := Lib.hid hb; clear hb; obtain ⟨c0, c1, c2⟩ := HALL.out w1 HB1.out)
      | fail)
    go_ret
    exact ⟨rfl, HB0.out.trans (HB1.out.mono HB0.out.size)⟩
  by_cases h1 : 100000 < r
  · clear h
    go_enter Try.func3, Try.ntmps3
    go_upto_region 1 with fail
    rw [← HW0.out]
    go_wp2_with (first
      | (go_at_call 5; (with_reducible refine (CA.out).mono ?_); rintro e w1 ⟨rfl, hb⟩; have HB1 := Lib.hid hb; clear hb; obtain ⟨c0, c1, c2⟩ := HALL.out w1 HB1.out)
      | fail)
    go_ret
    exact ⟨rfl, HB0.out.trans (HB1.out.mono HB0.out.size)⟩
  by_cases h2 : bu < 1
  · clear h
    go_enter Try.func3, Try.ntmps3
    go_upto_region 1 with fail
    rw [← HW0.out]
    go_wp2_with (first
      | (go_at_call 5; (with_reducible refine (CA.out).mono ?_); rintro e w1 ⟨rfl, hb⟩; have HB1 := Lib.hid hb; clear hb; obtain ⟨c0, c1, c2⟩ := HALL.out w1 HB1.out)
      | fail)
    go_ret
    exact ⟨rfl, HB0.out.trans (HB1.out.mono HB0.out.size)⟩
  by_cases h3 : 100000 < bu
  · clear h
    go_enter Try.func3, Try.ntmps3
    go_upto_region 1 with fail
    rw [← HW0.out]
    go_wp2_with (first
      | (go_at_call 5; (with_reducible refine (CA.out).mono ?_); rintro e w1 ⟨rfl, hb⟩; have HB1 := Lib.hid hb; clear hb; obtain ⟨c0, c1, c2⟩ := HALL.out w1 HB1.out)
      | fail)
    go_ret
    exact ⟨rfl, HB0.out.trans (HB1.out.mono HB0.out.size)⟩
  by_cases h4 : ro < 1
  · clear h
    go_enter Try.func3, Try.ntmps3
    go_upto_region 1 with fail
    rw [← HW0.out]
    go_wp2_with (first
      | (go_at_call 5; (with_reducible refine (CA.out).mono ?_); rintro e w1 ⟨rfl, hb⟩; have HB1 := Lib.hid hb; clear hb; obtain ⟨c0, c1, c2⟩ := HALL.out w1 HB1.out)
      | fail)
    go_ret
    exact ⟨rfl, HB0.out.trans (HB1.out.mono HB0.out.size)⟩
  have h5 : 256 < ro := by omega
  clear h
  go_enter Try.func3, Try.ntmps3
  go_upto_region 1 with fail
  rw [← HW0.out]
  go_wp2_with (first
    | (go_at_call 5; (with_reducible refine (CA.out).mono ?_); rintro e w1 ⟨rfl, hb⟩; have HB1 := Lib.hid hb; clear hb; obtain ⟨c0, c1, c2⟩ := HALL.out w1 HB1.out)
    | fail)
  go_ret
  exact ⟨rfl, HB0.out.trans (HB1.out.mono HB0.out.size)⟩
theorem bounds15_walk {SB : World → (Nat → Prop) → Nat → Sd → Prop} (api : Api2 SB) (r bu ro : Int) (a : Option Addr) (n c : Nat) (w : World) (ho : ∃ f, Ops15 w a n f) :
    Calls Try.prog 3 #[.agg #[.int .i64 r, .int .i64 bu, .int .i64 ro], .slice a n c] w (Yes15 w) := by
  by_cases h : r < 1 ∨ 100000 < r ∨ bu < 1 ∨ 100000 < bu ∨ ro < 1 ∨ 256 < ro
  · exact bounds15_bad api r bu ro a n c h w
  · obtain ⟨f, hz⟩ := ho
    obtain ⟨k, rfl⟩ : ∃ k : Nat, ro = (k : Int) := ⟨ro.toNat, by omega⟩
    exact bounds15_good api r bu k a n c f (by omega) (by omega) (by omega) (by omega) (by omega) (by omega) w hz
end Go.Proofs.Ytblnmddphichgaa.Mp
