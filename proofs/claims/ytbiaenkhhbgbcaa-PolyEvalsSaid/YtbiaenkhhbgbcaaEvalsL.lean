/-
  Own text: law PolyEvals, walked.
-/
import Derived.Test.YtbiaenkhhbgbcaaAwk
namespace Go.Proofs.Ytbiaenkhhbgbcaa
open Go.RowKit

theorem evals_big (x : Int) (p q : Option Addr) (n m c d : Nat) (w : World) (hx : n ≤ 9223372036854775807) (hy : m ≤ 9223372036854775807) (h : ¬ (n ≤ 60 ∧ m ≤ 60)) :
    Calls Try.prog 4 #[.slice p n c, .slice q m d, .int .u8 x] w (Woke w) := by
  have HS := Lib.hid (fun w => short_no p q n m c d w hx hy h)
  clear h
  go_enter Try.func4, Try.ntmps4
  go_wp2_with (first
    | (go_at_call 8; refine (awake4_any _).mono ?_; rintro e w1 ⟨rfl, hb1⟩; have HB1 := Lib.hid hb1; clear hb1)
    | (go_at_call 9; refine (HS.out _).mono ?_; rintro e w2 ⟨rfl, rfl⟩))
  go_ret
  exact ⟨rfl, HB1.out⟩
set_option maxRecDepth 100000 in
set_option maxHeartbeats 1000000 in
theorem evals_small (x : Nat) (p q : Option Addr) (n m c d : Nat) (X Y : List Int) (w : World) (hx : x < 256) (hX : Sl w p n c X) (hY : Sl w q m d Y) (hn : n ≤ 60) (hm : m ≤ 60) :
    Calls Try.prog 4 #[.slice p n c, .slice q m d, .int .u8 x] w (Woke w) := by
  have bx : By X := hX.bytes.range
  have bY : By Y := hY.bytes.range
  have HX := Lib.hid hX
  have HY := Lib.hid hY
  have l1 := evL_lt (x := x) bx
  have l2 := evL_lt (x := x) bY
  have e1 := evL_mul x X Y
  have e2 := evL_add x X Y
  rw [mu_eq l1 l2] at e1
  have E1 := Lib.hid (fun t w h g => eval_any t p n c X x hx w h g)
  have E2 := Lib.hid (fun t w h g => eval_any t q m d Y x hx w h g)
  have R1 := Lib.hid (fun w g => reval_any p n c X x hx w g)
  have E3 := Lib.hid (fun t A k C w h g => eval_any t A k C (mulL X Y) x hx w h g)
  have E4 := Lib.hid (fun t A k C w h g => eval_any t A k C (addL X Y) x hx w h g)
  rw [e1] at E3
  rw [e2] at E4
  clear bx bY hX hY e1 e2
  generalize evL x X = y at *
  generalize evL x Y = z at *
  have M1 := Lib.hid (fun w => rmul_any y z l1 l2 w)
  have b0 := bits_u8 y z l1 l2
  generalize y ^^^ z = s at *
  generalize gm y z = g at *
  go_enter Try.func4, Try.ntmps4
  go_wp2_with (first
    | (go_at_call 8; refine (awake4_any _).mono ?_; rintro e w1 ⟨rfl, hb1⟩; have HB1 := Lib.hid hb1; clear hb1)
    | (go_at_call 9; refine (short_yes _ _ _ _ _ _ _ hn hm).mono ?_; rintro e w2 ⟨rfl, rfl⟩)
    | (go_at_call 10; refine (new_any _).mono ?_; rintro e w2 ⟨rfl, ht, hb⟩; have HT2 := Lib.hid ht; have HB2 := Lib.hid (HB1.out.trans (hb.mono HB1.out.size)); clear ht hb)
    | (go_at_call 21; (with_reducible refine (E1.out _ _ HT2.out (HX.out.bytes.below HB2.out (Nat.le_refl _))).mono ?_); rintro e w3 ⟨rfl, hb⟩; have HT3 := Lib.hid (HT2.out.below hb HT2.out.lt); have HB3 := Lib.hid (HB2.out.trans (hb.mono HB2.out.size)); clear hb)
    | (go_at_call 21; (with_reducible refine (E2.out _ _ HT3.out (HY.out.bytes.below HB3.out (Nat.le_refl _))).mono ?_); rintro e w4 ⟨rfl, hb⟩; have HT4 := Lib.hid (HT3.out.below hb HT3.out.lt); have HB4 := Lib.hid (HB3.out.trans (hb.mono HB3.out.size)); clear hb)
    | (go_at_call 22; refine (R1.out _ (HX.out.bytes.below HB4.out (Nat.le_refl _))).mono ?_; rintro e w' ⟨rfl, rfl⟩)
    | (go_at_call 16; refine (pmul_any _ _ _ _ _ _ _ X Y _ HT4.out (HX.out.below HB4.out (Nat.le_refl _)) (HY.out.below HB4.out (Nat.le_refl _)) (by omega) (by omega)).mono ?_; rintro e w5 ⟨A5, n5, C5, rfl, h5, hb⟩; have H5 := Lib.hid h5; have HT5 := Lib.hid (HT4.out.below hb HT4.out.lt); have HB5 := Lib.hid (HB4.out.trans (hb.mono HB4.out.size)); clear h5 hb)
    | (go_at_call 21; (with_reducible refine (E3.out _ _ _ _ _ HT5.out H5.out.bytes).mono ?_); rintro e w6 ⟨rfl, hb⟩; have HT6 := Lib.hid (HT5.out.below hb HT5.out.lt); have HB6 := Lib.hid (HB5.out.trans (hb.mono HB5.out.size)); clear hb)
    | (go_at_call 23; refine (M1.out _).mono ?_; rintro e w' ⟨rfl, rfl⟩)
    | (go_at_call 14; refine (padd_any _ _ _ _ _ _ X Y _ (HX.out.below HB6.out (Nat.le_refl _)) (HY.out.below HB6.out (Nat.le_refl _)) (by omega) (by omega)).mono ?_; rintro e w7 ⟨A7, n7, C7, rfl, h7, hb⟩; have H7 := Lib.hid h7; have HT7 := Lib.hid (HT6.out.below hb HT6.out.lt); have HB7 := Lib.hid (HB6.out.trans (hb.mono HB6.out.size)); clear h7 hb)
    | (go_at_call 21; (with_reducible refine (E4.out _ _ _ _ _ HT7.out H7.out.bytes).mono ?_); rintro e w8 ⟨rfl, hb⟩; have HB8 := Lib.hid (HB7.out.trans (hb.mono HB7.out.size)); clear hb))
  go_ret
  exact ⟨rfl, HB8.out⟩
theorem evals_walk (p q : Option Addr) (x : Int) (n m c d : Nat) (X Y : List Int) (w : World) (hx : (Lit.int .u8 x).wf = true) (hX : IsRow .u8 w p n c X) (hY : IsRow .u8 w q m d Y) :
    Calls Try.prog 4 #[.slice p n c, .slice q m d, .int .u8 x] w fun e w' => e = .returned (.bool true) ∧ Below w.heap.size w w' := by
  obtain ⟨x, rfl, hx2⟩ := u8_of hx
  by_cases h : n ≤ 60 ∧ m ≤ 60
  · exact evals_small x p q n m c d _ _ w hx2 hX.sl hY.sl h.1 h.2
  · exact evals_big x p q n m c d w (by have := hX.bound; omega) (by have := hY.bound; omega) h
end Go.Proofs.Ytbiaenkhhbgbcaa
