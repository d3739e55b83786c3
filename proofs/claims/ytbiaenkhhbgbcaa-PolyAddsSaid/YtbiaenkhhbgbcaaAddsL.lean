/-
  Own text: law PolyAdds, walked.
-/
import Derived.Test.YtbiaenkhhbgbcaaAwk
namespace Go.Proofs.Ytbiaenkhhbgbcaa
open Go.RowKit

theorem adds_big (p q : Option Addr) (n m c d : Nat) (w : World) (hx : n ≤ 9223372036854775807) (hy : m ≤ 9223372036854775807) (h : ¬ (n ≤ 60 ∧ m ≤ 60)) :
    Calls Try.prog 3 #[.slice p n c, .slice q m d] w (Woke w) := by
  have HS := Lib.hid (fun w => short_no p q n m c d w hx hy h)
  clear h
  go_enter Try.func3, Try.ntmps3
  go_wp2_with (first
    | (go_at_call 8; refine (awake4_any _).mono ?_; rintro e w1 ⟨rfl, hb1⟩; have HB1 := Lib.hid hb1; clear hb1)
    | (go_at_call 9; refine (HS.out _).mono ?_; rintro e w2 ⟨rfl, rfl⟩))
  go_ret
  exact ⟨rfl, HB1.out⟩
set_option maxRecDepth 100000 in
set_option maxHeartbeats 1000000 in
theorem adds_small (p q : Option Addr) (n m c d : Nat) (X Y : List Int) (w : World) (hX : Sl w p n c X) (hY : Sl w q m d Y) (hn : n ≤ 60) (hm : m ≤ 60) :
    Calls Try.prog 3 #[.slice p n c, .slice q m d] w (Woke w) := by
  have bx : By X := hX.bytes.range
  have bY : By Y := hY.bytes.range
  have sx := hX.bytes.size
  have sy := hY.bytes.size
  have HX := Lib.hid hX
  have HY := Lib.hid hY
  have ls : (slopeL X).length ≤ n := by
    unfold slopeL
    rw [tr_length]
    refine Nat.le_trans (dn_le _) ?_
    rw [ofF_length, sx]; omega
  have HCO := Lib.hid (slopeL_co X)
  have HA := Lib.hid (show addL X Y = tr (ofF (sumF X Y) (max n m)) by unfold addL; rw [sx, sy])
  have HM := Lib.hid (show mulL X Y = tr (ofF (mulF X Y) (n + m)) by unfold mulL; rw [sx, sy])
  have HT := Lib.hid (show X.take (dn X) = tr X from rfl)
  have HSL := Lib.hid (fun a k c w h => rdegree_any a k c (slopeL X) w h)
  rw [show dn (slopeL X) = (slopeL X).length from slopeL_neat bx] at HSL
  have HBX := Lib.hid bx
  clear bx bY hX hY sx sy
  generalize hs : slopeL X = S at *
  have HS := Lib.hid hs
  clear hs
  go_enter Try.func3, Try.ntmps3
  go_wp2_with (first
    | (go_at_call 8; refine (awake4_any _).mono ?_; rintro e w1 ⟨rfl, hb1⟩; have HB1 := Lib.hid hb1; clear hb1)
    | (go_at_call 9; refine (short_yes _ _ _ _ _ _ _ hn hm).mono ?_; rintro e w2 ⟨rfl, rfl⟩)
    | (go_at_call 10; refine (new_any _).mono ?_; rintro e w2 ⟨rfl, ht, hb⟩; have HT2 := Lib.hid ht; have HB2 := Lib.hid (HB1.out.trans (hb.mono HB1.out.size)); clear ht hb)
    | (go_at_call 11; refine (slope_any _ _ _ X _ (HX.out.below HB2.out (Nat.le_refl _)) (by omega)).mono ?_; rw [HS.out]; rintro e w3 ⟨A3, n3, C3, rfl, h3, hb⟩; have H3 := Lib.hid h3; have HT3 := Lib.hid (HT2.out.below hb HT2.out.lt); have HB3 := Lib.hid (HB2.out.trans (hb.mono HB2.out.size)); have s3 := h3.bytes.size; clear h3 hb))
  rw [s3] at ls HSL
  have hn3 : n3 ≤ 60 := by omega
  have HS3 := Lib.hid s3
  clear s3
  go_loop [7, 8] (fun i _ => ∃ k : Nat, k ≤ n ∧ i = .int .i64 k) (fun i _ => n - (intOf i).toNat)
  case atStart => exact ⟨0, by omega, rfl⟩
  case round =>
    obtain ⟨k, hk, rfl⟩ := hrel
    by_cases hlt : k < n
    · have a1 := fun (h : k % 2 = 0) => at_any p n c X (k + 1) (by omega) w3 (HX.out.below HB3.out (Nat.le_refl _)).bytes
      have a2 := at_any A3 n3 C3 S k (by omega) w3 H3.out.bytes
      rw [show ((k + 1 : Nat) : Int) = (k : Int) + 1 by omega] at a1
      have hco := HCO.out k
      unfold slF at hco
      have k0 : (0 : Int) ≤ k := by omega
      have k1 : (k : Int) < n := by omega
      by_cases hp : k % 2 = 0
      · rw [if_pos hp] at hco
        rw [hco] at a2
        have a1' := a1 hp
        generalize co X (k + 1) = u at *
        have A1 := Lib.hid a1'
        have A2 := Lib.hid a2
        have hpe : ((k : Int) % 2 == 0) = true := by rw [beq_iff_eq]; omega
        have hne : ((u : Int) != (u : Int)) = false := by simp
        clear a1 a1' a2 hco hp
        rcases (show (k : Int) < n3 ∨ ¬ (k : Int) < n3 by omega) with g | g
        all_goals
          go_wp2_with (first
            | (go_at_call 12; (with_reducible refine A1.out.mono ?_); rintro e w4 ⟨rfl, rfl⟩)
            | (go_at_call 12; (with_reducible refine A2.out.mono ?_); rintro e w4 ⟨rfl, rfl⟩))
          go_round
          case rel => exact ⟨k + 1, by omega, by go_num⟩
          case measure => simp [intOf] <;> omega
      · rw [if_neg hp] at hco
        rw [hco, show ((0 : Nat) : Int) = 0 from rfl] at a2
        have A2 := Lib.hid a2
        have hpe : ((k : Int) % 2 == 0) = false := by rw [beq_eq_false_iff_ne]; omega
        clear a1 a2 hco hp
        rcases (show (k : Int) < n3 ∨ ¬ (k : Int) < n3 by omega) with g | g
        all_goals
          go_wp2_with (go_at_call 12; (with_reducible refine A2.out.mono ?_); rintro e w4 ⟨rfl, rfl⟩)
          go_round
          case rel => exact ⟨k + 1, by omega, by go_num⟩
          case measure => simp [intOf] <;> omega
    · obtain rfl : k = n := by omega
      have g1 : ¬ (k : Int) < n3 := by omega
      go_wp2_with (first
        | (go_at_call 14; refine (padd_any _ _ _ _ _ _ X Y _ (HX.out.below HB3.out (Nat.le_refl _)) (HY.out.below HB3.out (Nat.le_refl _)) (by omega) (by omega)).mono ?_; rintro e w4 ⟨A4, n4, C4, rfl, h4, hb⟩; have H4 := Lib.hid h4; have HT4 := Lib.hid (HT3.out.below hb HT3.out.lt); have H34 := Lib.hid (H3.out.below hb (Nat.le_refl _)); have HB4 := Lib.hid (HB3.out.trans (hb.mono HB3.out.size)); clear h4 hb)
        | (go_at_call 15; refine (radd_any _ _ _ _ _ _ X Y _ (HX.out.below HB4.out (Nat.le_refl _)).bytes (HY.out.below HB4.out (Nat.le_refl _)).bytes (by omega) (by omega)).mono ?_; rintro e w5 ⟨A5, n5, C5, rfl, h5, hb⟩; have H5 := Lib.hid h5; have H45 := Lib.hid (H4.out.below hb (Nat.le_refl _)); have HT5 := Lib.hid (HT4.out.below hb HT4.out.lt); have H35 := Lib.hid (H34.out.below hb (Nat.le_refl _)); have HB5 := Lib.hid (HB4.out.trans (hb.mono HB4.out.size)); clear h5 hb)
        | (go_at_call 13; (with_reducible refine (is_true A4 A5 n4 n5 C4 C5 _ _ w5 H45.out.bytes H5.out.bytes HA.out).mono ?_); rintro e w6 ⟨rfl, hb⟩; have HT6 := Lib.hid (HT5.out.below hb HT5.out.lt); have H36 := Lib.hid (H35.out.below hb (Nat.le_refl _)); have HB6 := Lib.hid (HB5.out.trans (hb.mono HB5.out.size)); clear hb)
        | (go_at_call 16; refine (pmul_any _ _ _ _ _ _ _ X Y _ HT6.out (HX.out.below HB6.out (Nat.le_refl _)) (HY.out.below HB6.out (Nat.le_refl _)) (by omega) (by omega)).mono ?_; rintro e w7 ⟨A7, n7, C7, rfl, h7, hb⟩; have H7 := Lib.hid h7; have H37 := Lib.hid (H36.out.below hb (Nat.le_refl _)); have HB7 := Lib.hid (HB6.out.trans (hb.mono HB6.out.size)); clear h7 hb)
        | (go_at_call 17; refine (rmulp_any _ _ _ _ _ _ X Y _ (HX.out.below HB7.out (Nat.le_refl _)).bytes (HY.out.below HB7.out (Nat.le_refl _)).bytes (by omega) (by omega)).mono ?_; rintro e w8 ⟨A8, n8, C8, rfl, h8, hb⟩; have H8 := Lib.hid h8; have H78 := Lib.hid (H7.out.below hb (Nat.le_refl _)); have H38 := Lib.hid (H37.out.below hb (Nat.le_refl _)); have HB8 := Lib.hid (HB7.out.trans (hb.mono HB7.out.size)); clear h8 hb)
        | (go_at_call 13; (with_reducible refine (is_true A7 A8 n7 n8 C7 C8 _ _ w8 H78.out.bytes H8.out.bytes HM.out).mono ?_); rintro e w9 ⟨rfl, hb⟩; have H39 := Lib.hid (H38.out.below hb (Nat.le_refl _)); have HB9 := Lib.hid (HB8.out.trans (hb.mono HB8.out.size)); clear hb)
        | (go_at_call 18; refine (trim_any _ _ _ X _ (HX.out.below HB9.out (Nat.le_refl _)) (by omega)).mono ?_; rintro e w10 ⟨A10, n10, C10, rfl, h10, hb⟩; have H10 := Lib.hid h10; have H310 := Lib.hid (H39.out.below hb (Nat.le_refl _)); have HB10 := Lib.hid (HB9.out.trans (hb.mono HB9.out.size)); clear h10 hb)
        | (go_at_call 13; (with_reducible refine (is_true A10 p n10 _ C10 c _ X w10 H10.out.bytes (HX.out.below HB10.out (Nat.le_refl _)).bytes HT.out).mono ?_); rintro e w11 ⟨rfl, hb⟩; have H311 := Lib.hid (H310.out.below hb (Nat.le_refl _)); have HB11 := Lib.hid (HB10.out.trans (hb.mono HB10.out.size)); clear hb)
        | (go_at_call 19; refine (degree_any _ _ _ X _ (HX.out.below HB11.out (Nat.le_refl _)).bytes).mono ?_; rintro e w12 ⟨rfl, hb⟩; have H312 := Lib.hid (H311.out.below hb (Nat.le_refl _)); have HB12 := Lib.hid (HB11.out.trans (hb.mono HB11.out.size)); clear hb)
        | (go_at_call 20; (with_reducible refine (rdegree_any p _ c X w12 (HX.out.below HB12.out (Nat.le_refl _)).bytes).mono ?_); rintro e w13 ⟨rfl, rfl⟩)
        | (go_at_call 20; (with_reducible refine (HSL.out A3 n3 C3 w12 H312.out.bytes).mono ?_); rintro e w13 ⟨rfl, rfl⟩))
      go_ret
      exact ⟨rfl, HB12.out⟩
theorem adds_walk (p q : Option Addr) (n m c d : Nat) (X Y : List Int) (w : World) (hX : IsRow .u8 w p n c X) (hY : IsRow .u8 w q m d Y) :
    Calls Try.prog 3 #[.slice p n c, .slice q m d] w fun e w' => e = .returned (.bool true) ∧ Below w.heap.size w w' := by
  by_cases h : n ≤ 60 ∧ m ≤ 60
  · exact adds_small p q n m c d _ _ w hX.sl hY.sl h.1 h.2
  · exact adds_big p q n m c d w (by have := hX.bound; omega) (by have := hY.bound; omega) h
end Go.Proofs.Ytbiaenkhhbgbcaa
