/-
  Own text: the law MatrixMakes, walked.
-/
import Derived.Test.YtipaolkgafhliaaMakesS
import Derived.Deep.DeepCutAuto
namespace Go.Proofs.Ytipaolkgafhliaa
open Go.RowKit

set_option maxRecDepth 100000 in
theorem makes_great (rows cols r c : Int) (a : Option Addr) (n cap : Nat) (w : World) (h : 70000 < n) :
    Calls Try.prog 3 #[.int .i64 rows, .int .i64 cols, .agg #[.int .i64 r, .int .i64 c, .slice a n cap]] w fun e w' => e = .returned (.bool true) ∧ Below w.heap.size w w' := by
  have HAW := Lib.hid (fun w => awake5_any w)
  have h7 : (70000 : Int) < (n : Int) := by omega
  clear h
  go_enter Try.func3, Try.ntmps3
  go_wp2_with (go_at_call 10; refine (HAW.out _).mono ?_; rintro e w1 ⟨rfl, hb⟩; have HX := Lib.hid ((alloc_bx w _ _ _).below hb (alloc_lt _ _)); have HB := Lib.hid (later1 hb); clear hb; obtain ⟨k0, k1, k2, kf⟩ := HX.out.cells)
  go_quiet (fail)
  go_wp2
  go_ret
  exact ⟨rfl, below_drewN HB.out _⟩
set_option maxRecDepth 100000 in
set_option maxHeartbeats 4000000 in
theorem makes_a1 (rows cols r c : Int) (a : Option Addr) (n cap : Nat) (w : World) (h : n ≤ 70000) (hr : ¬ RightM r c n) (hs : rows < 0 ∨ 255 < rows) :
    Calls Try.prog 3 #[.int .i64 rows, .int .i64 cols, .agg #[.int .i64 r, .int .i64 c, .slice a n cap]] w fun e w' => e = .returned (.bool true) ∧ Below w.heap.size w w' := by
  have HAW := Lib.hid (fun w => awake5_any w)
  have h7 : (n : Int) ≤ 70000 := by omega
  have h7b : decide ((70000 : Int) < (n : Int)) = false := decide_eq_false (by omega)
  have HRA := Lib.hid (fun w => ref_any r c a n cap w)
  have HQA := Lib.hid (rright_any r c n a cap)
  have HMA := Lib.hid (right_any r c n a cap)
  have HRW := Lib.hid (fun w => mrow_none r c cols n cap a w (fun h => hr h.1))
  have HNE := Lib.hid (fun w => new_any w)
  have HNW := Lib.hid (fun w => new_none rows cols (fun h => by have := h.1; omega) w)
  have HPW := Lib.hid (fun t w => powers_none t rows cols (fun h => by have := h.1; omega) w)
  have HID := Lib.hid (fun w => ident_none rows (by omega) w)
  unfold Refused at HNW HPW HID
  have HNO := Lib.hid (fun w => none_any 0 0 none 0 0 w)
  rw [decide_eq_true (show (0 : Int) = 0 ∧ (0 : Int) = 0 ∧ 0 = 0 from ⟨rfl, rfl, rfl⟩)] at HNO
  rw [decide_eq_false hr] at HQA HMA
  have HSS := Lib.hid hs; clear hs; clear h hr
  go_enter Try.func3, Try.ntmps3
  go_wp2_with (go_at_call 10; refine (HAW.out _).mono ?_; rintro e w1 ⟨rfl, hb⟩; have HX1 := Lib.hid ((alloc_bx w _ _ _).below hb (alloc_lt _ _)); have HB1 := Lib.hid (later1 hb); clear hb; obtain ⟨k0, k1, k2, kf⟩ := HX1.out.cells)
  clear k0 k1 k2 kf
  have HS : Hid (∀ w', Below w1.heap.size w1 w' → Below w1.heap.size w1 w' ∧ w'.cell? ⟨w.heap.size, 0, none⟩ = some (.int .i64 r) ∧ w'.cell? ⟨w.heap.size, 1, none⟩ = some (.int .i64 c) ∧ w'.cell? ⟨w.heap.size, 2, none⟩ = some (.slice a n cap)) :=
    Lib.hid (fun w' h => ⟨h, (HX1.out.below h HX1.out.lt).cells.1, (HX1.out.below h HX1.out.lt).cells.2.1, (HX1.out.below h HX1.out.lt).cells.2.2.1⟩)
  have cc : Below w1.heap.size w1 w1.drew := (Below.refl _ _).drew
  go_region_held3 (fun w' => Below w1.heap.size w1 w' ∧ w'.cell? ⟨w.heap.size, 0, none⟩ = some (.int .i64 r) ∧ w'.cell? ⟨w.heap.size, 1, none⟩ = some (.int .i64 c) ∧ w'.cell? ⟨w.heap.size, 2, none⟩ = some (.slice a n cap))
    (first
      | exact HS.out _ cc
      | exact HS.out _ (Below.refl _ _)
      | fail "keep")
    (first
      | (go_at_call 12; (with_reducible refine (HRA.out _).mono ?_); rintro e wn ⟨rfl, hb⟩; replace cc := cc.trans (hb.mono cc.size); clear hb)
      | (go_at_call 11; (with_reducible refine (HQA.out _).mono ?_); rintro e wn ⟨rfl, hb⟩; replace cc := cc.trans (hb.mono cc.size); clear hb)
      | (go_at_call 13; (with_reducible refine (HMA.out _).mono ?_); rintro e wn ⟨rfl, hb⟩; replace cc := cc.trans (hb.mono cc.size); clear hb)
      | fail "arm")
  all_goals
    have HX3 := Lib.hid (HX1.out.below cc HX1.out.lt)
    have HB3 := Lib.hid (HB1.out.trans (cc.mono HB1.out.size))
    rename_i hHeld
    clear HS HX1 HB1 hHeld cc
    generalize wn = w3 at *
    obtain ⟨k0, k1, k2, kf⟩ := HX3.out.cells
    go_upto_region 15 with first
      | (go_at_call 14; (with_reducible refine (HRW.out _).mono ?_); rintro e wa ⟨rfl, hb⟩; have HXwa := Lib.hid (HX3.out.below hb HX3.out.lt); have HBwa := Lib.hid (HB3.out.trans (hb.mono HB3.out.size)); clear hb k0 k1 k2 kf; obtain ⟨k0, k1, k2, kf⟩ := HXwa.out.cells)
      | (go_at_call 12; (with_reducible refine (HRA.out _).mono ?_); rintro e wb ⟨rfl, hb⟩; have HXwb := Lib.hid (HXwa.out.below hb HXwa.out.lt); have HBwb := Lib.hid (HBwa.out.trans (hb.mono HBwa.out.size)); clear hb k0 k1 k2 kf; obtain ⟨k0, k1, k2, kf⟩ := HXwb.out.cells)
      | (go_at_call 11; (with_reducible refine (HQA.out _).mono ?_); rintro e wc ⟨rfl, hb⟩; have HXwc := Lib.hid (HXwb.out.below hb HXwb.out.lt); have HBwc := Lib.hid (HBwb.out.trans (hb.mono HBwb.out.size)); clear hb k0 k1 k2 kf; obtain ⟨k0, k1, k2, kf⟩ := HXwc.out.cells)
      | (go_at_call 16; refine (HNW.out _).mono ?_; rintro e w4 ⟨rfl, hb⟩; have HB4 := Lib.hid (HBwc.out.trans (hb.mono HBwc.out.size)); clear hb k0 k1 k2 kf)
      | (go_at_call 18; refine (HNE.out _).mono ?_; rintro e w5 ⟨rfl, ht, hb⟩; have HN5 := Lib.hid ((alloc_bx w4 _ _ _).below hb (alloc_lt _ _)); have HB5 := Lib.hid (HB4.out.trans ((later1 hb).mono HB4.out.size)); have HT5 : Hid (IsTab w5 (w4.heap.size + 1)) := Lib.hid (by have h := ht; rwa [World.size_alloc] at h); clear hb ht)
      | (go_at_call 17; refine (HPW.out _ _).mono ?_; rintro e w6 ⟨rfl, hb⟩; have HN6 := Lib.hid (HN5.out.below hb HN5.out.lt); have HB6 := Lib.hid (HB5.out.trans (hb.mono HB5.out.size)); clear hb)
      | (go_at_call 19; refine (HID.out _).mono ?_; rintro e w7 ⟨rfl, hb⟩; have HN7 := Lib.hid ((bx_alloc HN6.out _).below hb (Nat.lt_trans HN6.out.lt (alloc_lt _ _))); have HP7 := Lib.hid ((alloc_bx w6 _ _ _).below hb (alloc_lt _ _)); have HB7 := Lib.hid (HB6.out.trans ((later1 hb).mono HB6.out.size)); clear hb)
    have HALL : Hid (∀ w', Below (w7.alloc (.cells #[.int .i64 0, .int .i64 0, .slice none 0 0] 24)).heap.size (w7.alloc (.cells #[.int .i64 0, .int .i64 0, .slice none 0 0] 24)) w' → Below w.heap.size w w' ∧ Bx w' w4.heap.size (.int .i64 0) (.int .i64 0) (.slice none 0 0) ∧ Bx w' w6.heap.size (.int .i64 0) (.int .i64 0) (.slice none 0 0) ∧ Bx w' w7.heap.size (.int .i64 0) (.int .i64 0) (.slice none 0 0)) :=
      Lib.hid (fun w' h => ⟨HB7.out.trans ((later1 h).mono HB7.out.size), (bx_alloc HN7.out _).below h (Nat.lt_trans HN7.out.lt (alloc_lt _ _)), (bx_alloc HP7.out _).below h (Nat.lt_trans HP7.out.lt (alloc_lt _ _)), (alloc_bx w7 _ _ _).below h (alloc_lt _ _)⟩)
    clear HN5 HN6 HN7 HP7 HB4 HB5 HB6 HB7 HT5
    generalize w7.alloc (.cells #[.int .i64 0, .int .i64 0, .slice none 0 0] 24) = w8 at *
    generalize w4.heap.size = bn at *
    generalize w6.heap.size = bp at *
    generalize w7.heap.size = bi at *
    have HD8 := Lib.hid (Below.refl w8.heap.size w8)
    rcases HSS.out with hs | hs
    all_goals
      obtain ⟨n0, n1, n2, nf⟩ := (HALL.out _ HD8.out).2.1.cells
      obtain ⟨p0, p1, p2, pf⟩ := (HALL.out _ HD8.out).2.2.1.cells
      obtain ⟨i0, i1, i2, if_⟩ := (HALL.out _ HD8.out).2.2.2.cells
      go_wp2_with first
        | (go_at_call 20; (with_reducible refine (HNO.out w8).mono ?_); rintro e w9 ⟨rfl, hb⟩; have HD9 := Lib.hid (HD8.out.trans (hb.mono HD8.out.size)); clear hb n0 n1 n2 nf p0 p1 p2 pf i0 i1 i2 if_; obtain ⟨n0, n1, n2, nf⟩ := (HALL.out _ HD9.out).2.1.cells; obtain ⟨p0, p1, p2, pf⟩ := (HALL.out _ HD9.out).2.2.1.cells; obtain ⟨i0, i1, i2, if_⟩ := (HALL.out _ HD9.out).2.2.2.cells)
        | (go_at_call 20; (with_reducible refine (HNO.out w9).mono ?_); rintro e w10 ⟨rfl, hb⟩; have HD10 := Lib.hid (HD9.out.trans (hb.mono HD9.out.size)); clear hb n0 n1 n2 nf p0 p1 p2 pf i0 i1 i2 if_; obtain ⟨n0, n1, n2, nf⟩ := (HALL.out _ HD10.out).2.1.cells; obtain ⟨p0, p1, p2, pf⟩ := (HALL.out _ HD10.out).2.2.1.cells; obtain ⟨i0, i1, i2, if_⟩ := (HALL.out _ HD10.out).2.2.2.cells)
        | (go_at_call 20; (with_reducible refine (HNO.out w10).mono ?_); rintro e w11 ⟨rfl, hb⟩; have HD11 := Lib.hid (HD10.out.trans (hb.mono HD10.out.size)); clear hb n0 n1 n2 nf p0 p1 p2 pf i0 i1 i2 if_; obtain ⟨n0, n1, n2, nf⟩ := (HALL.out _ HD11.out).2.1.cells; obtain ⟨p0, p1, p2, pf⟩ := (HALL.out _ HD11.out).2.2.1.cells; obtain ⟨i0, i1, i2, if_⟩ := (HALL.out _ HD11.out).2.2.2.cells)
      go_ret
      exact ⟨rfl, (HALL.out _ HD11.out).1⟩
set_option maxRecDepth 100000 in
set_option maxHeartbeats 4000000 in
theorem makes_a2 (rows cols r c : Int) (a : Option Addr) (n cap : Nat) (w : World) (h : n ≤ 70000) (hr : ¬ RightM r c n) (hq : 0 ≤ rows ∧ rows ≤ 255) (hs : cols < 0 ∨ 255 < cols) :
    Calls Try.prog 3 #[.int .i64 rows, .int .i64 cols, .agg #[.int .i64 r, .int .i64 c, .slice a n cap]] w fun e w' => e = .returned (.bool true) ∧ Below w.heap.size w w' := by
  have HAW := Lib.hid (fun w => awake5_any w)
  have h7 : (n : Int) ≤ 70000 := by omega
  have h7b : decide ((70000 : Int) < (n : Int)) = false := decide_eq_false (by omega)
  have HRA := Lib.hid (fun w => ref_any r c a n cap w)
  have HQA := Lib.hid (rright_any r c n a cap)
  have HMA := Lib.hid (right_any r c n a cap)
  have HRW := Lib.hid (fun w => mrow_none r c cols n cap a w (fun h => hr h.1))
  have HNE := Lib.hid (fun w => new_any w)
  obtain ⟨Q, rfl⟩ : ∃ m : Nat, rows = m := ⟨rows.toNat, by omega⟩
  have hQ : Q ≤ 255 := by omega
  have HID := Lib.hid (fun w => ident_some Q hQ w)
  have HRI := Lib.hid (fun w => rident_any Q hQ w)
  have HSI := Lib.hid (fun wx g l5 A6 C6 l6 F h5 h6 c5 c6 => rsame_mats Q Q (Nat.mul_le_mul hQ hQ) wx g l5 A6 C6 l6 F h5 h6 c5 c6)
  have HNW := Lib.hid (fun w => new_none Q cols (fun h => by have := h.2; omega) w)
  have HPW := Lib.hid (fun t w => powers_none t Q cols (fun h => by have := h.2; omega) w)
  unfold Refused at HNW HPW
  unfold Handed at HID
  unfold HandedR at HRI
  obtain ⟨q, hqe⟩ : ∃ q, Q * Q = q := ⟨_, rfl⟩
  rw [hqe] at HID HRI HSI
  clear hqe
  have HNO := Lib.hid (fun w => none_any 0 0 none 0 0 w)
  rw [decide_eq_true (show (0 : Int) = 0 ∧ (0 : Int) = 0 ∧ 0 = 0 from ⟨rfl, rfl, rfl⟩)] at HNO
  rw [decide_eq_false hr] at HQA HMA
  have HSS := Lib.hid (And.intro hQ hs); clear hs hq hQ; clear h hr
  go_enter Try.func3, Try.ntmps3
  go_wp2_with (go_at_call 10; refine (HAW.out _).mono ?_; rintro e w1 ⟨rfl, hb⟩; have HX1 := Lib.hid ((alloc_bx w _ _ _).below hb (alloc_lt _ _)); have HB1 := Lib.hid (later1 hb); clear hb; obtain ⟨k0, k1, k2, kf⟩ := HX1.out.cells)
  clear k0 k1 k2 kf
  have HS : Hid (∀ w', Below w1.heap.size w1 w' → Below w1.heap.size w1 w' ∧ w'.cell? ⟨w.heap.size, 0, none⟩ = some (.int .i64 r) ∧ w'.cell? ⟨w.heap.size, 1, none⟩ = some (.int .i64 c) ∧ w'.cell? ⟨w.heap.size, 2, none⟩ = some (.slice a n cap)) :=
    Lib.hid (fun w' h => ⟨h, (HX1.out.below h HX1.out.lt).cells.1, (HX1.out.below h HX1.out.lt).cells.2.1, (HX1.out.below h HX1.out.lt).cells.2.2.1⟩)
  have cc : Below w1.heap.size w1 w1.drew := (Below.refl _ _).drew
  go_region_held3 (fun w' => Below w1.heap.size w1 w' ∧ w'.cell? ⟨w.heap.size, 0, none⟩ = some (.int .i64 r) ∧ w'.cell? ⟨w.heap.size, 1, none⟩ = some (.int .i64 c) ∧ w'.cell? ⟨w.heap.size, 2, none⟩ = some (.slice a n cap))
    (first
      | exact HS.out _ cc
      | exact HS.out _ (Below.refl _ _)
      | fail "keep")
    (first
      | (go_at_call 12; (with_reducible refine (HRA.out _).mono ?_); rintro e wn ⟨rfl, hb⟩; replace cc := cc.trans (hb.mono cc.size); clear hb)
      | (go_at_call 11; (with_reducible refine (HQA.out _).mono ?_); rintro e wn ⟨rfl, hb⟩; replace cc := cc.trans (hb.mono cc.size); clear hb)
      | (go_at_call 13; (with_reducible refine (HMA.out _).mono ?_); rintro e wn ⟨rfl, hb⟩; replace cc := cc.trans (hb.mono cc.size); clear hb)
      | fail "arm")
  all_goals
    have HX3 := Lib.hid (HX1.out.below cc HX1.out.lt)
    have HB3 := Lib.hid (HB1.out.trans (cc.mono HB1.out.size))
    rename_i hHeld
    clear HS HX1 HB1 hHeld cc
    generalize wn = w3 at *
    obtain ⟨k0, k1, k2, kf⟩ := HX3.out.cells
    go_upto_region 15 with first
      | (go_at_call 14; (with_reducible refine (HRW.out _).mono ?_); rintro e wa ⟨rfl, hb⟩; have HXwa := Lib.hid (HX3.out.below hb HX3.out.lt); have HBwa := Lib.hid (HB3.out.trans (hb.mono HB3.out.size)); clear hb k0 k1 k2 kf; obtain ⟨k0, k1, k2, kf⟩ := HXwa.out.cells)
      | (go_at_call 12; (with_reducible refine (HRA.out _).mono ?_); rintro e wb ⟨rfl, hb⟩; have HXwb := Lib.hid (HXwa.out.below hb HXwa.out.lt); have HBwb := Lib.hid (HBwa.out.trans (hb.mono HBwa.out.size)); clear hb k0 k1 k2 kf; obtain ⟨k0, k1, k2, kf⟩ := HXwb.out.cells)
      | (go_at_call 11; (with_reducible refine (HQA.out _).mono ?_); rintro e wc ⟨rfl, hb⟩; have HXwc := Lib.hid (HXwb.out.below hb HXwb.out.lt); have HBwc := Lib.hid (HBwb.out.trans (hb.mono HBwb.out.size)); clear hb k0 k1 k2 kf; obtain ⟨k0, k1, k2, kf⟩ := HXwc.out.cells)
      | (go_at_call 16; refine (HNW.out _).mono ?_; rintro e w4 ⟨rfl, hb⟩; have HB4 := Lib.hid (HBwc.out.trans (hb.mono HBwc.out.size)); clear hb k0 k1 k2 kf)
      | (go_at_call 18; refine (HNE.out _).mono ?_; rintro e w5 ⟨rfl, ht, hb⟩; have HN5 := Lib.hid ((alloc_bx w4 _ _ _).below hb (alloc_lt _ _)); have HB5 := Lib.hid (HB4.out.trans ((later1 hb).mono HB4.out.size)); have HT5 : Hid (IsTab w5 (w4.heap.size + 1)) := Lib.hid (by have h := ht; rwa [World.size_alloc] at h); clear hb ht)
      | (go_at_call 17; refine (HPW.out _ _).mono ?_; rintro e w6 ⟨rfl, hb⟩; have HN6 := Lib.hid (HN5.out.below hb HN5.out.lt); have HB6 := Lib.hid (HB5.out.trans (hb.mono HB5.out.size)); clear hb)
      | (go_at_call 19; refine (HID.out _).mono ?_; rintro e w7 ⟨gi, li, rfl, _, hd, hc, hb⟩; have HN7 := Lib.hid ((bx_alloc HN6.out _).below hb (Nat.lt_trans HN6.out.lt (alloc_lt _ _))); have HP7 := Lib.hid ((alloc_bx w6 _ _ _).below hb (alloc_lt _ _)); have HB7 := Lib.hid (HB6.out.trans ((later1 hb).mono HB6.out.size)); have HDI := Lib.hid hd; have HCI := Lib.hid hc; clear hd hc; clear hb)
    have HALL : Hid (∀ w', Below (w7.alloc (.cells #[.int .i64 (Q : Int), .int .i64 (Q : Int), .slice (some ⟨gi, 0, none⟩) q q] 24)).heap.size (w7.alloc (.cells #[.int .i64 (Q : Int), .int .i64 (Q : Int), .slice (some ⟨gi, 0, none⟩) q q] 24)) w' → Below w.heap.size w w' ∧ Bx w' w4.heap.size (.int .i64 0) (.int .i64 0) (.slice none 0 0) ∧ Bx w' w6.heap.size (.int .i64 0) (.int .i64 0) (.slice none 0 0) ∧ Bx w' w7.heap.size (.int .i64 (Q : Int)) (.int .i64 (Q : Int)) (.slice (some ⟨gi, 0, none⟩) q q) ∧ Dat w' gi q li) :=
      Lib.hid (fun w' h => ⟨HB7.out.trans ((later1 h).mono HB7.out.size), (bx_alloc HN7.out _).below h (Nat.lt_trans HN7.out.lt (alloc_lt _ _)), (bx_alloc HP7.out _).below h (Nat.lt_trans HP7.out.lt (alloc_lt _ _)), (alloc_bx w7 _ _ _).below h (alloc_lt _ _), (HDI.out.keep (Below.heap_alloc _ _ _ HDI.out.lt)).below h (Nat.lt_trans HDI.out.lt (alloc_lt _ _))⟩)
    clear HN5 HN6 HN7 HP7 HB4 HB5 HB6 HB7 HT5
    generalize w7.alloc (.cells #[.int .i64 (Q : Int), .int .i64 (Q : Int), .slice (some ⟨gi, 0, none⟩) q q] 24) = w8 at *
    generalize w4.heap.size = bn at *
    generalize w6.heap.size = bp at *
    generalize w7.heap.size = bi at *
    have HD8 := Lib.hid (Below.refl w8.heap.size w8)
    obtain ⟨hQ, hs⟩ := HSS.out
    rcases hs with hs | hs
    all_goals
      obtain ⟨n0, n1, n2, nf⟩ := (HALL.out _ HD8.out).2.1.cells
      obtain ⟨p0, p1, p2, pf⟩ := (HALL.out _ HD8.out).2.2.1.cells
      obtain ⟨i0, i1, i2, if_⟩ := (HALL.out _ HD8.out).2.2.2.1.cells
      go_wp2_with first
        | (go_at_call 12; (with_reducible refine (ref_any _ _ (some ⟨gi, 0, none⟩) q q w8).mono ?_); rintro e w9 ⟨rfl, hb⟩; have HD9 := Lib.hid (HD8.out.trans (hb.mono HD8.out.size)); clear hb n0 n1 n2 nf p0 p1 p2 pf i0 i1 i2 if_; obtain ⟨n0, n1, n2, nf⟩ := (HALL.out _ HD9.out).2.1.cells; obtain ⟨p0, p1, p2, pf⟩ := (HALL.out _ HD9.out).2.2.1.cells; obtain ⟨i0, i1, i2, if_⟩ := (HALL.out _ HD9.out).2.2.2.1.cells)
        | (go_at_call 22; refine (HRI.out w9).mono ?_; rintro e w10 ⟨Ai, Ci, lr, rfl, hsl, hcr, hb⟩; have HSL := Lib.hid hsl; have HCR := Lib.hid hcr; clear hsl hcr; have HD10 := Lib.hid (HD9.out.trans (hb.mono HD9.out.size)); clear hb n0 n1 n2 nf p0 p1 p2 pf i0 i1 i2 if_; obtain ⟨n0, n1, n2, nf⟩ := (HALL.out _ HD10.out).2.1.cells; obtain ⟨p0, p1, p2, pf⟩ := (HALL.out _ HD10.out).2.2.1.cells; obtain ⟨i0, i1, i2, if_⟩ := (HALL.out _ HD10.out).2.2.2.1.cells)
        | (go_at_call 21; refine (HSI.out w10 gi li Ai Ci lr _ (HALL.out _ HD10.out).2.2.2.2 HSL.out HCI.out HCR.out).mono ?_; rintro e w11 ⟨rfl, hb⟩; have HD11 := Lib.hid (HD10.out.trans (hb.mono HD10.out.size)); clear hb n0 n1 n2 nf p0 p1 p2 pf i0 i1 i2 if_; obtain ⟨n0, n1, n2, nf⟩ := (HALL.out _ HD11.out).2.1.cells; obtain ⟨p0, p1, p2, pf⟩ := (HALL.out _ HD11.out).2.2.1.cells; obtain ⟨i0, i1, i2, if_⟩ := (HALL.out _ HD11.out).2.2.2.1.cells)
        | (go_at_call 20; (with_reducible refine (HNO.out w11).mono ?_); rintro e w12 ⟨rfl, hb⟩; have HD12 := Lib.hid (HD11.out.trans (hb.mono HD11.out.size)); clear hb n0 n1 n2 nf p0 p1 p2 pf i0 i1 i2 if_; obtain ⟨n0, n1, n2, nf⟩ := (HALL.out _ HD12.out).2.1.cells; obtain ⟨p0, p1, p2, pf⟩ := (HALL.out _ HD12.out).2.2.1.cells; obtain ⟨i0, i1, i2, if_⟩ := (HALL.out _ HD12.out).2.2.2.1.cells)
        | (go_at_call 20; (with_reducible refine (HNO.out w12).mono ?_); rintro e w13 ⟨rfl, hb⟩; have HD13 := Lib.hid (HD12.out.trans (hb.mono HD12.out.size)); clear hb n0 n1 n2 nf p0 p1 p2 pf i0 i1 i2 if_; obtain ⟨n0, n1, n2, nf⟩ := (HALL.out _ HD13.out).2.1.cells; obtain ⟨p0, p1, p2, pf⟩ := (HALL.out _ HD13.out).2.2.1.cells; obtain ⟨i0, i1, i2, if_⟩ := (HALL.out _ HD13.out).2.2.2.1.cells)
      go_ret
      exact ⟨rfl, (HALL.out _ HD13.out).1⟩
set_option maxRecDepth 100000 in
set_option maxHeartbeats 4000000 in
theorem makes_a3 (rows cols r c : Int) (a : Option Addr) (n cap : Nat) (w : World) (h : n ≤ 70000) (hr : ¬ RightM r c n) (hq : 0 ≤ rows ∧ rows ≤ 255) (hk : 0 ≤ cols ∧ cols ≤ 255) :
    Calls Try.prog 3 #[.int .i64 rows, .int .i64 cols, .agg #[.int .i64 r, .int .i64 c, .slice a n cap]] w fun e w' => e = .returned (.bool true) ∧ Below w.heap.size w w' := by
  have HAW := Lib.hid (fun w => awake5_any w)
  have h7 : (n : Int) ≤ 70000 := by omega
  have h7b : decide ((70000 : Int) < (n : Int)) = false := decide_eq_false (by omega)
  have HRA := Lib.hid (fun w => ref_any r c a n cap w)
  have HQA := Lib.hid (rright_any r c n a cap)
  have HMA := Lib.hid (right_any r c n a cap)
  have HRW := Lib.hid (fun w => mrow_none r c cols n cap a w (fun h => hr h.1))
  have HNE := Lib.hid (fun w => new_any w)
  obtain ⟨Q, rfl⟩ : ∃ m : Nat, rows = m := ⟨rows.toNat, by omega⟩
  have hQ : Q ≤ 255 := by omega
  have HID := Lib.hid (fun w => ident_some Q hQ w)
  have HRI := Lib.hid (fun w => rident_any Q hQ w)
  have HSI := Lib.hid (fun wx g l5 A6 C6 l6 F h5 h6 c5 c6 => rsame_mats Q Q (Nat.mul_le_mul hQ hQ) wx g l5 A6 C6 l6 F h5 h6 c5 c6)
  obtain ⟨K, rfl⟩ : ∃ m : Nat, cols = m := ⟨cols.toNat, by omega⟩
  have hK : K ≤ 255 := by omega
  have HNW := Lib.hid (fun w => new_some Q K hQ hK w)
  have HPW := Lib.hid (fun t w ht => powers_some t Q K hQ hK w ht)
  have HRP := Lib.hid (fun w => rpowers_any Q K hQ hK w)
  have HSP := Lib.hid (fun wx g l5 A6 C6 l6 F h5 h6 c5 c6 => rsame_mats Q K (Nat.mul_le_mul hQ hK) wx g l5 A6 C6 l6 F h5 h6 c5 c6)
  unfold Newed at HNW
  unfold Handed at HID HPW
  unfold HandedR at HRI HRP
  obtain ⟨q, hqe⟩ : ∃ q, Q * Q = q := ⟨_, rfl⟩
  rw [hqe] at HID HRI HSI
  clear hqe
  have hm3 : Q * K ≤ 65025 := Nat.mul_le_mul hQ hK
  obtain ⟨m3, hm3e⟩ : ∃ m, Q * K = m := ⟨_, rfl⟩
  have hmi : (Q : Int) * K = m3 := by rw [← hm3e]; omega
  rw [hm3e] at HNW HPW HRP HSP hm3
  have HM3 := Lib.hid hm3
  clear hm3e
  have hmk := fun w => run_make_row' (P := Try.prog) 22 5 (.int .u8 0) 1 Try.underlying22 info_u8 rfl .i64 .i64 m3 (by omega) (by omega) w
  have HMR := Lib.hid (fun w b => made_row' w m3 5 b)
  generalize madeCells #[Value.int .u8 0] m3 = M at *
  rw [decide_eq_false hr] at HQA HMA
  have HSS := Lib.hid (And.intro hQ (And.intro hK (And.intro hm3 hmi))); clear hq hQ hk hK hm3 hmi; clear h hr
  go_enter Try.func3, Try.ntmps3
  go_wp2_with (go_at_call 10; refine (HAW.out _).mono ?_; rintro e w1 ⟨rfl, hb⟩; have HX1 := Lib.hid ((alloc_bx w _ _ _).below hb (alloc_lt _ _)); have HB1 := Lib.hid (later1 hb); clear hb; obtain ⟨k0, k1, k2, kf⟩ := HX1.out.cells)
  clear k0 k1 k2 kf
  have HS : Hid (∀ w', Below w1.heap.size w1 w' → Below w1.heap.size w1 w' ∧ w'.cell? ⟨w.heap.size, 0, none⟩ = some (.int .i64 r) ∧ w'.cell? ⟨w.heap.size, 1, none⟩ = some (.int .i64 c) ∧ w'.cell? ⟨w.heap.size, 2, none⟩ = some (.slice a n cap)) :=
    Lib.hid (fun w' h => ⟨h, (HX1.out.below h HX1.out.lt).cells.1, (HX1.out.below h HX1.out.lt).cells.2.1, (HX1.out.below h HX1.out.lt).cells.2.2.1⟩)
  have cc : Below w1.heap.size w1 w1.drew := (Below.refl _ _).drew
  go_region_held3 (fun w' => Below w1.heap.size w1 w' ∧ w'.cell? ⟨w.heap.size, 0, none⟩ = some (.int .i64 r) ∧ w'.cell? ⟨w.heap.size, 1, none⟩ = some (.int .i64 c) ∧ w'.cell? ⟨w.heap.size, 2, none⟩ = some (.slice a n cap))
    (first
      | exact HS.out _ cc
      | exact HS.out _ (Below.refl _ _)
      | fail "keep")
    (first
      | (go_at_call 12; (with_reducible refine (HRA.out _).mono ?_); rintro e wn ⟨rfl, hb⟩; replace cc := cc.trans (hb.mono cc.size); clear hb)
      | (go_at_call 11; (with_reducible refine (HQA.out _).mono ?_); rintro e wn ⟨rfl, hb⟩; replace cc := cc.trans (hb.mono cc.size); clear hb)
      | (go_at_call 13; (with_reducible refine (HMA.out _).mono ?_); rintro e wn ⟨rfl, hb⟩; replace cc := cc.trans (hb.mono cc.size); clear hb)
      | fail "arm")
  all_goals
    have HX3 := Lib.hid (HX1.out.below cc HX1.out.lt)
    have HB3 := Lib.hid (HB1.out.trans (cc.mono HB1.out.size))
    rename_i hHeld
    clear HS HX1 HB1 hHeld cc
    generalize wn = w3 at *
    obtain ⟨k0, k1, k2, kf⟩ := HX3.out.cells
    go_upto_region 15 with first
      | (go_at_call 14; (with_reducible refine (HRW.out _).mono ?_); rintro e wa ⟨rfl, hb⟩; have HXwa := Lib.hid (HX3.out.below hb HX3.out.lt); have HBwa := Lib.hid (HB3.out.trans (hb.mono HB3.out.size)); clear hb k0 k1 k2 kf; obtain ⟨k0, k1, k2, kf⟩ := HXwa.out.cells)
      | (go_at_call 12; (with_reducible refine (HRA.out _).mono ?_); rintro e wb ⟨rfl, hb⟩; have HXwb := Lib.hid (HXwa.out.below hb HXwa.out.lt); have HBwb := Lib.hid (HBwa.out.trans (hb.mono HBwa.out.size)); clear hb k0 k1 k2 kf; obtain ⟨k0, k1, k2, kf⟩ := HXwb.out.cells)
      | (go_at_call 11; (with_reducible refine (HQA.out _).mono ?_); rintro e wc ⟨rfl, hb⟩; have HXwc := Lib.hid (HXwb.out.below hb HXwb.out.lt); have HBwc := Lib.hid (HBwb.out.trans (hb.mono HBwb.out.size)); clear hb k0 k1 k2 kf; obtain ⟨k0, k1, k2, kf⟩ := HXwc.out.cells)
      | (go_at_call 16; refine (HNW.out _).mono ?_; rintro e w4 ⟨gn, rfl, _, hr, hb⟩; have HB4 := Lib.hid (HBwc.out.trans (hb.mono HBwc.out.size)); have HR4 := Lib.hid (by have h := hr.dat (by_zero m3); rwa [List.length_replicate] at h); clear hr; clear hb k0 k1 k2 kf)
      | (go_at_call 18; refine (HNE.out _).mono ?_; rintro e w5 ⟨rfl, ht, hb⟩; have HN5 := Lib.hid ((alloc_bx w4 _ _ _).below hb (alloc_lt _ _)); have HB5 := Lib.hid (HB4.out.trans ((later1 hb).mono HB4.out.size)); have HT5 : Hid (IsTab w5 (w4.heap.size + 1)) := Lib.hid (by have h := ht; rwa [World.size_alloc] at h); have HR5 := Lib.hid ((HR4.out.keep (Below.heap_alloc _ _ _ HR4.out.lt)).below hb (Nat.lt_trans HR4.out.lt (alloc_lt _ _))); clear hb ht)
      | (go_at_call 17; refine (HPW.out _ _ HT5.out).mono ?_; rintro e w6 ⟨gp, lp, rfl, _, hd, hc, hb⟩; have HN6 := Lib.hid (HN5.out.below hb HN5.out.lt); have HB6 := Lib.hid (HB5.out.trans (hb.mono HB5.out.size)); have HDP := Lib.hid hd; have HCP := Lib.hid hc; have HR6 := Lib.hid (HR5.out.below hb HR5.out.lt); clear hd hc; clear hb)
      | (go_at_call 19; refine (HID.out _).mono ?_; rintro e w7 ⟨gi, li, rfl, _, hd, hc, hb⟩; have HN7 := Lib.hid ((bx_alloc HN6.out _).below hb (Nat.lt_trans HN6.out.lt (alloc_lt _ _))); have HP7 := Lib.hid ((alloc_bx w6 _ _ _).below hb (alloc_lt _ _)); have HB7 := Lib.hid (HB6.out.trans ((later1 hb).mono HB6.out.size)); have HDI := Lib.hid hd; have HCI := Lib.hid hc; clear hd hc; have HR7 := Lib.hid ((HR6.out.keep (Below.heap_alloc _ _ _ HR6.out.lt)).below hb (Nat.lt_trans HR6.out.lt (alloc_lt _ _))); have HP7d := Lib.hid ((HDP.out.keep (Below.heap_alloc _ _ _ HDP.out.lt)).below hb (Nat.lt_trans HDP.out.lt (alloc_lt _ _))); clear hb)
    have HALL : Hid (∀ w', Below (w7.alloc (.cells #[.int .i64 (Q : Int), .int .i64 (Q : Int), .slice (some ⟨gi, 0, none⟩) q q] 24)).heap.size (w7.alloc (.cells #[.int .i64 (Q : Int), .int .i64 (Q : Int), .slice (some ⟨gi, 0, none⟩) q q] 24)) w' → Below w.heap.size w w' ∧ Bx w' w4.heap.size (.int .i64 (Q : Int)) (.int .i64 (K : Int)) (.slice (some ⟨gn, 0, none⟩) m3 m3) ∧ Bx w' w6.heap.size (.int .i64 (Q : Int)) (.int .i64 (K : Int)) (.slice (some ⟨gp, 0, none⟩) m3 m3) ∧ Bx w' w7.heap.size (.int .i64 (Q : Int)) (.int .i64 (Q : Int)) (.slice (some ⟨gi, 0, none⟩) q q) ∧ Dat w' gi q li ∧ Dat w' gn m3 (List.replicate m3 0) ∧ Dat w' gp m3 lp) :=
      Lib.hid (fun w' h => ⟨HB7.out.trans ((later1 h).mono HB7.out.size), (bx_alloc HN7.out _).below h (Nat.lt_trans HN7.out.lt (alloc_lt _ _)), (bx_alloc HP7.out _).below h (Nat.lt_trans HP7.out.lt (alloc_lt _ _)), (alloc_bx w7 _ _ _).below h (alloc_lt _ _), (HDI.out.keep (Below.heap_alloc _ _ _ HDI.out.lt)).below h (Nat.lt_trans HDI.out.lt (alloc_lt _ _)), (HR7.out.keep (Below.heap_alloc _ _ _ HR7.out.lt)).below h (Nat.lt_trans HR7.out.lt (alloc_lt _ _)), (HP7d.out.keep (Below.heap_alloc _ _ _ HP7d.out.lt)).below h (Nat.lt_trans HP7d.out.lt (alloc_lt _ _))⟩)
    clear HN5 HN6 HN7 HP7 HB4 HB5 HB6 HB7 HT5 HR4 HR5 HR6 HR7 HDP HP7d
    generalize w7.alloc (.cells #[.int .i64 (Q : Int), .int .i64 (Q : Int), .slice (some ⟨gi, 0, none⟩) q q] 24) = w8 at *
    generalize w4.heap.size = bn at *
    generalize w6.heap.size = bp at *
    generalize w7.heap.size = bi at *
    have HD8 := Lib.hid (Below.refl w8.heap.size w8)
    obtain ⟨hQ, hK, hm3, hmi⟩ := HSS.out
    obtain ⟨n0, n1, n2, nf⟩ := (HALL.out _ HD8.out).2.1.cells
    obtain ⟨p0, p1, p2, pf⟩ := (HALL.out _ HD8.out).2.2.1.cells
    obtain ⟨i0, i1, i2, if_⟩ := (HALL.out _ HD8.out).2.2.2.1.cells
    go_upto_region 21 with first
      | (go_at_call 12; (with_reducible refine (ref_any _ _ (some ⟨gi, 0, none⟩) q q w8).mono ?_); rintro e w9 ⟨rfl, hb⟩; have HD9 := Lib.hid (HD8.out.trans (hb.mono HD8.out.size)); clear hb n0 n1 n2 nf p0 p1 p2 pf i0 i1 i2 if_; obtain ⟨n0, n1, n2, nf⟩ := (HALL.out _ HD9.out).2.1.cells; obtain ⟨p0, p1, p2, pf⟩ := (HALL.out _ HD9.out).2.2.1.cells; obtain ⟨i0, i1, i2, if_⟩ := (HALL.out _ HD9.out).2.2.2.1.cells)
      | (go_at_call 22; refine (HRI.out w9).mono ?_; rintro e w10 ⟨Ai, Ci, lr, rfl, hsl, hcr, hb⟩; have HSL := Lib.hid hsl; have HCR := Lib.hid hcr; clear hsl hcr; have HD10 := Lib.hid (HD9.out.trans (hb.mono HD9.out.size)); clear hb n0 n1 n2 nf p0 p1 p2 pf i0 i1 i2 if_; obtain ⟨n0, n1, n2, nf⟩ := (HALL.out _ HD10.out).2.1.cells; obtain ⟨p0, p1, p2, pf⟩ := (HALL.out _ HD10.out).2.2.1.cells; obtain ⟨i0, i1, i2, if_⟩ := (HALL.out _ HD10.out).2.2.2.1.cells)
      | (go_at_call 21; refine (HSI.out w10 gi li Ai Ci lr _ (HALL.out _ HD10.out).2.2.2.2.1 HSL.out HCI.out HCR.out).mono ?_; rintro e w11 ⟨rfl, hb⟩; have HD11 := Lib.hid (HD10.out.trans (hb.mono HD10.out.size)); clear hb n0 n1 n2 nf p0 p1 p2 pf i0 i1 i2 if_; obtain ⟨n0, n1, n2, nf⟩ := (HALL.out _ HD11.out).2.1.cells; obtain ⟨p0, p1, p2, pf⟩ := (HALL.out _ HD11.out).2.2.1.cells; obtain ⟨i0, i1, i2, if_⟩ := (HALL.out _ HD11.out).2.2.2.1.cells)
    clear n0 n1 n2 nf p0 p1 p2 pf i0 i1 i2 if_
    go_cut [165] (fun s wx => s = .bool false ∧ Hid (Below w8.heap.size w8 wx))
    case first =>
      have HS : Hid (∀ w', Below w11.heap.size w11 w' → Below w11.heap.size w11 w' ∧ w'.cell? ⟨bn, 0, none⟩ = some (.int .i64 (Q : Int)) ∧ w'.cell? ⟨bn, 1, none⟩ = some (.int .i64 (K : Int)) ∧ w'.cell? ⟨bn, 2, none⟩ = some (.slice (some ⟨gn, 0, none⟩) m3 m3)) :=
        Lib.hid (fun w' h => ⟨h, (HALL.out _ (HD11.out.trans (h.mono HD11.out.size))).2.1.cells.1, (HALL.out _ (HD11.out.trans (h.mono HD11.out.size))).2.1.cells.2.1, (HALL.out _ (HD11.out.trans (h.mono HD11.out.size))).2.1.cells.2.2.1⟩)
      have HZ : Hid (∀ w', Below w11.heap.size w11 w' → Bytes w' (some ⟨gn, 0, none⟩) m3 (List.replicate m3 0)) :=
        Lib.hid (fun w' h => ((HALL.out _ (HD11.out.trans (h.mono HD11.out.size))).2.2.2.2.2.1.sl (by have := HM3.out; omega)).bytes)
      have HY : Hid (∀ W W' : World, Below (W.alloc (.cells M 5)).heap.size (W.alloc (.cells M 5)) W' → Bytes W' (some ⟨W.heap.size, 0, none⟩) m3 (List.replicate m3 0)) :=
        Lib.hid (fun W W' h => by
          have h1 := (HMR.out W W.heap.size rfl).dat (by_zero m3)
          rw [List.length_replicate] at h1
          exact ((h1.below h h1.lt).sl (by have := HM3.out; omega)).bytes)
      have cc : Below w11.heap.size w11 w11.drew := (Below.refl _ _).drew
      have hwr : IntKind.i64.wrap (m3 : Int) = m3 := IntWalk.i64_in _ (by omega)
      go_region_held3 (fun w' => Below w11.heap.size w11 w' ∧ w'.cell? ⟨bn, 0, none⟩ = some (.int .i64 (Q : Int)) ∧ w'.cell? ⟨bn, 1, none⟩ = some (.int .i64 (K : Int)) ∧ w'.cell? ⟨bn, 2, none⟩ = some (.slice (some ⟨gn, 0, none⟩) m3 m3))
        (first
          | exact HS.out _ cc
          | exact HS.out _ (cc.alloc cc.size _)
          | exact HS.out _ (Below.refl _ _)
          | fail "keep")
        (first
          | (go_at_call 12; (with_reducible refine (ref_any _ _ (some ⟨gn, 0, none⟩) m3 m3 w11.drew).mono ?_); rintro e wn ⟨rfl, hb⟩; replace cc := cc.trans (hb.mono cc.size); clear hb)
          | (go_at_call 12; (with_reducible refine (ref_any _ _ (some ⟨gn, 0, none⟩) m3 m3 _).mono ?_); rintro e wn ⟨rfl, hb⟩; have hy : Bytes wn (some ⟨w11.heap.size, 0, none⟩) m3 (List.replicate m3 0) := HY.out w11.drew wn hb; replace cc := (cc.alloc cc.size _).trans (hb.mono (cc.alloc cc.size _).size); clear hb)
          | (go_at_call 21; (with_reducible refine (rsame_true _ _ _ _ m3 m3 m3 (List.replicate m3 0) wn (HZ.out _ cc) hy).mono ?_); rintro e wm ⟨rfl, hb⟩; replace cc := cc.trans (hb.mono cc.size); clear hb)
          | (go_at_call 21; (with_reducible refine (rsame_true _ _ _ _ m3 m3 m3 (List.replicate m3 0) _ (HZ.out _ (cc.alloc cc.size _)) (HY.out wn _ (Below.refl _ _))).mono ?_); rintro e wm ⟨rfl, hb⟩; replace cc := (cc.alloc cc.size _).trans (hb.mono (cc.alloc cc.size _).size); clear hb)
          | fail "arm")
      all_goals
        have HF := Lib.hid (HD11.out.trans (cc.mono HD11.out.size))
        go_wp2_with fail
        go_meet
        exact ⟨rfl, HF⟩
    case rest =>
      obtain ⟨rfl, HD12⟩ := hcut
      generalize wc = w12 at *
      obtain ⟨n0, n1, n2, nf⟩ := (HALL.out _ HD12.out).2.1.cells
      obtain ⟨p0, p1, p2, pf⟩ := (HALL.out _ HD12.out).2.2.1.cells
      obtain ⟨i0, i1, i2, if_⟩ := (HALL.out _ HD12.out).2.2.2.1.cells
      rcases Int.lt_or_le 400 (m3 : Int) with hs | hs
      all_goals
        go_wp2_with first
          | (go_at_call 12; (with_reducible refine (ref_any _ _ (some ⟨gp, 0, none⟩) m3 m3 w12).mono ?_); rintro e w13 ⟨rfl, hb⟩; have HD13 := Lib.hid (HD12.out.trans (hb.mono HD12.out.size)); clear hb n0 n1 n2 nf p0 p1 p2 pf i0 i1 i2 if_; obtain ⟨n0, n1, n2, nf⟩ := (HALL.out _ HD13.out).2.1.cells; obtain ⟨p0, p1, p2, pf⟩ := (HALL.out _ HD13.out).2.2.1.cells; obtain ⟨i0, i1, i2, if_⟩ := (HALL.out _ HD13.out).2.2.2.1.cells)
          | (go_at_call 23; refine (HRP.out w13).mono ?_; rintro e w14 ⟨Ap, Cp, lq, rfl, hsl, hcr, hb⟩; have HSL2 := Lib.hid hsl; have HCR2 := Lib.hid hcr; clear hsl hcr; have HD14 := Lib.hid (HD13.out.trans (hb.mono HD13.out.size)); clear hb n0 n1 n2 nf p0 p1 p2 pf i0 i1 i2 if_; obtain ⟨n0, n1, n2, nf⟩ := (HALL.out _ HD14.out).2.1.cells; obtain ⟨p0, p1, p2, pf⟩ := (HALL.out _ HD14.out).2.2.1.cells; obtain ⟨i0, i1, i2, if_⟩ := (HALL.out _ HD14.out).2.2.2.1.cells)
          | (go_at_call 21; refine (HSP.out w14 gp lp Ap Cp lq _ (HALL.out _ HD14.out).2.2.2.2.2.2 HSL2.out HCP.out HCR2.out).mono ?_; rintro e w15 ⟨rfl, hb⟩; have HD15 := Lib.hid (HD14.out.trans (hb.mono HD14.out.size)); clear hb n0 n1 n2 nf p0 p1 p2 pf i0 i1 i2 if_; obtain ⟨n0, n1, n2, nf⟩ := (HALL.out _ HD15.out).2.1.cells; obtain ⟨p0, p1, p2, pf⟩ := (HALL.out _ HD15.out).2.2.1.cells; obtain ⟨i0, i1, i2, if_⟩ := (HALL.out _ HD15.out).2.2.2.1.cells)
        go_ret
        first
          | exact ⟨rfl, (HALL.out _ HD15.out).1⟩
          | exact ⟨rfl, (HALL.out _ HD12.out).1⟩
end Go.Proofs.Ytipaolkgafhliaa
