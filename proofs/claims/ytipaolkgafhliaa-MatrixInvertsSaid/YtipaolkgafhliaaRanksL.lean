/-
  Own text: the law MatrixRanks, walked.
-/
import Derived.Test.YtipaolkgafhliaaRRank
import Derived.Test.YtipaolkgafhliaaAwakeM
import Derived.Test.YtipaolkgafhliaaClone
namespace Go.Proofs.Ytipaolkgafhliaa
open Go.RowKit

/-- A box, later on. -/
theorem boxes1 {w w1 : World} {x0 x1 x2 : Value} (hb : Below (w.alloc (.cells #[x0, x1, x2] 24)).heap.size (w.alloc (.cells #[x0, x1, x2] 24)) w1) : Bx w1 w.heap.size x0 x1 x2 ∧ Below w.heap.size w w1 :=
  ⟨(alloc_bx w x0 x1 x2).below hb (alloc_lt _ _), later1 hb⟩
set_option maxRecDepth 100000 in
set_option maxHeartbeats 4000000 in
theorem ranks_walk (r c : Int) (a : Option Addr) (n cap : Nat) (zs : List Int) (w : World) (hr : IsRow .u8 w a n cap zs) :
    Calls Try.prog 7 #[.agg #[.int .i64 r, .int .i64 c, .slice a n cap]] w fun e w' => e = .returned (.bool true) ∧ Below w.heap.size w w' := by
  have hl := hr.sl
  generalize zs.take n = l at hl
  clear hr
  have HAW := Lib.hid (fun w => awake5_any w)
  have HSM := Lib.hid (small_any r c a n cap)
  have HNE := Lib.hid (fun w => new_any w)
  have HRF := Lib.hid (fun w => ref_any r c a n cap w)
  have HRR := Lib.hid (rright_any r c n a cap)
  by_cases hs : SmallM r c n
  case neg =>
    rw [decide_eq_false hs] at HSM
    clear hs
    go_enter Try.func7, Try.ntmps7
    go_wp2_with first
      | (go_at_call 10; refine (HAW.out _).mono ?_; rintro e w1 ⟨rfl, hb⟩; obtain ⟨hx, hbw⟩ := boxes1 hb; have HX := Lib.hid hx; have HB := Lib.hid hbw; clear hb hx hbw; obtain ⟨k0, k1, k2, kf⟩ := HX.out.cells)
      | (go_at_call 24; refine (HSM.out _).mono ?_; rintro e w2 ⟨rfl, hb⟩; have HB2 := Lib.hid (HB.out.trans (hb.mono HB.out.size)); clear hb)
    go_ret
    exact ⟨rfl, HB2.out⟩
  case pos =>
  rw [decide_eq_true hs] at HSM
  have hn4 : n ≤ 400 := hs.1
  by_cases hrm : RightM r c n
  case neg =>
    rw [decide_eq_false hrm] at HRR
    have HRK := Lib.hid (fun t w => rank_none t r c a n cap w hrm)
    clear hs hrm hl
    go_enter Try.func7, Try.ntmps7
    go_wp2_with first
      | (go_at_call 10; refine (HAW.out _).mono ?_; rintro e w1 ⟨rfl, hb⟩; obtain ⟨hx, hbw⟩ := boxes1 hb; have HX := Lib.hid hx; have HB := Lib.hid hbw; clear hb hx hbw; obtain ⟨k0, k1, k2, kf⟩ := HX.out.cells)
      | (go_at_call 24; refine (HSM.out _).mono ?_; rintro e w2 ⟨rfl, hb⟩; have HX2 := Lib.hid (HX.out.below hb HX.out.lt); have HB2 := Lib.hid (HB.out.trans (hb.mono HB.out.size)); clear hb k0 k1 k2 kf)
    have HS : Hid (∀ w', Below w2.heap.size w2 w' → Below w2.heap.size w2 w' ∧ w'.cell? ⟨w.heap.size, 0, none⟩ = some (.int .i64 r) ∧ w'.cell? ⟨w.heap.size, 1, none⟩ = some (.int .i64 c) ∧ w'.cell? ⟨w.heap.size, 2, none⟩ = some (.slice a n cap)) :=
      Lib.hid (fun w' h => ⟨h, (HX2.out.below h HX2.out.lt).cells.1, (HX2.out.below h HX2.out.lt).cells.2.1, (HX2.out.below h HX2.out.lt).cells.2.2.1⟩)
    go_region_held3 (fun w' => Below w2.heap.size w2 w' ∧ w'.cell? ⟨w.heap.size, 0, none⟩ = some (.int .i64 r) ∧ w'.cell? ⟨w.heap.size, 1, none⟩ = some (.int .i64 c) ∧ w'.cell? ⟨w.heap.size, 2, none⟩ = some (.slice a n cap))
      (first
        | exact HS.out _ (Below.refl _ _)
        | exact HS.out _ (Below.refl _ _).drew
        | (have c1 := (Below.refl w2.heap.size w2).drew.trans hb3; have c2 := c1.trans (hb4.mono c1.size); exact HS.out _ c2)
        | (have c1 := (Below.refl w2.heap.size w2).drew.trans hb3; exact HS.out _ c1))
      (first
        | (go_at_call 18; refine (HNE.out _).mono ?_; rintro e w3 ⟨rfl, ht3, hb3⟩)
        | (go_at_call 32; refine (HRK.out _ _).mono ?_; rintro e w4 ⟨rfl, hb4⟩))
    all_goals
      have c1 := (Below.refl w2.heap.size w2).drew.trans hb3
      have c2 := c1.trans (hb4.mono c1.size)
      have HC2 := Lib.hid c2
      obtain ⟨k0, k1, k2, kf⟩ := (HX2.out.below c2 HX2.out.lt).cells
      rename_i hHeld
      clear c1 c2 hHeld hb3 hb4 ht3
      go_wp2_with first
        | (go_at_call 12; refine (HRF.out _).mono ?_; rintro e w5 ⟨rfl, hb⟩; have HB5 := Lib.hid (HC2.out.trans (hb.mono HC2.out.size)); clear hb)
        | (go_at_call 11; refine (HRR.out _).mono ?_; rintro e w6 ⟨rfl, hb⟩; have HB6 := Lib.hid (HB5.out.trans (hb.mono HB5.out.size)); clear hb)
      go_ret
      exact ⟨rfl, HB2.out.trans (HB6.out.mono HB2.out.size)⟩
  case pos =>
  rw [decide_eq_true hrm] at HRR
  obtain ⟨R, rfl⟩ : ∃ m : Nat, r = m := ⟨r.toNat, by have := hrm.1; omega⟩
  obtain ⟨C, rfl⟩ : ∃ m : Nat, c = m := ⟨c.toNat, by have := hrm.2.1; omega⟩
  have hR : R ≤ 255 := by have := hrm.1; omega
  have hC : C ≤ 255 := by have := hrm.2.1; omega
  have hne : n = R * C := by have := hrm.2.2; rw [← Int.natCast_mul] at this; omega
  have HNN := Lib.hid hne
  rw [hne] at hl
  have HRK : Hid (∀ t wx, Below w.heap.size w wx → IsTab wx t → Calls Try.prog 32 #[.pointer (some ⟨t, 0, none⟩), .agg #[.int .i64 R, .int .i64 C, .slice a n cap]] wx fun e w' => ∃ d : Nat, e = .returned (.int .i64 d) ∧ RankIs (En C l) R C d ∧ Below wx.heap.size wx w') :=
    Lib.hid (fun t wx h ht => by rw [hne]; exact rank_some t R C a cap l wx hR hC (hl.below h (Nat.le_refl _)) ht)
  have HDK : Hid (∀ wx, Below w.heap.size w wx → Calls Try.prog 31 #[.agg #[.int .i64 R, .int .i64 C, .slice a n cap]] wx fun e w' => ∃ d : Nat, e = .returned (.int .i64 d) ∧ RankIs (En C l) R C d ∧ Below wx.heap.size wx w') :=
    Lib.hid (fun wx h => by rw [hne]; exact rrank_any R C cap hR hC a l wx (hl.below h (Nat.le_refl _)))
  have HEL : Hid (∀ i k, En C l i k < 256) := Lib.hid (fun i k => hl.bytes.by_.lt _)
  clear hs hrm hl hne
  go_enter Try.func7, Try.ntmps7
  go_wp2_with first
    | (go_at_call 10; refine (HAW.out _).mono ?_; rintro e w1 ⟨rfl, hb⟩; obtain ⟨hx, hbw⟩ := boxes1 hb; have HX := Lib.hid hx; have HB := Lib.hid hbw; clear hb hx hbw; obtain ⟨k0, k1, k2, kf⟩ := HX.out.cells)
    | (go_at_call 24; refine (HSM.out _).mono ?_; rintro e w2 ⟨rfl, hb⟩; have HX2 := Lib.hid (HX.out.below hb HX.out.lt); have HB2 := Lib.hid (HB.out.trans (hb.mono HB.out.size)); clear hb k0 k1 k2 kf)
  have HS : Hid (∀ w', Below w2.heap.size w2 w' → Below w2.heap.size w2 w' ∧ w'.cell? ⟨w.heap.size, 0, none⟩ = some (.int .i64 (R : Int)) ∧ w'.cell? ⟨w.heap.size, 1, none⟩ = some (.int .i64 (C : Int)) ∧ w'.cell? ⟨w.heap.size, 2, none⟩ = some (.slice a n cap)) :=
    Lib.hid (fun w' h => ⟨h, (HX2.out.below h HX2.out.lt).cells.1, (HX2.out.below h HX2.out.lt).cells.2.1, (HX2.out.below h HX2.out.lt).cells.2.2.1⟩)
  go_region_held3 (fun w' => Below w2.heap.size w2 w' ∧ w'.cell? ⟨w.heap.size, 0, none⟩ = some (.int .i64 (R : Int)) ∧ w'.cell? ⟨w.heap.size, 1, none⟩ = some (.int .i64 (C : Int)) ∧ w'.cell? ⟨w.heap.size, 2, none⟩ = some (.slice a n cap))
    (first
      | exact HS.out _ (Below.refl _ _)
      | exact HS.out _ (Below.refl _ _).drew
      | (have c1 := (Below.refl w2.heap.size w2).drew.trans hb3; have c2 := c1.trans (hb4.mono c1.size); exact HS.out _ c2)
      | (have c1 := (Below.refl w2.heap.size w2).drew.trans hb3; exact HS.out _ c1))
    (first
      | (go_at_call 18; refine (HNE.out _).mono ?_; rintro e w3 ⟨rfl, ht3, hb3⟩)
      | (have c1 := (Below.refl w2.heap.size w2).drew.trans hb3; go_at_call 32; refine (HRK.out _ _ (HB2.out.trans (c1.mono HB2.out.size)) ht3).mono ?_; clear c1; rintro e w4 ⟨d, rfl, hd4, hb4⟩))
  all_goals
    have c1 := (Below.refl w2.heap.size w2).drew.trans hb3
    have c2 := c1.trans (hb4.mono c1.size)
    have HC2 := Lib.hid c2
    have HD4 := Lib.hid hd4
    obtain ⟨k0, k1, k2, kf⟩ := (HX2.out.below c2 HX2.out.lt).cells
    rename_i hHeld
    clear c1 c2 hHeld hb3 hb4 ht3 hd4
    have hdR : d ≤ R := HD4.out.rows
    have hdC : d ≤ C := HD4.out.cols HEL.out
    go_wp2_with first
      | (go_at_call 11; refine (HRR.out _).mono ?_; rintro e w6 ⟨rfl, hb⟩; have HB6 := Lib.hid (HB5.out.trans (hb.mono HB5.out.size)); clear hb k0 k1 k2 kf; obtain ⟨k0, k1, k2, kf⟩ := (HX2.out.below HB6.out HX2.out.lt).cells)
      | (go_at_call 31; refine (HDK.out _ (HB2.out.trans (HB7.out.mono HB2.out.size))).mono ?_; rintro e w8 ⟨d2, rfl, hd2, hb⟩; have HB8 := Lib.hid (HB7.out.trans (hb.mono HB7.out.size)); obtain rfl := HD4.out.only hd2; clear hb hd2 k0 k1 k2 kf; obtain ⟨k0, k1, k2, kf⟩ := (HX2.out.below HB8.out HX2.out.lt).cells)
      | (go_at_call 12; refine (HRF.out _).mono ?_; rintro e w7 ⟨rfl, hb⟩; have HB7 := Lib.hid (HB6.out.trans (hb.mono HB6.out.size)); clear hb)
      | (go_at_call 12; refine (HRF.out _).mono ?_; rintro e w5 ⟨rfl, hb⟩; have HB5 := Lib.hid (HC2.out.trans (hb.mono HC2.out.size)); clear hb)
    go_ret
    refine ⟨ret_bool ?_, HB2.out.trans (HB8.out.mono HB2.out.size)⟩
    simp
end Go.Proofs.Ytipaolkgafhliaa
