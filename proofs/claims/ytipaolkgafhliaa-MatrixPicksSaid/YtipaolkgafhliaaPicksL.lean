/-
  Own text: the law MatrixPicks, walked.
-/
import Derived.Test.YtipaolkgafhliaaPowersL
namespace Go.Proofs.Ytipaolkgafhliaa
open Go.RowKit

/-- A box, and the box of what came, later on. -/
theorem boxes4 {w4 w5 : World} {b : Nat} {x0 x1 x2 y0 y1 y2 : Value} (hx : Bx w4 b x0 x1 x2) (hb : Below (w4.alloc (.cells #[y0, y1, y2] 24)).heap.size (w4.alloc (.cells #[y0, y1, y2] 24)) w5) :
    Bx w5 b x0 x1 x2 ∧ Bx w5 w4.heap.size y0 y1 y2 ∧ Below w4.heap.size w4 w5 :=
  ⟨(bx_alloc hx _).below hb (Nat.lt_trans hx.lt (alloc_lt _ _)), (alloc_bx w4 y0 y1 y2).below hb (alloc_lt _ _), later1 hb⟩
theorem boxes1p {w w1 : World} {x0 x1 x2 : Value} (hb : Below (w.alloc (.cells #[x0, x1, x2] 24)).heap.size (w.alloc (.cells #[x0, x1, x2] 24)) w1) : Bx w1 w.heap.size x0 x1 x2 ∧ Below w.heap.size w w1 :=
  ⟨(alloc_bx w x0 x1 x2).below hb (alloc_lt _ _), later1 hb⟩
set_option maxRecDepth 100000 in
theorem picks_great (r c : Int) (a aP : Option Addr) (n cap K capP : Nat) (w : World) (h : 3000 < n ∨ 300 < K) :
    Calls Try.prog 5 #[.agg #[.int .i64 r, .int .i64 c, .slice a n cap], .slice aP K capP] w fun e w' => e = .returned (.bool true) ∧ Below w.heap.size w w' := by
  have HAW := Lib.hid (fun w => awake5_any w)
  have hcase : (3000 : Int) < n ∨ ((n : Int) ≤ 3000 ∧ (300 : Int) < K) := by omega
  clear h
  rcases hcase with h | ⟨h, h'⟩
  all_goals
    go_enter Try.func5, Try.ntmps5
    go_wp2_with first
      | (go_at_call 10; refine (HAW.out _).mono ?_; rintro e w1 ⟨rfl, hb⟩; obtain ⟨hx, hbw⟩ := boxes1p hb; have HX := Lib.hid hx; have HB := Lib.hid hbw; clear hb hx hbw; obtain ⟨k0, k1, k2, kf⟩ := HX.out.cells)
    go_ret
    exact ⟨rfl, HB.out⟩
set_option maxRecDepth 100000 in
set_option maxHeartbeats 4000000 in
theorem picks_never (r c : Int) (a aP : Option Addr) (n cap K capP : Nat) (l : List Int) (P : Nat → Int) (w : World) (hn : n ≤ 3000) (hK : K ≤ 300) (hl : Sl w a n cap l) (hP : Ints w aP K P) (hz : ¬ (RightM r c n ∧ K ≤ 255)) :
    Calls Try.prog 5 #[.agg #[.int .i64 r, .int .i64 c, .slice a n cap], .slice aP K capP] w fun e w' => e = .returned (.bool true) ∧ Below w.heap.size w w' := by
  have h1 : (n : Int) ≤ 3000 := by omega
  have h2 : (K : Int) ≤ 300 := by omega
  have HAW := Lib.hid (fun w => awake5_any w)
  have HRF := Lib.hid (fun w => ref_any r c a n cap w)
  have HRR := Lib.hid (rright_any r c n a cap)
  have HCL : Hid (∀ wx, Below w.heap.size w wx → Calls Try.prog 27 #[.agg #[.int .i64 r, .int .i64 c, .slice a n cap]] wx (ClonedM r c n l wx)) := Lib.hid (fun wx h => mclone_any r c a n cap l wx (hl.below h (Nat.le_refl _)) (by omega))
  have HLB := Lib.hid hl
  have HBY := Lib.hid hl.bytes.range
  have HSAME : Hid (∀ wx A5 C5, Bytes wx A5 n l → Bytes wx a n l → Calls Try.prog 21 #[.agg #[.int .i64 r, .int .i64 c, .slice A5 n C5], .agg #[.int .i64 r, .int .i64 c, .slice a n cap]] wx fun e w' => e = .returned (.bool true) ∧ Below wx.heap.size wx w') :=
    Lib.hid (fun wx A5 C5 h1 h2 => rsame_true r c A5 a n C5 cap l wx h1 h2)
  have HNO := Lib.hid (fun w => none_any 0 0 none 0 0 w)
  rw [decide_eq_true (show (0 : Int) = 0 ∧ (0 : Int) = 0 ∧ 0 = 0 from ⟨rfl, rfl, rfl⟩)] at HNO
  have HPK : Hid (∀ wx, Below w.heap.size w wx → Calls Try.prog 28 #[.agg #[.int .i64 r, .int .i64 c, .slice a n cap], .slice aP K capP] wx (Refused 50 wx)) :=
    Lib.hid (fun wx _ => mpick_size r c a aP n cap K capP wx hz (by omega))
  unfold Refused at HPK
  have HPI := Lib.hid hP
  have hcase : decide (RightM r c n) = false ∨ (decide (RightM r c n) = true ∧ (255 : Int) < K) := by
    by_cases hr : RightM r c n
    · refine .inr ⟨decide_eq_true hr, ?_⟩
      rcases Nat.lt_or_ge 255 K with g | g
      · omega
      · exact absurd ⟨hr, g⟩ hz
    · exact .inl (decide_eq_false hr)
  clear hz hl hP
  rcases hcase with hd | ⟨hd, h3⟩
  all_goals
    rw [hd] at HRR
    clear hd
    go_enter Try.func5, Try.ntmps5
    go_wp2_with first
      | (go_at_call 10; refine (HAW.out _).mono ?_; rintro e w1 ⟨rfl, hb⟩; obtain ⟨hx, hbw⟩ := boxes1p hb; have HX := Lib.hid hx; have HB := Lib.hid hbw; clear hb hx hbw; obtain ⟨k0, k1, k2, kf⟩ := HX.out.cells)
      | (go_at_call 12; (with_reducible refine (HRF.out _).mono ?_); rintro e w2 ⟨rfl, hb⟩; have HX2 := Lib.hid (HX.out.below hb HX.out.lt); have HB2 := Lib.hid (HB.out.trans (hb.mono HB.out.size)); clear hb k0 k1 k2 kf)
      | (go_at_call 11; (with_reducible refine (HRR.out _).mono ?_); rintro e w3 ⟨rfl, hb⟩; have HX3 := Lib.hid (HX2.out.below hb HX2.out.lt); have HB3 := Lib.hid (HB2.out.trans (hb.mono HB2.out.size)); clear hb HX HB HX2 HB2)
    go_loopw [5, 6] (fun ok i wr => ∃ j : Nat, j ≤ K ∧ ok = .bool false ∧ i = .int .i64 (j : Nat) ∧ Hid (Bx wr w.heap.size (.int .i64 r) (.int .i64 c) (.slice a n cap)) ∧ Hid (Below w.heap.size w wr)) (fun _ i _ => K - (intOf i).toNat)
    case atStart => exact ⟨0, by omega, (by first | rfl | rw [decide_eq_false (by omega)]), rfl, HX3, HB3⟩
    case round =>
      obtain ⟨j, hj, rfl, rfl, HX, HB⟩ := hrel
      obtain ⟨wo, ho⟩ : ∃ wo, wo = wr := ⟨_, rfl⟩
      subst ho
      obtain ⟨k0, k1, k2, kf⟩ := HX.out.cells
      by_cases hlt : j < K
      · go_wp2
        go_region
        go_wp2
        go_roundw
        case rel => exact ⟨j + 1, by omega, rfl, by go_num, Lib.hid (HX.out.keep rfl), Lib.hid HB.out.drew⟩
        case measure => simp [intOf]; omega
      obtain rfl : j = K := by omega
      clear HX3 HB3
      go_wp2_with (go_at_call 27; refine (HCL.out _ HB.out).mono ?_; rintro e w4 ⟨A4, C4, rfl, ho, hb⟩; have HO4 := Lib.hid ho; have HX4 := Lib.hid (HX.out.below hb HX.out.lt); have HB4 := Lib.hid (HB.out.trans (hb.mono HB.out.size)); clear ho hb k0 k1 k2 kf)
      have HC5 := Lib.hid (alloc_bx w4 (.int .i64 r) (.int .i64 c) (.slice A4 n C4))
      have HX5 := Lib.hid (bx_alloc HX4.out (.cells #[.int .i64 r, .int .i64 c, .slice A4 n C4] 24))
      have HB5 := Lib.hid (HB4.out.alloc HB4.out.size (.cells #[.int .i64 r, .int .i64 c, .slice A4 n C4] 24))
      have HO5 := Lib.hid ((HO4.out.bytes HBY.out).below ((Below.refl _ w4).alloc (Nat.le_refl _) (.cells #[.int .i64 r, .int .i64 c, .slice A4 n C4] 24)) (Nat.le_refl _))
      clear HO4 HX4 HB4 HX HB
      generalize w4.alloc (.cells #[.int .i64 r, .int .i64 c, .slice A4 n C4] 24) = w5 at *
      generalize w4.heap.size = b4 at *
      have HM5 := Lib.hid (HLB.out.below HB5.out (Nat.le_refl _))
      have HS : Hid (∀ w', Below w5.heap.size w5 w' → Below w5.heap.size w5 w' ∧ w'.cell? ⟨w.heap.size, 0, none⟩ = some (.int .i64 r) ∧ w'.cell? ⟨w.heap.size, 1, none⟩ = some (.int .i64 c) ∧ w'.cell? ⟨w.heap.size, 2, none⟩ = some (.slice a n cap) ∧ w'.cell? ⟨b4, 0, none⟩ = some (.int .i64 r) ∧ w'.cell? ⟨b4, 1, none⟩ = some (.int .i64 c) ∧ w'.cell? ⟨b4, 2, none⟩ = some (.slice A4 n C4)) :=
        Lib.hid (fun w' h => ⟨h, (HX5.out.below h HX5.out.lt).cells.1, (HX5.out.below h HX5.out.lt).cells.2.1, (HX5.out.below h HX5.out.lt).cells.2.2.1, (HC5.out.below h HC5.out.lt).cells.1, (HC5.out.below h HC5.out.lt).cells.2.1, (HC5.out.below h HC5.out.lt).cells.2.2.1⟩)
      go_region_held3 (fun w' => Below w5.heap.size w5 w' ∧ w'.cell? ⟨w.heap.size, 0, none⟩ = some (.int .i64 r) ∧ w'.cell? ⟨w.heap.size, 1, none⟩ = some (.int .i64 c) ∧ w'.cell? ⟨w.heap.size, 2, none⟩ = some (.slice a n cap) ∧ w'.cell? ⟨b4, 0, none⟩ = some (.int .i64 r) ∧ w'.cell? ⟨b4, 1, none⟩ = some (.int .i64 c) ∧ w'.cell? ⟨b4, 2, none⟩ = some (.slice A4 n C4))
        (first
          | exact HS.out _ c3
          | exact HS.out _ c2
          | exact HS.out _ c1
          | exact HS.out _ (Below.refl _ _)
          | exact HS.out _ (Below.refl _ _).drew)
        (first
          | (go_at_call 12; (with_reducible refine (HRF.out _).mono ?_); rintro e w7 ⟨rfl, hb2⟩; have c2 := c1.trans (hb2.mono c1.size); clear hb2)
          | (go_at_call 12; (with_reducible refine (ref_any r c A4 n C4 _).mono ?_); rintro e w6 ⟨rfl, hb1⟩; have c1 := (Below.refl w5.heap.size w5).drew.trans hb1; clear hb1)
          | (go_at_call 21; refine (HSAME.out w7 A4 C4 (HO5.out.below c2 (Nat.le_refl _)) (HM5.out.bytes.below c2 (Nat.le_refl _))).mono ?_; rintro e w8 ⟨rfl, hb3⟩; have c3 := c2.trans (hb3.mono c2.size); clear hb3))
      all_goals
        have HX8 := Lib.hid (HX5.out.below c3 HX5.out.lt)
        have HB8 := Lib.hid (HB5.out.trans (c3.mono HB5.out.size))
        rename_i hHeld
        clear hHeld c1 c2 c3
        clear HS HC5 HX5 HB5 HO5 HM5
        obtain ⟨k0, k1, k2, kf⟩ := HX8.out.cells
        go_wp2_with first
          | (go_at_call 28; refine (HPK.out _ HB8.out).mono ?_; rintro e w9 ⟨rfl, hb⟩; have HB9 := Lib.hid (HB8.out.trans (hb.mono HB8.out.size)); clear hb k0 k1 k2 kf; obtain ⟨v0, v1, v2, vf⟩ := bx_cells_alloc (alloc_bx w9 (.int .i64 0) (.int .i64 0) (.slice none 0 0)); obtain ⟨u0, u1, u2, uf⟩ := (alloc_bx w9 (.int .i64 0) (.int .i64 0) (.slice none 0 0)).cells)
          | (go_at_call 20; refine (HNO.out _).mono ?_; rintro e w10 ⟨rfl, hb⟩; have HB10 := Lib.hid (HB9.out.trans ((later1 hb).mono HB9.out.size)); clear hb)
        go_ret
        exact ⟨rfl, HB10.out⟩
set_option maxRecDepth 100000 in
set_option maxHeartbeats 4000000 in
theorem picks_bad (r c : Int) (a aP : Option Addr) (n cap K capP : Nat) (l : List Int) (P : Nat → Int) (w : World) (hn : n ≤ 3000) (hK : K ≤ 255) (hl : Sl w a n cap l) (hP : Ints w aP K P) (hr : RightM r c n) (hz : ¬ ∀ i, i < K → 0 ≤ P i ∧ P i < r) :
    Calls Try.prog 5 #[.agg #[.int .i64 r, .int .i64 c, .slice a n cap], .slice aP K capP] w fun e w' => e = .returned (.bool true) ∧ Below w.heap.size w w' := by
  have h3 : (K : Int) ≤ 255 := by omega
  have h1 : (n : Int) ≤ 3000 := by omega
  have h2 : (K : Int) ≤ 300 := by omega
  have HAW := Lib.hid (fun w => awake5_any w)
  have HRF := Lib.hid (fun w => ref_any r c a n cap w)
  have HRR := Lib.hid (rright_any r c n a cap)
  have HCL : Hid (∀ wx, Below w.heap.size w wx → Calls Try.prog 27 #[.agg #[.int .i64 r, .int .i64 c, .slice a n cap]] wx (ClonedM r c n l wx)) := Lib.hid (fun wx h => mclone_any r c a n cap l wx (hl.below h (Nat.le_refl _)) (by omega))
  have HLB := Lib.hid hl
  have HBY := Lib.hid hl.bytes.range
  have HSAME : Hid (∀ wx A5 C5, Bytes wx A5 n l → Bytes wx a n l → Calls Try.prog 21 #[.agg #[.int .i64 r, .int .i64 c, .slice A5 n C5], .agg #[.int .i64 r, .int .i64 c, .slice a n cap]] wx fun e w' => e = .returned (.bool true) ∧ Below wx.heap.size wx w') :=
    Lib.hid (fun wx A5 C5 h1 h2 => rsame_true r c A5 a n C5 cap l wx h1 h2)
  have HNO := Lib.hid (fun w => none_any 0 0 none 0 0 w)
  rw [decide_eq_true (show (0 : Int) = 0 ∧ (0 : Int) = 0 ∧ 0 = 0 from ⟨rfl, rfl, rfl⟩)] at HNO
  have HPK : Hid (∀ wx, Below w.heap.size w wx → Calls Try.prog 28 #[.agg #[.int .i64 r, .int .i64 c, .slice a n cap], .slice aP K capP] wx (Refused 50 wx)) :=
    Lib.hid (fun wx h => by
      obtain ⟨r', rfl⟩ : ∃ m : Nat, r = m := ⟨r.toNat, by have := hr.1; omega⟩
      obtain ⟨c', rfl⟩ : ∃ m : Nat, c = m := ⟨c.toNat, by have := hr.2.1; omega⟩
      obtain rfl : n = r' * c' := by have := hr.2.2; rw [← Int.natCast_mul] at this; omega
      refine (mpick_any r' c' K cap capP (by have := hr.1; omega) (by have := hr.2.1; omega) hK a aP l P wx (hl.below h (Nat.le_refl _)) (hP.below h (Nat.le_refl _))).mono ?_
      rintro e w'' (⟨h1, _⟩ | ⟨_, h2⟩)
      · exact absurd h1 hz
      · exact h2)
  unfold Refused at HPK
  have HPI := Lib.hid hP
  have HZ := Lib.hid hz
  rw [decide_eq_true hr] at HRR
  clear hz hl hP hr
  go_enter Try.func5, Try.ntmps5
  go_wp2_with first
    | (go_at_call 10; refine (HAW.out _).mono ?_; rintro e w1 ⟨rfl, hb⟩; obtain ⟨hx, hbw⟩ := boxes1p hb; have HX := Lib.hid hx; have HB := Lib.hid hbw; clear hb hx hbw; obtain ⟨k0, k1, k2, kf⟩ := HX.out.cells)
    | (go_at_call 12; (with_reducible refine (HRF.out _).mono ?_); rintro e w2 ⟨rfl, hb⟩; have HX2 := Lib.hid (HX.out.below hb HX.out.lt); have HB2 := Lib.hid (HB.out.trans (hb.mono HB.out.size)); clear hb k0 k1 k2 kf)
    | (go_at_call 11; (with_reducible refine (HRR.out _).mono ?_); rintro e w3 ⟨rfl, hb⟩; have HX3 := Lib.hid (HX2.out.below hb HX2.out.lt); have HB3 := Lib.hid (HB2.out.trans (hb.mono HB2.out.size)); clear hb HX HB HX2 HB2)
  go_loopw [5, 6] (fun ok i wr => ∃ j : Nat, j ≤ K ∧ ok = .bool (decide (∀ i, i < j → 0 ≤ P i ∧ P i < r)) ∧ i = .int .i64 (j : Nat) ∧ Hid (Bx wr w.heap.size (.int .i64 r) (.int .i64 c) (.slice a n cap)) ∧ Hid (Below w.heap.size w wr)) (fun _ i _ => K - (intOf i).toNat)
  case atStart => exact ⟨0, by omega, by rw [decide_eq_true (fun i h => by omega)], rfl, HX3, HB3⟩
  case round =>
    obtain ⟨j, hj, rfl, rfl, HX, HB⟩ := hrel
    obtain ⟨wo, ho⟩ : ∃ wo, wo = wr := ⟨_, rfl⟩
    subst ho
    obtain ⟨k0, k1, k2, kf⟩ := HX.out.cells
    by_cases hlt : j < K
    · rcases HPI.out with h0 | ⟨pb, po, rfl, hpl, hpc⟩
      · omega
      have cp := (HB.out.cell (p := ⟨pb, po + j, none⟩) hpl).trans (hpc j hlt)
      have q0 : (0 : Int) ≤ j := by omega
      have q1 : (j : Int) < K := by omega
      obtain ⟨x, hx⟩ : ∃ x, x = P j := ⟨_, rfl⟩
      have HXJ := Lib.hid hx
      rw [← hx] at cp
      clear hx hpc hpl
      by_cases hok : ∀ i, i < j → 0 ≤ P i ∧ P i < r
      · rw [decide_eq_true hok]
        have HOK := Lib.hid hok
        clear hok
        by_cases x0 : 0 ≤ x
        · by_cases x1 : x < r
          · go_wp2
            go_region
            go_wp2
            go_roundw
            case rel => exact ⟨j + 1, by omega, by rw [decide_eq_true (fun i h => if e : i = j then by subst e; rw [← HXJ.out]; exact ⟨x0, x1⟩ else HOK.out i (by omega))], by go_num, Lib.hid (HX.out.keep rfl), Lib.hid HB.out.drew⟩
            case measure => simp [intOf]; omega
          · have hd0 : decide (0 ≤ x) = true := decide_eq_true x0
            have hd1 : decide (x < r) = false := decide_eq_false x1
            have HN := Lib.hid (show ¬ ∀ i, i < j + 1 → 0 ≤ P i ∧ P i < r from fun h => by have := h j (by omega); rw [← HXJ.out] at this; omega)
            clear x1
            go_wp2
            go_region
            go_wp2
            go_roundw
            case rel => exact ⟨j + 1, by omega, (by first | rw [decide_eq_false HN.out] | rw [hd1, decide_eq_false HN.out]), by go_num, Lib.hid (HX.out.keep rfl), Lib.hid HB.out.drew⟩
            case measure => simp [intOf]; omega
        · have hd0 : decide (0 ≤ x) = false := decide_eq_false x0
          have HN := Lib.hid (show ¬ ∀ i, i < j + 1 → 0 ≤ P i ∧ P i < r from fun h => by have := h j (by omega); rw [← HXJ.out] at this; omega)
          clear x0
          go_wp2
          go_region
          go_wp2
          go_roundw
          case rel => exact ⟨j + 1, by omega, (by first | rw [decide_eq_false HN.out] | rw [hd1, decide_eq_false HN.out]), by go_num, Lib.hid (HX.out.keep rfl), Lib.hid HB.out.drew⟩
          case measure => simp [intOf]; omega
      · rw [decide_eq_false hok]
        have HOK := Lib.hid hok
        clear hok
        go_wp2
        go_region
        go_wp2
        go_roundw
        case rel => exact ⟨j + 1, by omega, by rw [decide_eq_false (fun h => HOK.out (fun i hi => h i (by omega)))], by go_num, Lib.hid (HX.out.keep rfl), Lib.hid HB.out.drew⟩
        case measure => simp [intOf]; omega
    · obtain rfl : j = K := by omega
      rw [decide_eq_false HZ.out]
      clear HX3 HB3
      go_wp2_with (go_at_call 27; refine (HCL.out _ HB.out).mono ?_; rintro e w4 ⟨A4, C4, rfl, ho, hb⟩; have HO4 := Lib.hid ho; have HX4 := Lib.hid (HX.out.below hb HX.out.lt); have HB4 := Lib.hid (HB.out.trans (hb.mono HB.out.size)); clear ho hb k0 k1 k2 kf)
      have HC5 := Lib.hid (alloc_bx w4 (.int .i64 r) (.int .i64 c) (.slice A4 n C4))
      have HX5 := Lib.hid (bx_alloc HX4.out (.cells #[.int .i64 r, .int .i64 c, .slice A4 n C4] 24))
      have HB5 := Lib.hid (HB4.out.alloc HB4.out.size (.cells #[.int .i64 r, .int .i64 c, .slice A4 n C4] 24))
      have HO5 := Lib.hid ((HO4.out.bytes HBY.out).below ((Below.refl _ w4).alloc (Nat.le_refl _) (.cells #[.int .i64 r, .int .i64 c, .slice A4 n C4] 24)) (Nat.le_refl _))
      clear HO4 HX4 HB4 HX HB
      generalize w4.alloc (.cells #[.int .i64 r, .int .i64 c, .slice A4 n C4] 24) = w5 at *
      generalize w4.heap.size = b4 at *
      have HM5 := Lib.hid (HLB.out.below HB5.out (Nat.le_refl _))
      have HS : Hid (∀ w', Below w5.heap.size w5 w' → Below w5.heap.size w5 w' ∧ w'.cell? ⟨w.heap.size, 0, none⟩ = some (.int .i64 r) ∧ w'.cell? ⟨w.heap.size, 1, none⟩ = some (.int .i64 c) ∧ w'.cell? ⟨w.heap.size, 2, none⟩ = some (.slice a n cap) ∧ w'.cell? ⟨b4, 0, none⟩ = some (.int .i64 r) ∧ w'.cell? ⟨b4, 1, none⟩ = some (.int .i64 c) ∧ w'.cell? ⟨b4, 2, none⟩ = some (.slice A4 n C4)) :=
        Lib.hid (fun w' h => ⟨h, (HX5.out.below h HX5.out.lt).cells.1, (HX5.out.below h HX5.out.lt).cells.2.1, (HX5.out.below h HX5.out.lt).cells.2.2.1, (HC5.out.below h HC5.out.lt).cells.1, (HC5.out.below h HC5.out.lt).cells.2.1, (HC5.out.below h HC5.out.lt).cells.2.2.1⟩)
      go_region_held3 (fun w' => Below w5.heap.size w5 w' ∧ w'.cell? ⟨w.heap.size, 0, none⟩ = some (.int .i64 r) ∧ w'.cell? ⟨w.heap.size, 1, none⟩ = some (.int .i64 c) ∧ w'.cell? ⟨w.heap.size, 2, none⟩ = some (.slice a n cap) ∧ w'.cell? ⟨b4, 0, none⟩ = some (.int .i64 r) ∧ w'.cell? ⟨b4, 1, none⟩ = some (.int .i64 c) ∧ w'.cell? ⟨b4, 2, none⟩ = some (.slice A4 n C4))
        (first
          | exact HS.out _ c3
          | exact HS.out _ c2
          | exact HS.out _ c1
          | exact HS.out _ (Below.refl _ _)
          | exact HS.out _ (Below.refl _ _).drew)
        (first
          | (go_at_call 12; (with_reducible refine (HRF.out _).mono ?_); rintro e w7 ⟨rfl, hb2⟩; have c2 := c1.trans (hb2.mono c1.size); clear hb2)
          | (go_at_call 12; (with_reducible refine (ref_any r c A4 n C4 _).mono ?_); rintro e w6 ⟨rfl, hb1⟩; have c1 := (Below.refl w5.heap.size w5).drew.trans hb1; clear hb1)
          | (go_at_call 21; refine (HSAME.out w7 A4 C4 (HO5.out.below c2 (Nat.le_refl _)) (HM5.out.bytes.below c2 (Nat.le_refl _))).mono ?_; rintro e w8 ⟨rfl, hb3⟩; have c3 := c2.trans (hb3.mono c2.size); clear hb3))
      all_goals
        have HX8 := Lib.hid (HX5.out.below c3 HX5.out.lt)
        have HB8 := Lib.hid (HB5.out.trans (c3.mono HB5.out.size))
        rename_i hHeld
        clear hHeld c1 c2 c3
        clear HS HC5 HX5 HB5 HO5 HM5
        obtain ⟨k0, k1, k2, kf⟩ := HX8.out.cells
        go_wp2_with first
          | (go_at_call 28; refine (HPK.out _ HB8.out).mono ?_; rintro e w9 ⟨rfl, hb⟩; have HB9 := Lib.hid (HB8.out.trans (hb.mono HB8.out.size)); clear hb k0 k1 k2 kf; obtain ⟨v0, v1, v2, vf⟩ := bx_cells_alloc (alloc_bx w9 (.int .i64 0) (.int .i64 0) (.slice none 0 0)); obtain ⟨u0, u1, u2, uf⟩ := (alloc_bx w9 (.int .i64 0) (.int .i64 0) (.slice none 0 0)).cells)
          | (go_at_call 20; refine (HNO.out _).mono ?_; rintro e w10 ⟨rfl, hb⟩; have HB10 := Lib.hid (HB9.out.trans ((later1 hb).mono HB9.out.size)); clear hb)
        go_ret
        exact ⟨rfl, HB10.out⟩
theorem ints_nums {w : World} {a : Option Addr} {n : Nat} {P : Nat → Int} (h : Ints w a n P) (h0 : ∀ i, i < n → 0 ≤ P i) : Nums w a n (fun i => (P i).toNat) :=
  h.imp id fun ⟨b, off, e, hl, hc⟩ => ⟨b, off, e, hl, fun i hi => by rw [hc i hi, Int.toNat_of_nonneg (h0 i hi)]⟩
set_option maxRecDepth 100000 in
set_option maxHeartbeats 4000000 in
theorem picks_good (r' c' : Nat) (a aP : Option Addr) (cap K capP : Nat) (l : List Int) (P : Nat → Int) (w : World) (hn : r' * c' ≤ 3000) (hK : K ≤ 255) (hl : Sl w a (r' * c') cap l) (hP : Ints w aP K P) (hr : RightM r' c' (r' * c')) (hz : ∀ i, i < K → 0 ≤ P i ∧ P i < r') :
    Calls Try.prog 5 #[.agg #[.int .i64 r', .int .i64 c', .slice a ((r' * c' : Nat)) cap], .slice aP K capP] w fun e w' => e = .returned (.bool true) ∧ Below w.heap.size w w' := by
  have h3 : (K : Int) ≤ 255 := by omega
  have hR : r' ≤ 255 := by have := hr.1; omega
  have hC : c' ≤ 255 := by have := hr.2.1; omega
  have hm : K * c' ≤ 65025 := Nat.mul_le_mul hK hC
  have HPK : Hid (∀ wx, Below w.heap.size w wx → Calls Try.prog 28 #[.agg #[.int .i64 r', .int .i64 c', .slice a ((r' * c' : Nat)) cap], .slice aP K capP] wx (Handed K c' (fun i k => co l ((P i).toNat * c' + k)) wx)) :=
    Lib.hid (fun wx h => by
      refine (mpick_any r' c' K cap capP hR hC hK a aP l P wx (hl.below h (Nat.le_refl _)) (hP.below h (Nat.le_refl _))).mono ?_
      rintro e w'' (⟨_, h2⟩ | ⟨h1, _⟩)
      · exact h2
      · exact absurd hz h1)
  have HRP : Hid (∀ wx, Below w.heap.size w wx → Calls Try.prog 29 #[.agg #[.int .i64 r', .int .i64 c', .slice a ((r' * c' : Nat)) cap], .slice aP K capP] wx (HandedR K c' (fun i k => co l ((P i).toNat * c' + k)) wx)) :=
    Lib.hid (fun wx h => rpick_any r' K c' (r' * c') cap capP hK hC a aP l (fun i => (P i).toNat) wx (hl.bytes.below h (Nat.le_refl _)) (by omega) (ints_nums (hP.below h (Nat.le_refl _)) (fun i hi => (hz i hi).1)) (fun i k hi hk => spot_lt (by have := hz i hi; omega) hk))
  have HSM2 : Hid (∀ wx g l5 A6 C6 l6, Dat wx g (K * c') l5 → Sl wx A6 (K * c') C6 l6 → (∀ i k, i < K → k < c' → co l5 (i * c' + k) = co l ((P i).toNat * c' + k)) → (∀ i k, i < K → k < c' → co l6 (i * c' + k) = co l ((P i).toNat * c' + k)) →
      Calls Try.prog 21 #[.agg #[.int .i64 K, .int .i64 c', .slice (some ⟨g, 0, none⟩) ((K * c' : Nat)) (K * c')], .agg #[.int .i64 K, .int .i64 c', .slice A6 ((K * c' : Nat)) C6]] wx fun e w' => e = .returned (.bool true) ∧ Below wx.heap.size wx w') :=
    Lib.hid (fun wx g l5 A6 C6 l6 h5 h6 c5 c6 => by
      have h5' := h5.sl (by omega)
      have e : l5 = l6 := rows_eq (r := K) (c := c') h5'.bytes.by_ h6.bytes.by_ h5'.bytes.size h6.bytes.size (fun i k hi hk => by rw [c5 i k hi hk, c6 i k hi hk])
      subst e
      exact rsame_true K c' _ A6 (K * c') _ C6 l5 wx h5'.bytes h6.bytes)
  unfold Handed at HPK
  unfold HandedR at HRP
  have HPI := Lib.hid hP
  have HZ := Lib.hid hz
  obtain ⟨r, hre⟩ : ∃ r : Int, r = (r' : Int) := ⟨_, rfl⟩
  obtain ⟨c, hce⟩ : ∃ c : Int, c = (c' : Int) := ⟨_, rfl⟩
  obtain ⟨n, hne⟩ : ∃ n, r' * c' = n := ⟨_, rfl⟩
  obtain ⟨m, hme⟩ : ∃ m, K * c' = m := ⟨_, rfl⟩
  rw [hme] at hm HPK HRP HSM2
  rw [hne] at hn hl hr HPK HRP ⊢
  rw [← hre, ← hce] at hr HPK HRP ⊢
  rw [← hce] at HSM2
  rw [← hre] at HZ
  have h1 : (n : Int) ≤ 3000 := by omega
  have h2 : (K : Int) ≤ 300 := by omega
  have HAW := Lib.hid (fun w => awake5_any w)
  have HRF := Lib.hid (fun w => ref_any r c a n cap w)
  have HRR := Lib.hid (rright_any r c n a cap)
  have HCL : Hid (∀ wx, Below w.heap.size w wx → Calls Try.prog 27 #[.agg #[.int .i64 r, .int .i64 c, .slice a n cap]] wx (ClonedM r c n l wx)) := Lib.hid (fun wx h => mclone_any r c a n cap l wx (hl.below h (Nat.le_refl _)) (by omega))
  have HLB := Lib.hid hl
  have HBY := Lib.hid hl.bytes.range
  have HSAME : Hid (∀ wx A5 C5, Bytes wx A5 n l → Bytes wx a n l → Calls Try.prog 21 #[.agg #[.int .i64 r, .int .i64 c, .slice A5 n C5], .agg #[.int .i64 r, .int .i64 c, .slice a n cap]] wx fun e w' => e = .returned (.bool true) ∧ Below wx.heap.size wx w') :=
    Lib.hid (fun wx A5 C5 h1 h2 => rsame_true r c A5 a n C5 cap l wx h1 h2)
  rw [decide_eq_true hr] at HRR
  clear hz hl hP hr hme hne hre hce
  go_enter Try.func5, Try.ntmps5
  go_wp2_with first
    | (go_at_call 10; refine (HAW.out _).mono ?_; rintro e w1 ⟨rfl, hb⟩; obtain ⟨hx, hbw⟩ := boxes1p hb; have HX := Lib.hid hx; have HB := Lib.hid hbw; clear hb hx hbw; obtain ⟨k0, k1, k2, kf⟩ := HX.out.cells)
    | (go_at_call 12; (with_reducible refine (HRF.out _).mono ?_); rintro e w2 ⟨rfl, hb⟩; have HX2 := Lib.hid (HX.out.below hb HX.out.lt); have HB2 := Lib.hid (HB.out.trans (hb.mono HB.out.size)); clear hb k0 k1 k2 kf)
    | (go_at_call 11; (with_reducible refine (HRR.out _).mono ?_); rintro e w3 ⟨rfl, hb⟩; have HX3 := Lib.hid (HX2.out.below hb HX2.out.lt); have HB3 := Lib.hid (HB2.out.trans (hb.mono HB2.out.size)); clear hb HX HB HX2 HB2)
  go_loopw [5, 6] (fun ok i wr => ∃ j : Nat, j ≤ K ∧ ok = .bool true ∧ i = .int .i64 (j : Nat) ∧ Hid (Bx wr w.heap.size (.int .i64 r) (.int .i64 c) (.slice a n cap)) ∧ Hid (Below w.heap.size w wr)) (fun _ i _ => K - (intOf i).toNat)
  case atStart => exact ⟨0, by omega, rfl, rfl, HX3, HB3⟩
  case round =>
    obtain ⟨j, hj, rfl, rfl, HX, HB⟩ := hrel
    obtain ⟨wo, ho⟩ : ∃ wo, wo = wr := ⟨_, rfl⟩
    subst ho
    obtain ⟨k0, k1, k2, kf⟩ := HX.out.cells
    by_cases hlt : j < K
    · rcases HPI.out with h0 | ⟨pb, po, rfl, hpl, hpc⟩
      · omega
      have cp := (HB.out.cell (p := ⟨pb, po + j, none⟩) hpl).trans (hpc j hlt)
      have q0 : (0 : Int) ≤ j := by omega
      have q1 : (j : Int) < K := by omega
      obtain ⟨x0, x1⟩ := HZ.out j hlt
      generalize P j = x at *
      clear hpc hpl
      go_wp2
      go_region
      go_wp2
      go_roundw
      case rel => exact ⟨j + 1, by omega, rfl, by go_num, Lib.hid (HX.out.keep rfl), Lib.hid HB.out.drew⟩
      case measure => simp [intOf]; omega
    · obtain rfl : j = K := by omega
      clear HX3 HB3
      go_wp2_with (go_at_call 27; refine (HCL.out _ HB.out).mono ?_; rintro e w4 ⟨A4, C4, rfl, ho, hb⟩; have HO4 := Lib.hid ho; have HX4 := Lib.hid (HX.out.below hb HX.out.lt); have HB4 := Lib.hid (HB.out.trans (hb.mono HB.out.size)); clear ho hb k0 k1 k2 kf)
      have HC5 := Lib.hid (alloc_bx w4 (.int .i64 r) (.int .i64 c) (.slice A4 n C4))
      have HX5 := Lib.hid (bx_alloc HX4.out (.cells #[.int .i64 r, .int .i64 c, .slice A4 n C4] 24))
      have HB5 := Lib.hid (HB4.out.alloc HB4.out.size (.cells #[.int .i64 r, .int .i64 c, .slice A4 n C4] 24))
      have HO5 := Lib.hid ((HO4.out.bytes HBY.out).below ((Below.refl _ w4).alloc (Nat.le_refl _) (.cells #[.int .i64 r, .int .i64 c, .slice A4 n C4] 24)) (Nat.le_refl _))
      clear HO4 HX4 HB4 HX HB
      generalize w4.alloc (.cells #[.int .i64 r, .int .i64 c, .slice A4 n C4] 24) = w5 at *
      generalize w4.heap.size = b4 at *
      have HM5 := Lib.hid (HLB.out.below HB5.out (Nat.le_refl _))
      have HS : Hid (∀ w', Below w5.heap.size w5 w' → Below w5.heap.size w5 w' ∧ w'.cell? ⟨w.heap.size, 0, none⟩ = some (.int .i64 r) ∧ w'.cell? ⟨w.heap.size, 1, none⟩ = some (.int .i64 c) ∧ w'.cell? ⟨w.heap.size, 2, none⟩ = some (.slice a n cap) ∧ w'.cell? ⟨b4, 0, none⟩ = some (.int .i64 r) ∧ w'.cell? ⟨b4, 1, none⟩ = some (.int .i64 c) ∧ w'.cell? ⟨b4, 2, none⟩ = some (.slice A4 n C4)) :=
        Lib.hid (fun w' h => ⟨h, (HX5.out.below h HX5.out.lt).cells.1, (HX5.out.below h HX5.out.lt).cells.2.1, (HX5.out.below h HX5.out.lt).cells.2.2.1, (HC5.out.below h HC5.out.lt).cells.1, (HC5.out.below h HC5.out.lt).cells.2.1, (HC5.out.below h HC5.out.lt).cells.2.2.1⟩)
      go_region_held3 (fun w' => Below w5.heap.size w5 w' ∧ w'.cell? ⟨w.heap.size, 0, none⟩ = some (.int .i64 r) ∧ w'.cell? ⟨w.heap.size, 1, none⟩ = some (.int .i64 c) ∧ w'.cell? ⟨w.heap.size, 2, none⟩ = some (.slice a n cap) ∧ w'.cell? ⟨b4, 0, none⟩ = some (.int .i64 r) ∧ w'.cell? ⟨b4, 1, none⟩ = some (.int .i64 c) ∧ w'.cell? ⟨b4, 2, none⟩ = some (.slice A4 n C4))
        (first
          | exact HS.out _ c3
          | exact HS.out _ c2
          | exact HS.out _ c1
          | exact HS.out _ (Below.refl _ _)
          | exact HS.out _ (Below.refl _ _).drew)
        (first
          | (go_at_call 12; (with_reducible refine (HRF.out _).mono ?_); rintro e w7 ⟨rfl, hb2⟩; have c2 := c1.trans (hb2.mono c1.size); clear hb2)
          | (go_at_call 12; (with_reducible refine (ref_any r c A4 n C4 _).mono ?_); rintro e w6 ⟨rfl, hb1⟩; have c1 := (Below.refl w5.heap.size w5).drew.trans hb1; clear hb1)
          | (go_at_call 21; refine (HSAME.out w7 A4 C4 (HO5.out.below c2 (Nat.le_refl _)) (HM5.out.bytes.below c2 (Nat.le_refl _))).mono ?_; rintro e w8 ⟨rfl, hb3⟩; have c3 := c2.trans (hb3.mono c2.size); clear hb3))
      all_goals
        have HX8 := Lib.hid (HX5.out.below c3 HX5.out.lt)
        have HB8 := Lib.hid (HB5.out.trans (c3.mono HB5.out.size))
        rename_i hHeld
        clear hHeld c1 c2 c3
        clear HS HC5 HX5 HB5 HO5 HM5
        obtain ⟨k0, k1, k2, kf⟩ := HX8.out.cells
        go_wp2_with (go_at_call 28; refine (HPK.out _ HB8.out).mono ?_; rintro e w9 ⟨g9, l9, rfl, hg, hd, hc9, hb⟩; have HG9 := Lib.hid (And.intro hg hc9); have HD9 := Lib.hid hd; have HX9 := Lib.hid (HX8.out.below hb HX8.out.lt); have HB9 := Lib.hid (HB8.out.trans (hb.mono HB8.out.size)); clear hg hd hc9 hb k0 k1 k2 kf)
        have HC10 := Lib.hid (alloc_bx w9 (.int .i64 j) (.int .i64 c) (.slice (some ⟨g9, 0, none⟩) m m))
        have HX10 := Lib.hid (bx_alloc HX9.out (.cells #[.int .i64 j, .int .i64 c, .slice (some ⟨g9, 0, none⟩) m m] 24))
        have HB10 := Lib.hid (HB9.out.alloc HB9.out.size (.cells #[.int .i64 j, .int .i64 c, .slice (some ⟨g9, 0, none⟩) m m] 24))
        have HD10 := Lib.hid (HD9.out.keep (Below.heap_alloc _ (.cells #[.int .i64 j, .int .i64 c, .slice (some ⟨g9, 0, none⟩) m m] 24) _ HD9.out.lt))
        clear HX9 HB9 HD9
        generalize w9.alloc (.cells #[.int .i64 j, .int .i64 c, .slice (some ⟨g9, 0, none⟩) m m] 24) = w10 at *
        generalize w9.heap.size = b9 at *
        have HS : Hid (∀ w', Below w10.heap.size w10 w' → Below w10.heap.size w10 w' ∧ w'.cell? ⟨w.heap.size, 0, none⟩ = some (.int .i64 r) ∧ w'.cell? ⟨w.heap.size, 1, none⟩ = some (.int .i64 c) ∧ w'.cell? ⟨w.heap.size, 2, none⟩ = some (.slice a n cap) ∧ w'.cell? ⟨b9, 0, none⟩ = some (.int .i64 j) ∧ w'.cell? ⟨b9, 1, none⟩ = some (.int .i64 c) ∧ w'.cell? ⟨b9, 2, none⟩ = some (.slice (some ⟨g9, 0, none⟩) m m)) :=
          Lib.hid (fun w' h => ⟨h, (HX10.out.below h HX10.out.lt).cells.1, (HX10.out.below h HX10.out.lt).cells.2.1, (HX10.out.below h HX10.out.lt).cells.2.2.1, (HC10.out.below h HC10.out.lt).cells.1, (HC10.out.below h HC10.out.lt).cells.2.1, (HC10.out.below h HC10.out.lt).cells.2.2.1⟩)
        go_wp2
        go_region_held3 (fun w' => Below w10.heap.size w10 w' ∧ w'.cell? ⟨w.heap.size, 0, none⟩ = some (.int .i64 r) ∧ w'.cell? ⟨w.heap.size, 1, none⟩ = some (.int .i64 c) ∧ w'.cell? ⟨w.heap.size, 2, none⟩ = some (.slice a n cap) ∧ w'.cell? ⟨b9, 0, none⟩ = some (.int .i64 j) ∧ w'.cell? ⟨b9, 1, none⟩ = some (.int .i64 c) ∧ w'.cell? ⟨b9, 2, none⟩ = some (.slice (some ⟨g9, 0, none⟩) m m))
          (first
            | exact HS.out _ c4
            | exact HS.out _ c3
            | exact HS.out _ c2
            | exact HS.out _ c1
            | exact HS.out _ (Below.refl _ _)
            | exact HS.out _ (Below.refl _ _).drew)
          (first
            | (go_at_call 12; (with_reducible refine (HRF.out _).mono ?_); rintro e w12 ⟨rfl, hb2⟩; have c2 := c1.trans (hb2.mono c1.size); clear hb2)
            | (go_at_call 12; (with_reducible refine (ref_any _ c (some ⟨g9, 0, none⟩) m m _).mono ?_); rintro e w11 ⟨rfl, hb1⟩; have c1 := (Below.refl w10.heap.size w10).drew.trans hb1; clear hb1)
            | (go_at_call 29; refine (HRP.out w12 (HB10.out.trans (c2.mono HB10.out.size))).mono ?_; rintro e w13 ⟨A6, C6, l6, rfl, hs6, hc6, hb3⟩; have c3 := c2.trans (hb3.mono c2.size); clear hb3)
            | (go_at_call 21; refine (HSM2.out w13 g9 l9 A6 C6 l6 (HD10.out.below c3 HD10.out.lt) hs6 HG9.out.2 hc6).mono ?_; rintro e w14 ⟨rfl, hb4⟩; have c4 := c3.trans (hb4.mono c3.size); clear hb4))
        all_goals
          have HF := Lib.hid (HB10.out.trans (c4.mono HB10.out.size))
          clear c1 c2 c3 c4
          go_wp2
          go_ret
          exact ⟨rfl, HF.out⟩
theorem picks_walk (r c : Int) (a : Option Addr) (n cap : Nat) (zs : List Int) (aP : Option Addr) (K capP : Nat) (ps : List Int) (w : World) (hr : IsRow .u8 w a n cap zs) (hp : IsRow .i64 w aP K capP ps) :
    Calls Try.prog 5 #[.agg #[.int .i64 r, .int .i64 c, .slice a n cap], .slice aP K capP] w fun e w' => e = .returned (.bool true) ∧ Below w.heap.size w w' := by
  by_cases hg : 3000 < n ∨ 300 < K
  · exact picks_great r c a aP n cap K capP w hg
  have hl := hr.sl
  have hP := hp.ints
  generalize zs.take n = l at hl
  generalize (fun i => ps.getD i 0) = P at hP
  by_cases hz : RightM r c n ∧ K ≤ 255
  case neg => exact picks_never r c a aP n cap K capP l P w (by omega) (by omega) hl hP hz
  by_cases hk : ∀ i, i < K → 0 ≤ P i ∧ P i < r
  case neg => exact picks_bad r c a aP n cap K capP l P w (by omega) hz.2 hl hP hz.1 hk
  obtain ⟨hrt, hK⟩ := hz
  obtain ⟨r', rfl⟩ : ∃ m : Nat, r = m := ⟨r.toNat, by have := hrt.1; omega⟩
  obtain ⟨c', rfl⟩ : ∃ m : Nat, c = m := ⟨c.toNat, by have := hrt.2.1; omega⟩
  obtain rfl : n = r' * c' := by have := hrt.2.2; rw [← Int.natCast_mul] at this; omega
  exact picks_good r' c' a aP cap K capP l P w (by omega) hK hl hP hrt hk
end Go.Proofs.Ytipaolkgafhliaa
