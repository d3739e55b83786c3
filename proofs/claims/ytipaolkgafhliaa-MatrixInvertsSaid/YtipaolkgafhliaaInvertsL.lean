/-
  Own text: the law MatrixInverts, walked.
-/
import Derived.Test.YtipaolkgafhliaaRanksL
namespace Go.Proofs.Ytipaolkgafhliaa
open Go.RowKit

/-- A box, and the box of what came, later on. -/
theorem boxes3 {w4 w5 : World} {b : Nat} {x0 x1 x2 y0 y1 y2 : Value} (hx : Bx w4 b x0 x1 x2) (hb : Below (w4.alloc (.cells #[y0, y1, y2] 24)).heap.size (w4.alloc (.cells #[y0, y1, y2] 24)) w5) :
    Bx w5 b x0 x1 x2 ∧ Bx w5 w4.heap.size y0 y1 y2 ∧ Below w4.heap.size w4 w5 :=
  ⟨(bx_alloc hx _).below hb (Nat.lt_trans hx.lt (alloc_lt _ _)), (alloc_bx w4 y0 y1 y2).below hb (alloc_lt _ _), later1 hb⟩
set_option maxRecDepth 100000 in
set_option maxHeartbeats 4000000 in
theorem inverts_not (r c : Int) (a : Option Addr) (n cap : Nat) (w : World) (hs : SmallM r c n) (hrm : ¬ (RightM r c n ∧ r = c)) :
    Calls Try.prog 6 #[.agg #[.int .i64 r, .int .i64 c, .slice a n cap]] w fun e w' => e = .returned (.bool true) ∧ Below w.heap.size w w' := by
  have HAW := Lib.hid (fun w => awake5_any w)
  have HSM := Lib.hid (small_any r c a n cap)
  have HNE := Lib.hid (fun w => new_any w)
  have HRF := Lib.hid (fun w => ref_any r c a n cap w)
  have HRR := Lib.hid (rright_any r c n a cap)
  have HNO := Lib.hid (fun w => none_any 0 0 none 0 0 w)
  have HIV := Lib.hid (fun t w => invert_size t r c a n cap w hrm)
  unfold Refused at HIV
  rw [decide_eq_true hs] at HSM
  rw [decide_eq_true (show (0 : Int) = 0 ∧ (0 : Int) = 0 ∧ 0 = 0 from ⟨rfl, rfl, rfl⟩)] at HNO
  have hcase : (decide (RightM r c n) = true ∧ (r != c) = true) ∨ decide (RightM r c n) = false := by
    by_cases hr : RightM r c n
    · refine .inl ⟨decide_eq_true hr, ?_⟩
      have hne : ¬ r = c := fun e => hrm ⟨hr, e⟩
      simpa using hne
    · exact .inr (decide_eq_false hr)
  clear hs hrm
  rcases hcase with ⟨hd, hnb⟩ | hd
  all_goals
    rw [hd] at HRR
    clear hd
    go_enter Try.func6, Try.ntmps6
    go_wp2_with first
      | (go_at_call 10; refine (HAW.out _).mono ?_; rintro e w1 ⟨rfl, hb⟩; obtain ⟨hx, hbw⟩ := boxes1 hb; have HX := Lib.hid hx; have HB := Lib.hid hbw; clear hb hx hbw; obtain ⟨k0, k1, k2, kf⟩ := HX.out.cells)
      | (go_at_call 24; refine (HSM.out _).mono ?_; rintro e w2 ⟨rfl, hb⟩; have HX2 := Lib.hid (HX.out.below hb HX.out.lt); have HB2 := Lib.hid (HB.out.trans (hb.mono HB.out.size)); clear hb k0 k1 k2 kf)
      | (go_at_call 18; refine (HNE.out _).mono ?_; rintro e w3 ⟨rfl, ht, hb⟩; have HX3 := Lib.hid (HX2.out.below hb HX2.out.lt); have HB3 := Lib.hid (HB2.out.trans (hb.mono HB2.out.size)); clear ht hb; obtain ⟨k0, k1, k2, kf⟩ := HX3.out.cells)
      | (go_at_call 30; refine (HIV.out _ _).mono ?_; rintro e w4 ⟨rfl, hb⟩; have HX4 := Lib.hid (HX3.out.below hb HX3.out.lt); have HB4 := Lib.hid (HB3.out.trans (hb.mono HB3.out.size)); clear hb k0 k1 k2 kf; obtain ⟨k0, k1, k2, kf⟩ := bx_cells_alloc HX4.out)
      | (go_at_call 12; refine (HRF.out _).mono ?_; rintro e w5 ⟨rfl, hb⟩; obtain ⟨hx, hy, hbw⟩ := boxes3 HX4.out hb; have HX5 := Lib.hid hx; have HY5 := Lib.hid hy; have HB5 := Lib.hid (HB4.out.trans (hbw.mono HB4.out.size)); clear hb hx hy hbw k0 k1 k2 kf)
      | (go_at_call 11; refine (HRR.out _).mono ?_; rintro e w6 ⟨rfl, hb⟩; have HX6 := Lib.hid (HX5.out.below hb HX5.out.lt); have HY6 := Lib.hid (HY5.out.below hb HY5.out.lt); have HB6 := Lib.hid (HB5.out.trans (hb.mono HB5.out.size)); clear hb; obtain ⟨k0, k1, k2, kf⟩ := HX6.out.cells; obtain ⟨v0, v1, v2, vf⟩ := HY6.out.cells)
      | (go_at_call 20; refine (HNO.out _).mono ?_; rintro e w7 ⟨rfl, hb⟩; have HB7 := Lib.hid (HB6.out.trans (hb.mono HB6.out.size)); clear hb)
    go_ret
    exact ⟨rfl, HB7.out⟩
set_option maxRecDepth 100000 in
set_option maxHeartbeats 4000000 in
theorem inverts_low (R : Nat) (a : Option Addr) (cap : Nat) (l : List Int) (w : World) (hR : R ≤ 255) (hs : SmallM R R (R * R)) (hl : Sl w a (R * R) cap l) (hf : ¬ RankIs (En R l) R R R) :
    Calls Try.prog 6 #[.agg #[.int .i64 R, .int .i64 R, .slice a ((R * R : Nat)) cap]] w fun e w' => e = .returned (.bool true) ∧ Below w.heap.size w w' := by
  have HAW := Lib.hid (fun w => awake5_any w)
  have HSM := Lib.hid (small_any R R a (R * R) cap)
  have HNE := Lib.hid (fun w => new_any w)
  have HRF := Lib.hid (fun w => ref_any R R a (R * R) cap w)
  have HRR := Lib.hid (rright_any R R (R * R) a cap)
  rw [decide_eq_true (show RightM R R (R * R) from ⟨⟨by omega, by omega⟩, ⟨by omega, by omega⟩, by omega⟩)] at HRR
  rw [decide_eq_true hs] at HSM
  have hm : R * R ≤ 65025 := Nat.mul_le_mul hR hR
  have HLB := Lib.hid hl
  have HNO := Lib.hid (fun w => none_any 0 0 none 0 0 w)
  rw [decide_eq_true (show (0 : Int) = 0 ∧ (0 : Int) = 0 ∧ 0 = 0 from ⟨rfl, rfl, rfl⟩)] at HNO
  have HIV : Hid (∀ t wx, Below w.heap.size w wx → IsTab wx t → Calls Try.prog 30 #[.pointer (some ⟨t, 0, none⟩), .agg #[.int .i64 R, .int .i64 R, .slice a ((R * R : Nat)) cap]] wx (Refused 51 wx)) :=
    Lib.hid (fun t wx h ht => (invert_any t R hR a cap l wx (hl.below h (Nat.le_refl _)) ht).mono (by
      rintro e w'' (⟨d, _, _, h3⟩ | ⟨V, h2, _⟩)
      · exact h3
      · exact absurd (h2.congr (fun i k _ _ => rfl)) hf))
  have HDK : Hid (∀ wx, Below w.heap.size w wx → Calls Try.prog 31 #[.agg #[.int .i64 R, .int .i64 R, .slice a ((R * R : Nat)) cap]] wx fun e w' => ∃ d : Nat, e = .returned (.int .i64 d) ∧ d < R ∧ Below wx.heap.size wx w') :=
    Lib.hid (fun wx h => (rrank_any R R cap hR hR a l wx (hl.below h (Nat.le_refl _))).mono (by
      rintro e w'' ⟨d, h1, h2, h3⟩
      refine ⟨d, h1, ?_, h3⟩
      have h4 : d ≤ R := h2.rows
      rcases Nat.lt_or_ge d R with g | g
      · exact g
      · obtain rfl : d = R := by omega
        exact absurd h2 hf))
  unfold Refused at HIV
  generalize R * R = m at *
  clear hs hl hf
  go_enter Try.func6, Try.ntmps6
  go_wp2_with first
    | (go_at_call 10; refine (HAW.out _).mono ?_; rintro e w1 ⟨rfl, hb⟩; obtain ⟨hx, hbw⟩ := boxes1 hb; have HX := Lib.hid hx; have HB := Lib.hid hbw; clear hb hx hbw; obtain ⟨k0, k1, k2, kf⟩ := HX.out.cells)
    | (go_at_call 24; refine (HSM.out _).mono ?_; rintro e w2 ⟨rfl, hb⟩; have HX2 := Lib.hid (HX.out.below hb HX.out.lt); have HB2 := Lib.hid (HB.out.trans (hb.mono HB.out.size)); clear hb k0 k1 k2 kf)
    | (go_at_call 18; refine (HNE.out _).mono ?_; rintro e w3 ⟨rfl, ht, hb⟩; have HT3 := Lib.hid ht; have HX3 := Lib.hid (HX2.out.below hb HX2.out.lt); have HB3 := Lib.hid (HB2.out.trans (hb.mono HB2.out.size)); clear ht hb; obtain ⟨k0, k1, k2, kf⟩ := HX3.out.cells)
    | (go_at_call 30; refine (HIV.out _ _ HB3.out HT3.out).mono ?_; rintro e w4 ⟨rfl, hb⟩; have HX4 := Lib.hid (HX3.out.below hb HX3.out.lt); have HB4 := Lib.hid (HB3.out.trans (hb.mono HB3.out.size)); clear hb k0 k1 k2 kf; obtain ⟨k0, k1, k2, kf⟩ := bx_cells_alloc HX4.out)
    | (go_at_call 12; (with_reducible refine (HRF.out _).mono ?_); rintro e w5 ⟨rfl, hb⟩; obtain ⟨hx, hy, hbw⟩ := boxes3 HX4.out hb; have HX5 := Lib.hid hx; have HY5 := Lib.hid hy; have HB5 := Lib.hid (HB4.out.trans (hbw.mono HB4.out.size)); clear hb hx hy hbw k0 k1 k2 kf)
    | (go_at_call 11; (with_reducible refine (HRR.out _).mono ?_); rintro e w6 ⟨rfl, hb⟩; have HX6 := Lib.hid (HX5.out.below hb HX5.out.lt); have HY6 := Lib.hid (HY5.out.below hb HY5.out.lt); have HB6 := Lib.hid (HB5.out.trans (hb.mono HB5.out.size)); clear hb; obtain ⟨k0, k1, k2, kf⟩ := HX6.out.cells)
  clear k0 k1 k2 kf
  have HS : Hid (∀ w', Below w6.heap.size w6 w' → Below w6.heap.size w6 w' ∧ w'.cell? ⟨w.heap.size, 0, none⟩ = some (.int .i64 (R : Int)) ∧ w'.cell? ⟨w.heap.size, 1, none⟩ = some (.int .i64 (R : Int)) ∧ w'.cell? ⟨w.heap.size, 2, none⟩ = some (.slice a m cap)) :=
    Lib.hid (fun w' h => ⟨h, (HX6.out.below h HX6.out.lt).cells.1, (HX6.out.below h HX6.out.lt).cells.2.1, (HX6.out.below h HX6.out.lt).cells.2.2.1⟩)
  go_region_held3 (fun w' => Below w6.heap.size w6 w' ∧ w'.cell? ⟨w.heap.size, 0, none⟩ = some (.int .i64 (R : Int)) ∧ w'.cell? ⟨w.heap.size, 1, none⟩ = some (.int .i64 (R : Int)) ∧ w'.cell? ⟨w.heap.size, 2, none⟩ = some (.slice a m cap))
    (first
      | exact HS.out _ c8
      | exact HS.out _ c7
      | exact HS.out _ (Below.refl _ _)
      | exact HS.out _ (Below.refl _ _).drew)
    (first
      | (go_at_call 12; refine (HRF.out _).mono ?_; rintro e w7 ⟨rfl, hb7⟩; have c7 := (Below.refl w6.heap.size w6).drew.trans hb7)
      | (go_at_call 31; refine (HDK.out _ (HB6.out.trans (c7.mono HB6.out.size))).mono ?_; rintro e w8 ⟨d, rfl, hd8, hb8⟩; have c8 := c7.trans (hb8.mono c7.size)))
  all_goals
    obtain ⟨v0, v1, v2, vf⟩ := (HY6.out.below c8 HY6.out.lt).cells
    have HB8 := Lib.hid (HB6.out.trans (c8.mono HB6.out.size))
    rename_i hHeld
    clear hHeld hb7 hb8 c7 c8
    go_wp2_with (go_at_call 20; refine (HNO.out _).mono ?_; rintro e w9 ⟨rfl, hb⟩; have HB9 := Lib.hid (HB8.out.trans (hb.mono HB8.out.size)); clear hb)
    go_ret
    exact ⟨rfl, HB9.out⟩
set_option maxRecDepth 100000 in
set_option maxHeartbeats 4000000 in
theorem inverts_full (R : Nat) (a : Option Addr) (cap : Nat) (l : List Int) (w : World) (hR : R ≤ 255) (hs : SmallM R R (R * R)) (hl : Sl w a (R * R) cap l) (hf : RankIs (En R l) R R R) :
    Calls Try.prog 6 #[.agg #[.int .i64 R, .int .i64 R, .slice a ((R * R : Nat)) cap]] w fun e w' => e = .returned (.bool true) ∧ Below w.heap.size w w' := by
  have HAW := Lib.hid (fun w => awake5_any w)
  have HSM := Lib.hid (small_any R R a (R * R) cap)
  have HNE := Lib.hid (fun w => new_any w)
  have HRF := Lib.hid (fun w => ref_any R R a (R * R) cap w)
  have HRR := Lib.hid (rright_any R R (R * R) a cap)
  rw [decide_eq_true (show RightM R R (R * R) from ⟨⟨by omega, by omega⟩, ⟨by omega, by omega⟩, by omega⟩)] at HRR
  rw [decide_eq_true hs] at HSM
  have hm : R * R ≤ 65025 := Nat.mul_le_mul hR hR
  have HLB := Lib.hid hl
  have HIV : Hid (∀ t wx, Below w.heap.size w wx → IsTab wx t → Calls Try.prog 30 #[.pointer (some ⟨t, 0, none⟩), .agg #[.int .i64 R, .int .i64 R, .slice a ((R * R : Nat)) cap]] wx fun e w' => ∃ V : Nat → Nat → Nat,
      (∀ i k, i < R → k < R → dots (V i) (fun j => co l (j * R + k)) R = if i = k then 1 else 0) ∧ Handed R R V wx e w') :=
    Lib.hid (fun t wx h ht => (invert_any t R hR a cap l wx (hl.below h (Nat.le_refl _)) ht).mono (by
      rintro e w'' (⟨d, h1, h2, _⟩ | ⟨V, _, _, h3, h4⟩)
      · have := hf.only (h2.congr (fun i k _ _ => rfl))
        omega
      · exact ⟨V, h3, h4⟩))
  have HDK : Hid (∀ wx, Below w.heap.size w wx → Calls Try.prog 31 #[.agg #[.int .i64 R, .int .i64 R, .slice a ((R * R : Nat)) cap]] wx fun e w' => e = .returned (.int .i64 R) ∧ Below wx.heap.size wx w') :=
    Lib.hid (fun wx h => (rrank_any R R cap hR hR a l wx (hl.below h (Nat.le_refl _))).mono (by
      rintro e w'' ⟨d, h1, h2, h3⟩
      obtain rfl := hf.only h2
      exact ⟨h1, h3⟩))
  have HLF : Hid (∀ V : Nat → Nat → Nat, (∀ i k, i < R → k < R → dots (V i) (fun j => co l (j * R + k)) R = if i = k then 1 else 0) → ∀ i k, i < R → k < R → dots (fun j => co l (i * R + j)) (fun j => V j k) R = if i = k then 1 else 0) :=
    Lib.hid (fun V h => left_right (A := fun i k => co l (i * R + k)) (fun i k => hl.bytes.by_.lt _) h)
  have HID : Hid (∀ wx, Calls Try.prog 22 #[.int .i64 (R : Nat)] wx (HandedR R R (fun i k => if i = k then 1 else 0) wx)) := Lib.hid (fun wx => rident_any R hR wx)
  have HMU : Hid (∀ wx a1 c1 l1 a2 c2 l2, Sl wx a1 (R * R) c1 l1 → Sl wx a2 (R * R) c2 l2 → Calls Try.prog 26 #[.agg #[.int .i64 R, .int .i64 R, .slice a1 ((R * R : Nat)) c1], .agg #[.int .i64 R, .int .i64 R, .slice a2 ((R * R : Nat)) c2]] wx (HandedR R R (fun i k => dots (fun j => co l1 (i * R + j)) (fun j => co l2 (j * R + k)) R) wx)) :=
    Lib.hid (fun wx a1 c1 l1 a2 c2 l2 h1 h2 => rmulm_any R R R hR hR hR _ _ _ _ l1 l2 wx h1.bytes h2.bytes)
  have HSAME : Hid (∀ wx A5 C5 l5 A6 C6 l6 (F : Nat → Nat → Nat), Sl wx A5 (R * R) C5 l5 → Sl wx A6 (R * R) C6 l6 → (∀ i k, i < R → k < R → co l5 (i * R + k) = F i k) → (∀ i k, i < R → k < R → co l6 (i * R + k) = F i k) →
      Calls Try.prog 21 #[.agg #[.int .i64 R, .int .i64 R, .slice A5 ((R * R : Nat)) C5], .agg #[.int .i64 R, .int .i64 R, .slice A6 ((R * R : Nat)) C6]] wx fun e w' => e = .returned (.bool true) ∧ Below wx.heap.size wx w') :=
    Lib.hid (fun wx A5 C5 l5 A6 C6 l6 F h5 h6 c5 c6 => by
      have e : l5 = l6 := rows_eq (r := R) (c := R) h5.bytes.by_ h6.bytes.by_ h5.bytes.size h6.bytes.size (fun i k hi hk => by rw [c5 i k hi hk, c6 i k hi hk])
      subst e
      exact rsame_true R R A5 A6 (R * R) C5 C6 l5 wx h5.bytes h6.bytes)
  have HR2 : Hid (∀ g wx, Calls Try.prog 11 #[.agg #[.int .i64 R, .int .i64 R, .slice (some ⟨g, 0, none⟩) ((R * R : Nat)) (R * R)]] wx fun e w' => e = .returned (.bool true) ∧ Below wx.heap.size wx w') :=
    Lib.hid (fun g wx => by
      have := rright_any (R : Int) (R : Int) (R * R) (some ⟨g, 0, none⟩) (R * R) wx
      rwa [decide_eq_true (show RightM R R (R * R) from ⟨⟨by omega, by omega⟩, ⟨by omega, by omega⟩, by omega⟩)] at this)
  unfold HandedR at HID HMU
  unfold Handed at HIV
  generalize R * R = m at *
  clear hs hl hf
  go_enter Try.func6, Try.ntmps6
  go_wp2_with first
    | (go_at_call 10; refine (HAW.out _).mono ?_; rintro e w1 ⟨rfl, hb⟩; obtain ⟨hx, hbw⟩ := boxes1 hb; have HX := Lib.hid hx; have HB := Lib.hid hbw; clear hb hx hbw; obtain ⟨k0, k1, k2, kf⟩ := HX.out.cells)
    | (go_at_call 24; refine (HSM.out _).mono ?_; rintro e w2 ⟨rfl, hb⟩; have HX2 := Lib.hid (HX.out.below hb HX.out.lt); have HB2 := Lib.hid (HB.out.trans (hb.mono HB.out.size)); clear hb k0 k1 k2 kf)
    | (go_at_call 18; refine (HNE.out _).mono ?_; rintro e w3 ⟨rfl, ht, hb⟩; have HT3 := Lib.hid ht; have HX3 := Lib.hid (HX2.out.below hb HX2.out.lt); have HB3 := Lib.hid (HB2.out.trans (hb.mono HB2.out.size)); clear ht hb; obtain ⟨k0, k1, k2, kf⟩ := HX3.out.cells)
    | (go_at_call 30; refine (HIV.out _ _ HB3.out HT3.out).mono ?_; rintro e w4 ⟨V, hV, g4, l4, rfl, hg4, hd4, hc4, hb⟩; have HV := Lib.hid hV; have HD4 := Lib.hid hd4; have HC4 := Lib.hid hc4; clear hV hg4 hd4 hc4; have HX4 := Lib.hid (HX3.out.below hb HX3.out.lt); have HB4 := Lib.hid (HB3.out.trans (hb.mono HB3.out.size)); clear hb k0 k1 k2 kf; obtain ⟨k0, k1, k2, kf⟩ := bx_cells_alloc HX4.out)
    | (go_at_call 12; (with_reducible refine (HRF.out _).mono ?_); rintro e w5 ⟨rfl, hb⟩; obtain ⟨hx, hy, hbw⟩ := boxes3 HX4.out hb; have HX5 := Lib.hid hx; have HY5 := Lib.hid hy; have HB5 := Lib.hid (HB4.out.trans (hbw.mono HB4.out.size)); have HD5 := Lib.hid ((HD4.out.keep (Below.heap_alloc _ _ _ HD4.out.lt)).below hb (Nat.lt_trans HD4.out.lt (alloc_lt _ _))); clear hb hx hy hbw k0 k1 k2 kf)
    | (go_at_call 11; (with_reducible refine (HRR.out _).mono ?_); rintro e w6 ⟨rfl, hb⟩; have HX6 := Lib.hid (HX5.out.below hb HX5.out.lt); have HY6 := Lib.hid (HY5.out.below hb HY5.out.lt); have HB6 := Lib.hid (HB5.out.trans (hb.mono HB5.out.size)); have HD6 := Lib.hid (HD5.out.below hb HD5.out.lt); clear hb; obtain ⟨k0, k1, k2, kf⟩ := HX6.out.cells)
  clear k0 k1 k2 kf
  have HS : Hid (∀ w', Below w6.heap.size w6 w' → Below w6.heap.size w6 w' ∧ w'.cell? ⟨w.heap.size, 0, none⟩ = some (.int .i64 (R : Int)) ∧ w'.cell? ⟨w.heap.size, 1, none⟩ = some (.int .i64 (R : Int)) ∧ w'.cell? ⟨w.heap.size, 2, none⟩ = some (.slice a m cap)) :=
    Lib.hid (fun w' h => ⟨h, (HX6.out.below h HX6.out.lt).cells.1, (HX6.out.below h HX6.out.lt).cells.2.1, (HX6.out.below h HX6.out.lt).cells.2.2.1⟩)
  go_region_held3 (fun w' => Below w6.heap.size w6 w' ∧ w'.cell? ⟨w.heap.size, 0, none⟩ = some (.int .i64 (R : Int)) ∧ w'.cell? ⟨w.heap.size, 1, none⟩ = some (.int .i64 (R : Int)) ∧ w'.cell? ⟨w.heap.size, 2, none⟩ = some (.slice a m cap))
    (first
      | exact HS.out _ c8
      | exact HS.out _ c7
      | exact HS.out _ (Below.refl _ _)
      | exact HS.out _ (Below.refl _ _).drew)
    (first
      | (go_at_call 12; refine (HRF.out _).mono ?_; rintro e w7 ⟨rfl, hb7⟩; have c7 := (Below.refl w6.heap.size w6).drew.trans hb7)
      | (go_at_call 31; refine (HDK.out _ (HB6.out.trans (c7.mono HB6.out.size))).mono ?_; rintro e w8 ⟨rfl, hb8⟩; have c8 := c7.trans (hb8.mono c7.size)))
  all_goals
    have HX8 := Lib.hid (HX6.out.below c8 HX6.out.lt)
    have HY8 := Lib.hid (HY6.out.below c8 HY6.out.lt)
    have HD8 := Lib.hid (HD6.out.below c8 HD6.out.lt)
    have HB8 := Lib.hid (HB6.out.trans (c8.mono HB6.out.size))
    obtain ⟨k0, k1, k2, kf⟩ := HX8.out.cells
    obtain ⟨v0, v1, v2, vf⟩ := HY8.out.cells
    rename_i hHeld
    clear hHeld hb7 hb8 c7 c8 HS
    go_wp2_with first
      | (go_at_call 12; (with_reducible refine (ref_any _ _ (some ⟨g4, 0, none⟩) m m _).mono ?_); rintro e w9 ⟨rfl, hb⟩; have HX9 := Lib.hid (HX8.out.below hb HX8.out.lt); have HY9 := Lib.hid (HY8.out.below hb HY8.out.lt); have HD9 := Lib.hid (HD8.out.below hb HD8.out.lt); have HB9 := Lib.hid (HB8.out.trans (hb.mono HB8.out.size)); clear hb k0 k1 k2 kf v0 v1 v2 vf)
      | (go_at_call 11; (with_reducible refine (HR2.out g4 _).mono ?_); rintro e w10 ⟨rfl, hb⟩; have HX10 := Lib.hid (HX9.out.below hb HX9.out.lt); have HY10 := Lib.hid (HY9.out.below hb HY9.out.lt); have HD10 := Lib.hid (HD9.out.below hb HD9.out.lt); have HB10 := Lib.hid (HB9.out.trans (hb.mono HB9.out.size)); clear hb; obtain ⟨k0, k1, k2, kf⟩ := HX10.out.cells; obtain ⟨v0, v1, v2, vf⟩ := HY10.out.cells)
      | (go_at_call 22; refine (HID.out _).mono ?_; rintro e w11 ⟨A6, C6, l6, rfl, hs6, hc6, hb⟩; have HI11 := Lib.hid hs6; have HCI := Lib.hid hc6; have HX11 := Lib.hid (HX10.out.below hb HX10.out.lt); have HY11 := Lib.hid (HY10.out.below hb HY10.out.lt); have HD11 := Lib.hid (HD10.out.below hb HD10.out.lt); have HB11 := Lib.hid (HB10.out.trans (hb.mono HB10.out.size)); clear hb hs6 hc6 k0 k1 k2 kf v0 v1 v2 vf)
    have HZ : Hid (Rx (w11.alloc (.cells #[.int .i64 (R : Int), .int .i64 (R : Int), .slice A6 m C6] 27)) w11.heap.size (.int .i64 (R : Int)) (.int .i64 (R : Int)) (.slice A6 m C6)) := Lib.hid (alloc_rx w11 _ _ _)
    have HX12 := Lib.hid (bx_alloc HX11.out (.cells #[.int .i64 (R : Int), .int .i64 (R : Int), .slice A6 m C6] 27))
    have HY12 := Lib.hid (bx_alloc HY11.out (.cells #[.int .i64 (R : Int), .int .i64 (R : Int), .slice A6 m C6] 27))
    have HD12 := Lib.hid (HD11.out.keep (Below.heap_alloc _ (.cells #[.int .i64 (R : Int), .int .i64 (R : Int), .slice A6 m C6] 27) _ HD11.out.lt))
    have HI12 := Lib.hid (HI11.out.below ((Below.refl _ w11).alloc (Nat.le_refl _) (.cells #[.int .i64 (R : Int), .int .i64 (R : Int), .slice A6 m C6] 27)) (Nat.le_refl _))
    have HB12 := Lib.hid (HB11.out.alloc HB11.out.size (.cells #[.int .i64 (R : Int), .int .i64 (R : Int), .slice A6 m C6] 27))
    clear HX11 HY11 HD11 HI11 HB11
    generalize w11.alloc (.cells #[.int .i64 (R : Int), .int .i64 (R : Int), .slice A6 m C6] 27) = w12 at *
    generalize w11.heap.size = b6 at *
    have HM12 := Lib.hid (HLB.out.below HB12.out (Nat.le_refl _))
    have HCV : Hid (∀ l7 : List Int, (∀ i k, i < R → k < R → co l7 (i * R + k) = dots (fun x => co l4 (i * R + x)) (fun x => co l (x * R + k)) R) → ∀ i k, i < R → k < R → co l7 (i * R + k) = (fun i k => if i = k then 1 else 0) i k) := Lib.hid (fun l7 h i k hi hk => by
      rw [h i k hi hk, dots_congr R (fun x hx => HC4.out i x hi hx) (fun _ _ => rfl)]
      exact HV.out i k hi hk)
    have HCW : Hid (∀ l7 : List Int, (∀ i k, i < R → k < R → co l7 (i * R + k) = dots (fun x => co l (i * R + x)) (fun x => co l4 (x * R + k)) R) → ∀ i k, i < R → k < R → co l7 (i * R + k) = (fun i k => if i = k then 1 else 0) i k) := Lib.hid (fun l7 h i k hi hk => by
      rw [h i k hi hk, dots_congr R (fun _ _ => rfl) (fun x hx => HC4.out x k hx hk)]
      exact HLF.out V HV.out i k hi hk)
    have HS : Hid (∀ w', Below w12.heap.size w12 w' → Below w12.heap.size w12 w' ∧ w'.cell? ⟨w.heap.size, 0, none⟩ = some (.int .i64 (R : Int)) ∧ w'.cell? ⟨w.heap.size, 1, none⟩ = some (.int .i64 (R : Int)) ∧ w'.cell? ⟨w.heap.size, 2, none⟩ = some (.slice a m cap) ∧
        w'.cell? ⟨w4.heap.size, 0, none⟩ = some (.int .i64 (R : Int)) ∧ w'.cell? ⟨w4.heap.size, 1, none⟩ = some (.int .i64 (R : Int)) ∧ w'.cell? ⟨w4.heap.size, 2, none⟩ = some (.slice (some ⟨g4, 0, none⟩) m m) ∧
        w'.cell? ⟨b6, 0, none⟩ = some (.int .i64 (R : Int)) ∧ w'.cell? ⟨b6, 1, none⟩ = some (.int .i64 (R : Int)) ∧ w'.cell? ⟨b6, 2, none⟩ = some (.slice A6 m C6)) :=
      Lib.hid (fun w' h => ⟨h, (HX12.out.below h HX12.out.lt).cells.1, (HX12.out.below h HX12.out.lt).cells.2.1, (HX12.out.below h HX12.out.lt).cells.2.2.1, (HY12.out.below h HY12.out.lt).cells.1, (HY12.out.below h HY12.out.lt).cells.2.1, (HY12.out.below h HY12.out.lt).cells.2.2.1, (HZ.out.below h HZ.out.lt).cells.1, (HZ.out.below h HZ.out.lt).cells.2.1, (HZ.out.below h HZ.out.lt).cells.2.2.1⟩)
    go_region_held3 (fun w' => Below w12.heap.size w12 w' ∧ w'.cell? ⟨w.heap.size, 0, none⟩ = some (.int .i64 (R : Int)) ∧ w'.cell? ⟨w.heap.size, 1, none⟩ = some (.int .i64 (R : Int)) ∧ w'.cell? ⟨w.heap.size, 2, none⟩ = some (.slice a m cap) ∧
        w'.cell? ⟨w4.heap.size, 0, none⟩ = some (.int .i64 (R : Int)) ∧ w'.cell? ⟨w4.heap.size, 1, none⟩ = some (.int .i64 (R : Int)) ∧ w'.cell? ⟨w4.heap.size, 2, none⟩ = some (.slice (some ⟨g4, 0, none⟩) m m) ∧
        w'.cell? ⟨b6, 0, none⟩ = some (.int .i64 (R : Int)) ∧ w'.cell? ⟨b6, 1, none⟩ = some (.int .i64 (R : Int)) ∧ w'.cell? ⟨b6, 2, none⟩ = some (.slice A6 m C6))
      (first
        | exact HS.out _ c8
        | exact HS.out _ c7
        | exact HS.out _ c6
        | exact HS.out _ c5
        | exact HS.out _ c4
        | exact HS.out _ c3
        | exact HS.out _ c2
        | exact HS.out _ c1
        | exact HS.out _ (Below.refl _ _)
        | exact HS.out _ (Below.refl _ _).drew)
      (first
        | (go_at_call 12; (with_reducible refine (ref_any _ _ (some ⟨g4, 0, none⟩) m m _).mono ?_); rintro e w18 ⟨rfl, hb6⟩; have c6 := c5.trans (hb6.mono c5.size); clear hb6)
        | (go_at_call 12; (with_reducible refine (HRF.out _).mono ?_); rintro e w17 ⟨rfl, hb5⟩; have c5 := c4.trans (hb5.mono c4.size); clear hb5)
        | (go_at_call 12; (with_reducible refine (ref_any _ _ (some ⟨g4, 0, none⟩) m m _).mono ?_); rintro e w13 ⟨rfl, hb1⟩; have c1 := (Below.refl w12.heap.size w12).drew.trans hb1; clear hb1)
        | (go_at_call 12; (with_reducible refine (HRF.out _).mono ?_); rintro e w14 ⟨rfl, hb2⟩; have c2 := c1.trans (hb2.mono c1.size); clear hb2)
        | (go_at_call 26; (with_reducible refine (HMU.out w18 a cap l _ _ l4 (HM12.out.below c6 (Nat.le_refl _)) ((HD12.out.below c6 HD12.out.lt).sl (by omega))).mono ?_); rintro e w19 ⟨A8, C8, l8, rfl, hs8, hc8, hb7⟩; have c7 := c6.trans (hb7.mono c6.size); clear hb7)
        | (go_at_call 26; (with_reducible refine (HMU.out w14 _ _ l4 a cap l ((HD12.out.below c2 HD12.out.lt).sl (by omega)) (HM12.out.below c2 (Nat.le_refl _))).mono ?_); rintro e w15 ⟨A7, C7, l7, rfl, hs7, hc7, hb3⟩; have c3 := c2.trans (hb3.mono c2.size); clear hb3)
        | (go_at_call 21; (with_reducible refine (HSAME.out w19 A8 C8 l8 A6 C6 l6 _ hs8 (HI12.out.below c7 (Nat.le_refl _)) (HCW.out l8 hc8) HCI.out).mono ?_); rintro e w20 ⟨rfl, hb8⟩; have c8 := c7.trans (hb8.mono c7.size); clear hb8)
        | (go_at_call 21; (with_reducible refine (HSAME.out w15 A7 C7 l7 A6 C6 l6 _ hs7 (HI12.out.below c3 (Nat.le_refl _)) (HCV.out l7 hc7) HCI.out).mono ?_); rintro e w16 ⟨rfl, hb4⟩; have c4 := c3.trans (hb4.mono c3.size); clear hb4))
    all_goals
      have HF := Lib.hid (HB12.out.trans (c8.mono HB12.out.size))
      clear c1 c2 c3 c4 c5 c6 c7 c8
      go_wp2
      go_ret
      exact ⟨rfl, HF.out⟩
set_option maxRecDepth 100000 in
theorem inverts_great (r c : Int) (a : Option Addr) (n cap : Nat) (w : World) (hs : ¬ SmallM r c n) :
    Calls Try.prog 6 #[.agg #[.int .i64 r, .int .i64 c, .slice a n cap]] w fun e w' => e = .returned (.bool true) ∧ Below w.heap.size w w' := by
  have HAW := Lib.hid (fun w => awake5_any w)
  have HSM := Lib.hid (small_any r c a n cap)
  rw [decide_eq_false hs] at HSM
  clear hs
  go_enter Try.func6, Try.ntmps6
  go_wp2_with first
    | (go_at_call 10; refine (HAW.out _).mono ?_; rintro e w1 ⟨rfl, hb⟩; obtain ⟨hx, hbw⟩ := boxes1 hb; have HX := Lib.hid hx; have HB := Lib.hid hbw; clear hb hx hbw; obtain ⟨k0, k1, k2, kf⟩ := HX.out.cells)
    | (go_at_call 24; refine (HSM.out _).mono ?_; rintro e w2 ⟨rfl, hb⟩; have HB2 := Lib.hid (HB.out.trans (hb.mono HB.out.size)); clear hb)
  go_ret
  exact ⟨rfl, HB2.out⟩
theorem inverts_walk (r c : Int) (a : Option Addr) (n cap : Nat) (zs : List Int) (w : World) (hr : IsRow .u8 w a n cap zs) :
    Calls Try.prog 6 #[.agg #[.int .i64 r, .int .i64 c, .slice a n cap]] w fun e w' => e = .returned (.bool true) ∧ Below w.heap.size w w' := by
  by_cases hs : SmallM r c n
  case neg => exact inverts_great r c a n cap w hs
  by_cases hrm : RightM r c n ∧ r = c
  case neg => exact inverts_not r c a n cap w hs hrm
  obtain ⟨hrt, rfl⟩ := hrm
  have hl := hr.sl
  generalize zs.take n = l at hl
  obtain ⟨R, rfl⟩ : ∃ m : Nat, r = m := ⟨r.toNat, by have := hrt.1; omega⟩
  have hR : R ≤ 255 := by have := hrt.1; omega
  obtain rfl : n = R * R := by have := hrt.2.2; rw [← Int.natCast_mul] at this; omega
  by_cases hf : RankIs (En R l) R R R
  · exact inverts_full R a cap l w hR hs hl hf
  · exact inverts_low R a cap l w hR hs hl hf
end Go.Proofs.Ytipaolkgafhliaa
