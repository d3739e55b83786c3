/-
  Own text: the law MatrixMuls, walked.
-/
import Derived.Test.YtipaolkgafhliaaMPick
import Derived.Test.YtipaolkgafhliaaClone
namespace Go.Proofs.Ytipaolkgafhliaa
open Go.RowKit

theorem tab_drew {w3 w4 : World} {o : Obj} (h : IsTab w4 (w3.alloc o).drew.heap.size) : IsTab w4 (w3.heap.size + 1) := by
  have e : (w3.alloc o).drew.heap.size = w3.heap.size + 1 := World.size_alloc w3 o
  rwa [e] at h
theorem box_drew {w3 w4 : World} {x y z : Value} (hb : Below (w3.alloc (.cells #[x, y, z] 24)).drew.heap.size (w3.alloc (.cells #[x, y, z] 24)).drew w4) : Bx w4 w3.heap.size x y z ∧ Below w3.heap.size w3 w4 :=
  ⟨(show Bx (w3.alloc (.cells #[x, y, z] 24)).drew w3.heap.size x y z from alloc_bx w3 x y z).below hb (alloc_lt w3 _), ((Below.refl w3.heap.size w3).alloc (Nat.le_refl _) _).drew.trans (hb.mono (Nat.le_of_lt (alloc_lt w3 _)))⟩
set_option maxRecDepth 100000 in
theorem muls_great (r c r' c' : Int) (a b : Option Addr) (n n' ca cb : Nat) (w : World) (h : ¬ (SmallM r c n ∧ SmallM r' c' n')) :
    Calls Try.prog 4 #[.agg #[.int .i64 r, .int .i64 c, .slice a n ca], .agg #[.int .i64 r', .int .i64 c', .slice b n' cb]] w fun e w' => e = .returned (.bool true) ∧ Below w.heap.size w w' := by
  have HAW := Lib.hid (fun w => awake5_any w)
  have HSA := Lib.hid (small_any r c a n ca)
  have HSB := Lib.hid (small_any r' c' b n' cb)
  have hcase : decide (SmallM r c n) = false ∨ (decide (SmallM r c n) = true ∧ decide (SmallM r' c' n') = false) := by
    by_cases h1 : SmallM r c n
    · exact .inr ⟨decide_eq_true h1, decide_eq_false (fun h2 => h ⟨h1, h2⟩)⟩
    · exact .inl (decide_eq_false h1)
  clear h
  rcases hcase with h1 | ⟨h1, h2⟩
  all_goals
    rw [h1] at HSA
    try rw [h2] at HSB
    clear h1
    go_enter Try.func4, Try.ntmps4
    go_wp2_with first
      | (go_at_call 10; refine (HAW.out _).mono ?_; rintro e w1 ⟨rfl, hb⟩; obtain ⟨hxa, hxb, hbw⟩ := boxes2 hb; have HXA := Lib.hid hxa; have HXB := Lib.hid hxb; have HB1 := Lib.hid hbw; clear hb hxa hxb hbw; obtain ⟨k0, k1, k2, kf⟩ := HXA.out.cells; obtain ⟨j0, j1, j2, jf⟩ := HXB.out.cells)
      | (go_at_call 24; (with_reducible refine (HSA.out _).mono ?_); rintro e w2 ⟨rfl, hb⟩; have HB2 := Lib.hid hb; clear hb k0 k1 k2 kf j0 j1 j2 jf; obtain ⟨j0, j1, j2, jf⟩ := (HXB.out.below HB2.out HXB.out.lt).cells)
      | (go_at_call 24; (with_reducible refine (HSB.out _).mono ?_); rintro e w3 ⟨rfl, hb⟩; have HB3 := Lib.hid (HB2.out.trans (hb.mono HB2.out.size)); clear hb j0 j1 j2 jf)
    go_ret
    first
      | exact ⟨rfl, HB1.out.trans (HB3.out.mono HB1.out.size)⟩
      | exact ⟨rfl, HB1.out.trans (HB2.out.mono HB1.out.size)⟩
set_option maxRecDepth 100000 in
set_option maxHeartbeats 4000000 in
theorem muls_not (r c r' c' : Int) (a b : Option Addr) (n n' ca cb : Nat) (w : World) (hs1 : SmallM r c n) (hs2 : SmallM r' c' n') (h : ¬ FitM r c n r' c' n') :
    Calls Try.prog 4 #[.agg #[.int .i64 r, .int .i64 c, .slice a n ca], .agg #[.int .i64 r', .int .i64 c', .slice b n' cb]] w fun e w' => e = .returned (.bool true) ∧ Below w.heap.size w w' := by
  have HAW := Lib.hid (fun w => awake5_any w)
  have HSA := Lib.hid (small_any r c a n ca)
  have HSB := Lib.hid (small_any r' c' b n' cb)
  have HNE := Lib.hid (fun w => new_any w)
  have HML := Lib.hid (fun t w => mmul_none t r c r' c' a b n n' ca cb w h)
  have HRA := Lib.hid (fun w => ref_any r c a n ca w)
  have HRB := Lib.hid (fun w => ref_any r' c' b n' cb w)
  have HQA := Lib.hid (rright_any r c n a ca)
  have HQB := Lib.hid (rright_any r' c' n' b cb)
  have HNO := Lib.hid (fun w => none_any 0 0 none 0 0 w)
  rw [decide_eq_true (show (0 : Int) = 0 ∧ (0 : Int) = 0 ∧ 0 = 0 from ⟨rfl, rfl, rfl⟩)] at HNO
  rw [decide_eq_true hs1] at HSA
  rw [decide_eq_true hs2] at HSB
  unfold Refused at HML
  have hcase : decide (RightM r c n) = false ∨ (decide (RightM r c n) = true ∧ decide (RightM r' c' n') = false) ∨ (decide (RightM r c n) = true ∧ decide (RightM r' c' n') = true ∧ (c != r') = true) := by
    by_cases h1 : RightM r c n
    · by_cases h2 : RightM r' c' n'
      · refine .inr (.inr ⟨decide_eq_true h1, decide_eq_true h2, ?_⟩)
        have hne : ¬ c = r' := fun e => h ⟨h1, h2, e⟩
        simpa using hne
      · exact .inr (.inl ⟨decide_eq_true h1, decide_eq_false h2⟩)
    · exact .inl (decide_eq_false h1)
  clear h hs1 hs2
  go_enter Try.func4, Try.ntmps4
  go_wp2_with first
    | (go_at_call 10; refine (HAW.out _).mono ?_; rintro e w1 ⟨rfl, hb⟩; obtain ⟨hxa, hxb, hbw⟩ := boxes2 hb; have HXA := Lib.hid hxa; have HXB := Lib.hid hxb; have HB1 := Lib.hid hbw; clear hb hxa hxb hbw; obtain ⟨k0, k1, k2, kf⟩ := HXA.out.cells; obtain ⟨j0, j1, j2, jf⟩ := HXB.out.cells)
    | (go_at_call 24; (with_reducible refine (HSA.out _).mono ?_); rintro e w2 ⟨rfl, hb⟩; have HB2 := Lib.hid hb; clear hb k0 k1 k2 kf j0 j1 j2 jf; obtain ⟨j0, j1, j2, jf⟩ := (HXB.out.below HB2.out HXB.out.lt).cells)
    | (go_at_call 24; (with_reducible refine (HSB.out _).mono ?_); rintro e w3 ⟨rfl, hb⟩; have HB3 := Lib.hid (HB2.out.trans (hb.mono HB2.out.size)); clear hb j0 j1 j2 jf)
  have HXA3 := Lib.hid (HXA.out.below HB3.out HXA.out.lt)
  have HXB3 := Lib.hid (HXB.out.below HB3.out HXB.out.lt)
  have HB03 := Lib.hid (HB1.out.trans (HB3.out.mono HB1.out.size))
  clear HXA HXB HB1 HB2 HB3
  have HS : Hid (∀ w', Below w3.heap.size w3 w' → Below w3.heap.size w3 w' ∧ w'.cell? ⟨w.heap.size, 0, none⟩ = some (.int .i64 r) ∧ w'.cell? ⟨w.heap.size, 1, none⟩ = some (.int .i64 c) ∧ w'.cell? ⟨w.heap.size, 2, none⟩ = some (.slice a n ca) ∧ w'.cell? ⟨w.heap.size + 1, 0, none⟩ = some (.int .i64 r') ∧ w'.cell? ⟨w.heap.size + 1, 1, none⟩ = some (.int .i64 c') ∧ w'.cell? ⟨w.heap.size + 1, 2, none⟩ = some (.slice b n' cb)) :=
    Lib.hid (fun w' h => ⟨h, (HXA3.out.below h HXA3.out.lt).cells.1, (HXA3.out.below h HXA3.out.lt).cells.2.1, (HXA3.out.below h HXA3.out.lt).cells.2.2.1, (HXB3.out.below h HXB3.out.lt).cells.1, (HXB3.out.below h HXB3.out.lt).cells.2.1, (HXB3.out.below h HXB3.out.lt).cells.2.2.1⟩)
  go_region_held3 (fun w' => Below w3.heap.size w3 w' ∧ w'.cell? ⟨w.heap.size, 0, none⟩ = some (.int .i64 r) ∧ w'.cell? ⟨w.heap.size, 1, none⟩ = some (.int .i64 c) ∧ w'.cell? ⟨w.heap.size, 2, none⟩ = some (.slice a n ca) ∧ w'.cell? ⟨w.heap.size + 1, 0, none⟩ = some (.int .i64 r') ∧ w'.cell? ⟨w.heap.size + 1, 1, none⟩ = some (.int .i64 c') ∧ w'.cell? ⟨w.heap.size + 1, 2, none⟩ = some (.slice b n' cb))
    (first
      | exact HS.out _ c5
      | exact HS.out _ (c5.alloc c5.size _)
      | exact HS.out _ (below_set3 (c5.alloc c5.size _) c5.size)
      | exact HS.out _ (below_set3 c5 c4.size)
      | exact HS.out _ (below_set3 c5 (Nat.le_refl _))
      | exact HS.out _ c4
      | exact HS.out _ (c4.alloc c4.size _)
      | exact HS.out _ (Below.refl _ _)
      | exact HS.out _ (Below.refl _ _).drew
      | exact HS.out _ ((Below.refl _ _).drew.alloc (Nat.le_refl _) _)
      | exact HS.out _ ((Below.refl _ _).alloc (Nat.le_refl _) _).drew
      | fail "keep")
    (first
      | (go_at_call 18; refine (HNE.out _).mono ?_; rintro e w4 ⟨rfl, ht4, hb4⟩; have c4 := (Below.refl w3.heap.size w3).drew.trans hb4; have t4 : IsTab w4 w3.heap.size := ht4)
      | (go_at_call 18; refine (HNE.out _).mono ?_; rintro e w4 ⟨rfl, ht4, hb4⟩; obtain ⟨y4, c4⟩ := box_drew hb4; have t4 := tab_drew ht4)
      | (go_at_call 25; (with_reducible refine (HML.out _ w4).mono ?_); rintro e w5 ⟨rfl, hb5⟩; have c5 := c4.trans (hb5.mono c4.size); have y5 := y4.below hb5 y4.lt; obtain ⟨y0, y1, y2, yf⟩ := y5.cells)
      | (go_at_call 25; (with_reducible refine (HML.out _ w4).mono ?_); rintro e w5 ⟨rfl, hb5⟩; have c5 := c4.trans (hb5.mono c4.size))
      | (go_at_call 25; have t5 := t4.keep (Below.heap_alloc w4 (.cells #[.int .i64 0, .int .i64 0, .slice none 0 0] 24) _ t4.lt); have c4' := c4.alloc c4.size (.cells #[.int .i64 0, .int .i64 0, .slice none 0 0] 24); (with_reducible refine (HML.out _ _).mono ?_); rintro e w5 ⟨rfl, hb5⟩; have c5 := c4'.trans (hb5.mono c4'.size); have y5 := (alloc_bx w4 (.int .i64 0) (.int .i64 0) (.slice none 0 0)).below hb5 (alloc_lt _ _); obtain ⟨y0, y1, y2, yf⟩ := y5.cells)
      | fail "arm")
  all_goals first
    | (have y4' := y4; have c6 := below_set3 (b := w3.heap.size) (x := .int .i64 0) (y := .int .i64 0) (z := .slice none 0 0) c5 (Nat.le_refl w3.heap.size); have HY6 := Lib.hid (y5.write (x' := .int .i64 0) (y' := .int .i64 0) (z' := .slice none 0 0)); generalize ((w5.setCell ⟨w3.heap.size, 0, none⟩ (.int .i64 0)).setCell ⟨w3.heap.size, 1, none⟩ (.int .i64 0)).setCell ⟨w3.heap.size, 2, none⟩ (.slice none 0 0) = w6 at *; generalize w3.heap.size = b6 at HY6 ⊢)
    | (have y5' := y5; have c6 := below_set3 (b := w4.heap.size) (x := .int .i64 0) (y := .int .i64 0) (z := .slice none 0 0) c5 c4.size; have HY6 := Lib.hid (y5.write (x' := .int .i64 0) (y' := .int .i64 0) (z' := .slice none 0 0)); generalize ((w5.setCell ⟨w4.heap.size, 0, none⟩ (.int .i64 0)).setCell ⟨w4.heap.size, 1, none⟩ (.int .i64 0)).setCell ⟨w4.heap.size, 2, none⟩ (.slice none 0 0) = w6 at *; generalize w4.heap.size = b6 at HY6 ⊢)
    | (have c6 := c5.alloc c5.size (.cells #[.int .i64 0, .int .i64 0, .slice none 0 0] 24); have HY6 := Lib.hid (alloc_bx w5 (.int .i64 0) (.int .i64 0) (.slice none 0 0)); generalize w5.alloc (.cells #[.int .i64 0, .int .i64 0, .slice none 0 0] 24) = w6 at *; generalize w5.heap.size = b6 at HY6 ⊢)
  all_goals
    have HXA6 := Lib.hid (HXA3.out.below c6 HXA3.out.lt)
    have HXB6 := Lib.hid (HXB3.out.below c6 HXB3.out.lt)
    have HB6 := Lib.hid (HB03.out.trans (c6.mono HB03.out.size))
    have HC6 := Lib.hid trivial
    clear HXA3 HXB3 HB03 HS
    try clear y0 y1 y2 yf
    try clear y5
    try clear y4
    try clear c4'
    try clear y5'
    try clear y4'
    try clear t5
    clear c4 c5 c6 hb4 hb5 ht4 t4
    rename_i hHeld
    clear hHeld
    obtain ⟨k0, k1, k2, kf⟩ := HXA6.out.cells
    obtain ⟨j0, j1, j2, jf⟩ := HXB6.out.cells
    obtain ⟨v0, v1, v2, vf⟩ := HY6.out.cells
    rcases hcase with h1 | ⟨h1, h2⟩ | ⟨h1, h2, h3⟩
    all_goals
      rw [h1] at HQA
      try rw [h2] at HQB
      clear h1
      go_wp2_with first
        | (go_at_call 12; (with_reducible refine (HRA.out _).mono ?_); rintro e w7 ⟨rfl, hb⟩; have HB7 := Lib.hid (HB6.out.trans (hb.mono HB6.out.size)); have HXA7 := Lib.hid (HXA6.out.below hb HXA6.out.lt); have HXB7 := Lib.hid (HXB6.out.below hb HXB6.out.lt); have HY7 := Lib.hid (HY6.out.below hb HY6.out.lt); clear hb k0 k1 k2 kf j0 j1 j2 jf v0 v1 v2 vf; obtain ⟨k0, k1, k2, kf⟩ := HXA7.out.cells; obtain ⟨j0, j1, j2, jf⟩ := HXB7.out.cells; obtain ⟨v0, v1, v2, vf⟩ := HY7.out.cells)
        | (go_at_call 11; (with_reducible refine (HQA.out _).mono ?_); rintro e w8 ⟨rfl, hb⟩; have HB8 := Lib.hid (HB7.out.trans (hb.mono HB7.out.size)); have HXA8 := Lib.hid (HXA7.out.below hb HXA7.out.lt); have HXB8 := Lib.hid (HXB7.out.below hb HXB7.out.lt); have HY8 := Lib.hid (HY7.out.below hb HY7.out.lt); clear hb k0 k1 k2 kf j0 j1 j2 jf v0 v1 v2 vf; obtain ⟨k0, k1, k2, kf⟩ := HXA8.out.cells; obtain ⟨j0, j1, j2, jf⟩ := HXB8.out.cells; obtain ⟨v0, v1, v2, vf⟩ := HY8.out.cells)
        | (go_at_call 12; (with_reducible refine (HRB.out _).mono ?_); rintro e w9 ⟨rfl, hb⟩; have HB9 := Lib.hid (HB8.out.trans (hb.mono HB8.out.size)); have HXA9 := Lib.hid (HXA8.out.below hb HXA8.out.lt); have HXB9 := Lib.hid (HXB8.out.below hb HXB8.out.lt); have HY9 := Lib.hid (HY8.out.below hb HY8.out.lt); clear hb k0 k1 k2 kf j0 j1 j2 jf v0 v1 v2 vf; obtain ⟨k0, k1, k2, kf⟩ := HXA9.out.cells; obtain ⟨j0, j1, j2, jf⟩ := HXB9.out.cells; obtain ⟨v0, v1, v2, vf⟩ := HY9.out.cells)
        | (go_at_call 11; (with_reducible refine (HQB.out _).mono ?_); rintro e w10 ⟨rfl, hb⟩; have HB10 := Lib.hid (HB9.out.trans (hb.mono HB9.out.size)); have HXA10 := Lib.hid (HXA9.out.below hb HXA9.out.lt); have HXB10 := Lib.hid (HXB9.out.below hb HXB9.out.lt); have HY10 := Lib.hid (HY9.out.below hb HY9.out.lt); clear hb k0 k1 k2 kf j0 j1 j2 jf v0 v1 v2 vf; obtain ⟨k0, k1, k2, kf⟩ := HXA10.out.cells; obtain ⟨j0, j1, j2, jf⟩ := HXB10.out.cells; obtain ⟨v0, v1, v2, vf⟩ := HY10.out.cells)

        | (go_at_call 20; have HBl := Lib.hid HB10.out; refine (HNO.out _).mono ?_; rintro e w11 ⟨rfl, hb⟩; have HBF := Lib.hid (HBl.out.trans (hb.mono HBl.out.size)); clear hb)
        | (go_at_call 20; have HBl := Lib.hid HB8.out; refine (HNO.out _).mono ?_; rintro e w11 ⟨rfl, hb⟩; have HBF := Lib.hid (HBl.out.trans (hb.mono HBl.out.size)); clear hb)
      go_ret
      exact ⟨rfl, HBF.out⟩
set_option maxRecDepth 100000 in
set_option maxHeartbeats 4000000 in
theorem muls_fit (R N Cn : Nat) (hR : R ≤ 255) (hN : N ≤ 255) (hC : Cn ≤ 255) (a b : Option Addr) (ca cb : Nat) (la lb : List Int) (w : World) (ha : Sl w a (R * N) ca la) (hb : Sl w b (N * Cn) cb lb) (h1 : SmallM R N (R * N)) (h2 : SmallM N Cn (N * Cn)) :
    Calls Try.prog 4 #[.agg #[.int .i64 R, .int .i64 N, .slice a ((R * N : Nat)) ca], .agg #[.int .i64 N, .int .i64 Cn, .slice b ((N * Cn : Nat)) cb]] w fun e w' => e = .returned (.bool true) ∧ Below w.heap.size w w' := by
  have HSA := Lib.hid (small_any R N a (R * N) ca)
  have HSB := Lib.hid (small_any N Cn b (N * Cn) cb)
  rw [decide_eq_true h1] at HSA
  rw [decide_eq_true h2] at HSB
  have HAW := Lib.hid (fun w => awake5_any w)
  have HNE := Lib.hid (fun w => new_any w)
  have HML : Hid (∀ t wx, Below w.heap.size w wx → IsTab wx t → Calls Try.prog 25 #[.pointer (some ⟨t, 0, none⟩), .agg #[.int .i64 R, .int .i64 N, .slice a ((R * N : Nat)) ca], .agg #[.int .i64 N, .int .i64 Cn, .slice b ((N * Cn : Nat)) cb]] wx (Handed R Cn (fun i k => dots (fun j => co la (i * N + j)) (fun j => co lb (j * Cn + k)) N) wx)) :=
    Lib.hid (fun t wx h1 h2 => mmul_some t R N Cn hR hN hC a b ca cb la lb wx (ha.below h1 (Nat.le_refl _)) (hb.below h1 (Nat.le_refl _)) h2)
  have HRM : Hid (∀ wx, Below w.heap.size w wx → Calls Try.prog 26 #[.agg #[.int .i64 R, .int .i64 N, .slice a ((R * N : Nat)) ca], .agg #[.int .i64 N, .int .i64 Cn, .slice b ((N * Cn : Nat)) cb]] wx (HandedR R Cn (fun i k => dots (fun j => co la (i * N + j)) (fun j => co lb (j * Cn + k)) N) wx)) :=
    Lib.hid (fun wx h => rmulm_any R N Cn hR hN hC a b ca cb la lb wx (ha.bytes.below h (Nat.le_refl _)) (hb.bytes.below h (Nat.le_refl _)))
  have hm : R * Cn ≤ 65025 := Nat.mul_le_mul hR hC
  have HSAME : Hid (∀ wx g l5 A6 C6 l6 (F : Nat → Nat → Nat), Dat wx g (R * Cn) l5 → Sl wx A6 (R * Cn) C6 l6 → (∀ i k, i < R → k < Cn → co l5 (i * Cn + k) = F i k) → (∀ i k, i < R → k < Cn → co l6 (i * Cn + k) = F i k) →
      Calls Try.prog 21 #[.agg #[.int .i64 R, .int .i64 Cn, .slice (some ⟨g, 0, none⟩) ((R * Cn : Nat)) (R * Cn)], .agg #[.int .i64 R, .int .i64 Cn, .slice A6 ((R * Cn : Nat)) C6]] wx fun e w' => e = .returned (.bool true) ∧ Below wx.heap.size wx w') :=
    Lib.hid (fun wx g l5 A6 C6 l6 F h5 h6 c5 c6 => by
      have h5' := h5.sl (by omega)
      have e : l5 = l6 := rows_eq (r := R) (c := Cn) h5'.bytes.by_ h6.bytes.by_ h5'.bytes.size h6.bytes.size (fun i k hi hk => by rw [c5 i k hi hk, c6 i k hi hk])
      subst e
      exact rsame_true R Cn _ A6 (R * Cn) _ C6 l5 wx h5'.bytes h6.bytes)
  have HRA := Lib.hid (fun w => ref_any R N a (R * N) ca w)
  have HRB := Lib.hid (fun w => ref_any N Cn b (N * Cn) cb w)
  have HQA := Lib.hid (rright_any R N (R * N) a ca)
  have HQB := Lib.hid (rright_any N Cn (N * Cn) b cb)
  rw [decide_eq_true (show RightM R N (R * N) from ⟨⟨by omega, by omega⟩, ⟨by omega, by omega⟩, by omega⟩)] at HQA
  rw [decide_eq_true (show RightM N Cn (N * Cn) from ⟨⟨by omega, by omega⟩, ⟨by omega, by omega⟩, by omega⟩)] at HQB
  unfold Handed at HML
  unfold HandedR at HRM
  obtain ⟨m1, hm1e⟩ : ∃ m, R * N = m := ⟨_, rfl⟩
  obtain ⟨m2, hm2e⟩ : ∃ m, N * Cn = m := ⟨_, rfl⟩
  obtain ⟨m3, hm3e⟩ : ∃ m, R * Cn = m := ⟨_, rfl⟩
  rw [hm1e] at HSA HML HRM HRA HQA
  rw [hm2e] at HSB HML HRM HRB HQB
  rw [hm3e] at HML HRM HSAME hm
  rw [hm1e, hm2e]
  clear hm1e hm2e hm3e h1 h2 ha hb
  go_enter Try.func4, Try.ntmps4
  go_wp2_with first
    | (go_at_call 10; refine (HAW.out _).mono ?_; rintro e w1 ⟨rfl, hb⟩; obtain ⟨hxa, hxb, hbw⟩ := boxes2 hb; have HXA := Lib.hid hxa; have HXB := Lib.hid hxb; have HB1 := Lib.hid hbw; clear hb hxa hxb hbw; obtain ⟨k0, k1, k2, kf⟩ := HXA.out.cells; obtain ⟨j0, j1, j2, jf⟩ := HXB.out.cells)
    | (go_at_call 24; (with_reducible refine (HSA.out _).mono ?_); rintro e w2 ⟨rfl, hb⟩; have HB2 := Lib.hid hb; clear hb k0 k1 k2 kf j0 j1 j2 jf; obtain ⟨j0, j1, j2, jf⟩ := (HXB.out.below HB2.out HXB.out.lt).cells)
    | (go_at_call 24; (with_reducible refine (HSB.out _).mono ?_); rintro e w3 ⟨rfl, hb⟩; have HB3 := Lib.hid (HB2.out.trans (hb.mono HB2.out.size)); clear hb j0 j1 j2 jf)
  have HXA3 := Lib.hid (HXA.out.below HB3.out HXA.out.lt)
  have HXB3 := Lib.hid (HXB.out.below HB3.out HXB.out.lt)
  have HB03 := Lib.hid (HB1.out.trans (HB3.out.mono HB1.out.size))
  clear HXA HXB HB1 HB2 HB3
  have HS : Hid (∀ w', Below w3.heap.size w3 w' → Below w3.heap.size w3 w' ∧ w'.cell? ⟨w.heap.size, 0, none⟩ = some (.int .i64 (R : Int)) ∧ w'.cell? ⟨w.heap.size, 1, none⟩ = some (.int .i64 (N : Int)) ∧ w'.cell? ⟨w.heap.size, 2, none⟩ = some (.slice a m1 ca) ∧ w'.cell? ⟨w.heap.size + 1, 0, none⟩ = some (.int .i64 (N : Int)) ∧ w'.cell? ⟨w.heap.size + 1, 1, none⟩ = some (.int .i64 (Cn : Int)) ∧ w'.cell? ⟨w.heap.size + 1, 2, none⟩ = some (.slice b m2 cb)) :=
    Lib.hid (fun w' h => ⟨h, (HXA3.out.below h HXA3.out.lt).cells.1, (HXA3.out.below h HXA3.out.lt).cells.2.1, (HXA3.out.below h HXA3.out.lt).cells.2.2.1, (HXB3.out.below h HXB3.out.lt).cells.1, (HXB3.out.below h HXB3.out.lt).cells.2.1, (HXB3.out.below h HXB3.out.lt).cells.2.2.1⟩)
  go_region_held3 (fun w' => Below w3.heap.size w3 w' ∧ w'.cell? ⟨w.heap.size, 0, none⟩ = some (.int .i64 (R : Int)) ∧ w'.cell? ⟨w.heap.size, 1, none⟩ = some (.int .i64 (N : Int)) ∧ w'.cell? ⟨w.heap.size, 2, none⟩ = some (.slice a m1 ca) ∧ w'.cell? ⟨w.heap.size + 1, 0, none⟩ = some (.int .i64 (N : Int)) ∧ w'.cell? ⟨w.heap.size + 1, 1, none⟩ = some (.int .i64 (Cn : Int)) ∧ w'.cell? ⟨w.heap.size + 1, 2, none⟩ = some (.slice b m2 cb))
    (first
      | exact HS.out _ c5
      | exact HS.out _ (c5.alloc c5.size _)
      | exact HS.out _ (below_set3 (c5.alloc c5.size _) c5.size)
      | exact HS.out _ (below_set3 c5 c4.size)
      | exact HS.out _ (below_set3 c5 (Nat.le_refl _))
      | exact HS.out _ c4
      | exact HS.out _ (c4.alloc c4.size _)
      | exact HS.out _ (Below.refl _ _)
      | exact HS.out _ (Below.refl _ _).drew
      | exact HS.out _ ((Below.refl _ _).drew.alloc (Nat.le_refl _) _)
      | exact HS.out _ ((Below.refl _ _).alloc (Nat.le_refl _) _).drew
      | fail "keep")
    (first
      | (go_at_call 18; refine (HNE.out _).mono ?_; rintro e w4 ⟨rfl, ht4, hb4⟩; have c4 := (Below.refl w3.heap.size w3).drew.trans hb4; have t4 : IsTab w4 w3.heap.size := ht4)
      | (go_at_call 18; refine (HNE.out _).mono ?_; rintro e w4 ⟨rfl, ht4, hb4⟩; obtain ⟨y4, c4⟩ := box_drew hb4; have t4 := tab_drew ht4)
      | (go_at_call 25; (with_reducible refine (HML.out _ w4 (HB03.out.trans (c4.mono HB03.out.size)) t4).mono ?_); rintro e w5 ⟨g, l5, rfl, hg5, hd5, hc5, hb5⟩; have c5 := c4.trans (hb5.mono c4.size); have y5 := y4.below hb5 y4.lt; obtain ⟨y0, y1, y2, yf⟩ := y5.cells)
      | (go_at_call 25; (with_reducible refine (HML.out _ w4 (HB03.out.trans (c4.mono HB03.out.size)) t4).mono ?_); rintro e w5 ⟨g, l5, rfl, hg5, hd5, hc5, hb5⟩; have c5 := c4.trans (hb5.mono c4.size))
      | (go_at_call 25; have t5 := t4.keep (Below.heap_alloc w4 (.cells #[.int .i64 0, .int .i64 0, .slice none 0 0] 24) _ t4.lt); have c4' := c4.alloc c4.size (.cells #[.int .i64 0, .int .i64 0, .slice none 0 0] 24); (with_reducible refine (HML.out _ _ (HB03.out.trans (c4'.mono HB03.out.size)) t5).mono ?_); rintro e w5 ⟨g, l5, rfl, hg5, hd5, hc5, hb5⟩; have c5 := c4'.trans (hb5.mono c4'.size); have y5 := (alloc_bx w4 (.int .i64 0) (.int .i64 0) (.slice none 0 0)).below hb5 (alloc_lt _ _); obtain ⟨y0, y1, y2, yf⟩ := y5.cells)
      | fail "arm")
  all_goals first
    | (have y4' := y4; have c6 := below_set3 (b := w3.heap.size) (x := .int .i64 (R : Int)) (y := .int .i64 (Cn : Int)) (z := .slice (some ⟨g, 0, none⟩) m3 m3) c5 (Nat.le_refl w3.heap.size); have HY6 := Lib.hid (y5.write (x' := .int .i64 (R : Int)) (y' := .int .i64 (Cn : Int)) (z' := .slice (some ⟨g, 0, none⟩) m3 m3)); have HD6 := Lib.hid (dat_set3 (b := w3.heap.size) (x := .int .i64 (R : Int)) (y := .int .i64 (Cn : Int)) (z := .slice (some ⟨g, 0, none⟩) m3 m3) hd5 (Nat.ne_of_gt (Nat.lt_of_lt_of_le y4.lt hg5))); generalize ((w5.setCell ⟨w3.heap.size, 0, none⟩ (.int .i64 (R : Int))).setCell ⟨w3.heap.size, 1, none⟩ (.int .i64 (Cn : Int))).setCell ⟨w3.heap.size, 2, none⟩ (.slice (some ⟨g, 0, none⟩) m3 m3) = w6 at *; generalize w3.heap.size = b6 at HY6 ⊢)
    | (have y5' := y5; have c6 := below_set3 (b := w4.heap.size) (x := .int .i64 (R : Int)) (y := .int .i64 (Cn : Int)) (z := .slice (some ⟨g, 0, none⟩) m3 m3) c5 c4.size; have HY6 := Lib.hid (y5.write (x' := .int .i64 (R : Int)) (y' := .int .i64 (Cn : Int)) (z' := .slice (some ⟨g, 0, none⟩) m3 m3)); have HD6 := Lib.hid (dat_set3 (b := w4.heap.size) (x := .int .i64 (R : Int)) (y := .int .i64 (Cn : Int)) (z := .slice (some ⟨g, 0, none⟩) m3 m3) hd5 (Nat.ne_of_gt (Nat.lt_of_lt_of_le (alloc_lt w4 _) hg5))); generalize ((w5.setCell ⟨w4.heap.size, 0, none⟩ (.int .i64 (R : Int))).setCell ⟨w4.heap.size, 1, none⟩ (.int .i64 (Cn : Int))).setCell ⟨w4.heap.size, 2, none⟩ (.slice (some ⟨g, 0, none⟩) m3 m3) = w6 at *; generalize w4.heap.size = b6 at HY6 ⊢)
    | (have c6 := c5.alloc c5.size (.cells #[.int .i64 (R : Int), .int .i64 (Cn : Int), .slice (some ⟨g, 0, none⟩) m3 m3] 24); have HY6 := Lib.hid (alloc_bx w5 (.int .i64 (R : Int)) (.int .i64 (Cn : Int)) (.slice (some ⟨g, 0, none⟩) m3 m3)); have HD6 := Lib.hid (hd5.keep (Below.heap_alloc _ (.cells #[.int .i64 (R : Int), .int .i64 (Cn : Int), .slice (some ⟨g, 0, none⟩) m3 m3] 24) _ hd5.lt)); generalize w5.alloc (.cells #[.int .i64 (R : Int), .int .i64 (Cn : Int), .slice (some ⟨g, 0, none⟩) m3 m3] 24) = w6 at *; generalize w5.heap.size = b6 at HY6 ⊢)
  all_goals
    have HXA6 := Lib.hid (HXA3.out.below c6 HXA3.out.lt)
    have HXB6 := Lib.hid (HXB3.out.below c6 HXB3.out.lt)
    have HB6 := Lib.hid (HB03.out.trans (c6.mono HB03.out.size))
    have HC6 := Lib.hid hc5
    clear HXA3 HXB3 HB03 HS
    try clear y0 y1 y2 yf
    try clear y5
    try clear y4
    try clear c4'
    try clear y5'
    try clear y4'
    try clear t5
    clear c4 c5 c6 hb4 hb5 ht4 t4 hg5 hd5 hc5
    rename_i hHeld
    clear hHeld
    obtain ⟨k0, k1, k2, kf⟩ := HXA6.out.cells
    obtain ⟨j0, j1, j2, jf⟩ := HXB6.out.cells
    obtain ⟨v0, v1, v2, vf⟩ := HY6.out.cells
    go_wp2_with first
      | (go_at_call 12; (with_reducible refine (HRA.out _).mono ?_); rintro e w7 ⟨rfl, hb⟩; have HB7 := Lib.hid (HB6.out.trans (hb.mono HB6.out.size)); have HXA7 := Lib.hid (HXA6.out.below hb HXA6.out.lt); have HXB7 := Lib.hid (HXB6.out.below hb HXB6.out.lt); have HY7 := Lib.hid (HY6.out.below hb HY6.out.lt); have HD7 := Lib.hid (HD6.out.below hb HD6.out.lt); clear hb k0 k1 k2 kf j0 j1 j2 jf v0 v1 v2 vf; obtain ⟨k0, k1, k2, kf⟩ := HXA7.out.cells; obtain ⟨j0, j1, j2, jf⟩ := HXB7.out.cells; obtain ⟨v0, v1, v2, vf⟩ := HY7.out.cells)
      | (go_at_call 11; (with_reducible refine (HQA.out _).mono ?_); rintro e w8 ⟨rfl, hb⟩; have HB8 := Lib.hid (HB7.out.trans (hb.mono HB7.out.size)); have HXA8 := Lib.hid (HXA7.out.below hb HXA7.out.lt); have HXB8 := Lib.hid (HXB7.out.below hb HXB7.out.lt); have HY8 := Lib.hid (HY7.out.below hb HY7.out.lt); have HD8 := Lib.hid (HD7.out.below hb HD7.out.lt); clear hb k0 k1 k2 kf j0 j1 j2 jf v0 v1 v2 vf; obtain ⟨k0, k1, k2, kf⟩ := HXA8.out.cells; obtain ⟨j0, j1, j2, jf⟩ := HXB8.out.cells; obtain ⟨v0, v1, v2, vf⟩ := HY8.out.cells)
      | (go_at_call 12; (with_reducible refine (HRB.out _).mono ?_); rintro e w9 ⟨rfl, hb⟩; have HB9 := Lib.hid (HB8.out.trans (hb.mono HB8.out.size)); have HXA9 := Lib.hid (HXA8.out.below hb HXA8.out.lt); have HXB9 := Lib.hid (HXB8.out.below hb HXB8.out.lt); have HY9 := Lib.hid (HY8.out.below hb HY8.out.lt); have HD9 := Lib.hid (HD8.out.below hb HD8.out.lt); clear hb k0 k1 k2 kf j0 j1 j2 jf v0 v1 v2 vf; obtain ⟨k0, k1, k2, kf⟩ := HXA9.out.cells; obtain ⟨j0, j1, j2, jf⟩ := HXB9.out.cells; obtain ⟨v0, v1, v2, vf⟩ := HY9.out.cells)
      | (go_at_call 11; (with_reducible refine (HQB.out _).mono ?_); rintro e w10 ⟨rfl, hb⟩; have HB10 := Lib.hid (HB9.out.trans (hb.mono HB9.out.size)); have HXA10 := Lib.hid (HXA9.out.below hb HXA9.out.lt); have HXB10 := Lib.hid (HXB9.out.below hb HXB9.out.lt); have HY10 := Lib.hid (HY9.out.below hb HY9.out.lt); have HD10 := Lib.hid (HD9.out.below hb HD9.out.lt); clear hb k0 k1 k2 kf j0 j1 j2 jf v0 v1 v2 vf; obtain ⟨k0, k1, k2, kf⟩ := HXA10.out.cells; obtain ⟨j0, j1, j2, jf⟩ := HXB10.out.cells; obtain ⟨v0, v1, v2, vf⟩ := HY10.out.cells)
    clear k0 k1 k2 kf j0 j1 j2 jf v0 v1 v2 vf
    have HS : Hid (∀ w', Below w10.heap.size w10 w' → Below w10.heap.size w10 w' ∧ w'.cell? ⟨w.heap.size, 0, none⟩ = some (.int .i64 (R : Int)) ∧ w'.cell? ⟨w.heap.size, 1, none⟩ = some (.int .i64 (N : Int)) ∧ w'.cell? ⟨w.heap.size, 2, none⟩ = some (.slice a m1 ca) ∧ w'.cell? ⟨w.heap.size + 1, 0, none⟩ = some (.int .i64 (N : Int)) ∧ w'.cell? ⟨w.heap.size + 1, 1, none⟩ = some (.int .i64 (Cn : Int)) ∧ w'.cell? ⟨w.heap.size + 1, 2, none⟩ = some (.slice b m2 cb) ∧ w'.cell? ⟨b6, 0, none⟩ = some (.int .i64 (R : Int)) ∧ w'.cell? ⟨b6, 1, none⟩ = some (.int .i64 (Cn : Int)) ∧ w'.cell? ⟨b6, 2, none⟩ = some (.slice (some ⟨g, 0, none⟩) m3 m3)) :=
      Lib.hid (fun w' h => ⟨h, (HXA10.out.below h HXA10.out.lt).cells.1, (HXA10.out.below h HXA10.out.lt).cells.2.1, (HXA10.out.below h HXA10.out.lt).cells.2.2.1, (HXB10.out.below h HXB10.out.lt).cells.1, (HXB10.out.below h HXB10.out.lt).cells.2.1, (HXB10.out.below h HXB10.out.lt).cells.2.2.1, (HY10.out.below h HY10.out.lt).cells.1, (HY10.out.below h HY10.out.lt).cells.2.1, (HY10.out.below h HY10.out.lt).cells.2.2.1⟩)
    go_region_held3 (fun w' => Below w10.heap.size w10 w' ∧ w'.cell? ⟨w.heap.size, 0, none⟩ = some (.int .i64 (R : Int)) ∧ w'.cell? ⟨w.heap.size, 1, none⟩ = some (.int .i64 (N : Int)) ∧ w'.cell? ⟨w.heap.size, 2, none⟩ = some (.slice a m1 ca) ∧ w'.cell? ⟨w.heap.size + 1, 0, none⟩ = some (.int .i64 (N : Int)) ∧ w'.cell? ⟨w.heap.size + 1, 1, none⟩ = some (.int .i64 (Cn : Int)) ∧ w'.cell? ⟨w.heap.size + 1, 2, none⟩ = some (.slice b m2 cb) ∧ w'.cell? ⟨b6, 0, none⟩ = some (.int .i64 (R : Int)) ∧ w'.cell? ⟨b6, 1, none⟩ = some (.int .i64 (Cn : Int)) ∧ w'.cell? ⟨b6, 2, none⟩ = some (.slice (some ⟨g, 0, none⟩) m3 m3))
      (first
        | exact HS.out _ c5
        | exact HS.out _ c4
        | exact HS.out _ c3
        | exact HS.out _ c2
        | exact HS.out _ c1
        | exact HS.out _ (Below.refl _ _)
        | exact HS.out _ (Below.refl _ _).drew
        | fail "keep")
      (first
        | (go_at_call 12; (with_reducible refine (ref_any _ _ (some ⟨g, 0, none⟩) m3 m3 _).mono ?_); rintro e w11 ⟨rfl, hb1⟩; have c1 := (Below.refl w10.heap.size w10).drew.trans hb1; clear hb1)
        | (go_at_call 12; (with_reducible refine (HRA.out _).mono ?_); rintro e w12 ⟨rfl, hb2⟩; have c2 := c1.trans (hb2.mono c1.size); clear hb2)
        | (go_at_call 12; (with_reducible refine (HRB.out _).mono ?_); rintro e w13 ⟨rfl, hb3⟩; have c3 := c2.trans (hb3.mono c2.size); clear hb3)
        | (go_at_call 26; refine (HRM.out w13 (HB10.out.trans (c3.mono HB10.out.size))).mono ?_; rintro e w14 ⟨A6, C6, l6, rfl, hs6, hc6, hb4⟩; have c4 := c3.trans (hb4.mono c3.size); clear hb4)
        | (go_at_call 21; refine (HSAME.out w14 g l5 A6 C6 l6 _ (HD10.out.below c4 HD10.out.lt) hs6 HC6.out hc6).mono ?_; rintro e w15 ⟨rfl, hb5⟩; have c5 := c4.trans (hb5.mono c4.size); clear hb5)
        | fail "arm")
    all_goals
      have HF := Lib.hid (HB10.out.trans (c5.mono HB10.out.size))
      clear c1 c2 c3 c4 c5
      go_wp2
      go_ret
      exact ⟨rfl, HF.out⟩
theorem muls_walk (r c : Int) (a : Option Addr) (n ca : Nat) (zs : List Int) (r' c' : Int) (b : Option Addr) (n' cb : Nat) (zs' : List Int) (w : World) (hr : IsRow .u8 w a n ca zs) (hr' : IsRow .u8 w b n' cb zs') :
    Calls Try.prog 4 #[.agg #[.int .i64 r, .int .i64 c, .slice a n ca], .agg #[.int .i64 r', .int .i64 c', .slice b n' cb]] w fun e w' => e = .returned (.bool true) ∧ Below w.heap.size w w' := by
  by_cases hs : SmallM r c n ∧ SmallM r' c' n'
  case neg => exact muls_great r c r' c' a b n n' ca cb w hs
  by_cases hf : FitM r c n r' c' n'
  case neg => exact muls_not r c r' c' a b n n' ca cb w hs.1 hs.2 hf
  have ha := hr.sl
  have hb := hr'.sl
  generalize zs.take n = la at ha
  generalize zs'.take n' = lb at hb
  obtain ⟨h1, h2, rfl⟩ := hf
  obtain ⟨R, rfl⟩ : ∃ m : Nat, r = m := ⟨r.toNat, by have := h1.1; omega⟩
  obtain ⟨N, rfl⟩ : ∃ m : Nat, c = m := ⟨c.toNat, by have := h1.2.1; omega⟩
  obtain ⟨Cn, rfl⟩ : ∃ m : Nat, c' = m := ⟨c'.toNat, by have := h2.2.1; omega⟩
  obtain rfl : n = R * N := by have := h1.2.2; rw [← Int.natCast_mul] at this; omega
  obtain rfl : n' = N * Cn := by have := h2.2.2; rw [← Int.natCast_mul] at this; omega
  exact muls_fit R N Cn (by have := h1.1; omega) (by have := h1.2.1; omega) (by have := h2.2.1; omega) a b ca cb la lb w ha hb hs.1 hs.2
end Go.Proofs.Ytipaolkgafhliaa
