/-
  Own text: Pick of package matrix, walked.
-/
import Derived.Test.YtipaolkgafhliaaRPick
import Derived.Test.YtipaolkgafhliaaMMul
namespace Go.Proofs.Ytipaolkgafhliaa
open Go.RowKit

/-- Two boxes, later on. -/
theorem boxes2 {w w1 : World} {x0 x1 x2 y0 y1 y2 : Value}
    (hb : Below ((w.alloc (.cells #[x0, x1, x2] 24)).alloc (.cells #[y0, y1, y2] 24)).heap.size ((w.alloc (.cells #[x0, x1, x2] 24)).alloc (.cells #[y0, y1, y2] 24)) w1) :
    Bx w1 w.heap.size x0 x1 x2 ∧ Bx w1 (w.heap.size + 1) y0 y1 y2 ∧ Below w.heap.size w w1 :=
  ⟨(hb.block _ (alloc_lt2 _ _ _)).trans (alloc_two w _ _ _), (hb.block (w.heap.size + 1) (alloc_lt3 _ _ _)).trans (alloc_last w _ _ _), (((Below.refl _ w).alloc (Nat.le_refl _) _).alloc (Nat.le_of_lt (alloc_lt _ _)) _).trans (hb.mono (Nat.le_of_lt (alloc_lt2 _ _ _)))⟩
/-- May these rows be picked? -/
def PickM (r c : Int) (n R : Nat) (P : Nat → Int) : Prop := RightM r c n ∧ R ≤ 255 ∧ ∀ i, i < R → 0 ≤ P i ∧ P i < r
/-- A slice that reads as so many numbers, of any sign. -/
def Ints (w : World) (a : Option Addr) (n : Nat) (P : Nat → Int) : Prop := n = 0 ∨ ∃ b off, a = some ⟨b, off, none⟩ ∧ b < w.heap.size ∧ ∀ i, i < n → w.cell? ⟨b, off + i, none⟩ = some (.int .i64 (P i))
theorem Ints.below {w w' : World} {a : Option Addr} {n B : Nat} {P : Nat → Int} (h : Ints w a n P) (hb : Below B w w') (hB : w.heap.size ≤ B) : Ints w' a n P :=
  h.imp id fun ⟨b, off, e, hl, hc⟩ => ⟨b, off, e, Nat.lt_of_lt_of_le hl hb.size, fun i hi => (hb.cell (p := ⟨b, off + i, none⟩) (by show b < B; omega)).trans (hc i hi)⟩
set_option maxRecDepth 100000 in
set_option maxHeartbeats 1000000 in
theorem mpick_size (r c : Int) (a aP : Option Addr) (n cap R capP : Nat) (w : World) (h : ¬ (RightM r c n ∧ R ≤ 255)) (hR : R ≤ 9223372036854775807) :
    Calls Try.prog 28 #[.agg #[.int .i64 r, .int .i64 c, .slice a n cap], .slice aP R capP] w (Refused 50 w) := by
  have HR := Lib.hid (right_any r c n a cap)
  have HF := Lib.hid (fits_any (R : Int))
  have hcase : (decide (RightM r c n) = false ∧ True) ∨ (decide (RightM r c n) = true ∧ decide ((0 : Int) ≤ (R : Int) ∧ (R : Int) ≤ 255) = false) := by
    by_cases h1 : RightM r c n
    · exact .inr ⟨decide_eq_true h1, decide_eq_false (fun g => h ⟨h1, by omega⟩)⟩
    · exact .inl ⟨decide_eq_false h1, trivial⟩
  clear h
  rcases hcase with ⟨h1, h2⟩ | ⟨h1, h2⟩
  all_goals
    rw [h1] at HR
    try rw [h2] at HF
    clear h1 h2
    go_enter Try.func28, Try.ntmps28
    go_wp2_with first
      | (go_at_call 13; refine (HR.out _).mono ?_; rintro e w1 ⟨rfl, hb⟩; obtain ⟨hxa, hxr, hbw⟩ := boxes2 hb; have HXR := Lib.hid hxr; have HB := Lib.hid hbw; clear hb hxa hxr hbw; obtain ⟨r0, r1, r2, rf⟩ := HXR.out.cells)
      | (go_at_call 36; refine (HF.out _).mono ?_; rintro e w2 ⟨rfl, rfl⟩)
    clear r0 r1 r2 rf
    obtain ⟨z0, z1, z2, _⟩ := (HXR.out.write (x' := .int .i64 0) (y' := .int .i64 0) (z' := .slice none 0 0)).cells
    refine bodyPost_ret (v := .tuple #[.agg #[.int .i64 0, .int .i64 0, .slice none 0 0], .int .i64 50]) (by simp [results, Try.results28, go_sem, z0, z1, z2]) rfl ?_
    exact ⟨rfl, below_set3 HB.out (by omega)⟩
/-- What Pick answers: all, or nothing. -/
def Picked (r c R : Nat) (P : Nat → Int) (l : List Int) (w : World) (e : Ending) (w' : World) : Prop :=
  ((∀ i, i < R → 0 ≤ P i ∧ P i < r) ∧ Handed R c (fun i k => co l ((P i).toNat * c + k)) w e w') ∨ ((¬ ∀ i, i < R → 0 ≤ P i ∧ P i < r) ∧ Refused 50 w e w')
set_option maxRecDepth 100000 in
set_option maxHeartbeats 4000000 in
theorem mpick_any (r c R cap capP : Nat) (hr : r ≤ 255) (hc : c ≤ 255) (hR : R ≤ 255) (a aP : Option Addr) (l : List Int) (P : Nat → Int) (w : World) (ha : Sl w a (r * c) cap l) (hP : Ints w aP R P) :
    Calls Try.prog 28 #[.agg #[.int .i64 r, .int .i64 c, .slice a ((r * c : Nat)) cap], .slice aP R capP] w (Picked r c R P l w) := by
  have hm1 : r * c ≤ 65025 := Nat.mul_le_mul hr hc
  have hm2 : R * c ≤ 65025 := Nat.mul_le_mul hR hc
  have HR := Lib.hid (right_yes r c (r * c) hr hc rfl a cap)
  have HF := Lib.hid (fits_yes R hR)
  have HNW := Lib.hid (new_some R c hR hc)
  have HPM := Lib.hid (fun g => parts_any (some ⟨g, 0, none⟩) (R * c) (R * c) R c (by omega) (Nat.le_refl _) (Nat.le_refl _) (by omega) (fun h => nomatch h))
  have HPA := Lib.hid (parts_any a (r * c) cap r c (by omega) ha.cap (Nat.le_refl _) (by omega) ha.nilc)
  have HHS := Lib.hid (fun i w => has_any r c i (r * c) a cap w)
  have HBA := Lib.hid ha.bytes
  have HPI := Lib.hid hP
  have HLD := Lib.hid (laid_rows R c (R * c) (Nat.le_refl _))
  have HLE := Lib.hid (laid_rows r c (r * c) (Nat.le_refl _))
  unfold Newed at HNW
  unfold Picked Handed
  obtain ⟨m1, hm1e⟩ : ∃ m, r * c = m := ⟨_, rfl⟩
  obtain ⟨m2, hm2e⟩ : ∃ m, R * c = m := ⟨_, rfl⟩
  rw [hm1e] at hm1 HR HPA HHS HBA HLE
  rw [hm2e] at hm2 HNW HPM HLD
  rw [hm1e, hm2e]
  clear hm1e hm2e ha hP
  go_enter Try.func28, Try.ntmps28
  go_wp2_with first
    | (go_at_call 13; refine (HR.out _).mono ?_; rintro e w1 ⟨rfl, hb⟩; obtain ⟨hxa, hxr, hbw⟩ := boxes2 hb; have HXA := Lib.hid hxa; have HXR := Lib.hid hxr; have HB := Lib.hid hbw; clear hb hxa hxr hbw; obtain ⟨k0, k1, k2, kf⟩ := HXA.out.cells)
    | (go_at_call 36; refine (HF.out _).mono ?_; rintro e w2 ⟨rfl, rfl⟩)
    | (go_at_call 16; refine (HNW.out _).mono ?_; rintro e w3 ⟨g, rfl, hg, hr, hb⟩; have HG := Lib.hid hg; have HRO := Lib.hid hr; have HB3 := Lib.hid hb; clear hg hr hb k0 k1 k2 kf)
  have HO : Hid (w.heap.size + 1 < g ∧ g < w3.heap.size) := Lib.hid ⟨Nat.lt_of_lt_of_le HXR.out.lt HG.out, HRO.out.lt⟩
  have HB03 : Hid (Below w.heap.size w w3) := Lib.hid (HB.out.trans (HB3.out.mono HB.out.size))
  have HD3 : Hid (Dat w3 g m2 (List.replicate m2 0)) := Lib.hid (by
    have := HRO.out.dat (by_zero m2)
    rwa [List.length_replicate] at this)
  have HXA4 := Lib.hid (bx_alloc (HXA.out.below HB3.out HXA.out.lt) (.cells #[.int .i64 R, .int .i64 c, .slice (some ⟨g, 0, none⟩) m2 m2] 24))
  have HXR4 := Lib.hid (bx_alloc (HXR.out.below HB3.out HXR.out.lt) (.cells #[.int .i64 R, .int .i64 c, .slice (some ⟨g, 0, none⟩) m2 m2] 24))
  have HXM4 := Lib.hid (alloc_bx w3 (.int .i64 R) (.int .i64 c) (.slice (some ⟨g, 0, none⟩) m2 m2))
  have HD4 := Lib.hid (HD3.out.keep (Below.heap_alloc _ (.cells #[.int .i64 R, .int .i64 c, .slice (some ⟨g, 0, none⟩) m2 m2] 24) _ HD3.out.lt))
  have HB04 := Lib.hid (HB03.out.alloc HB03.out.size (.cells #[.int .i64 R, .int .i64 c, .slice (some ⟨g, 0, none⟩) m2 m2] 24))
  clear HXA HXR HB HB3 HG HRO HD3 HB03 HR HF HNW
  generalize w3.alloc (.cells #[.int .i64 R, .int .i64 c, .slice (some ⟨g, 0, none⟩) m2 m2] 24) = w4 at *
  generalize w3.heap.size = b6 at *
  have HS : Hid (∀ w', Below w4.heap.size w4 w' → Below w4.heap.size w4 w' ∧ w'.cell? ⟨w.heap.size, 0, none⟩ = some (.int .i64 (r : Int)) ∧ w'.cell? ⟨w.heap.size, 1, none⟩ = some (.int .i64 (c : Int)) ∧ w'.cell? ⟨w.heap.size, 2, none⟩ = some (.slice a m1 cap) ∧
      w'.cell? ⟨b6, 0, none⟩ = some (.int .i64 (R : Int)) ∧ w'.cell? ⟨b6, 1, none⟩ = some (.int .i64 (c : Int)) ∧ w'.cell? ⟨b6, 2, none⟩ = some (.slice (some ⟨g, 0, none⟩) m2 m2)) :=
    Lib.hid (fun w' h => ⟨h, (HXA4.out.below h HXA4.out.lt).cells.1, (HXA4.out.below h HXA4.out.lt).cells.2.1, (HXA4.out.below h HXA4.out.lt).cells.2.2.1, (HXM4.out.below h HXM4.out.lt).cells.1, (HXM4.out.below h HXM4.out.lt).cells.2.1, (HXM4.out.below h HXM4.out.lt).cells.2.2.1⟩)
  go_region_held3 (fun w' => Below w4.heap.size w4 w' ∧ w'.cell? ⟨w.heap.size, 0, none⟩ = some (.int .i64 (r : Int)) ∧ w'.cell? ⟨w.heap.size, 1, none⟩ = some (.int .i64 (c : Int)) ∧ w'.cell? ⟨w.heap.size, 2, none⟩ = some (.slice a m1 cap) ∧
      w'.cell? ⟨b6, 0, none⟩ = some (.int .i64 (R : Int)) ∧ w'.cell? ⟨b6, 1, none⟩ = some (.int .i64 (c : Int)) ∧ w'.cell? ⟨b6, 2, none⟩ = some (.slice (some ⟨g, 0, none⟩) m2 m2))
    (first
      | exact HS.out _ (Below.refl _ _)
      | exact HS.out _ (Below.refl _ _).drew
      | exact HS.out _ (((Below.refl _ _).drew.trans hb5).trans (hb6.mono hb5.size))
      | exact HS.out _ ((Below.refl _ _).drew.trans hb5))
    (first
      | (go_at_call 39; (with_reducible refine (HPM.out g _).mono ?_); rintro e w5 ⟨h, rfl, hh, hl, hb5⟩)
      | (go_at_call 39; (with_reducible refine (HPA.out _).mono ?_); rintro e w6 ⟨h2, rfl, hh2, hl2, hb6⟩))
  have HB46 : Hid (Below w4.heap.size w4 w6) := Lib.hid (((Below.refl _ _).drew.trans hb5).trans (hb6.mono hb5.size))
  have HLI : Hid (Lst w6 h R c (fun i => onA (some ⟨g, 0, none⟩) (i * c))) := Lib.hid (hl.below hb6 hl.lt)
  have HLF := Lib.hid hl2
  have HO2 : Hid (g < h ∧ g < h2) := Lib.hid ⟨Nat.lt_of_lt_of_le HD4.out.lt hh, Nat.lt_of_lt_of_le HD4.out.lt (Nat.le_trans hb5.size hh2)⟩
  rename_i hHeld
  clear hHeld hh hl hb5 hh2 hl2 hb6
  have HXA6 := Lib.hid (HXA4.out.below HB46.out HXA4.out.lt)
  have HXR6 := Lib.hid (HXR4.out.below HB46.out HXR4.out.lt)
  have HXM6 := Lib.hid (HXM4.out.below HB46.out HXM4.out.lt)
  have HD6 := Lib.hid (HD4.out.below HB46.out HD4.out.lt)
  have HB06 := Lib.hid (HB04.out.trans (HB46.out.mono HB04.out.size))
  have HBA6 := Lib.hid (HBA.out.below HB06.out (Nat.le_refl _))
  have HPI6 := Lib.hid (HPI.out.below HB06.out (Nat.le_refl _))
  have HAG : Hid (∀ b off, a = some ⟨b, off, none⟩ → 0 < m1 → b ≠ g) := Lib.hid (fun b off e h0 => by
    rcases HBA.out.cell with h1 | ⟨_, b', off', e', hl, _⟩
    · omega
    · rw [e] at e'; cases e'; have := HO.out; omega)
  have HPG : Hid (∀ b off, aP = some ⟨b, off, none⟩ → 0 < R → b < w.heap.size ∧ ∀ i, i < R → w6.cell? ⟨b, off + i, none⟩ = some (.int .i64 (P i))) := Lib.hid (fun b off e h0 => by
    rcases HPI.out with h1 | ⟨b', off', e', hl, _⟩
    · omega
    · rcases HPI6.out with h1 | ⟨b2, off2, e2, _, hc⟩
      · omega
      · rw [e] at e' e2; cases e'; cases e2; exact ⟨hl, hc⟩)
  have hPP : 0 < R → ∃ b off, aP = some ⟨b, off, none⟩ := fun h0 => by
    rcases HPI.out with h1 | ⟨b', off', e', _⟩
    · omega
    · exact ⟨b', off', e'⟩
  have HPP := Lib.hid hPP
  have HG0 := Lib.hid (grown_refl w6 (some g))
  clear hPP HXA4 HXR4 HXM4 HD4 HB04 HB46 HS HPM HPA HBA HPI HPI6
  go_wp2
  go_loopw [10, 11, 36] (fun _ _ i wr => ∃ (j : Nat) (lc : List Int), j ≤ R ∧ i = .int .i64 (j : Nat) ∧ Hid (∀ i, i < j → 0 ≤ P i ∧ P i < r) ∧ Hid (Dat wr g m2 lc) ∧ Hid (∀ i k, i < R → k < c → co lc (i * c + k) = if i < j then co l ((P i).toNat * c + k) else 0) ∧ Hid (w6.grownBy wr (some g))) (fun _ _ i _ => R - (intOf i).toNat)
  case atStart => exact ⟨0, _, by omega, rfl, Lib.hid (fun i h => by omega), HD6, Lib.hid (fun i k _ _ => by rw [co_zero, if_neg (by omega)]), HG0⟩
  case round =>
    obtain ⟨j, lc, hj, rfl, HPj, HDj, HCj, HGj⟩ := hrel
    obtain ⟨wo, ho⟩ : ∃ wo, wo = wr := ⟨_, rfl⟩
    subst ho
    have HXRo := Lib.hid (HXR6.out.keep (HGj.out.block _ HXR6.out.lt (fun e => by have := HO.out; cases e; omega)))
    by_cases hlt : j < R
    · obtain ⟨pb, po, rfl⟩ := HPP.out (by omega)
      obtain ⟨hpl, hpc⟩ := HPG.out pb po rfl (by omega)
      have cp := HGj.out.cell (a := ⟨pb, po + j, none⟩) (hpc j hlt) (fun e => by have := HO.out; have e2 : pb = g := Option.some.inj e; omega)
      have HXAo := Lib.hid (HXA6.out.keep (HGj.out.block _ HXA6.out.lt (fun e => by have := HO.out; cases e; omega)))
      obtain ⟨k0, k1, k2, kf⟩ := HXAo.out.cells
      obtain ⟨p, hp⟩ : ∃ p, p = P j := ⟨_, rfl⟩
      have HPJ := Lib.hid hp
      rw [← hp] at cp
      clear hp hpc
      by_cases hok : 0 ≤ p ∧ p < r
      · have HHS1 := Lib.hid (HHS.out p wo)
        rw [decide_eq_true hok] at HHS1
        obtain ⟨q, rfl⟩ : ∃ q : Nat, p = q := ⟨p.toNat, by omega⟩
        have hqr : q < r := by omega
        go_wp2_with (go_at_call 37; refine HHS1.out.mono ?_; rintro e w7 ⟨rfl, hb7⟩; have HB7 := Lib.hid hb7; clear hb7)
        clear k0 k1 k2 kf
        have HG7 : Hid (w6.grownBy w7 (some g)) := Lib.hid (grown_trans HGj.out (grown_below HB7.out _))
        have ci := (HLI.out.grown HG7.out (fun e => by have := HO2.out; cases e; omega)).cell j hlt
        rw [onA_at, Nat.zero_add] at ci
        have cf := (HLF.out.grown HG7.out (fun e => by have := HO2.out; cases e; omega)).cell q hqr
        have HBY := Lib.hid (fun (h0 : 0 < m1) => (HBA6.out.grown HG7.out (fun b off e e2 => HAG.out b off e h0 (by cases e2; rfl))).part (q * c) c (HLE.out.fit q hqr))
        have HBZ : Hid (Bytes w7 (onA a (q * c)) c (seg l (q * c) c)) := Lib.hid (by
          rcases Nat.eq_zero_or_pos m1 with h0 | h0
          · have hf : q * c + c ≤ m1 := HLE.out.fit q hqr
            have hc0 : c = 0 := by omega
            refine ⟨seg_length _ _ _ (by have := HBA6.out.size; omega), by omega, fun i hi => by omega, .inl hc0⟩
          · exact HBY.out h0)
        have HDD : Hid (Dat w7.drew g m2 lc) := Lib.hid ((HDj.out.below HB7.out HDj.out.lt).keep rfl)
        have HFT : Hid (j * c + c ≤ m2) := Lib.hid (HLD.out.fit j hlt)
        have hj0 : (0 : Int) ≤ j := by omega
        have hj1 : (j : Int) < R := by omega
        have hq0 : (0 : Int) ≤ q := by omega
        have hq1 : (q : Int) < r := by omega
        clear hok cp HBY
        refine wp_region_still_tail 8 (by kernel_rfl) (by kernel_rfl) ?_
        simp only [List.take_succ_cons, List.take_zero, List.drop_succ_cons, List.drop_zero]
        repeat still_step
        refine wpStill_nil ?_
        change wpList _ _ _ _ _ w7.drew
        refine wpList_copy_dat (w := w7.drew) rfl (.tmp 49) (.tmp 53) rfl _ _ _ _ _ _ rfl rfl g (j * c) m2 lc HDD.out _ HBZ.out.drew rfl (fun _ => rfl) HFT.out ?_
        intro w8 hd8 hw8
        have HD8 := Lib.hid hd8
        have HG8 := Lib.hid (grown_trans HG7.out (grown_from_drew hw8))
        clear hd8 hw8 ci cf
        go_wp2
        go_roundw
        case rel =>
          refine ⟨j + 1, _, by omega, by go_num, Lib.hid (fun i hi => ?_), HD8, Lib.hid (fun i k hi hk => ?_), HG8⟩
          · rcases Nat.lt_or_ge i j with h1 | h1
            · exact HPj.out i h1
            · have : i = j := by omega
              rw [this, ← HPJ.out]; omega
          · have hl0 := HDj.out.size
            have hs0 : (seg l (q * c) c).length = c := seg_length _ _ _ (by have h5 : q * c + c ≤ m1 := HLE.out.fit q hqr; have := HBA6.out.size; omega)
            have hf0 := HFT.out
            rw [splice_co _ _ _ _ (by omega), hs0]
            by_cases e : i = j
            · rw [e, if_pos (by omega), if_pos (show j < j + 1 by omega), seg_co _ _ _ _ (by omega), ← HPJ.out, Int.toNat_natCast, show q * c + (j * c + k - j * c) = q * c + k by omega]
            · have hap : i * c + c ≤ j * c ∨ j * c + c ≤ i * c := HLD.out.apart i j hi hlt e
              rw [if_neg (by omega), HCj.out i k hi hk]
              by_cases g1 : i < j
              · rw [if_pos g1, if_pos (show i < j + 1 by omega)]
              · rw [if_neg g1, if_neg (show ¬ i < j + 1 by omega)]
        case measure => simp [intOf]; omega
      · have HHS1 := Lib.hid (HHS.out p wo)
        rw [decide_eq_false hok] at HHS1
        go_wp2_with (go_at_call 37; refine HHS1.out.mono ?_; rintro e w7 ⟨rfl, hb7⟩; have HB7 := Lib.hid hb7; clear hb7 k0 k1 k2 kf; obtain ⟨r0, r1, r2, rf⟩ := (HXRo.out.below HB7.out HXRo.out.lt).cells)
        clear r0 r1 r2 rf
        obtain ⟨z0, z1, z2, _⟩ := ((HXRo.out.below HB7.out HXRo.out.lt).write (x' := .int .i64 0) (y' := .int .i64 0) (z' := .slice none 0 0)).cells
        refine bodyPost_ret (v := .tuple #[.agg #[.int .i64 0, .int .i64 0, .slice none 0 0], .int .i64 50]) (by simp [results, Try.results28, go_sem, z0, z1, z2]) rfl ?_
        clear z0 z1 z2
        have hb9 : Below w.heap.size w w7 := by
          have h1 := HB06.out.trans (below_grows HGj.out (by have := HO.out; omega) HB06.out.size)
          exact h1.trans (HB7.out.mono h1.size)
        exact .inr ⟨fun h => hok (by rw [HPJ.out]; exact h j hlt), rfl, below_set3 hb9 (by omega)⟩
    · obtain rfl : j = R := by omega
      obtain ⟨k0, k1, k2, kf⟩ := (HXM6.out.keep (HGj.out.block b6 HXM6.out.lt (fun e => by have := HO.out; cases e; omega))).cells
      obtain ⟨r0, r1, r2, rf⟩ := HXRo.out.cells
      go_wp2
      clear k0 k1 k2 kf r0 r1 r2 rf
      obtain ⟨z0, z1, z2, _⟩ := (HXRo.out.write (x' := .int .i64 j) (y' := .int .i64 c) (z' := .slice (some ⟨g, 0, none⟩) m2 m2)).cells
      refine bodyPost_ret (v := .tuple #[.agg #[.int .i64 j, .int .i64 c, .slice (some ⟨g, 0, none⟩) m2 m2], .int .i64 0]) (by simp [results, Try.results28, go_sem, z0, z1, z2]) rfl ?_
      clear z0 z1 z2
      exact .inl ⟨HPj.out, g, lc, rfl, by have := HO.out; omega, dat_set3 HDj.out (by have := HO.out; omega), fun i k hi hk => by rw [HCj.out i k hi hk, if_pos hi], below_set3 (HB06.out.trans (below_grows HGj.out (by have := HO.out; omega) HB06.out.size)) (by omega)⟩
end Go.Proofs.Ytipaolkgafhliaa
