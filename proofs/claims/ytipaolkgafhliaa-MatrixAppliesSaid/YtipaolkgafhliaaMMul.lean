/-
  Own text: Mul of package matrix, walked.
-/
import Derived.Test.YtipaolkgafhliaaMix
namespace Go.Proofs.Ytipaolkgafhliaa
open Go.RowKit

/-- Do they fit? -/
def FitM (r c : Int) (n : Nat) (r' c' : Int) (n' : Nat) : Prop := RightM r c n ∧ RightM r' c' n' ∧ c = r'
instance (r c : Int) (n : Nat) (r' c' : Int) (n' : Nat) : Decidable (FitM r c n r' c' n') := by unfold FitM; infer_instance
theorem alloc3 (w : World) (a b c : Array Value) (t : TypeId) : (((w.alloc (.cells a t)).alloc (.cells b t)).alloc (.cells c t)).heap[w.heap.size]? = some (.cells a t (0, 0)) ∧ (((w.alloc (.cells a t)).alloc (.cells b t)).alloc (.cells c t)).heap[w.heap.size + 1]? = some (.cells b t (0, 0)) ∧
    (((w.alloc (.cells a t)).alloc (.cells b t)).alloc (.cells c t)).heap[w.heap.size + 1 + 1]? = some (.cells c t (0, 0)) ∧ w.heap.size + 1 + 1 < (((w.alloc (.cells a t)).alloc (.cells b t)).alloc (.cells c t)).heap.size ∧ Below w.heap.size w (((w.alloc (.cells a t)).alloc (.cells b t)).alloc (.cells c t)) := by
  refine ⟨(Below.heap_alloc _ _ _ (by simp; omega)).trans (alloc_two w a t _), (Below.heap_alloc _ _ _ (by simp)).trans (alloc_last w b t _), ?_, by simp, by go_grown⟩
  have := Go.Deep.blk_alloc_new ((w.alloc (.cells a t)).alloc (.cells b t)) (.cells c t)
  rwa [World.size_alloc, World.size_alloc] at this
/-- Three boxes, later on. -/
theorem boxes3 {w w1 : World} {x0 x1 x2 y0 y1 y2 z0 z1 z2 : Value}
    (hb : Below (((w.alloc (.cells #[x0, x1, x2] 24)).alloc (.cells #[y0, y1, y2] 24)).alloc (.cells #[z0, z1, z2] 24)).heap.size (((w.alloc (.cells #[x0, x1, x2] 24)).alloc (.cells #[y0, y1, y2] 24)).alloc (.cells #[z0, z1, z2] 24)) w1) :
    Bx w1 w.heap.size x0 x1 x2 ∧ Bx w1 (w.heap.size + 1) y0 y1 y2 ∧ Bx w1 (w.heap.size + 1 + 1) z0 z1 z2 ∧ Below w.heap.size w w1 := by
  obtain ⟨h1, h2, h3, h4, h5⟩ := alloc3 w #[x0, x1, x2] #[y0, y1, y2] #[z0, z1, z2] 24
  exact ⟨(hb.block _ (by omega)).trans h1, (hb.block _ (by omega)).trans h2, (hb.block _ h4).trans h3, h5.trans (hb.mono (by omega))⟩
set_option maxRecDepth 100000 in
set_option maxHeartbeats 1000000 in
theorem mmul_none (t : Nat) (r c r' c' : Int) (a b : Option Addr) (n n' ca cb : Nat) (w : World) (h : ¬ FitM r c n r' c' n') :
    Calls Try.prog 25 #[.pointer (some ⟨t, 0, none⟩), .agg #[.int .i64 r, .int .i64 c, .slice a n ca], .agg #[.int .i64 r', .int .i64 c', .slice b n' cb]] w (Refused 50 w) := by
  have HR := Lib.hid (right_any r c n a ca)
  have HQ := Lib.hid (right_any r' c' n' b cb)
  have hcase : (decide (RightM r c n) = false ∧ True) ∨ (decide (RightM r c n) = true ∧ decide (RightM r' c' n') = false) ∨ (decide (RightM r c n) = true ∧ decide (RightM r' c' n') = true ∧ (c != r') = true) := by
    by_cases h1 : RightM r c n
    · by_cases h2 : RightM r' c' n'
      · refine .inr (.inr ⟨decide_eq_true h1, decide_eq_true h2, ?_⟩)
        have hne : ¬ c = r' := fun e => h ⟨h1, h2, e⟩
        simpa using hne
      · exact .inr (.inl ⟨decide_eq_true h1, decide_eq_false h2⟩)
    · exact .inl ⟨decide_eq_false h1, trivial⟩
  clear h
  rcases hcase with ⟨h1, h2⟩ | ⟨h1, h2⟩ | ⟨h1, h2, h3⟩
  all_goals
    rw [h1] at HR
    try rw [h2] at HQ
    clear h1 h2
    go_enter Try.func25, Try.ntmps25
    go_wp2_with first
      | (go_at_call 13; (with_reducible refine (HR.out _).mono ?_); rintro e w1 ⟨rfl, hb⟩; obtain ⟨hxa, hxb, hxr, hbw⟩ := boxes3 hb; have HXA := Lib.hid hxa; have HXB := Lib.hid hxb; have HXR := Lib.hid hxr; have HB := Lib.hid hbw; clear hb hxa hxb hxr hbw; obtain ⟨k0, k1, k2, kf⟩ := HXA.out.cells; obtain ⟨j0, j1, j2, jf⟩ := HXB.out.cells; obtain ⟨r0, r1, r2, rf⟩ := HXR.out.cells)
      | (go_at_call 13; (with_reducible refine (HQ.out _).mono ?_); rintro e w2 ⟨rfl, hb⟩; have HB2 := Lib.hid hb; clear hb k0 k1 k2 kf j0 j1 j2 jf r0 r1 r2 rf; obtain ⟨k0, k1, k2, kf⟩ := (HXA.out.below HB2.out HXA.out.lt).cells; obtain ⟨j0, j1, j2, jf⟩ := (HXB.out.below HB2.out HXB.out.lt).cells; obtain ⟨r0, r1, r2, rf⟩ := (HXR.out.below HB2.out HXR.out.lt).cells)
    clear k0 k1 k2 kf j0 j1 j2 jf r0 r1 r2 rf
    first
      | (obtain ⟨z0, z1, z2, _⟩ := ((HXR.out.below HB2.out HXR.out.lt).write (x' := .int .i64 0) (y' := .int .i64 0) (z' := .slice none 0 0)).cells
         refine bodyPost_ret (v := .tuple #[.agg #[.int .i64 0, .int .i64 0, .slice none 0 0], .int .i64 50]) (by simp [results, Try.results25, go_sem, z0, z1, z2]) rfl ?_
         exact ⟨rfl, below_set3 (HB.out.trans (HB2.out.mono HB.out.size)) (by omega)⟩)
      | (obtain ⟨z0, z1, z2, _⟩ := (HXR.out.write (x' := .int .i64 0) (y' := .int .i64 0) (z' := .slice none 0 0)).cells
         refine bodyPost_ret (v := .tuple #[.agg #[.int .i64 0, .int .i64 0, .slice none 0 0], .int .i64 50]) (by simp [results, Try.results25, go_sem, z0, z1, z2]) rfl ?_
         exact ⟨rfl, below_set3 HB.out (by omega)⟩)
set_option maxRecDepth 100000 in
set_option maxHeartbeats 4000000 in
theorem mmul_some (t R N Cn : Nat) (hR : R ≤ 255) (hN : N ≤ 255) (hC : Cn ≤ 255) (aA aB : Option Addr) (ca cb : Nat) (la lb : List Int) (w : World) (ha : Sl w aA (R * N) ca la) (hb : Sl w aB (N * Cn) cb lb) (ht : IsTab w t) :
    Calls Try.prog 25 #[.pointer (some ⟨t, 0, none⟩), .agg #[.int .i64 R, .int .i64 N, .slice aA ((R * N : Nat)) ca], .agg #[.int .i64 N, .int .i64 Cn, .slice aB ((N * Cn : Nat)) cb]] w (Handed R Cn (fun i k => dots (fun j => co la (i * N + j)) (fun j => co lb (j * Cn + k)) N) w) := by
  have hm1 : R * N ≤ 65025 := Nat.mul_le_mul hR hN
  have hm2 : N * Cn ≤ 65025 := Nat.mul_le_mul hN hC
  have hm3 : R * Cn ≤ 65025 := Nat.mul_le_mul hR hC
  have HR := Lib.hid (right_yes R N (R * N) hR hN rfl aA ca)
  have HQ := Lib.hid (right_yes N Cn (N * Cn) hN hC rfl aB cb)
  have HNW := Lib.hid (new_some R Cn hR hC)
  have HPM := Lib.hid (fun g => parts_any (some ⟨g, 0, none⟩) (R * Cn) (R * Cn) R Cn (by omega) (Nat.le_refl _) (Nat.le_refl _) (by omega) (fun h => nomatch h))
  have HPB := Lib.hid (parts_any aB (N * Cn) cb N Cn (by omega) hb.cap (Nat.le_refl _) (by omega) hb.nilc)
  have HMX : Hid (∀ g h h2 w', Below w.heap.size w w' → w.heap.size ≤ g → g < h → g < h2 → Dat w' g (R * Cn) (List.replicate (R * Cn) 0) → Lst w' h R Cn (fun i => onA (some ⟨g, 0, none⟩) (i * Cn)) → Lst w' h2 N Cn (fun k => onA aB (k * Cn)) →
      Calls Try.prog 43 #[.pointer (some ⟨t, 0, none⟩), .slice (some ⟨h, 0, none⟩) R R, .agg #[.int .i64 R, .int .i64 N, .slice aA ((R * N : Nat)) ca], .slice (some ⟨h2, 0, none⟩) N N] w' (MixedM g R Cn (R * Cn) (fun i => i * Cn) (fun i c => xs (fun k => mu (co la (i * N + k)) (co (seg lb (k * Cn) Cn) c)) N) w')) :=
    Lib.hid (fun g h h2 w' hbw h1 h3 h4 hd hl1 hl2 => by
      have noA : ∀ (a : Option Addr) (m : Nat) (l : List Int), Bytes w a m l → ∀ b off, a = some ⟨b, off, none⟩ → 0 < m → b ≠ g := fun a m l hB b off e h0 => by
        rcases hB.cell with h5 | ⟨_, b', off', e', hl, _⟩
        · omega
        · rw [e] at e'; cases e'; omega
      exact mix_rows t h g R N Cn (R * Cn) ca R aA la _ _ (fun i => i * Cn) _ w' hR hN (by omega) (by omega) (Nat.le_refl _) (ha.below hbw (Nat.le_refl _)) (src_parts hl2 (hb.bytes.below hbw (Nat.le_refl _)) (by omega) (noA _ _ _ hb.bytes)) (World.rowIs.congr hl1 (fun i _ => by dsimp only; rw [onA_at, Nat.zero_add])) hd (laid_rows R Cn _ (Nat.le_refl _)) (fun i c _ _ => co_zero _ _) (ht.below hbw ht.lt) (by have := ht.lt; omega) (by omega) (noA _ _ _ ha.bytes))
  have HLB := Lib.hid hb.bytes.size
  unfold Handed
  unfold Newed at HNW
  obtain ⟨m1, hm1e⟩ : ∃ m, R * N = m := ⟨_, rfl⟩
  obtain ⟨m2, hm2e⟩ : ∃ m, N * Cn = m := ⟨_, rfl⟩
  obtain ⟨m3, hm3e⟩ : ∃ m, R * Cn = m := ⟨_, rfl⟩
  have HM2 := Lib.hid hm2e
  rw [hm1e] at hm1 HR HMX
  rw [hm2e] at hm2 HQ HPB HLB
  rw [hm3e] at hm3 HNW HPM HMX
  rw [hm1e, hm2e, hm3e]
  clear hm1e hm2e hm3e ha hb ht
  go_enter Try.func25, Try.ntmps25
  go_wp2_with first
    | (go_at_call 13; (with_reducible refine (HR.out _).mono ?_); rintro e w1 ⟨rfl, hb⟩; obtain ⟨hxa, hxb, hxr, hbw⟩ := boxes3 hb; have HXA := Lib.hid hxa; have HXB := Lib.hid hxb; have HXR := Lib.hid hxr; have HB := Lib.hid hbw; clear hb hxa hxb hxr hbw; obtain ⟨k0, k1, k2, kf⟩ := HXA.out.cells; obtain ⟨j0, j1, j2, jf⟩ := HXB.out.cells)
    | (go_at_call 13; (with_reducible refine (HQ.out _).mono ?_); rintro e w2 ⟨rfl, hb⟩; have HB2 := Lib.hid hb; clear hb k0 k1 k2 kf j0 j1 j2 jf; obtain ⟨k0, k1, k2, kf⟩ := (HXA.out.below HB2.out HXA.out.lt).cells; obtain ⟨j0, j1, j2, jf⟩ := (HXB.out.below HB2.out HXB.out.lt).cells)
    | (go_at_call 16; refine (HNW.out _).mono ?_; rintro e w3 ⟨g, rfl, hg, hr, hb⟩; have HG := Lib.hid hg; have HRO := Lib.hid hr; have HB3 := Lib.hid hb; clear hg hr hb k0 k1 k2 kf j0 j1 j2 jf)
  have HO : Hid (w.heap.size + 1 + 1 < g ∧ g < w3.heap.size) := Lib.hid ⟨Nat.lt_of_lt_of_le (Nat.lt_of_lt_of_le HXR.out.lt HB2.out.size) HG.out, HRO.out.lt⟩
  have HB03 : Hid (Below w.heap.size w w3) := Lib.hid (by
    have h1 := HB.out.trans (HB2.out.mono HB.out.size)
    exact h1.trans (HB3.out.mono h1.size))
  have HD3 : Hid (Dat w3 g m3 (List.replicate m3 0)) := Lib.hid (by
    have := HRO.out.dat (by_zero m3)
    rwa [List.length_replicate] at this)
  have HXA3 := Lib.hid ((HXA.out.below HB2.out HXA.out.lt).below HB3.out (Nat.lt_of_lt_of_le HXA.out.lt HB2.out.size))
  have HXB3 := Lib.hid ((HXB.out.below HB2.out HXB.out.lt).below HB3.out (Nat.lt_of_lt_of_le HXB.out.lt HB2.out.size))
  have HXR3 := Lib.hid ((HXR.out.below HB2.out HXR.out.lt).below HB3.out (Nat.lt_of_lt_of_le HXR.out.lt HB2.out.size))
  have HXA4 := Lib.hid (bx_alloc HXA3.out (.cells #[.int .i64 R, .int .i64 Cn, .slice (some ⟨g, 0, none⟩) m3 m3] 24))
  have HXB4 := Lib.hid (bx_alloc HXB3.out (.cells #[.int .i64 R, .int .i64 Cn, .slice (some ⟨g, 0, none⟩) m3 m3] 24))
  have HXR4 := Lib.hid (bx_alloc HXR3.out (.cells #[.int .i64 R, .int .i64 Cn, .slice (some ⟨g, 0, none⟩) m3 m3] 24))
  have HXM4 := Lib.hid (alloc_bx w3 (.int .i64 R) (.int .i64 Cn) (.slice (some ⟨g, 0, none⟩) m3 m3))
  have HD4 := Lib.hid (HD3.out.keep (Below.heap_alloc _ (.cells #[.int .i64 R, .int .i64 Cn, .slice (some ⟨g, 0, none⟩) m3 m3] 24) _ HD3.out.lt))
  have HB04 := Lib.hid (HB03.out.alloc HB03.out.size (.cells #[.int .i64 R, .int .i64 Cn, .slice (some ⟨g, 0, none⟩) m3 m3] 24))
  clear HXA HXB HXR HB HB2 HB3 HG HRO HXA3 HXB3 HXR3 HD3 HB03 HR HQ HNW
  generalize w3.alloc (.cells #[.int .i64 R, .int .i64 Cn, .slice (some ⟨g, 0, none⟩) m3 m3] 24) = w4 at *
  generalize w3.heap.size = b8 at *
  have HS : Hid (∀ w', w4.grownBy w' (some g) → w4.grownBy w' (some g) ∧ w'.cell? ⟨w.heap.size, 0, none⟩ = some (.int .i64 (R : Int)) ∧ w'.cell? ⟨w.heap.size, 1, none⟩ = some (.int .i64 (N : Int)) ∧ w'.cell? ⟨w.heap.size, 2, none⟩ = some (.slice aA m1 ca) ∧
      w'.cell? ⟨w.heap.size + 1, 0, none⟩ = some (.int .i64 (N : Int)) ∧ w'.cell? ⟨w.heap.size + 1, 1, none⟩ = some (.int .i64 (Cn : Int)) ∧ w'.cell? ⟨w.heap.size + 1, 2, none⟩ = some (.slice aB m2 cb) ∧
      w'.cell? ⟨b8, 0, none⟩ = some (.int .i64 (R : Int)) ∧ w'.cell? ⟨b8, 1, none⟩ = some (.int .i64 (Cn : Int)) ∧ w'.cell? ⟨b8, 2, none⟩ = some (.slice (some ⟨g, 0, none⟩) m3 m3)) :=
    Lib.hid (fun w' h => by
      have o := HO.out
      have hA := (HXA4.out.keep (h.block _ HXA4.out.lt (fun e => by cases e; omega))).cells
      have hB := (HXB4.out.keep (h.block _ HXB4.out.lt (fun e => by cases e; omega))).cells
      have hM := (HXM4.out.keep (h.block _ HXM4.out.lt (fun e => by cases e; omega))).cells
      exact ⟨h, hA.1, hA.2.1, hA.2.2.1, hB.1, hB.2.1, hB.2.2.1, hM.1, hM.2.1, hM.2.2.1⟩)
  go_region_held3 (fun w' => w4.grownBy w' (some g) ∧ w'.cell? ⟨w.heap.size, 0, none⟩ = some (.int .i64 (R : Int)) ∧ w'.cell? ⟨w.heap.size, 1, none⟩ = some (.int .i64 (N : Int)) ∧ w'.cell? ⟨w.heap.size, 2, none⟩ = some (.slice aA m1 ca) ∧
      w'.cell? ⟨w.heap.size + 1, 0, none⟩ = some (.int .i64 (N : Int)) ∧ w'.cell? ⟨w.heap.size + 1, 1, none⟩ = some (.int .i64 (Cn : Int)) ∧ w'.cell? ⟨w.heap.size + 1, 2, none⟩ = some (.slice aB m2 cb) ∧
      w'.cell? ⟨b8, 0, none⟩ = some (.int .i64 (R : Int)) ∧ w'.cell? ⟨b8, 1, none⟩ = some (.int .i64 (Cn : Int)) ∧ w'.cell? ⟨b8, 2, none⟩ = some (.slice (some ⟨g, 0, none⟩) m3 m3))
    (first
      | exact HS.out _ (grown_refl _ _)
      | exact HS.out _ (grown_below (Below.refl _ _).drew _)
      | exact HS.out _ (grown_trans (grown_below (((Below.refl _ _).drew.trans hb5).trans (hb6.mono hb5.size)) _) hw7)
      | exact HS.out _ (grown_below (((Below.refl _ _).drew.trans hb5).trans (hb6.mono hb5.size)) _)
      | exact HS.out _ (grown_below ((Below.refl _ _).drew.trans hb5) _))
    (first
      | (go_at_call 39; (with_reducible refine (HPM.out g _).mono ?_); rintro e w5 ⟨h, rfl, hh, hl, hb5⟩)
      | (go_at_call 39; (with_reducible refine (HPB.out _).mono ?_); rintro e w6 ⟨h2, rfl, hh2, hl2, hb6⟩)
      | (go_at_call 43; refine (HMX.out g h h2 _ (HB04.out.trans ((((Below.refl _ _).drew.trans hb5).trans (hb6.mono hb5.size)).mono HB04.out.size)) (Nat.le_of_lt (Nat.lt_trans (Nat.lt_trans (Nat.lt_succ_self _) (Nat.lt_succ_self _)) HO.out.1)) (Nat.lt_of_lt_of_le HD4.out.lt hh) (Nat.lt_of_lt_of_le HD4.out.lt (Nat.le_trans hb5.size hh2)) (HD4.out.below (((Below.refl _ _).drew.trans hb5).trans (hb6.mono hb5.size)) HD4.out.lt) (hl.below hb6 hl.lt) hl2).mono ?_; rintro e w7 ⟨rfl, l7, hd7, hc7, hw7⟩))
  all_goals
    have HD7 := Lib.hid hd7
    have HC7 := Lib.hid hc7
    have HW7 := Lib.hid (grown_trans (grown_below (A := w4) (((Below.refl _ _).drew.trans hb5).trans (hb6.mono hb5.size)) (some g)) hw7)
    clear hh hl hb5 hh2 hl2 hb6 hd7 hc7 hw7
    have HXM7 := Lib.hid (HXM4.out.keep (HW7.out.block _ HXM4.out.lt (fun e => by have := HO.out; cases e; omega)))
    have HXR7 := Lib.hid (HXR4.out.keep (HW7.out.block _ HXR4.out.lt (fun e => by have := HO.out; cases e; omega)))
    obtain ⟨k0, k1, k2, kf⟩ := HXM7.out.cells
    obtain ⟨r0, r1, r2, rf⟩ := HXR7.out.cells
    rename_i hHeld
    clear hHeld
    go_wp2
    clear k0 k1 k2 kf r0 r1 r2 rf
    obtain ⟨z0, z1, z2, _⟩ := (HXR7.out.write (x' := .int .i64 R) (y' := .int .i64 Cn) (z' := .slice (some ⟨g, 0, none⟩) m3 m3)).cells
    refine bodyPost_ret (v := .tuple #[.agg #[.int .i64 R, .int .i64 Cn, .slice (some ⟨g, 0, none⟩) m3 m3], .int .i64 0]) (by simp [results, Try.results25, go_sem, z0, z1, z2]) rfl ?_
    clear z0 z1 z2
    refine ⟨g, l7, rfl, by have := HO.out; omega, dat_set3 HD7.out (by have := HO.out; omega), fun i k hi hk => ?_, below_set3 (HB04.out.trans (below_grows HW7.out (by have := HO.out; omega) HB04.out.size)) (by omega)⟩
    have e := HC7.out i k hi hk
    unfold gr at e
    rw [e]
    refine xs_congr N (fun j hj => ?_)
    show mu _ (co (seg lb (j * Cn) Cn) k) = mu _ (co lb (j * Cn + k))
    rw [seg_co _ _ _ _ hk]
end Go.Proofs.Ytipaolkgafhliaa
