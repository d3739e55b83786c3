/-
  Own text: the page's examples of layer 5, walked.
-/
import Derived.Test.YtipaolkgafhliaaRMul
import Derived.Test.YtipaolkgafhliaaPows
import Derived.Test.YtipaolkgafhliaaByteC
namespace Go.Proofs.Ytipaolkgafhliaa
open Go.RowKit

/-- The identity's rank is full. -/
theorem rank_one (n : Nat) : RankIs (fun i k => if i = k then 1 else 0) n n n := by
  have h1 : ∀ i k : Nat, (if i = k then 1 else 0) < 256 := fun i k => by split <;> omega
  exact ⟨fun i k => if i = k then 1 else 0, indep_steps h1 id (fun i hi => ⟨hi, by simp⟩) (fun i j hij _ => by show (if j = i then 1 else 0) = 0; rw [if_neg (by omega)]),
    fun i hi => InSpan.own _ h1 hi, fun i hi => InSpan.own _ h1 hi⟩
theorem dots_one {V : Nat → Nat} (hV : ∀ k, V k < 256) {n k : Nat} (hk : k < n) : dots V (fun j => if j = k then 1 else 0) n = V k := by
  show xs _ n = _
  rw [xs_one k n hk (fun j _ hne => by show mu (V j) (if j = k then 1 else 0) = 0; rw [if_neg hne, mu_zero])]
  show mu (V k) (if k = k then 1 else 0) = _
  rw [if_pos rfl, mu_one (hV k)]
/-- Two lists of rows that are alike, place for place. -/
theorem rows_eq {x y : List Int} {r c : Nat} (hx : By x) (hy : By y) (lx : x.length = r * c) (ly : y.length = r * c) (h : ∀ i k, i < r → k < c → co x (i * c + k) = co y (i * c + k)) : x = y := by
  refine list_co hx hy (lx.trans ly.symm) (fun p hp => ?_)
  rw [lx] at hp
  have hc : 0 < c := Nat.pos_of_ne_zero (fun e => by rw [e, Nat.mul_zero] at hp; omega)
  have e := Nat.div_add_mod p c
  have h1 : p / c < r := (Nat.div_lt_iff_lt_mul hc).2 hp
  have := h (p / c) (p % c) h1 (Nat.mod_lt _ hc)
  rwa [Nat.mul_comm (p / c) c, e] at this
theorem later1 {w1 w2 : World} {o : Obj} (hb : Below (w1.alloc o).heap.size (w1.alloc o) w2) : Below w1.heap.size w1 w2 := ((Below.refl _ w1).alloc (Nat.le_refl _) o).trans (hb.mono (Nat.le_of_lt (alloc_lt _ _)))
set_option maxRecDepth 100000 in
set_option maxHeartbeats 4000000 in
theorem awake5_any (w : World) : Calls Try.prog 10 #[] w fun e w' => e = .returned (.bool true) ∧ Below w.heap.size w w' := by
  have HN := Lib.hid (fun w => new_any w)
  have HI := Lib.hid (ident_some 2 (by omega))
  have HV : Hid (∀ t w' g l, IsTab w' t → Dat w' g 4 l → (∀ i k, i < 2 → k < 2 → co l (i * 2 + k) = if i = k then 1 else 0) → Calls Try.prog 30 #[.pointer (some ⟨t, 0, none⟩), .agg #[.int .i64 2, .int .i64 2, .slice (some ⟨g, 0, none⟩) 4 4]] w' (fun e w'' => ∃ g', e = .returned (.tuple #[.agg #[.int .i64 2, .int .i64 2, .slice (some ⟨g', 0, none⟩) 4 4], .int .i64 0]) ∧ Dat w'' g' 4 l ∧ Below w'.heap.size w' w'')) :=
    Lib.hid (fun t w' g l ht hd hc => by
      refine (invert_any t 2 (by omega) (some ⟨g, 0, none⟩) 4 l w' (hd.sl (by omega)) ht).mono ?_
      have hF : RankIs (gr (fun i => i * 2) l) 2 2 2 := (rank_one 2).congr (fun i k hi hk => (hc i k hi hk).symm)
      rintro e w'' (⟨d, h1, h2, _⟩ | ⟨V, _, hVl, h2, g', l', rfl, _, hd', hc', hb⟩)
      · have := h2.only hF; omega
      · refine ⟨g', rfl, ?_, hb⟩
        have e : l' = l := by
          refine rows_eq (r := 2) (c := 2) hd'.by_ hd.by_ hd'.size hd.size (fun i k hi hk => ?_)
          rw [hc' i k hi hk, hc i k hi hk, ← h2 i k hi hk]
          refine Eq.trans ?_ (dots_congr 2 (fun _ _ => rfl) (fun j hj => (hc j k hj hk).symm))
          exact (dots_one (hVl i) hk).symm
        rw [← e]; exact hd')
  have HP : Hid (∀ t w', IsTab w' t → Calls Try.prog 17 #[.pointer (some ⟨t, 0, none⟩), .int .i64 3, .int .i64 2] w' (fun e w'' => ∃ g, e = .returned (.tuple #[.agg #[.int .i64 3, .int .i64 2, .slice (some ⟨g, 0, none⟩) 6 6], .int .i64 0]) ∧ Dat w'' g 6 [1, 0, 1, 1, 1, 2] ∧ Below w'.heap.size w' w'')) :=
    Lib.hid (fun t w' ht => by
      refine (powers_some t 3 2 (by omega) (by omega) w' ht).mono ?_
      rintro e w'' ⟨g, l, rfl, _, hd, hc, hb⟩
      refine ⟨g, rfl, ?_, hb⟩
      have e : l = [1, 0, 1, 1, 1, 2] := by
        refine rows_eq (r := 3) (c := 2) hd.by_ (fun z hz => by simp at hz; omega) hd.size rfl (fun i k hi hk => ?_)
        rw [hc i k hi hk]
        have hi3 : i = 0 ∨ i = 1 ∨ i = 2 := by omega
        have hk2 : k = 0 ∨ k = 1 := by omega
        rcases hi3 with rfl | rfl | rfl <;> rcases hk2 with rfl | rfl <;> decide +kernel
      rw [← e]; exact hd)
  go_enter Try.func10, Try.ntmps10
  unfold Handed at HI
  go_wp2_with first
    | (go_at_call 18; refine (HN.out _).mono ?_; rintro e w1 ⟨rfl, ht, hb⟩; have HT1 := Lib.hid ht; have HB1 := Lib.hid hb; clear ht hb)
    | (go_at_call 19; refine (HI.out _).mono ?_; rintro e w2 ⟨g2, l2, rfl, hg2, hd2, hc2, hb2⟩; have HG2 := Lib.hid hg2; have HD2 := Lib.hid hd2; have HC2 := Lib.hid hc2; have HB2 := Lib.hid hb2; clear hg2 hd2 hc2 hb2)
    | (go_at_call 30; refine (HV.out w.heap.size (w2.alloc _) g2 l2 ((HT1.out.below HB2.out HT1.out.lt).keep (Below.heap_alloc _ _ _ (HT1.out.below HB2.out HT1.out.lt).lt)) (HD2.out.keep (Below.heap_alloc _ _ _ HD2.out.lt)) HC2.out).mono ?_; rintro e w3 ⟨g3, rfl, hd3, hb3⟩; have HD3 := Lib.hid hd3; have HB3 := Lib.hid hb3; clear hd3 hb3)
    | (go_at_call 17; refine (HP.out w.heap.size (w3.alloc _) ((((HT1.out.below HB2.out HT1.out.lt).keep (Below.heap_alloc _ _ _ (HT1.out.below HB2.out HT1.out.lt).lt)).below HB3.out (Nat.lt_trans (HT1.out.below HB2.out HT1.out.lt).lt (alloc_lt _ _))).keep (Below.heap_alloc _ _ _ ((((HT1.out.below HB2.out HT1.out.lt).keep (Below.heap_alloc _ _ _ (HT1.out.below HB2.out HT1.out.lt).lt)).below HB3.out (Nat.lt_trans (HT1.out.below HB2.out HT1.out.lt).lt (alloc_lt _ _))).lt)))).mono ?_; rintro e w4 ⟨g4, rfl, hd4, hb4⟩; have HD4 := Lib.hid hd4; have HB4 := Lib.hid hb4; clear hd4 hb4)
  have H23 := Lib.hid (later1 HB3.out)
  have H34 := Lib.hid (later1 HB4.out)
  have HX2 := Lib.hid (bx_alloc (((alloc_bx w2 (.int .i64 2) (.int .i64 2) (.slice (some ⟨g2, 0, none⟩) 4 4)).below HB3.out (alloc_lt _ _)).below H34.out (Nat.lt_of_lt_of_le (alloc_lt _ _) HB3.out.size)) (.cells #[.int .i64 3, .int .i64 2, .slice (some ⟨g4, 0, none⟩) 6 6] 24))
  have HX4 := Lib.hid (bx_alloc ((alloc_bx w3 (.int .i64 2) (.int .i64 2) (.slice (some ⟨g3, 0, none⟩) 4 4)).below HB4.out (alloc_lt _ _)) (.cells #[.int .i64 3, .int .i64 2, .slice (some ⟨g4, 0, none⟩) 6 6] 24))
  have HX6 := Lib.hid (alloc_bx w4 (.int .i64 3) (.int .i64 2) (.slice (some ⟨g4, 0, none⟩) 6 6))
  have HE2 := Lib.hid (((HD2.out.below H23.out HD2.out.lt).below H34.out (Nat.lt_of_lt_of_le HD2.out.lt H23.out.size)).keep (Below.heap_alloc _ (.cells #[.int .i64 3, .int .i64 2, .slice (some ⟨g4, 0, none⟩) 6 6] 24) _ (Nat.lt_of_lt_of_le HD2.out.lt (Nat.le_trans H23.out.size H34.out.size))))
  have HE3 := Lib.hid ((HD3.out.below H34.out HD3.out.lt).keep (Below.heap_alloc _ (.cells #[.int .i64 3, .int .i64 2, .slice (some ⟨g4, 0, none⟩) 6 6] 24) _ (Nat.lt_of_lt_of_le HD3.out.lt H34.out.size)))
  have HE4 := Lib.hid (HD4.out.keep (Below.heap_alloc _ (.cells #[.int .i64 3, .int .i64 2, .slice (some ⟨g4, 0, none⟩) 6 6] 24) _ HD4.out.lt))
  have HB5 : Hid (Below w.heap.size w (w4.alloc (.cells #[.int .i64 3, .int .i64 2, .slice (some ⟨g4, 0, none⟩) 6 6] 24))) := Lib.hid (by
    have h1 := HB1.out.trans (HB2.out.mono HB1.out.size)
    have h2 := h1.trans (H23.out.mono h1.size)
    have h3 := h2.trans (H34.out.mono h2.size)
    exact h3.alloc h3.size _)
  clear HB1 HB2 HB3 HB4 H23 H34 HD2 HD3 HD4 HT1 HG2 HC2
  generalize w4.alloc (.cells #[.int .i64 3, .int .i64 2, .slice (some ⟨g4, 0, none⟩) 6 6] 24) = w5 at *
  generalize w2.heap.size = b2 at *
  generalize w3.heap.size = b4 at *
  generalize w4.heap.size = b6 at *
  have HS : Hid (∀ w', Below w5.heap.size w5 w' → Below w5.heap.size w5 w' ∧ w'.cell? ⟨b2, 0, none⟩ = some (.int .i64 2) ∧ w'.cell? ⟨b2, 1, none⟩ = some (.int .i64 2) ∧ w'.cell? ⟨b2, 2, none⟩ = some (.slice (some ⟨g2, 0, none⟩) 4 4) ∧
      w'.cell? ⟨b4, 0, none⟩ = some (.int .i64 2) ∧ w'.cell? ⟨b4, 1, none⟩ = some (.int .i64 2) ∧ w'.cell? ⟨b4, 2, none⟩ = some (.slice (some ⟨g3, 0, none⟩) 4 4) ∧ w'.cell? ⟨b6, 2, none⟩ = some (.slice (some ⟨g4, 0, none⟩) 6 6)) :=
    Lib.hid (fun w' h => ⟨h, (HX2.out.below h HX2.out.lt).cells.1, (HX2.out.below h HX2.out.lt).cells.2.1, (HX2.out.below h HX2.out.lt).cells.2.2.1, (HX4.out.below h HX4.out.lt).cells.1, (HX4.out.below h HX4.out.lt).cells.2.1, (HX4.out.below h HX4.out.lt).cells.2.2.1, (HX6.out.below h HX6.out.lt).cells.2.2.1⟩)
  have HSM : Hid (∀ wb, Below w5.heap.size w5 wb → Calls Try.prog 21 #[.agg #[.int .i64 2, .int .i64 2, .slice (some ⟨g3, 0, none⟩) 4 4], .agg #[.int .i64 2, .int .i64 2, .slice (some ⟨g2, 0, none⟩) 4 4]] wb fun e w' => e = .returned (.bool true) ∧ Below wb.heap.size wb w') :=
    Lib.hid (fun wb h => rsame_true 2 2 _ _ 4 4 4 l2 wb ((HE3.out.below h HE3.out.lt).sl (by omega)).bytes ((HE2.out.below h HE2.out.lt).sl (by omega)).bytes)
  have HSN : Hid (∀ wc, Below w5.heap.size w5 wc → Calls Try.prog 15 #[.slice (some ⟨g4, 0, none⟩) 6 6, .slice (some ⟨wc.heap.size, 0, none⟩) 6 6] (wc.alloc (.cells #[.int .u8 1, .int .u8 0, .int .u8 1, .int .u8 1, .int .u8 1, .int .u8 2] 5)) fun e w' => e = .returned (.bool true) ∧ Below (wc.alloc (.cells #[.int .u8 1, .int .u8 0, .int .u8 1, .int .u8 1, .int .u8 1, .int .u8 2] 5)).heap.size (wc.alloc (.cells #[.int .u8 1, .int .u8 0, .int .u8 1, .int .u8 1, .int .u8 1, .int .u8 2] 5)) w') :=
    Lib.hid (fun wc h => same_true _ _ 6 6 6 6 [1, 0, 1, 1, 1, 2] _ (((HE4.out.below h HE4.out.lt).keep (Below.heap_alloc _ _ _ (HE4.out.below h HE4.out.lt).lt)).sl (by omega)).bytes (new_block wc _ _ _ _ rfl [1, 0, 1, 1, 1, 2] rfl (by simp) (fun z hz => by simp at hz; omega) 6 rfl))
  clear HX2 HX4 HX6 HE2 HE3 HE4
  go_region_held3 (fun w' => Below w5.heap.size w5 w' ∧ w'.cell? ⟨b2, 0, none⟩ = some (.int .i64 2) ∧ w'.cell? ⟨b2, 1, none⟩ = some (.int .i64 2) ∧ w'.cell? ⟨b2, 2, none⟩ = some (.slice (some ⟨g2, 0, none⟩) 4 4) ∧
      w'.cell? ⟨b4, 0, none⟩ = some (.int .i64 2) ∧ w'.cell? ⟨b4, 1, none⟩ = some (.int .i64 2) ∧ w'.cell? ⟨b4, 2, none⟩ = some (.slice (some ⟨g3, 0, none⟩) 4 4) ∧ w'.cell? ⟨b6, 2, none⟩ = some (.slice (some ⟨g4, 0, none⟩) 6 6))
    (first
      | exact HS.out _ (Below.refl _ _)
      | exact HS.out _ (Below.refl _ _).drew
      | exact HS.out _ (((((Below.refl _ _).drew.trans hba).trans (hbb.mono hba.size)).trans (hbc.mono (Nat.le_trans hba.size hbb.size))).alloc (Nat.le_trans (Nat.le_trans hba.size hbb.size) hbc.size) _ |>.trans (hbd.mono (Nat.le_trans (Nat.le_trans (Nat.le_trans hba.size hbb.size) hbc.size) (Nat.le_of_lt (alloc_lt _ _)))))
      | exact HS.out _ (((((Below.refl _ _).drew.trans hba).trans (hbb.mono hba.size)).trans (hbc.mono (Nat.le_trans hba.size hbb.size))).alloc (Nat.le_trans (Nat.le_trans hba.size hbb.size) hbc.size) _)
      | exact HS.out _ ((((Below.refl _ _).drew.trans hba).trans (hbb.mono hba.size)).trans (hbc.mono (Nat.le_trans hba.size hbb.size)))
      | exact HS.out _ (((Below.refl _ _).drew.trans hba).trans (hbb.mono hba.size))
      | exact HS.out _ ((Below.refl _ _).drew.trans hba))
    (first
      | (go_at_call 12; (with_reducible refine (ref_any 2 2 (some ⟨g3, 0, none⟩) 4 4 _).mono ?_); rintro e wa ⟨rfl, hba⟩)
      | (go_at_call 12; (with_reducible refine (ref_any 2 2 (some ⟨g2, 0, none⟩) 4 4 _).mono ?_); rintro e wb ⟨rfl, hbb⟩)
      | (go_at_call 21; refine (HSM.out _ (((Below.refl _ _).drew.trans hba).trans (hbb.mono hba.size))).mono ?_; rintro e wc ⟨rfl, hbc⟩)
      | (go_at_call 15; refine (HSN.out _ ((((Below.refl _ _).drew.trans hba).trans (hbb.mono hba.size)).trans (hbc.mono (Nat.le_trans hba.size hbb.size)))).mono ?_; rintro e wd ⟨rfl, hbd⟩))
  all_goals
    rename_i hHeld
    go_wp2
    go_ret
    exact ⟨rfl, HB5.out.trans (hHeld.1.mono HB5.out.size)⟩
end Go.Proofs.Ytipaolkgafhliaa
