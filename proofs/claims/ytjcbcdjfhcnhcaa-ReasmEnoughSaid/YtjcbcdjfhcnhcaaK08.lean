/-
  Own text: numbered of package rs, walked.
    allOfData of package rs, walked.
    New of package rs, walked; what a code is.
    Data, Parity, Rows, build of package rs, walked.
    Encode of package rs, walked.
-/
import Derived.Test.YtjcbcdjfhcnhcaaK07
import Derived.Test.YtjcbcdjfhcnhcaaK06
import Derived.Test.YtjcbcdjfhcnhcaaK02
import Derived.Deep.DeepCutAuto
namespace Go.Proofs.Ytjcbcdjfhcnhcaa
open Go.RowKit

/-- Numbers, one behind the other, in a block of their own. -/
def Counted (from_ : Int) (cnt : Nat) (w : World) (e : Ending) (w' : World) : Prop :=
  ∃ g, e = .returned (.slice (some ⟨g, 0, none⟩) cnt cnt) ∧ w.heap.size ≤ g ∧ w'.rowIs g 3 cnt (fun i => .int .i64 (from_ + i)) ∧ Below w.heap.size w w'
theorem counted_ints {w : World} {g cnt : Nat} {from_ : Int} (h : w.rowIs g 3 cnt (fun i => .int .i64 (from_ + i))) : Ints w (some ⟨g, 0, none⟩) cnt (fun i => from_ + i) := by
  by_cases h0 : cnt = 0
  · exact .inl h0
  · exact .inr ⟨g, 0, rfl, World.rowIs.lt h, fun i hi => by rw [Nat.zero_add]; exact World.rowIs.cell h hi⟩
def countV (from_ : Int) (k : Nat) (i : Nat) : Value := if i < k then .int .i64 (from_ + i) else .int .i64 0
theorem count_zero (w : World) (from_ : Int) (cnt : Nat) : (w.alloc (.cells (madeCells #[.int .i64 0] cnt) 3)).rowIs w.heap.size 3 cnt (countV from_ 0) :=
  (World.rowIs_made w (.int .i64 0) cnt 3).congr (fun i _ => by unfold countV; rw [if_neg (by omega)])
theorem count_step {w : World} {h cnt k : Nat} {from_ : Int} (H : w.rowIs h 3 cnt (countV from_ k)) : (w.setCell ⟨h, k, none⟩ (.int .i64 (from_ + k))).rowIs h 3 cnt (countV from_ (k + 1)) :=
  (H.set k _).congr (fun i _ => by
    unfold countV
    by_cases e : i = k
    · rw [if_pos e, if_pos (by omega), e]
    · rw [if_neg e]
      by_cases g : i < k
      · rw [if_pos g, if_pos (by omega)]
      · rw [if_neg g, if_neg (by omega)])
theorem count_end {w : World} {h cnt : Nat} {from_ : Int} (H : w.rowIs h 3 cnt (countV from_ cnt)) : w.rowIs h 3 cnt (fun i => .int .i64 (from_ + i)) :=
  H.congr (fun i hi => by unfold countV; rw [if_pos hi])
set_option maxRecDepth 100000 in
theorem numbered_any (from_ cnt : Nat) (hf : from_ ≤ 1000) (hc : cnt ≤ 1000) (w : World) :
    Calls Try.prog 67 #[.int .i64 from_, .int .i64 cnt] w (Counted from_ cnt w) := by
  have hmk := fun w => run_make_row' (P := Try.prog) 63 3 (.int .i64 0) 8 Try.underlying63 info_i64 rfl .i64 .i64 cnt (by omega) (by omega) w
  have HC0 := Lib.hid (count_zero w from_ cnt)
  have HB0 : Hid (Below w.heap.size w (w.alloc (.cells (madeCells #[.int .i64 0] cnt) 3))) := Lib.hid (by go_grown)
  unfold Counted
  go_enter Try.func67, Try.ntmps67
  go_wp2
  clear hmk
  generalize w.alloc (.cells (madeCells #[.int .i64 0] cnt) 3) = w1 at *
  have HH : Hid (w.heap.size ≤ w.heap.size) := Lib.hid (Nat.le_refl _)
  generalize hh : w.heap.size = h at HC0 ⊢
  rw [hh] at HB0 HH
  go_loopw [6, 10] (fun _ i wr => ∃ k : Nat, k ≤ cnt ∧ i = .int .i64 k ∧ Hid (wr.rowIs h 3 cnt (countV from_ k)) ∧ Hid (Below h w wr)) (fun _ i _ => cnt - (intOf i).toNat)
  case atStart => exact ⟨0, by omega, rfl, HC0, HB0⟩
  case round =>
    obtain ⟨k, hk, rfl, HO, HB⟩ := hrel
    obtain ⟨wo, ho⟩ : ∃ wo, wo = wr := ⟨_, rfl⟩
    subst ho
    by_cases hlt : k < cnt
    · have c0 := HO.out.cell hlt
      have f0 := HO.out.frozen k
      unfold countV at c0
      rw [if_neg (by omega)] at c0
      go_wp2
      go_roundw
      case rel => exact ⟨k + 1, by omega, by go_num, Lib.hid (count_step HO.out), Lib.hid (HB.out.setCell (p := ⟨h, k, none⟩) (Nat.le_refl _) _)⟩
      case measure => simp [intOf]; omega
    · obtain rfl : k = cnt := by omega
      go_wp2
      go_ret
      exact ⟨h, rfl, by omega, count_end HO.out, by rw [hh]; exact HB.out⟩
end Go.Proofs.Ytjcbcdjfhcnhcaa
namespace Go.Proofs.Ytjcbcdjfhcnhcaa
open Go.RowKit

/-- A matrix in a block of its own is handed back, alone. -/
def Handed1 (r c : Nat) (F : Nat → Nat → Nat) (w : World) (e : Ending) (w' : World) : Prop :=
  ∃ g l, e = .returned (.agg #[.int .i64 r, .int .i64 c, .slice (some ⟨g, 0, none⟩) (r * c) (r * c)]) ∧ w.heap.size ≤ g ∧ Dat w' g (r * c) l ∧ (∀ i k, i < r → k < c → co l (i * c + k) = F i k) ∧ Below w.heap.size w w'
theorem b_on {w0 w w' : World} (h : Below w0.heap.size w0 w) (h2 : Below w.heap.size w w') : Below w0.heap.size w0 w' := h.trans (h2.mono h.size)
theorem b_put {w0 w : World} (h : Below w0.heap.size w0 w) (o : Obj) : Below w0.heap.size w0 (w.alloc o) := h.alloc h.size o
theorem below_put (w : World) (o : Obj) : Below w.heap.size w (w.alloc o) := (Below.refl _ w).alloc (Nat.le_refl _) o
set_option maxRecDepth 100000 in
set_option maxHeartbeats 4000000 in
theorem all_of_data (t k m : Nat) (_hk : 1 ≤ k) (hR : k + m ≤ 255) (w : World) (ht : IsTab w t) :
    Calls Try.prog 64 #[.pointer (some ⟨t, 0, none⟩), .int .i64 k, .int .i64 m] w (Handed1 (k + m) k (fun x j => lagw nid k j x) w) := by
  have hm1 : (k + m) * k ≤ 65025 := Nat.mul_le_mul hR (show k ≤ 255 by omega)
  have hm2 : k * k ≤ 65025 := Nat.mul_le_mul (show k ≤ 255 by omega) (show k ≤ 255 by omega)
  have HPW := Lib.hid (fun w ht => powers_some t (k + m) k hR (by omega) w ht)
  have HNB := Lib.hid (numbered_any 0 k (by omega) (by omega))
  have HPK : Hid (∀ w' g l gn, Dat w' g ((k + m) * k) l → (∀ i j, i < k + m → j < k → co l (i * k + j) = pwr i j) → w'.rowIs gn 3 k (fun i => .int .i64 (((0 : Nat) : Int) + i)) →
      Calls Try.prog 83 #[.agg #[.int .i64 (k + m : Nat), .int .i64 k, .slice (some ⟨g, 0, none⟩) (((k + m) * k : Nat)) ((k + m) * k)], .slice (some ⟨gn, 0, none⟩) k k] w' (Handed k k pwr w')) :=
    Lib.hid (fun w' g l gn hd hc hn => by
      refine (mpick_any (k + m) k k ((k + m) * k) k hR (by omega) (by omega) (some ⟨g, 0, none⟩) _ l _ w' (hd.sl (by omega)) (counted_ints hn)).mono ?_
      rintro e w'' (⟨h1, g', l', he, hg, hd', hc', hb'⟩ | ⟨h1, _⟩)
      · refine ⟨g', l', he, hg, hd', fun i j hi hj => ?_, hb'⟩
        refine (hc' i j hi hj).trans ?_
        show co l ((((0 : Nat) : Int) + (i : Nat)).toNat * k + j) = _
        have : (((0 : Nat) : Int) + (i : Nat)).toNat = i := by omega
        rw [this]
        exact hc i j (by omega) hj
      · exact absurd (fun i hi => by show 0 ≤ ((0 : Nat) : Int) + (i : Nat) ∧ ((0 : Nat) : Int) + (i : Nat) < ((k + m : Nat) : Int); omega) h1)
  have HIV : Hid (∀ w' g l, IsTab w' t → Dat w' g (k * k) l → (∀ i j, i < k → j < k → co l (i * k + j) = pwr i j) → Calls Try.prog 84 #[.pointer (some ⟨t, 0, none⟩), .agg #[.int .i64 k, .int .i64 k, .slice (some ⟨g, 0, none⟩) ((k * k : Nat)) (k * k)]] w'
      (fun e w'' => ∃ V : Nat → Nat → Nat, (∀ i c, i < k → c < k → dots (V i) (fun j => pwr j c) k = if i = c then 1 else 0) ∧ Handed k k V w' e w'')) :=
    Lib.hid (fun w' g l ht hd hc => by
      refine (invert_any t k (by omega) (some ⟨g, 0, none⟩) (k * k) l w' (hd.sl (by omega)) ht).mono ?_
      rintro e w'' (⟨d, h1, h2, _⟩ | ⟨V, _, hVl, h2, h3⟩)
      · have h4 : RankIs (fun i j => pwr i j) k k d := h2.congr (fun i j hi hj => hc i j hi hj)
        have := full_rank (fun x hx hz => powers_ker (X := fun i => i) (k := k) (fun i hi => by show i < 256; omega) (fun i j h1 _ e => by have e2 : i = j := e; omega) x hx hz) h4
        omega
      · refine ⟨V, fun i c hi hc' => ?_, h3⟩
        rw [← h2 i c hi hc']
        exact dots_congr k (fun _ _ => rfl) (fun j hj => (hc j c hj hc').symm))
  have HMU : Hid (∀ w' g1 l1 g2 l2 (V : Nat → Nat → Nat), IsTab w' t → Dat w' g1 ((k + m) * k) l1 → (∀ i j, i < k + m → j < k → co l1 (i * k + j) = pwr i j) → Dat w' g2 (k * k) l2 → (∀ i j, i < k → j < k → co l2 (i * k + j) = V i j) → (∀ i c, i < k → c < k → dots (V i) (fun j => pwr j c) k = if i = c then 1 else 0) →
      Calls Try.prog 85 #[.pointer (some ⟨t, 0, none⟩), .agg #[.int .i64 (k + m : Nat), .int .i64 k, .slice (some ⟨g1, 0, none⟩) (((k + m) * k : Nat)) ((k + m) * k)], .agg #[.int .i64 k, .int .i64 k, .slice (some ⟨g2, 0, none⟩) ((k * k : Nat)) (k * k)]] w' (Handed (k + m) k (fun x j => lagw nid k j x) w')) :=
    Lib.hid (fun w' g1 l1 g2 l2 V ht hd1 hc1 hd2 hc2 hV => by
      refine (mmul_some t (k + m) k k hR (by omega) (by omega) (some ⟨g1, 0, none⟩) (some ⟨g2, 0, none⟩) _ _ l1 l2 w' (hd1.sl (by omega)) (hd2.sl (by omega)) ht).mono ?_
      rintro e w'' ⟨g', l', he, hg, hd', hc', hb'⟩
      refine ⟨g', l', he, hg, hd', fun x j hx hj => ?_, hb'⟩
      refine (hc' x j hx hj).trans ?_
      show _ = lagw nid k j x
      rw [← rows_weights (show k ≤ 256 by omega) hV (show x < 256 by omega) hj]
      exact dots_congr k (fun i hi => hc1 x i hx hi) (fun i hi => hc2 i j hi hj))
  obtain ⟨R, hRe⟩ : ∃ R, k + m = R := ⟨_, rfl⟩
  have hRi : (k : Int) + m = (R : Nat) := by rw [← hRe]; omega
  have HT := Lib.hid ht
  unfold Handed1
  unfold Handed at HPW HPK HIV HMU
  rw [hRe] at HPW HPK HMU hm1 ⊢
  obtain ⟨M1, hM1⟩ : ∃ M, R * k = M := ⟨_, rfl⟩
  obtain ⟨M2, hM2⟩ : ∃ M, k * k = M := ⟨_, rfl⟩
  rw [hM1] at HPW HPK HMU hm1 ⊢
  rw [hM2] at HPK HIV HMU hm2
  clear hM1 hM2 ht
  have h0 : ((0 : Nat) : Int) = 0 := rfl
  unfold Counted at HNB
  rw [h0] at HNB HPK
  clear h0
  go_enter Try.func64, Try.ntmps64
  go_wp2_with (go_at_call 82; refine (HPW.out _ (HT.out.below (below_put w _) HT.out.lt)).mono ?_; rintro e w1 ⟨g1, l1, rfl, hg1, hd1, hc1, hb1⟩; have HD1 := Lib.hid hd1; have HC1 := Lib.hid hc1; have HB1 := Lib.hid hb1; have HBW := Lib.hid (later1 hb1); clear hg1 hd1 hc1 hb1)
  have HX6 : Hid (Bx w1 w.heap.size (.int .i64 0) (.int .i64 0) (.slice none 0 0)) := Lib.hid ((alloc_bx w _ _ _).below HB1.out (alloc_lt _ _))
  have HX7 := Lib.hid (alloc_bx w1 (.int .i64 R) (.int .i64 k) (.slice (some ⟨g1, 0, none⟩) M1 M1))
  have HS2 : Hid (∀ w', Below (w1.alloc (.cells #[.int .i64 R, .int .i64 k, .slice (some ⟨g1, 0, none⟩) M1 M1] 137)).heap.size (w1.alloc (.cells #[.int .i64 R, .int .i64 k, .slice (some ⟨g1, 0, none⟩) M1 M1] 137)) w' →
      IsTab w' t ∧ Bx w' w.heap.size (.int .i64 0) (.int .i64 0) (.slice none 0 0) ∧ Bx w' w1.heap.size (.int .i64 R) (.int .i64 k) (.slice (some ⟨g1, 0, none⟩) M1 M1) ∧ Dat w' g1 M1 l1 ∧ Below w.heap.size w w') :=
    Lib.hid (fun w' h => ⟨HT.out.below (b_on (b_put HBW.out _) h) HT.out.lt, HX6.out.below (b_on (below_put w1 _) h) HX6.out.lt, HX7.out.below h HX7.out.lt, HD1.out.below (b_on (below_put w1 _) h) HD1.out.lt, b_on (b_put HBW.out _) h⟩)
  clear HX6 HX7 HB1 HBW HD1
  generalize w1.alloc (.cells #[.int .i64 R, .int .i64 k, .slice (some ⟨g1, 0, none⟩) M1 M1] 137) = w2 at *
  generalize w1.heap.size = b7 at *
  go_cut [0, 6, 7, 9] (fun s0 s6 s7 s wx => s0 = .pointer (some ⟨t, 0, none⟩) ∧ s6 = .pointer (some ⟨w.heap.size, 0, none⟩) ∧ s7 = .pointer (some ⟨b7, 0, none⟩) ∧ ∃ (b9 g2 : Nat) (l2 : List Int), s = .pointer (some ⟨b9, 0, none⟩) ∧ Hid (Below w2.heap.size w2 wx ∧ Bx wx b9 (.int .i64 k) (.int .i64 k) (.slice (some ⟨g2, 0, none⟩) M2 M2) ∧ Dat wx g2 M2 l2 ∧ (∀ i j, i < k → j < k → co l2 (i * k + j) = pwr i j)))
  case first =>
    have HS : Hid (∀ w', Below w2.heap.size w2 w' → Below w2.heap.size w2 w' ∧ w'.cell? ⟨b7, 0, none⟩ = some (.int .i64 (R : Int)) ∧ w'.cell? ⟨b7, 1, none⟩ = some (.int .i64 (k : Int)) ∧ w'.cell? ⟨b7, 2, none⟩ = some (.slice (some ⟨g1, 0, none⟩) M1 M1)) :=
      Lib.hid (fun w' h => ⟨h, (HS2.out _ h).2.2.1.cells.1, (HS2.out _ h).2.2.1.cells.2.1, (HS2.out _ h).2.2.1.cells.2.2.1⟩)
    have cc : Below w2.heap.size w2 w2.drew := (Below.refl _ _).drew
    go_region_held3 (fun w' => Below w2.heap.size w2 w' ∧ w'.cell? ⟨b7, 0, none⟩ = some (.int .i64 (R : Int)) ∧ w'.cell? ⟨b7, 1, none⟩ = some (.int .i64 (k : Int)) ∧ w'.cell? ⟨b7, 2, none⟩ = some (.slice (some ⟨g1, 0, none⟩) M1 M1))
      (first
        | exact HS.out _ cc
        | exact HS.out _ (cc.alloc cc.size _)
        | exact HS.out _ (Below.refl _ _)
        | exact HS.out _ (below_set3 cc hle)
        | fail "keep")
      (first
        | (go_at_call 67; (with_reducible refine (HNB.out w2.drew).mono ?_); rintro e wn ⟨gn, rfl, hgn, hrn, hb⟩; replace cc := b_on cc hb; have hRN : ∀ o, (wn.alloc o).rowIs gn 3 k (fun i => .int .i64 (0 + i)) := (fun o => World.rowIs.of_block hrn (Below.heap_alloc _ _ _ (World.rowIs.lt hrn))); clear hb)
        | (go_at_call 67; (with_reducible refine (HNB.out _).mono ?_); rintro e wn ⟨gn, rfl, hgn, hrn, hb⟩; replace cc := b_on (b_put cc _) hb; have hbx : Bx wn w2.heap.size (.int .i64 0) (.int .i64 0) (.slice none 0 0) := (alloc_bx w2.drew _ _ _).below hb (alloc_lt _ _); clear hb)
        | (go_at_call 83; (with_reducible refine (HPK.out _ g1 l1 gn (HS2.out _ cc).2.2.2.1 HC1.out hrn).mono ?_); rintro e wm ⟨g2, l2, rfl, hg2, hd2, hc2, hb⟩; replace cc := b_on cc hb; (try (have hle := Nat.le_refl w2.heap.size; have hne : w2.heap.size < g2 := Nat.lt_of_lt_of_le hbx.lt hg2; replace hbx := hbx.below hb hbx.lt; obtain ⟨k0, k1, k2, kf⟩ := hbx.cells)); clear hb)
        | (go_at_call 83; (with_reducible refine (HPK.out _ g1 l1 gn (HS2.out _ (b_put cc _)).2.2.2.1 HC1.out (hRN _)).mono ?_); rintro e wm ⟨g2, l2, rfl, hg2, hd2, hc2, hb⟩; have hle := cc.size; replace cc := b_on (b_put cc _) hb; have hbx : Bx wm wn.heap.size (.int .i64 0) (.int .i64 0) (.slice none 0 0) := (alloc_bx wn _ _ _).below hb (alloc_lt _ _); have hne : wn.heap.size < g2 := Nat.lt_of_lt_of_le (alloc_lt _ _) hg2; obtain ⟨k0, k1, k2, kf⟩ := hbx.cells; clear hb)
        | fail "arm")
    all_goals
      first
        | (have HF := Lib.hid (And.intro (below_set3 (x := .int .i64 k) (y := .int .i64 k) (z := .slice (some ⟨g2, 0, none⟩) M2 M2) cc hle) (And.intro (hbx.write (x' := .int .i64 k) (y' := .int .i64 k) (z' := .slice (some ⟨g2, 0, none⟩) M2 M2)) (And.intro (dat_set3 (x := .int .i64 k) (y := .int .i64 k) (z := .slice (some ⟨g2, 0, none⟩) M2 M2) hd2 (Nat.ne_of_gt hne)) hc2))); clear k0 k1 k2 kf; go_wp2_with fail; go_meet; exact ⟨rfl, rfl, rfl, _, _, _, rfl, HF⟩)
        | (have HF := Lib.hid (And.intro (b_put cc (.cells #[.int .i64 k, .int .i64 k, .slice (some ⟨g2, 0, none⟩) M2 M2] 137)) (And.intro (alloc_bx wm (.int .i64 k) (.int .i64 k) (.slice (some ⟨g2, 0, none⟩) M2 M2)) (And.intro (hd2.keep (Below.heap_alloc _ (.cells #[.int .i64 k, .int .i64 k, .slice (some ⟨g2, 0, none⟩) M2 M2] 137) _ hd2.lt)) hc2))); go_wp2_with fail; go_meet; exact ⟨rfl, rfl, rfl, _, _, _, rfl, HF⟩)
  case rest =>
    obtain ⟨rfl, rfl, rfl, b9, g2, l2, rfl, HF⟩ := hcut
    have HALL : Hid (∀ w', Below wc.heap.size wc w' → IsTab w' t ∧ Bx w' w.heap.size (.int .i64 0) (.int .i64 0) (.slice none 0 0) ∧ Bx w' b7 (.int .i64 R) (.int .i64 k) (.slice (some ⟨g1, 0, none⟩) M1 M1) ∧ Dat w' g1 M1 l1 ∧ Below w.heap.size w w' ∧ Bx w' b9 (.int .i64 k) (.int .i64 k) (.slice (some ⟨g2, 0, none⟩) M2 M2) ∧ Dat w' g2 M2 l2) :=
      Lib.hid (fun w' h => by
        obtain ⟨a1, a2, a3, a4, a5⟩ := HS2.out w' (b_on HF.out.1 h)
        exact ⟨a1, a2, a3, a4, a5, HF.out.2.1.below h HF.out.2.1.lt, HF.out.2.2.1.below h HF.out.2.2.1.lt⟩)
    have HC2 := Lib.hid HF.out.2.2.2
    clear HF HS2 HNB HPK HPW
    obtain ⟨k0, k1, k2, kf⟩ := (HALL.out _ (Below.refl _ _)).2.2.2.2.2.1.cells
    go_wp2_with first
      | (go_at_call 84; refine (HIV.out _ g2 l2 (HALL.out _ (Below.refl _ _)).1 (HALL.out _ (Below.refl _ _)).2.2.2.2.2.2 HC2.out).mono ?_; rintro e w3 ⟨V, hV, g3, l3, rfl, hg3, hd3, hc3, hb3⟩; have HV := Lib.hid hV; have HD3 := Lib.hid hd3; have HC3 := Lib.hid hc3; have HB3 := Lib.hid hb3; clear hV hg3 hd3 hc3 hb3 k0 k1 k2 kf; obtain ⟨k0, k1, k2, kf⟩ := bx_cells_alloc (HALL.out _ HB3.out).2.2.1)
      | (go_at_call 85; refine (HMU.out _ g1 l1 g3 l3 V (HALL.out _ (b_put HB3.out _)).1 (HALL.out _ (b_put HB3.out _)).2.2.2.1 HC1.out (HD3.out.keep (Below.heap_alloc _ _ _ HD3.out.lt)) HC3.out HV.out).mono ?_; rintro e w4 ⟨g4, l4, rfl, hg4, hd4, hc4, hb4⟩; have HG4 := Lib.hid hg4; have HD4 := Lib.hid hd4; have HC4 := Lib.hid hc4; have HB4 := Lib.hid (b_on (b_put HB3.out _) hb4); clear hg4 hd4 hc4 hb4 k0 k1 k2 kf; obtain ⟨k0, k1, k2, kf⟩ := bx_cells_alloc (HALL.out _ HB4.out).2.1)
    clear k0 k1 k2 kf
    have HX := (bx_alloc (HALL.out _ HB4.out).2.1 (.cells #[.int .i64 R, .int .i64 k, .slice (some ⟨g4, 0, none⟩) M1 M1] 137)).write (x' := .int .i64 R) (y' := .int .i64 k) (z' := .slice (some ⟨g4, 0, none⟩) M1 M1)
    obtain ⟨z0, z1, z2, _⟩ := HX.cells
    refine bodyPost_ret (v := .agg #[.int .i64 R, .int .i64 k, .slice (some ⟨g4, 0, none⟩) M1 M1]) (by simp [results, Try.results64, go_sem, z0, z1, z2]) rfl ?_
    clear z0 z1 z2 HX
    have hlt : w.heap.size < g4 := by
      have h1 := HG4.out
      have h2 := (HALL.out _ HB3.out).2.1.lt
      have h3 := alloc_lt w3 (.cells #[.int .i64 k, .int .i64 k, .slice (some ⟨g3, 0, none⟩) M2 M2] 137)
      omega
    exact ⟨g4, l4, rfl, Nat.le_of_lt hlt, dat_set3 (HD4.out.keep (Below.heap_alloc _ _ _ HD4.out.lt)) (Nat.ne_of_gt hlt), HC4.out, below_set3 (b_put (HALL.out _ HB4.out).2.2.2.2.1 _) (Nat.le_refl _)⟩
end Go.Proofs.Ytjcbcdjfhcnhcaa
namespace Go.Proofs.Ytjcbcdjfhcnhcaa
open Go.RowKit

/-- A code in memory: its field, its numbers, the weights of its rows. -/
structure IsCode (w : World) (b t k m : Nat) : Prop where
  tab : IsTab w t
  low : 1 ≤ k
  high : k + m ≤ 255
  rows : ∃ g l, w.heap[b]? = some (.cells #[.pointer (some ⟨t, 0, none⟩), .int .i64 k, .int .i64 m, .int .i64 (k + m : Nat), .int .i64 k, .slice (some ⟨g, 0, none⟩) ((k + m) * k) ((k + m) * k)] 140 (0, 0)) ∧
    Dat w g ((k + m) * k) l ∧ ∀ x j, x < k + m → j < k → co l (x * k + j) = lagw nid k j x
theorem IsCode.lt {w : World} {b t k m : Nat} (h : IsCode w b t k m) : b < w.heap.size := by
  obtain ⟨g, l, hb, _⟩ := h.rows
  exact (Array.getElem?_eq_some_iff.1 hb).1
theorem IsCode.below {w w' : World} {b t k m : Nat} (h : IsCode w b t k m) (hb : Below w.heap.size w w') : IsCode w' b t k m := by
  obtain ⟨g, l, h1, h2, h3⟩ := h.rows
  exact ⟨h.tab.below hb h.tab.lt, h.low, h.high, g, l, (hb.block b h.lt).trans h1, h2.below hb h2.lt, h3⟩
/-- The cells of a code. -/
structure CodeCells (w : World) (b t k m R M g : Nat) : Prop where
  c0 : w.cell? ⟨b, 0, none⟩ = some (.pointer (some ⟨t, 0, none⟩))
  c1 : w.cell? ⟨b, 1, none⟩ = some (.int .i64 k)
  c2 : w.cell? ⟨b, 2, none⟩ = some (.int .i64 m)
  c3 : w.cell? ⟨b, 3, none⟩ = some (.int .i64 R)
  c4 : w.cell? ⟨b, 4, none⟩ = some (.int .i64 k)
  c5 : w.cell? ⟨b, 5, none⟩ = some (.slice (some ⟨g, 0, none⟩) M M)
theorem IsCode.cells {w : World} {b t k m R M : Nat} (h : IsCode w b t k m) (hR : k + m = R) (hM : R * k = M) : ∃ g l, CodeCells w b t k m R M g ∧ Dat w g M l ∧ ∀ x j, x < R → j < k → co l (x * k + j) = lagw nid k j x := by
  obtain ⟨g, l, hb, hd, hc⟩ := h.rows
  subst hR
  subst hM
  refine ⟨g, l, ⟨?_, ?_, ?_, ?_, ?_, ?_⟩, hd, hc⟩ <;> (simp only [World.cell?, hb]; rfl)
/-- What New answers. -/
def Coded (t k m : Nat) (w : World) (e : Ending) (w' : World) : Prop :=
  ∃ b, e = .returned (.tuple #[.pointer (some ⟨b, 0, none⟩), .int .i64 0]) ∧ w.heap.size ≤ b ∧ IsCode w' b t k m ∧ Below w.heap.size w w'
set_option maxRecDepth 100000 in
theorem code_some (t k m : Nat) (h1 : 1 ≤ k) (hR : k + m ≤ 255) (w : World) (ht : IsTab w t) :
    Calls Try.prog 30 #[.pointer (some ⟨t, 0, none⟩), .int .i64 k, .int .i64 m] w (Coded t k m w) := by
  have HA := Lib.hid (all_of_data t k m h1 hR w ht)
  have HT := Lib.hid ht
  have k1 : ¬ (k : Int) < 1 := by omega
  have m0 : ¬ (m : Int) < 0 := by omega
  have km : ¬ (255 : Int) - m < k := by omega
  have HK := Lib.hid (And.intro h1 hR)
  clear ht h1
  unfold Handed1 at HA
  unfold Coded
  go_enter Try.func30, Try.ntmps30
  go_wp2_with (go_at_call 64; refine HA.out.mono ?_; rintro e w1 ⟨g, l, rfl, hg, hd, hc, hb⟩; have HD := Lib.hid hd; have HC := Lib.hid hc; have HB := Lib.hid hb; clear hg hd hc hb)
  go_ret2
  have hX := Go.Deep.blk_alloc_new w1 (.cells #[.pointer (some ⟨t, 0, none⟩), .int .i64 k, .int .i64 m, .int .i64 (k + m : Nat), .int .i64 k, .slice (some ⟨g, 0, none⟩) ((k + m) * k) ((k + m) * k)] 140)
  exact ⟨w1.heap.size, rfl, HB.out.size, ⟨HT.out.below (b_put HB.out _) HT.out.lt, HK.out.1, HK.out.2, g, l, hX, HD.out.keep (Below.heap_alloc _ _ _ HD.out.lt), HC.out⟩, b_put HB.out _⟩
end Go.Proofs.Ytjcbcdjfhcnhcaa
namespace Go.Proofs.Ytjcbcdjfhcnhcaa
open Go.RowKit

end Go.Proofs.Ytjcbcdjfhcnhcaa
namespace Go.Proofs.Ytjcbcdjfhcnhcaa
open Go.RowKit

end Go.Proofs.Ytjcbcdjfhcnhcaa
