/-
  Own text: law PacerShares, walked.
-/
import Derived.Test.YtbbdkkjbcpkplaaPcY
import Derived.Deep.DeepCutAuto
namespace Go.Proofs.Ytbbdkkjbcpkplaa
open Go.RowKit

theorem sumZ_bd (f : Nat → Int) (M : Int) (n : Nat) (h : ∀ i, i < n → 0 ≤ f i ∧ f i ≤ M) : 0 ≤ sumZ f n ∧ sumZ f n ≤ M * (n : Int) := by
  induction n with
  | zero => simp [sumZ]
  | succ n ih =>
    have := ih (fun i hi => h i (by omega))
    have := h n (by omega)
    simp only [sumZ]
    push_cast
    rw [Int.mul_add, Int.mul_one]
    omega
theorem tmod_bd (y : Int) : -65536 ≤ y.tmod 65537 ∧ y.tmod 65537 ≤ 65536 := by
  have h : (y.tmod 65537).natAbs < 65537 := by rw [Int.natAbs_tmod]; exact Nat.mod_lt _ (by decide)
  omega
theorem tmod_same (y : Int) (h0 : 0 ≤ y) (h1 : y ≤ 65536) : y.tmod 65537 = y := by
  rw [Int.tmod_eq_emod_of_nonneg h0]; omega
/-- The law's sum of the first ones. -/
def sumT (z : Nat → Int) (n : Nat) : Int := sumZ (fun i => (z i).tmod 65537) n
theorem sumT_bd (z : Nat → Int) (n : Nat) : -(65536 * (n : Int)) ≤ sumT z n ∧ sumT z n ≤ 65536 * (n : Int) := by
  induction n with
  | zero => simp [sumT, sumZ]
  | succ n ih =>
    have := tmod_bd (z n)
    have e : sumT z (n + 1) = sumT z n + (z n).tmod 65537 := rfl
    rw [e]
    push_cast
    omega
theorem sumT_same (z : Nat → Int) (n : Nat) (h : ∀ i, i < n → 0 ≤ z i ∧ z i ≤ 65536) : sumT z n = sumZ z n := sumZ_congr _ _ n (fun i hi => tmod_same _ (h i hi).1 (h i hi).2)
set_option maxRecDepth 100000 in
set_option maxHeartbeats 1000000 in
theorem shares12_bad (r : Int) (a : Option Addr) (n c : Nat) (hn : n ≤ 1000) (z : Nat → Int) (hg : ¬ Good r n z) (w : World) (h : Nums w a n z) :
    Calls Try.prog 6 #[.int .i64 r, .slice a n c] w (Yes12 w) := by
  have CS := Lib.hid (fun w1 (hb : Below w.heap.size w w1) => share_bad r a n c z hg w1 (h.below hb (Nat.le_refl _)))
  have HNU := Lib.hid (fun w1 (hb : Below w.heap.size w w1) => h.below hb (Nat.le_refl _))
  have HG := Lib.hid hg
  have HN := Lib.hid hn
  have hn2 : ¬ (1000 : Int) < (n : Int) := by omega
  clear hg h hn
  go_enter Try.func6, Try.ntmps6
  go_upto_region 6 with (first
    | (go_at_call 7; (refine (awake12_any _).mono ?_); rintro e w1 ⟨rfl, hb1⟩; have HB1 := Lib.hid hb1; clear hb1)
    | (go_at_call 13; (with_reducible refine (CS.out _ HB1.out).mono ?_); rintro e w2 ⟨rfl, rfl⟩)
    | fail)
  clear hn2 CS
  go_cut [7, 8] from 24 to 34 (fun s7 s8 wx => ∃ b0 : Bool, s7 = .bool b0 ∧ s8 = .int .i64 0 ∧ Hid (b0 = true → 0 ≤ r ∧ r ≤ 1048576 ∧ n ≤ 256) ∧ Hid (wx = w1))
  case first =>
    by_cases h1 : 0 ≤ r
    · by_cases h2 : r ≤ 1048576
      · by_cases h3 : n ≤ 256
        · have h3' : (n : Int) ≤ 256 := by omega
          have HH : Hid (0 ≤ r ∧ r ≤ 1048576 ∧ n ≤ 256) := Lib.hid ⟨h1, h2, h3⟩
          clear h3
          go_wp2_with fail
          go_meet
          exact ⟨true, rfl, rfl, Lib.hid (fun _ => HH.out), Lib.hid (by first | rfl | trivial)⟩
        · have h3' : ¬ (n : Int) ≤ 256 := by omega
          clear h3
          go_wp2_with fail
          go_meet
          exact ⟨false, rfl, rfl, Lib.hid (fun h => by cases h), Lib.hid (by first | rfl | trivial)⟩
      · go_wp2_with fail
        go_meet
        exact ⟨false, rfl, rfl, Lib.hid (fun h => by cases h), Lib.hid (by first | rfl | trivial)⟩
    · go_wp2_with fail
      go_meet
      exact ⟨false, rfl, rfl, Lib.hid (fun h => by cases h), Lib.hid (by first | rfl | trivial)⟩
  case rest =>
    obtain ⟨b0, rfl, rfl, HB0, HWC⟩ := hcut
    have hwc := HWC.out.symm
    subst hwc
    go_wp2
    go_loopw [7, 8, 9] (fun o s i wr => ∃ (j : Nat) (b : Bool), i = .int .i64 (j : Int) ∧ j ≤ n ∧ o = .bool b ∧ s = .int .i64 (sumT z j) ∧ Hid (b = true → (0 ≤ r ∧ r ≤ 1048576 ∧ n ≤ 256) ∧ ∀ i, i < j → 0 ≤ z i ∧ z i ≤ 65536) ∧ Hid (wr = w1)) (fun _ _ i _ => n - (intOf i).toNat)
    case atStart => exact ⟨0, b0, rfl, Nat.zero_le _, rfl, rfl, Lib.hid (fun h => ⟨HB0.out h, fun i hi => by omega⟩), Lib.hid rfl⟩
    case round =>
      obtain ⟨j, b, rfl, hj, rfl, rfl, HBJ, HW⟩ := hrel
      have hw := HW.out.symm
      subst hw
      have hnn := HN.out
      by_cases hlt : j < n
      · obtain ⟨g, off, rfl, hg, c0⟩ := (HNU.out _ HB1.out).at_ hlt
        have k1 : (j : Int) < n := by omega
        have k2 : (0 : Int) ≤ (j : Int) := by omega
        have k3 : (j : Int) ≤ 1000 := by omega
        obtain ⟨s1, s2⟩ := sumT_bd z j
        obtain ⟨t1, t2⟩ := tmod_bd (z j)
        have HST : Hid (sumT z (j + 1) = sumT z j + (z j).tmod 65537) := Lib.hid rfl
        obtain ⟨m, hm⟩ : ∃ m, m = (z j).tmod 65537 := ⟨_, rfl⟩
        rw [← hm] at HST t1 t2
        have HMM := Lib.hid hm.symm
        have wr1 : IntKind.i64.wrap m = m := by rw [IntKind.wrap_i64]; omega
        have wr2 : IntKind.i64.wrap (sumT z j + m) = sumT z j + m := by rw [IntKind.wrap_i64]; omega
        have HJK : Hid (j + 1 ≤ n) := Lib.hid (by omega)
        have HBN : Hid ((b = true ∧ 0 ≤ z j ∧ z j ≤ 65536) → (0 ≤ r ∧ r ≤ 1048576 ∧ n ≤ 256) ∧ ∀ i, i < j + 1 → 0 ≤ z i ∧ z i ≤ 65536) := Lib.hid (fun ⟨h1, h2⟩ => ⟨(HBJ.out h1).1, fun i hi => by
          by_cases e : i = j
          · subst e; exact h2
          · exact (HBJ.out h1).2 i (by omega)⟩)
        clear hg hj hnn s1 s2 t1 t2 HBJ hm
        generalize hz : z j = y at *
        generalize hs : sumT z j = s at *
        clear hz hs hlt
        have hpos : 0 ≤ y → y % 65537 = m := fun h => by rw [← HMM.out, Int.tmod_eq_emod_of_nonneg h]
        have HPO := Lib.hid hpos
        have tm := HMM.out
        clear hpos
        cases b
        · go_wp2
          go_roundw
          case rel => exact ⟨j + 1, false, by go_num, HJK.out, rfl, by rw [HST.out], Lib.hid (fun h => by cases h), by first | exact Lib.hid trivial | exact HW⟩
          case measure => simp [intOf] <;> (have := HJK.out; omega)
        · by_cases h1 : 0 ≤ y
          · have tp := HPO.out h1
            by_cases h2 : y ≤ 65536
            · have HYY : Hid (0 ≤ y ∧ y ≤ 65536) := Lib.hid ⟨h1, h2⟩
              go_wp2
              go_roundw
              case rel => exact ⟨j + 1, true, by go_num, HJK.out, rfl, by rw [HST.out], Lib.hid (fun _ => HBN.out ⟨rfl, HYY.out⟩), by first | exact Lib.hid trivial | exact HW⟩
              case measure => simp [intOf] <;> (have := HJK.out; omega)
            · go_wp2
              go_roundw
              case rel => exact ⟨j + 1, false, by go_num, HJK.out, rfl, by rw [HST.out], Lib.hid (fun h => by cases h), by first | exact Lib.hid trivial | exact HW⟩
              case measure => simp [intOf] <;> (have := HJK.out; omega)
          · go_wp2
            go_roundw
            case rel => exact ⟨j + 1, false, by go_num, HJK.out, rfl, by rw [HST.out], Lib.hid (fun h => by cases h), by first | exact Lib.hid trivial | exact HW⟩
            case measure => simp [intOf] <;> (have := HJK.out; omega)
      · obtain rfl : j = n := by omega
        have hz : b = true → sumT z j = 0 := fun hb => by
          obtain ⟨⟨h1, h2, h3⟩, h4⟩ := HBJ.out hb
          have e := sumT_same z j h4
          have e2 := (sumZ_lo z j h4).1
          rw [e]
          by_cases e3 : 0 < sumZ z j
          · exact absurd ⟨⟨h3, h4⟩, e3, h1, h2⟩ HG.out
          · omega
        clear HBJ hj hnn
        cases b
        · clear hz
          generalize sumT z j = s at *
          go_wp2
          go_ret
          exact ⟨rfl, HB1.out⟩
        · rw [hz rfl]
          clear hz
          go_wp2
          go_ret
          exact ⟨rfl, HB1.out⟩
set_option maxRecDepth 100000 in
set_option maxHeartbeats 1000000 in
theorem shares12_good (r : Int) (a : Option Addr) (n c : Nat) (z : Nat → Int) (hg : Good r n z) (w : World) (h : Nums w a n z) :
    Calls Try.prog 6 #[.int .i64 r, .slice a n c] w (Yes12 w) := by
  have CS := Lib.hid (fun w1 (hb : Below w.heap.size w w1) => share_good r a n c z hg w1 (h.below hb (Nat.le_refl _)))
  have CR := Lib.hid (fun w1 (hb : Below w.heap.size w w1) => rshare_any r a n c z hg w1 (h.below hb (Nat.le_refl _)))
  have HNU := Lib.hid (fun w1 (hb : Below w.heap.size w w1) => h.below hb (Nat.le_refl _))
  obtain ⟨hk, hs, r0, r1⟩ := hg
  have HZ := Lib.hid hk
  have HS : Hid (∀ j, j ≤ n → 0 ≤ sumZ z j ∧ sumZ z j ≤ 65536 * (j : Int)) := Lib.hid (fun j hj => sumZ_lo z j (fun i hi => hk.2 i (by omega)))
  have HSN : Hid (0 < sumZ z n) := Lib.hid hs
  have HP : Hid (∀ j, j < n → 0 ≤ shp r n z j ∧ shp r n z j ≤ r + 1) := Lib.hid (fun j hj => shp_lo r0 hk hs hj)
  have HPS : Hid (∀ j, j ≤ n → 0 ≤ sumZ (shp r n z) j ∧ sumZ (shp r n z) j ≤ 1048577 * (j : Int)) := Lib.hid (fun j hj => sumZ_bd _ _ j (fun i hi => by have := shp_lo r0 hk hs (show i < n by omega); omega))
  have HPN := Lib.hid (shp_sum r0 hk hs)
  have HPZ := Lib.hid (shp_zero r n z)
  have HR1 := Lib.hid r1
  have hn1 : (n : Int) ≤ 256 := by have := hk.1; omega
  have hn2 : ¬ (1000 : Int) < (n : Int) := by omega
  clear hk hs h
  go_enter Try.func6, Try.ntmps6
  go_wp2_with (first
    | (go_at_call 7; (refine (awake12_any _).mono ?_); rintro e w1 ⟨rfl, hb1⟩; have HB1 := Lib.hid hb1; clear hb1)
    | (go_at_call 13; (with_reducible refine (CS.out _ HB1.out).mono ?_); rintro e w2 ⟨rfl, HO2, HB2⟩)
    | fail)
  have HBW2 := Lib.hid (HB1.out.trans (HB2.out.mono HB1.out.size))
  clear hn2 CS hn1 r0 r1
  generalize w1.heap.size = g1 at *
  go_loopw [7, 8, 9] (fun o s i wr => ∃ j : Nat, i = .int .i64 (j : Int) ∧ j ≤ n ∧ o = .bool true ∧ s = .int .i64 (sumZ z j) ∧ Hid (wr = w2)) (fun _ _ i _ => n - (intOf i).toNat)
  case atStart => exact ⟨0, rfl, Nat.zero_le _, rfl, rfl, Lib.hid rfl⟩
  case round =>
    obtain ⟨j, rfl, hj, rfl, rfl, HW⟩ := hrel
    have hw := HW.out.symm
    subst hw
    have hnn := HZ.out.1
    by_cases hlt : j < n
    · obtain ⟨g, off, rfl, hg, c0⟩ := (HNU.out _ HBW2.out).at_ hlt
      have k1 : (j : Int) < n := by omega
      have k2 : (0 : Int) ≤ (j : Int) := by omega
      have k3 : (j : Int) ≤ 256 := by omega
      obtain ⟨s1, s2⟩ := HS.out j hj
      obtain ⟨y1, y2⟩ := HZ.out.2 j hlt
      have HST : Hid (sumZ z (j + 1) = sumZ z j + z j) := Lib.hid rfl
      have td1 := tmod_same (z j) y1 y2
      have wr1 : IntKind.i64.wrap (z j) = z j := by rw [IntKind.wrap_i64]; omega
      have wr2 : IntKind.i64.wrap (sumZ z j + z j) = sumZ z j + z j := by rw [IntKind.wrap_i64]; omega
      have HJK : Hid (j + 1 ≤ n) := Lib.hid (by omega)
      clear hg hj hnn s1 s2
      generalize hz : z j = y at *
      generalize hs : sumZ z j = s at *
      clear hz hs hlt
      go_wp2
      go_roundw
      case rel => exact ⟨j + 1, by go_num, HJK.out, rfl, by rw [HST.out], by first | exact Lib.hid trivial | exact HW⟩
      case measure => simp [intOf] <;> (have := HJK.out; omega)
    · obtain rfl : j = n := by omega
      obtain ⟨sn, hsn⟩ : ∃ sn, sn = sumZ z j := ⟨_, rfl⟩
      have hs0 : (sn == 0) = false := by have := HSN.out; simp; omega
      have hs1 : ¬ sn = 0 := by have := HSN.out; omega
      rw [← hsn]
      clear hsn hj hlt HS HSN
      go_wp2_with (first
        | (go_at_call 14; (with_reducible refine (CR.out _ HBW2.out).mono ?_); rintro e w3 ⟨g2, C2, rfl, HO3, HB3⟩)
        | fail)
      have HO5 := Lib.hid (HO2.out.below HB3.out (Nat.le_refl _))
      have HBW3 := Lib.hid (HBW2.out.trans (HB3.out.mono HBW2.out.size))
      clear hs0 hs1 CR HO2 HB2 HB3 HBW2
      go_loopw [11, 12] (fun s i wr => ∃ k : Nat, i = .int .i64 (k : Int) ∧ k ≤ j ∧ s = .int .i64 (sumZ (shp r j z) k) ∧ Hid (∃ q, wr = w3.drewN q)) (fun _ i _ => j - (intOf i).toNat)
      case atStart => exact ⟨0, rfl, Nat.zero_le _, rfl, Lib.hid ⟨0, rfl⟩⟩
      case round =>
        obtain ⟨k, rfl, hk, rfl, HWQ⟩ := hrel
        obtain ⟨wo, hwo⟩ : ∃ wo, wo = wr := ⟨_, rfl⟩
        subst hwo
        have hnn2 := HZ.out.1
        by_cases hlt : k < j
        · obtain ⟨q, hq⟩ := HWQ.out
          have hnw := (HNU.out _ HBW3.out).at_ hlt
          obtain ⟨g, off, rfl, hg, c0⟩ := hnw
          obtain ⟨g3, e3, _, _, p0, _, _, _, _⟩ := HO5.out.at_ k hlt
          obtain ⟨g4, e4, _, _, p1, _, _, _, _⟩ := HO3.out.at_ k hlt
          simp only [Option.some.injEq, Addr.mk.injEq, and_true] at e3 e4
          subst e3 e4
          rw [lst_getD _ _ _ hlt] at p0 p1
          have d0 : wo.cell? ⟨g, off + k, none⟩ = some (.int .i64 (z k)) := by rw [hq]; exact c0
          have d1 : wo.cell? ⟨g1, k, none⟩ = some (.int .i64 (shp r j z k)) := by rw [hq]; exact p0
          have d2 : wo.cell? ⟨g2, k, none⟩ = some (.int .i64 (shp r j z k)) := by rw [hq]; exact p1
          have k1 : (k : Int) < j := by omega
          have k2 : (0 : Int) ≤ (k : Int) := by omega
          have k3 : (k : Int) ≤ 256 := by omega
          obtain ⟨s1, s2⟩ := HPS.out k hk
          obtain ⟨y1, y2⟩ := HP.out k hlt
          have hr1 := HR1.out
          have hpz := HPZ.out k
          have HST : Hid (sumZ (shp r j z) (k + 1) = sumZ (shp r j z) k + shp r j z k) := Lib.hid rfl
          have wr2 : IntKind.i64.wrap (sumZ (shp r j z) k + shp r j z k) = sumZ (shp r j z) k + shp r j z k := by rw [IntKind.wrap_i64]; omega
          have HJK : Hid (k + 1 ≤ j) := Lib.hid (by omega)
          have HWN : Hid (∀ t, ∃ q, wo.drewN t = w3.drewN q) := Lib.hid (fun t => ⟨q + t, by rw [hq, World.drewN_drewN]⟩)
          clear hg hk hnn hnn2 s1 s2 y1 y2 hr1 c0 p0 p1 hq
          generalize hs : sumZ (shp r j z) k = s at *
          generalize shp r j z k = p at *
          generalize z k = y at *
          clear hs hlt
          have n1 : (p != p) = false := by simp
          by_cases hy : y = 0
          · obtain rfl : p = 0 := hpz hy
            subst hy
            have wr3 : IntKind.i64.wrap s = s := by rw [Int.add_zero] at wr2; exact wr2
            clear hpz n1
            go_upto_region 21 with fail
            go_quiet (fail)
            have dd1 : ∀ t, (wo.drewN t).cell? ⟨g1, k, none⟩ = some (.int .i64 0) := fun t => d1
            go_wp2
            go_roundw
            case rel => exact ⟨k + 1, by go_num, HJK.out, by rw [HST.out] <;> simp, Lib.hid (HWN.out _)⟩
            case measure => simp [intOf] <;> (have := HJK.out; omega)
          · have n2 : (y == 0) = false := by simp [hy]
            clear hpz
            go_upto_region 21 with fail
            go_quiet (fail)
            have dd1 : ∀ t, (wo.drewN t).cell? ⟨g1, k, none⟩ = some (.int .i64 p) := fun t => d1
            go_wp2
            go_roundw
            case rel => exact ⟨k + 1, by go_num, HJK.out, by rw [HST.out], Lib.hid (HWN.out _)⟩
            case measure => simp [intOf] <;> (have := HJK.out; omega)
        · obtain rfl : k = j := by omega
          have e1 := HPN.out
          rw [e1]
          have e2 : (r == r) = true := by simp
          have HEND : Hid (Below w.heap.size w wo) := Lib.hid (by obtain ⟨q, hq⟩ := HWQ.out; rw [hq]; exact below_drewN HBW3.out q)
          clear hlt hk e1
          go_wp2
          go_ret
          exact ⟨rfl, HEND.out⟩
set_option maxRecDepth 100000 in
theorem shares12_walk (r : Int) (a : Option Addr) (n c : Nat) (zs : List Int) (w : World) (hi : IsRow .i64 w a n c zs) :
    Calls Try.prog 6 #[.int .i64 r, .slice a n c] w (Yes12 w) := by
  have hnu : Nums w a n (fun i => zs.getD i 0) := by
    rcases hi.at_ with h | ⟨h0, b, off, e, ha⟩
    · exact .inl h
    · exact .inr ⟨b, off, e, World.block_lt_of_cell? w _ (ha.cell 0 h0), fun i hi => ha.cell i hi⟩
  by_cases hn : 1000 < n
  · have hn2 : (1000 : Int) < (n : Int) := by omega
    clear hn hnu hi
    go_enter Try.func6, Try.ntmps6
    go_wp2_with (first
      | (go_at_call 7; (refine (awake12_any _).mono ?_); rintro e w1 ⟨rfl, hb1⟩; have HB1 := Lib.hid hb1; clear hb1)
      | fail)
    go_ret
    exact ⟨rfl, HB1.out⟩
  · by_cases hg : Good r n (fun i => zs.getD i 0)
    · exact shares12_good r a n c _ hg w hnu
    · exact shares12_bad r a n c (by omega) _ hg w hnu
end Go.Proofs.Ytbbdkkjbcpkplaa
