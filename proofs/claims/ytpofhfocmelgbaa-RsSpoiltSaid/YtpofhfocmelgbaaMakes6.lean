/-
  Own text: Rows of package rs; the law RsMakes, walked.
-/
import Derived.Test.YtpofhfocmelgbaaAwake6
namespace Go.Proofs.Ytpofhfocmelgbaa
open Go.RowKit

theorem small6_yes (k m : Nat) (h1 : 1 ≤ k) (h2 : k ≤ 20) (h3 : m ≤ 20) (w : World) : Calls Try.prog 13 #[.int .i64 k, .int .i64 m] w fun e w' => e = .returned (.bool true) ∧ w = w' := by
  have a1 : (1 : Int) ≤ k := by omega
  have a2 : (k : Int) ≤ 20 := by omega
  have a3 : (m : Int) ≤ 20 := by omega
  have a4 : (0 : Int) ≤ m := by omega
  go_enter Try.func13, Try.ntmps13
  go_wp2
  go_ret
  exact ⟨ret_bool (by simp), rfl⟩
theorem small6_no (k m : Int) (h : ¬ (1 ≤ k ∧ 0 ≤ m ∧ k ≤ 20 ∧ m ≤ 20)) (w : World) : Calls Try.prog 13 #[.int .i64 k, .int .i64 m] w fun e w' => e = .returned (.bool false) ∧ w = w' := by
  by_cases a1 : 1 ≤ k
  case neg =>
    go_enter Try.func13, Try.ntmps13
    go_wp2
    go_ret
    exact ⟨rfl, rfl⟩
  by_cases a2 : 0 ≤ m
  case neg =>
    go_enter Try.func13, Try.ntmps13
    go_wp2
    go_ret
    exact ⟨rfl, rfl⟩
  by_cases a3 : k ≤ 20
  case neg =>
    go_enter Try.func13, Try.ntmps13
    go_wp2
    go_ret
    exact ⟨rfl, rfl⟩
  have a4 : ¬ m ≤ 20 := by omega
  clear h
  go_enter Try.func13, Try.ntmps13
  go_wp2
  go_ret
  exact ⟨ret_bool (by simp), rfl⟩
/-- What Rows hands back. -/
def RowsTo (k m : Nat) (w : World) (e : Ending) (w' : World) : Prop :=
  ∃ g C l, e = .returned (.agg #[.int .i64 (k + m : Nat), .int .i64 k, .slice (some ⟨g, 0, none⟩) ((k + m) * k) C]) ∧ w.heap.size ≤ g ∧ Dat w' g ((k + m) * k) l ∧ (∀ x j, x < k + m → j < k → co l (x * k + j) = lagw nid k j x) ∧ Below w.heap.size w w'
set_option maxRecDepth 100000 in
theorem code_rows (b t k m : Nat) (w : World) (h : IsCode w b t k m) : Calls Try.prog 14 #[.pointer (some ⟨b, 0, none⟩)] w (RowsTo k m w) := by
  have hk := h.low
  have hR := h.high
  have hm1 : (k + m) * k ≤ 65025 := Nat.mul_le_mul hR (show k ≤ 255 by omega)
  have hpos : 0 < (k + m) * k := Nat.mul_pos (by omega) (by omega)
  have HCL : Hid (∀ w', Below w.heap.size w w' → ∃ g l, CodeCells w' b t k m (k + m) ((k + m) * k) g ∧ Calls Try.prog 28 #[.agg #[.int .i64 (k + m : Nat), .int .i64 k, .slice (some ⟨g, 0, none⟩) (((k + m) * k : Nat)) ((k + m) * k)]] w' (RowsTo k m w')) := Lib.hid (fun w' hb => by
    obtain ⟨g, l, hc, hd, hcl⟩ := (h.below hb).cells rfl rfl
    refine ⟨g, l, hc, (mclone_any ((k + m : Nat) : Int) k (some ⟨g, 0, none⟩) ((k + m) * k) ((k + m) * k) l w' (hd.sl (by omega)) (by omega)).mono ?_⟩
    rintro e w'' ⟨A, C, he, ho, hb'⟩
    rcases own_dat ho hd.by_ with h0 | ⟨g', rfl, hg', hd'⟩
    · omega
    · exact ⟨g', C, l, he, hg', hd', hcl, hb'⟩)
  obtain ⟨R, hRe⟩ : ∃ R, k + m = R := ⟨_, rfl⟩
  unfold RowsTo at HCL ⊢
  rw [hRe] at HCL hm1 hpos ⊢
  obtain ⟨M, hMe⟩ : ∃ M, R * k = M := ⟨_, rfl⟩
  rw [hMe] at HCL ⊢
  clear h hRe hMe
  obtain ⟨g, l, ⟨c0, c1, c2, c3, c4, c5⟩, hcall⟩ := HCL.out (w.alloc (.cells #[.int .i64 0, .int .i64 0, .slice none 0 0] 33)) (below_put w _)
  have HCA := Lib.hid hcall
  clear hcall HCL
  go_enter Try.func14, Try.ntmps14
  go_wp2_with (go_at_call 28; refine HCA.out.mono ?_; rintro e w1 ⟨g1, C1, l1, rfl, hg, hd, hc, hb⟩; have HD := Lib.hid hd; have HC := Lib.hid hc; have HX := Lib.hid ((alloc_bx w _ _ _).below hb (alloc_lt _ _)); have HG : Hid (w.heap.size < g1) := Lib.hid (Nat.lt_of_lt_of_le (alloc_lt _ _) hg); have HB := Lib.hid (later1 hb); clear hg hd hc hb c0 c1 c2 c3 c4 c5; obtain ⟨k0, k1, k2, kf⟩ := HX.out.cells)
  clear k0 k1 k2 kf
  obtain ⟨z0, z1, z2, _⟩ := (HX.out.write (x' := .int .i64 R) (y' := .int .i64 k) (z' := .slice (some ⟨g1, 0, none⟩) M C1)).cells
  refine bodyPost_ret (v := .agg #[.int .i64 R, .int .i64 k, .slice (some ⟨g1, 0, none⟩) M C1]) (by simp [results, Try.results14, go_sem, z0, z1, z2]) rfl ?_
  clear z0 z1 z2
  exact ⟨g1, C1, l1, rfl, Nat.le_of_lt HG.out, dat_set3 HD.out (Nat.ne_of_gt HG.out), HC.out, below_set3 HB.out (Nat.le_refl _)⟩
/-- The bad sizes, as the law tests them. -/
theorem makes6_bad (k m : Int) (hm : m ≤ 9223372036854775807) (_hk : -9223372036854775808 ≤ k) (h : ¬ (1 ≤ k ∧ 0 ≤ m ∧ k + m ≤ 255)) (w : World) :
    Calls Try.prog 3 #[.int .i64 k, .int .i64 m] w fun e w' => e = .returned (.bool true) ∧ Below w.heap.size w w' := by
  have HAW := Lib.hid (fun w => awake6_any w)
  have HN := Lib.hid (fun w => new_any w)
  have HC := Lib.hid (fun t w => code_no t k m hm h w)
  have hcase : k < 1 ∨ (¬ k < 1 ∧ m < 0) ∨ (¬ k < 1 ∧ ¬ m < 0 ∧ 255 < k) ∨ (¬ k < 1 ∧ ¬ m < 0 ∧ ¬ 255 < k ∧ 255 - k < m) := by omega
  clear h
  rcases hcase with h1 | ⟨h1, h2⟩ | ⟨h1, h2, h3⟩ | ⟨h1, h2, h3, h4⟩
  all_goals
    go_enter Try.func3, Try.ntmps3
    go_wp2_with first
      | (go_at_call 8; refine (HAW.out _).mono ?_; rintro e w1 ⟨rfl, hb⟩; have HB1 := Lib.hid hb; clear hb)
      | (go_at_call 10; refine (HN.out _).mono ?_; rintro e w2 ⟨rfl, ht, hb⟩; have HB2 := Lib.hid (b_on HB1.out hb); clear ht hb)
      | (go_at_call 9; refine (HC.out _ _).mono ?_; rintro e w3 ⟨rfl, rfl⟩)
    go_ret
    exact ⟨rfl, HB2.out⟩
theorem makes6_great (k m : Nat) (h1 : 1 ≤ k) (h2 : k + m ≤ 255) (hs : ¬ (k ≤ 20 ∧ m ≤ 20)) (w : World) :
    Calls Try.prog 3 #[.int .i64 k, .int .i64 m] w fun e w' => e = .returned (.bool true) ∧ Below w.heap.size w w' := by
  have HAW := Lib.hid (fun w => awake6_any w)
  have HN := Lib.hid (fun w => new_any w)
  have HC := Lib.hid (fun t w ht => code_some t k m h1 h2 w ht)
  have HS := Lib.hid (fun w => small6_no k m (by omega) w)
  have HD := Lib.hid (fun b t w (h : IsCode w b t k m) => code_data b t k m w h)
  have HP := Lib.hid (fun b t w (h : IsCode w b t k m) => code_parity b t k m w h)
  have a1 : ¬ (k : Int) < 1 := by omega
  have a2 : ¬ (m : Int) < 0 := by omega
  have a3 : ¬ (255 : Int) < k := by omega
  have a4 : ¬ (255 : Int) - k < m := by omega
  unfold Coded at HC
  clear hs
  go_enter Try.func3, Try.ntmps3
  go_wp2_with first
    | (go_at_call 8; refine (HAW.out _).mono ?_; rintro e w1 ⟨rfl, hb⟩; have HB1 := Lib.hid hb; clear hb)
    | (go_at_call 10; refine (HN.out _).mono ?_; rintro e w2 ⟨rfl, ht, hb⟩; have HT := Lib.hid ht; have HB2 := Lib.hid (b_on HB1.out hb); clear ht hb)
    | (go_at_call 9; refine (HC.out _ _ HT.out).mono ?_; rintro e w3 ⟨b, rfl, _, hc, hb⟩; have HI := Lib.hid hc; have HB3 := Lib.hid (b_on HB2.out hb); clear hc hb)
    | (go_at_call 11; refine (HD.out _ _ _ HI.out).mono ?_; rintro e w4 ⟨rfl, rfl⟩)
    | (go_at_call 12; refine (HP.out _ _ _ HI.out).mono ?_; rintro e w4 ⟨rfl, rfl⟩)
    | (go_at_call 13; refine (HS.out _).mono ?_; rintro e w4 ⟨rfl, rfl⟩)
  go_ret
  exact ⟨rfl, HB3.out⟩
set_option maxRecDepth 100000 in
set_option maxHeartbeats 1000000 in
theorem makes6_small (k m : Nat) (h1 : 1 ≤ k) (h2 : k ≤ 20) (h3 : m ≤ 20) (w : World) :
    Calls Try.prog 3 #[.int .i64 k, .int .i64 m] w fun e w' => e = .returned (.bool true) ∧ Below w.heap.size w w' := by
  have HAW := Lib.hid (fun w => awake6_any w)
  have HN := Lib.hid (fun w => new_any w)
  have HC := Lib.hid (fun t w ht => code_some t k m h1 (by omega) w ht)
  have HS := Lib.hid (fun w => small6_yes k m h1 h2 h3 w)
  have HD := Lib.hid (fun b t w (h : IsCode w b t k m) => code_data b t k m w h)
  have HP := Lib.hid (fun b t w (h : IsCode w b t k m) => code_parity b t k m w h)
  have HR := Lib.hid (fun b t w (h : IsCode w b t k m) => code_rows b t k m w h)
  have HWT : Hid (∀ w' a c x j, Ints w' a k (fun i => (nid i : Nat)) → x < k + m → j < k → Calls Try.prog 15 #[.slice a k c, .int .i64 (j : Nat), .int .i64 (x : Nat)] w' fun e w'' => e = .returned (.int .u8 (lagw nid k j x)) ∧ ∃ q, w'' = w'.drewN q) :=
    Lib.hid (fun w' a c x j hI hx hj => rweight_any a k c j x nid w' hI (by omega) (fun i hi => by show i < 256; omega) (fun i j h1 _ e => by have e2 : i = j := e; omega) hj (by omega))
  have a1 : ¬ (k : Int) < 1 := by omega
  have a2 : ¬ (m : Int) < 0 := by omega
  have a3 : ¬ (255 : Int) < k := by omega
  have a4 : ¬ (255 : Int) - k < m := by omega
  unfold Coded at HC
  unfold RowsTo at HR
  obtain ⟨R, hRe⟩ : ∃ R, k + m = R := ⟨_, rfl⟩
  have hRi : (k : Int) + m = (R : Nat) := by rw [← hRe]; omega
  have hR40 : R ≤ 40 := by omega
  have hm1 : R * k ≤ 800 := Nat.mul_le_mul hR40 h2
  rw [hRe] at HR HWT
  obtain ⟨M, hMe⟩ : ∃ M, R * k = M := ⟨_, rfl⟩
  have hMi : (R : Int) * k = (M : Nat) := by rw [← hMe]; omega
  have HSP : Hid (∀ x j, x < R → j < k → x * k + j < M) := Lib.hid (fun x j hx hj => by rw [← hMe]; exact spot_lt hx hj)
  rw [hMe] at HR hm1
  have HNG : Hid (∀ q : Nat, numsF q ++ [(q : Int)] = numsF (q + 1)) := Lib.hid (fun q => by unfold numsF; rw [List.range_succ, List.map_append]; rfl)
  have HGE : Hid (∀ q i : Nat, i < q → (numsF q).getD i 0 = (i : Int)) := Lib.hid (fun q i hi => by unfold numsF; simp [List.getD_eq_getElem?_getD, hi])
  clear hRe hMe
  go_enter Try.func3, Try.ntmps3
  go_wp2_with first
    | (go_at_call 8; refine (HAW.out _).mono ?_; rintro e w1 ⟨rfl, hb⟩; have HB1 := Lib.hid hb; clear hb)
    | (go_at_call 10; refine (HN.out _).mono ?_; rintro e w2 ⟨rfl, ht, hb⟩; have HT := Lib.hid ht; have HB2 := Lib.hid (b_on HB1.out hb); clear ht hb)
    | (go_at_call 9; refine (HC.out _ _ HT.out).mono ?_; rintro e w3 ⟨b, rfl, _, hc, hb⟩; have HI := Lib.hid hc; have HB3 := Lib.hid (b_on HB2.out hb); clear hc hb)
    | (go_at_call 11; refine (HD.out _ _ _ HI.out).mono ?_; rintro e w4 ⟨rfl, rfl⟩)
    | (go_at_call 12; refine (HP.out _ _ _ HI.out).mono ?_; rintro e w4 ⟨rfl, rfl⟩)
    | (go_at_call 13; refine (HS.out _).mono ?_; rintro e w4 ⟨rfl, rfl⟩)
    | (go_at_call 14; refine (HR.out _ _ _ HI.out).mono ?_; rintro e w5 ⟨g, C, l, rfl, _, hd, hc, hb⟩; have HDT := Lib.hid hd; have HCL := Lib.hid hc; have HB5 := Lib.hid (b_on HB3.out hb); clear hd hc hb)
  have HX := Lib.hid (alloc_bx w5 (.int .i64 R) (.int .i64 k) (.slice (some ⟨g, 0, none⟩) M C))
  have HALL : Hid (∀ w', Below (w5.alloc (.cells #[.int .i64 R, .int .i64 k, .slice (some ⟨g, 0, none⟩) M C] 33)).heap.size (w5.alloc (.cells #[.int .i64 R, .int .i64 k, .slice (some ⟨g, 0, none⟩) M C] 33)) w' → Bx w' w5.heap.size (.int .i64 R) (.int .i64 k) (.slice (some ⟨g, 0, none⟩) M C) ∧ Dat w' g M l ∧ Below w.heap.size w w') :=
    Lib.hid (fun w' h => ⟨HX.out.below h HX.out.lt, HDT.out.below (b_on (below_put w5 _) h) HDT.out.lt, b_on (b_put HB5.out _) h⟩)
  clear HX HDT HB5 HB3 HB2 HB1 HI HT HAW HN HC HS HD HP HR
  generalize w5.alloc (.cells #[.int .i64 R, .int .i64 k, .slice (some ⟨g, 0, none⟩) M C] 33) = w6 at *
  generalize w5.heap.size = b7 at *
  go_loopw [8, 9] (fun v i wr => ∃ (q : Nat) (A : Option Addr) (C : Nat), q ≤ k ∧ i = .int .i64 (q : Nat) ∧ v = .slice A q C ∧ Hid (OwnI wr w6.heap.size (.slice A q C) q (numsF q)) ∧ Hid (Below w6.heap.size w6 wr)) (fun _ i _ => k - (intOf i).toNat)
  case atStart => exact ⟨0, none, 0, by omega, rfl, rfl, Lib.hid (OwnI.none _ _), Lib.hid (Below.refl _ _)⟩
  case round =>
    obtain ⟨q, A, C1, hq, rfl, rfl, HO, HB⟩ := hrel
    obtain ⟨wo, ho⟩ : ∃ wo, wo = wr := ⟨_, rfl⟩
    subst ho
    by_cases hlt : q < k
    · have HXA : Hid (∀ o, OwnI (wo.alloc o) w6.heap.size (.slice A q C1) q (numsF q)) := Lib.hid (fun o => row_alloc HO.out o)
      have HNA : Hid (∀ o, w6.heap.size ≤ (wo.alloc o).heap.size) := Lib.hid (fun o => Nat.le_trans HB.out.size (Nat.le_of_lt (alloc_lt _ _)))
      have HLT : Hid (q + 1 ≤ 100000) := Lib.hid (by omega)
      go_wp2_with ((with_reducible refine wpList_append_int2 (w := wo.alloc _) rfl (.tmp 95) (.tmp 97) rfl w6.heap.size _ q rfl (numsF q) (HXA.out _) wo.heap.size rfl q (new_box wo _ _) HLT.out (HNA.out _) ?_); intro v3 w3 hx3 hg3; obtain ⟨A3, C3, rfl, _⟩ := row_slice hx3; have HX3 := Lib.hid hx3; have HB3 := Lib.hid (row_grown (row_alloc HO.out _) hg3 (b_put HB.out _) (Nat.le_refl _) (HNA.out _)); clear hx3 hg3)
      go_roundw
      case rel => exact ⟨q + 1, A3, C3, by omega, by go_num, rfl, by rw [← HNG.out]; exact HX3, HB3⟩
      case measure => simp [intOf]; omega
    · obtain rfl : q = k := by omega
      have HIN : Hid (Ints wo A q (fun i => (nid i : Nat))) := Lib.hid (by
        rcases HO.out.ints with h0 | ⟨b, off, e, hl, hc⟩
        · exact .inl h0
        · exact .inr ⟨b, off, e, hl, fun i hi => by rw [hc i hi]; exact congrArg (fun z => some (Value.int .i64 z)) (HGE.out q i hi)⟩)
      have HAL2 : Hid (∀ n, Bx (wo.drewN n) b7 (.int .i64 R) (.int .i64 q) (.slice (some ⟨g, 0, none⟩) M C) ∧ Dat (wo.drewN n) g M l ∧ Below w.heap.size w (wo.drewN n) ∧ Ints (wo.drewN n) A q (fun i => (nid i : Nat))) := Lib.hid (fun n => by
        obtain ⟨e1, e2, e3⟩ := HALL.out _ (below_drewN HB.out n)
        exact ⟨e1, e2, e3, HIN.out.below (below_drewN (Below.refl _ _) n) (Nat.le_refl _)⟩)
      go_wp2
      go_loopw [10, 11] (fun i _ wr => ∃ x nd : Nat, x ≤ R ∧ i = .int .i64 (x : Nat) ∧ wr = wo.drewN nd) (fun i _ _ => R - (intOf i).toNat)
      case atStart => exact ⟨0, 0, by omega, rfl, rfl⟩
      case round =>
        obtain ⟨x, nd, hx, rfl, hwr⟩ := hrel
        obtain ⟨wp, hwp⟩ : ∃ wp, wp = wr := ⟨_, rfl⟩
        subst hwp
        have HWR := Lib.hid hwr
        clear hwr
        by_cases hlx : x < R
        · go_wp2
          go_loopw [11] (fun i wr => ∃ j nd : Nat, j ≤ q ∧ i = .int .i64 (j : Nat) ∧ wr = wo.drewN nd) (fun i _ => q - (intOf i).toNat)
          case atStart => exact ⟨0, nd, by omega, rfl, HWR.out⟩
          case round =>
            obtain ⟨j, nd2, hj, rfl, hwr⟩ := hrel
            obtain ⟨wi, hwi⟩ : ∃ wi, wi = wr := ⟨_, rfl⟩
            subst hwi
            have HWR2 := Lib.hid hwr
            clear hwr
            by_cases hlj : j < q
            · have hp := HSP.out x j hlx hlj
              have HF : Hid (∀ n, Bx (wi.drewN n) b7 (.int .i64 R) (.int .i64 q) (.slice (some ⟨g, 0, none⟩) M C) ∧ Dat (wi.drewN n) g M l ∧ Ints (wi.drewN n) A q (fun i => (nid i : Nat))) := Lib.hid (fun n => by
                rw [HWR2.out, World.drewN_drewN]
                exact ⟨(HAL2.out _).1, (HAL2.out _).2.1, (HAL2.out _).2.2.2⟩)
              have c7 := fun n => (HF.out n).1.cells.2.2.1
              have cd := fun n => (HF.out n).2.1.cell (x * q + j) hp
              rw [HCL.out x j hlx hlj] at cd
              have HWQ := Lib.hid (fun n C1 => HWT.out (wi.drewN n) A C1 x j (HF.out n).2.2 hlx hlj)
              have hxi : (x : Int) * q = ((x * q : Nat) : Int) := by rw [Int.natCast_mul]
              have hxb : x * q ≤ 800 := by omega
              have hyj : ((x * q : Nat) : Int) + j = ((x * q + j : Nat) : Int) := by omega
              generalize lagw nid q j x = v at *
              generalize x * q + j = p at *
              generalize x * q = y at *
              have y0 : (0 : Int) ≤ p := by omega
              have y1 : (p : Int) < M := by omega
              go_wp2
              go_quiet ((go_at_call 15; exact Calls.quiet_of (HWQ.out _ _)))
              go_wp2
              go_roundw
              case rel =>
                rw [HWR2.out]
                exact ⟨j + 1, _, by omega, by go_num, by rw [World.drewN_drewN]⟩
              case measure => simp [intOf]; omega
            · obtain rfl : j = q := by omega
              go_wp2
              go_roundw
              case rel => exact ⟨x + 1, nd2, by omega, by go_num, HWR2.out⟩
              case measure => simp [intOf]; omega
        · obtain rfl : x = R := by omega
          go_wp2
          go_ret
          exact ⟨rfl, by rw [HWR.out]; exact (HAL2.out nd).2.2.1⟩
theorem makes6_walk (k m : Int) (w : World) (hk : (Lit.int .i64 k).wf = true) (hm : (Lit.int .i64 m).wf = true) :
    Calls Try.prog 3 #[.int .i64 k, .int .i64 m] w fun e w' => e = .returned (.bool true) ∧ Below w.heap.size w w' := by
  have hk := i64_lo hk
  have hm := i64_lo hm
  by_cases h : 1 ≤ k ∧ 0 ≤ m ∧ k + m ≤ 255
  case neg => exact makes6_bad k m hm.2 hk.1 h w
  obtain ⟨K, rfl⟩ : ∃ n : Nat, k = n := ⟨k.toNat, by omega⟩
  obtain ⟨M, rfl⟩ : ∃ n : Nat, m = n := ⟨m.toNat, by omega⟩
  by_cases hs : K ≤ 20 ∧ M ≤ 20
  · exact makes6_small K M (by omega) hs.1 hs.2 w
  · exact makes6_great K M (by omega) (by omega) hs w
end Go.Proofs.Ytpofhfocmelgbaa
