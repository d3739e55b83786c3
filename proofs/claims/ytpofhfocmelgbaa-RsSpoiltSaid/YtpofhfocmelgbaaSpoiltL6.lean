/-
  Own text: the law RsSpoilt, walked.
-/
import Derived.Test.YtpofhfocmelgbaaAnyL6
namespace Go.Proofs.Ytpofhfocmelgbaa
open Go.RowKit

theorem ordL_self {I : Nat → Int} {n : Nat} (h : ∀ r, r < n → I r = r) (hg : GoodIx I n n) : ∀ V, V ≤ n → ordL I n V = List.range V
  | 0, _ => rfl
  | V + 1, hV => by
    have hw : whr I n (V : Int) = V := by
      have h1 := hg.whr (i := V) (by omega)
      rwa [h V (by omega)] at h1
    unfold ordL
    rw [hw, if_pos (by omega), ordL_self h hg V (by omega), List.range_succ]
theorem nth_self {I : Nat → Int} {n N q : Nat} (h : ∀ r, r < n → I r = r) (hN : n ≤ N) (hq : q < n) : nth I n N q = q ∧ std I n N q = q := by
  have hg : GoodIx I n n := fun i hi => by
    refine ⟨by rw [h i hi]; omega, by rw [h i hi]; omega, fun j hj => ?_⟩
    rw [h i hi, h j (by omega)]; omega
  have e := ordL_self h hg n (Nat.le_refl _)
  have e1 : nth I n N q = q := by
    rw [← nth_prefix hN (by rw [e, List.length_range]; exact hq)]
    unfold nth
    rw [e, List.getD_eq_getElem?_getD, List.getElem?_eq_getElem (by rw [List.length_range]; exact hq), List.getElem_range]
    rfl
  refine ⟨e1, ?_⟩
  unfold std
  rw [e1, ← h q hq, hg.whr hq, Int.toNat_natCast]
/-- A shard more whose byte is another one does not fit. -/
theorem spoilt_fit {I : Nat → Int} {L : Nat → Nat} {X D : Nat → List Int} {k N c : Nat} (h : ∀ r, r < k + 1 → I r = r) (hN : k + 1 ≤ N) (hX : ∀ r, r < k → X r = D r) (hc : c < L 0) (he : co (X k) c ≠ wordE D k k c) : ¬ FitL I L X k N (k + 1) := by
  intro hf
  have h0 := hf k (by omega) c (by rw [(nth_self h hN (show 0 < k + 1 by omega)).2]; exact hc)
  rw [(nth_self h hN (show k < k + 1 by omega)).1, (nth_self h hN (show k < k + 1 by omega)).2] at h0
  refine he (h0.symm.trans ?_)
  unfold decE wordE
  refine xs_congr k (fun j hj => ?_)
  show mu (lagw (nth I (k + 1) N) k j k) (co (X (std I (k + 1) N j)) c) = mu (lagw nid k j k) (co (D j) c)
  rw [(nth_self h hN (show j < k + 1 by omega)).2, hX j hj, lagw_congr (Y := nid) k (fun i hi => (nth_self h hN (show i < k + 1 by omega)).1) hj]
theorem dat_otherH {w w' : World} {base g n m : Nat} {v : Value} {l : List Value} {d : List Int} (h : OwnH w base v n l) (hd : Dat w g m d) (hg : w.grownBy w' v.ownBlock) : Dat w' g m d := by
  refine hd.keep (hg.block g hd.lt (fun hk => ?_))
  rcases h.2 with ⟨rfl, _⟩ | ⟨g', cap, cur, rfl, _, hh, _⟩
  · exact absurd hk (by simp [Value.ownBlock])
  · have hk2 : g = g' := by simpa [Value.ownBlock] using hk
    obtain ⟨cu, hm, _⟩ := hd.mem
    rw [hk2, hh] at hm
    simp only [Option.some.injEq, Obj.cells.injEq] at hm
    exact absurd hm.2.1 (by decide)
theorem spoilt_ne {a y : Nat} (h : y ≠ 0) : a ^^^ y ≠ a := fun e => h (by
  have h1 : a ^^^ (a ^^^ y) = a ^^^ a := by rw [e]
  rwa [← Nat.xor_assoc, Nat.xor_self, Nat.zero_xor] at h1)

set_option maxRecDepth 100000 in
set_option maxHeartbeats 4000000 in
theorem spoilt6_walk (K M : Int) (n cap : Nat) (a : Option Addr) (A : Nat → Option Addr) (L C : Nat → Nat) (X : Nat → List Int) (m dap : Nat) (z : Option Addr) (zs : List Int) (T : Int) (at_ by_ : Int) (w : World) (_ : (Lit.int .i64 K).wf = true) (_ : (Lit.int .i64 M).wf = true) (hc : ColsIn w a n cap A L C X) (_ : IsRow .i64 w z m dap zs) (_ : (Lit.int .i64 at_).wf = true) (hy : (Lit.int .u8 by_).wf = true) :
    Calls Try.prog 7 #[.agg #[.int .i64 K, .int .i64 M, .slice a n cap, .slice z m dap, .int .i64 T], .int .i64 at_, .int .u8 by_] w fun e w' => e = .returned (.bool true) ∧ Below w.heap.size w w' := by
  obtain ⟨y, rfl, hy256⟩ := u8_of hy
  have HAW := Lib.hid (fun w => awake6_any w)
  have HB0 := Lib.hid (below_put w (.cells #[.int .i64 K, .int .i64 M, .slice a n cap, .slice z m dap, .int .i64 T] 57))
  have HX0 := Lib.hid (lbox_new w K M T a n cap z m dap 57)
  have HLB : Hid (∀ w', Below (w.alloc (.cells #[.int .i64 K, .int .i64 M, .slice a n cap, .slice z m dap, .int .i64 T] 57)).heap.size (w.alloc (.cells #[.int .i64 K, .int .i64 M, .slice a n cap, .slice z m dap, .int .i64 T] 57)) w' → LBox w' w.heap.size K M a n cap z m dap ∧ ColsIn w' a n cap A L C X ∧ Below w.heap.size w w') :=
    Lib.hid (fun w' h => ⟨HX0.out.all h, hc.below (b_on HB0.out h) (Nat.le_refl _), b_on HB0.out h⟩)
  have hn63 := Nat.le_trans hc.1 hc.2.1
  have HFW := Lib.hid (fun w' h => few6_any n cap a A L C X w' (HLB.out w' h).2.1)
  have HMU : Hid (∀ w, Calls Try.prog 25 #[.int .u8 (y : Nat), .int .u8 1] w fun e w' => e = .returned (.int .u8 (y : Nat)) ∧ w' = w) := Lib.hid (fun w => (rmul_mu y 1 hy256 (by omega) w).mono fun _ _ h => ⟨by rw [h.1, mu_one hy256], h.2⟩)
  clear hc HB0 HX0 hy
  unfold FewTo at HFW
  by_cases hsm : 1 ≤ K ∧ 0 ≤ M ∧ K ≤ 20 ∧ M ≤ 20
  case neg =>
    have HS := Lib.hid (fun w => small6_no K M hsm w)
    clear hsm
    go_enter Try.func7, Try.ntmps7
    go_wp2_with first
      | (go_at_call 8; refine (HAW.out _).mono ?_; rintro e w1 ⟨rfl, hb⟩; have HB1 := Lib.hid hb; clear hb; obtain ⟨_, x0, x1, x2, x3⟩ := (HLB.out _ HB1.out).1)
      | (go_at_call 13; refine (HS.out _).mono ?_; rintro e w2 ⟨rfl, rfl⟩)
    go_ret
    exact ⟨rfl, (HLB.out _ HB1.out).2.2⟩
  obtain ⟨k, rfl⟩ : ∃ n : Nat, K = n := ⟨K.toNat, by omega⟩
  obtain ⟨mm, rfl⟩ : ∃ n : Nat, M = n := ⟨M.toNat, by omega⟩
  have hk1 : 1 ≤ k := by omega
  have hk20 : k ≤ 20 := by omega
  have hm20 : mm ≤ 20 := by omega
  have HS := Lib.hid (fun w => small6_yes k mm hk1 hk20 hm20 w)
  clear hsm
  by_cases hm1 : mm < 1
  case pos =>
    have hm2 : (mm : Int) < 1 := by omega
    go_enter Try.func7, Try.ntmps7
    go_wp2_with first
      | (go_at_call 8; refine (HAW.out _).mono ?_; rintro e w1 ⟨rfl, hb⟩; have HB1 := Lib.hid hb; clear hb; obtain ⟨_, x0, x1, x2, x3⟩ := (HLB.out _ HB1.out).1)
      | (go_at_call 13; refine (HS.out _).mono ?_; rintro e w2 ⟨rfl, rfl⟩)
      | (go_at_call 16; refine (HFW.out _ HB1.out).mono ?_; rintro e w2 ⟨v, rfl, hv, rfl⟩; clear hv; cases v)
    all_goals
      go_ret
      exact ⟨rfl, (HLB.out _ HB1.out).2.2⟩
  have hm2 : ¬ (mm : Int) < 1 := by omega
  by_cases hnk : n = k
  case neg =>
    have hnb : ((n : Int) != (k : Nat)) = true := by
      have : ¬ (n : Int) = k := by omega
      simpa using this
    clear hnk
    go_enter Try.func7, Try.ntmps7
    go_wp2_with first
      | (go_at_call 8; refine (HAW.out _).mono ?_; rintro e w1 ⟨rfl, hb⟩; have HB1 := Lib.hid hb; clear hb; obtain ⟨_, x0, x1, x2, x3⟩ := (HLB.out _ HB1.out).1)
      | (go_at_call 13; refine (HS.out _).mono ?_; rintro e w2 ⟨rfl, rfl⟩)
      | (go_at_call 16; refine (HFW.out _ HB1.out).mono ?_; rintro e w2 ⟨v, rfl, hv, rfl⟩; clear hv; cases v)
    all_goals
      go_ret
      exact ⟨rfl, (HLB.out _ HB1.out).2.2⟩
  subst hnk
  have hnb : ((n : Int) != (n : Nat)) = false := by simp
  by_cases hy0 : y = 0
  case pos =>
    have hy1 : ((y : Int) == 0) = true := by rw [hy0]; rfl
    clear hy0
    go_enter Try.func7, Try.ntmps7
    go_wp2_with first
      | (go_at_call 8; refine (HAW.out _).mono ?_; rintro e w1 ⟨rfl, hb⟩; have HB1 := Lib.hid hb; clear hb; obtain ⟨_, x0, x1, x2, x3⟩ := (HLB.out _ HB1.out).1)
      | (go_at_call 13; refine (HS.out _).mono ?_; rintro e w2 ⟨rfl, rfl⟩)
      | (go_at_call 16; refine (HFW.out _ HB1.out).mono ?_; rintro e w2 ⟨v, rfl, hv, rfl⟩; clear hv; cases v)
    all_goals
      go_ret
      exact ⟨rfl, (HLB.out _ HB1.out).2.2⟩
  have hy1 : ((y : Int) == 0) = false := by
    have : ¬ (y : Int) = 0 := by omega
    simpa using this
  have HY0 := Lib.hid hy0
  clear hy0
  go_enter Try.func7, Try.ntmps7
  go_wp2_with first
    | (go_at_call 8; refine (HAW.out _).mono ?_; rintro e w1 ⟨rfl, hb⟩; have HB1 := Lib.hid hb; clear hb; obtain ⟨_, x0, x1, x2, x3⟩ := (HLB.out _ HB1.out).1)
    | (go_at_call 13; refine (HS.out _).mono ?_; rintro e w2 ⟨rfl, rfl⟩)
    | (go_at_call 16; refine (HFW.out _ HB1.out).mono ?_; rintro e w2 ⟨v, rfl, hv, rfl⟩; clear hv; cases v)
  · go_ret
    exact ⟨rfl, (HLB.out _ HB1.out).2.2⟩
  clear x0 x1 x2 x3
  have HLW : Hid (∀ w', Below w1.heap.size w1 w' → LBox w' w.heap.size n mm a n cap z m dap ∧ ColsIn w' a n cap A L C X ∧ Below w.heap.size w w') := Lib.hid (fun w' h => HLB.out w' (b_on HB1.out h))
  have HBX : Hid (w.heap.size < w1.heap.size) := Lib.hid (HLB.out _ HB1.out).1.lt
  clear HLB HB1 HAW HS HFW hy1
  go_loopw [7] (fun i wr => ∃ j nd : Nat, j ≤ n ∧ i = .int .i64 (j : Nat) ∧ Hid (EvenL j L) ∧ Hid (∀ i, i < j → 0 < L i) ∧ wr = w1.drewN nd) (fun i _ => n - (intOf i).toNat)
  case atStart => exact ⟨0, 0, by omega, rfl, Lib.hid (fun i h => absurd h (by omega)), Lib.hid (fun i h => absurd h (by omega)), rfl⟩
  case round =>
    obtain ⟨j, nd, hj, rfl, HE, HNZ, hwr⟩ := hrel
    have HB1 : Hid (Below w1.heap.size w1 wr) := Lib.hid (by rw [hwr]; exact below_drewN (Below.refl _ _) nd)
    have HW := Lib.hid hwr
    clear hwr
    have hlb := (HLW.out _ HB1.out).1
    obtain ⟨_, x0, x1, x2, x3⟩ := hlb
    by_cases hlt : j < n
    · obtain ⟨⟨h, off, rfl, _, c1⟩, s1⟩ := (HLW.out _ HB1.out).2.1.2.2.2 j hlt
      obtain ⟨⟨h', off', e', _, c2⟩, _⟩ := (HLW.out _ HB1.out).2.1.2.2.2 0 (by omega)
      cases e'
      rw [Nat.add_zero] at c2
      have m1 := Nat.le_trans s1.cap s1.top
      have j0 : (0 : Int) ≤ j := by omega
      have j1 : (j : Int) < n := by omega
      have hn0 : (0 : Int) < n := by omega
      clear s1
      by_cases hne : L j = L 0
      case neg =>
        have hb : (((L j : Nat) : Int) != (L 0 : Nat)) = true := by
          have : ¬ ((L j : Nat) : Int) = (L 0 : Nat) := by omega
          simpa using this
        clear hne
        go_wp2
        go_quiet (fail)
        go_wp2
        go_ret
        exact ⟨rfl, below_drewN (HLW.out _ HB1.out).2.2 _⟩
      case pos =>
        have hb : (((L j : Nat) : Int) != (L 0 : Nat)) = false := by rw [hne]; simp
        by_cases hlong : 1200 < L j
        · have hd : decide ((1200 : Int) < (L j : Nat)) = true := decide_eq_true (by omega)
          clear hlong hne
          go_wp2
          go_quiet (fail)
          go_wp2
          go_ret
          exact ⟨rfl, below_drewN (HLW.out _ HB1.out).2.2 _⟩
        · have hd : decide ((1200 : Int) < (L j : Nat)) = false := decide_eq_false (by omega)
          have HGD : Hid (L j = L 0 ∧ L j ≤ 1200) := Lib.hid ⟨hne, by omega⟩
          clear hlong hne
          by_cases hz : L j = 0
          · have hq : (((L j : Nat) : Int) == 0) = true := by rw [hz]; rfl
            clear hz HGD
            go_wp2
            go_quiet (fail)
            go_wp2
            go_ret
            exact ⟨rfl, below_drewN (HLW.out _ HB1.out).2.2 _⟩
          · have hq : (((L j : Nat) : Int) == 0) = false := by
              have : ¬ ((L j : Nat) : Int) = 0 := by omega
              simpa using this
            have HZZ : Hid (0 < L j) := Lib.hid (by omega)
            clear hz
            go_wp2
            go_quiet (fail)
            go_wp2
            go_roundw
            case rel =>
              rw [HW.out]
              exact ⟨j + 1, _, by omega, by go_num, Lib.hid (fun i hi => if e : i = j then e ▸ HGD.out else HE.out i (by omega)), Lib.hid (fun i hi => if e : i = j then e ▸ HZZ.out else HNZ.out i (by omega)), by rw [World.drewN_drewN]⟩
            case measure => simp [intOf]; omega
    · obtain rfl : j = n := by omega
      obtain ⟨wo, ho⟩ : ∃ wo, wo = wr := ⟨_, rfl⟩
      subst ho
      have HWO : Hid (∀ w', Below wo.heap.size wo w' → LBox w' w.heap.size j mm a j cap z m dap ∧ ColsIn w' a j cap A L C X ∧ Below w.heap.size w w') := Lib.hid (fun w' h => HLW.out w' (b_on HB1.out h))
      have HN := Lib.hid (fun w => new_any w)
      have HC := Lib.hid (fun t w ht => code_some t j mm hk1 (by omega) w ht)
      unfold Coded at HC
      clear HLW HB1 HW
      go_wp2
      go_cut [3, 8, 9] (fun s1 s4 s5 wx => s1 = .pointer (some ⟨w.heap.size, 0, none⟩) ∧ s5 = .int .i64 0 ∧ ∃ b t : Nat, s4 = .pointer (some ⟨b, 0, none⟩) ∧ Hid (IsCode wx b t j mm ∧ Below wo.heap.size wo wx))
      case first =>
        clear x0 x1 x2 x3
        have HS : Hid (∀ w', Below wo.heap.size wo w' → Below wo.heap.size wo w' ∧ w'.cell? ⟨w.heap.size, 0, none⟩ = some (.int .i64 (j : Nat)) ∧ w'.cell? ⟨w.heap.size, 1, none⟩ = some (.int .i64 (mm : Nat))) := Lib.hid (fun w' h => ⟨h, (HWO.out _ h).1.c0, (HWO.out _ h).1.c1⟩)
        have cc : Below wo.heap.size wo wo.drew := (Below.refl _ _).drew
        go_region_held3 (fun w' => Below wo.heap.size wo w' ∧ w'.cell? ⟨w.heap.size, 0, none⟩ = some (.int .i64 (j : Nat)) ∧ w'.cell? ⟨w.heap.size, 1, none⟩ = some (.int .i64 (mm : Nat)))
          (first
            | exact HS.out _ cc
            | exact HS.out _ (Below.refl _ _)
            | fail "keep")
          (first
            | (go_at_call 10; (with_reducible refine (HN.out wo.drew).mono ?_); rintro e w3 ⟨rfl, ht0, hb⟩; have ht : IsTab w3 wo.heap.size := ht0; clear ht0; replace cc := b_on cc hb; clear hb)
            | (go_at_call 9; (with_reducible refine (HC.out wo.heap.size w3 ht).mono ?_); rintro e w4 ⟨b, rfl, _, hi, hb⟩; replace cc := b_on cc hb; clear hb)
            | fail "arm")
        all_goals
          have HF := Lib.hid (And.intro hi cc)
          clear hi cc ht
          go_wp2_with fail
          go_meet
          exact ⟨rfl, rfl, _, _, rfl, HF⟩
      case rest =>
        obtain ⟨rfl, rfl, b, t, rfl, HF⟩ := hcut
        have HI := Lib.hid HF.out.1
        have HWC : Hid (∀ w', Below wc.heap.size wc w' → LBox w' w.heap.size j mm a j cap z m dap ∧ ColsIn w' a j cap A L C X ∧ Below w.heap.size w w' ∧ IsCode w' b t j mm) := Lib.hid (fun w' h => by
          obtain ⟨e1, e2, e3⟩ := HWO.out w' (b_on HF.out.2 h)
          exact ⟨e1, e2, e3, HI.out.below h⟩)
        have HEN := Lib.hid (code_encode b t j mm cap a A L C X wc HI.out (HWC.out _ (Below.refl _ _)).2.1 HE.out)
        have hl0 : L 0 ≤ 1200 := (HE.out 0 (by omega)).2
        have hl1 : 0 < L 0 := HNZ.out 0 (by omega)
        have HEV : Hid (∀ i, i < j → L i = L 0) := Lib.hid (fun i hi => (HE.out i hi).1)
        obtain ⟨len, hlen⟩ : ∃ len, len = L 0 := ⟨_, rfl⟩
        rw [← hlen] at HEN HEV hl0 hl1
        have hmb : ((mm : Int) != (mm : Nat)) = false := by simp
        have hlb : ((len : Int) != (len : Nat)) = false := by simp
        have HLL := Lib.hid hlen
        clear HF HI HWO HC HN hlen
        unfold AppliedTo at HEN
        obtain ⟨_, x0, x1, x2, x3⟩ := (HWC.out _ (Below.refl _ _)).1
        have hmm1000 : mm ≤ 1000 := by omega
        go_wp2_with (go_at_call 17; refine HEN.out.mono ?_; rintro e w5 ⟨h5, g5, l5, rfl, hh5, hg5, hl, hd, hcc, hb⟩; have HL5 := Lib.hid hl; have HD5 := Lib.hid hd; have HC5 := Lib.hid hcc; have HB5 := Lib.hid hb; clear hl hd hcc hb hh5 hg5 x0 x1 x2 x3; obtain ⟨_, x0, x1, x2, x3⟩ := (HWC.out _ HB5.out).1)
        have HP5 := Lib.hid (cols_applied HL5.out HD5.out hmm1000 hl0)
        have HW5 : Hid (∀ w', Below w5.heap.size w5 w' → LBox w' w.heap.size j mm a j cap z m dap ∧ ColsIn w' a j cap A L C X ∧ Below w.heap.size w w' ∧ IsCode w' b t j mm) := Lib.hid (fun w' h => HWC.out w' (b_on HB5.out h))
        clear HWC HB5 HEN x0 x1 x2 x3
        go_loopw [12, 13] (fun kv iv wr => ∃ (i : Nat) (A0 : Option Addr) (C0 : Nat), i ≤ j ∧ iv = .int .i64 (i : Nat) ∧ kv = .slice A0 i C0 ∧ Hid (OwnH wr w5.heap.size (.slice A0 i C0) i (shV (fun r => (r : Int)) A L C i)) ∧ Hid (Below w5.heap.size w5 wr)) (fun _ iv _ => j - (intOf iv).toNat)
        case atStart => exact ⟨0, none, 0, by omega, rfl, rfl, Lib.hid (OwnH.none _ _), Lib.hid (Below.refl _ _)⟩
        case round =>
          obtain ⟨i, A0, C0, hi, rfl, rfl, HO, HB⟩ := hrel
          obtain ⟨wi, hwi⟩ : ∃ wi, wi = wr := ⟨_, rfl⟩
          subst hwi
          obtain ⟨⟨_, x0, x1, x2, x3⟩, hdat, hbw, hcode⟩ := HW5.out _ HB.out
          by_cases hlt : i < j
          · obtain ⟨⟨h, off, rfl, _, c1⟩, _⟩ := hdat.2.2.2 i hlt
            have i0 : (0 : Int) ≤ i := by omega
            have i1 : (i : Int) < j := by omega
            have HNS := Lib.hid (new_shard wi (i : Int) (A i) (L i) (C i))
            have HOA : Hid (∀ o, OwnH (wi.alloc o) w5.heap.size (.slice A0 i C0) i (shV (fun r => (r : Int)) A L C i) ∧ w5.heap.size ≤ (wi.alloc o).heap.size) := Lib.hid (fun o => ⟨row_alloc HO.out o, Nat.le_trans HB.out.size (Nat.le_of_lt (alloc_lt _ _))⟩)
            have HLT : Hid (i + 1 ≤ 100000) := Lib.hid (by omega)
            have HPO : Hid (∀ w' o, (wi.alloc o).grownBy w' (Value.slice A0 i C0).ownBlock → Below w5.heap.size w5 w') := Lib.hid (fun w' o hg => row_grown (HOA.out o).1 hg (b_put HB.out o) (Nat.le_refl _) (HOA.out o).2)
            clear hdat hbw hcode
            go_wp2_with ((with_reducible refine wpList_append_sh (w := wi.alloc _) rfl (.tmp 123) (.tmp 131) rfl w5.heap.size (.slice A0 i C0) i rfl (shV (fun r => (r : Int)) A L C i) (HOA.out _).1 wi.heap.size rfl (i : Int) (A i) (L i) (C i) HNS.out HLT.out (HOA.out _).2 ?_); intro v10 w10 hx10 hg10; obtain ⟨A10, C10, rfl, _⟩ := OwnH.slice hx10; have HO10 := Lib.hid hx10; have HB10 := Lib.hid (HPO.out _ _ hg10); clear hx10 hg10)
            go_roundw
            case rel => exact ⟨i + 1, A10, C10, by omega, by go_num, rfl, HO10, HB10⟩
            case measure => simp [intOf]; omega
          · obtain rfl : i = j := by omega
            have hP := (HP5.out.below HB.out (Nat.le_refl _)).2.2.2 0 (by omega)

            have hP0 : ∀ o, (wi.alloc o).cell? ⟨h5, 0, none⟩ = some (.slice (some ⟨g5, 0, none⟩) len len) := fun o => by
              obtain ⟨⟨b', off', e', _, c⟩, _⟩ := ((HP5.out.below HB.out (Nat.le_refl _)).below (below_put wi o) (Nat.le_refl _)).2.2.2 0 (by omega)
              cases e'
              simpa using c
            obtain ⟨Y, hY⟩ : ∃ Y, Y = seg l5 (0 * len) len := ⟨_, rfl⟩
            have hYB : Bytes wi (some ⟨g5, 0, none⟩) len Y := by
              rw [hY]
              have := hP.2.bytes
              simpa using this
            have HYC : Hid (∀ c, c < len → co Y c = wordE X i i c) := Lib.hid (fun c hc => by
              rw [hY, seg_co _ _ _ _ hc]
              exact HC5.out 0 c (by omega) hc)
            have HYB : Hid (Bytes wi (some ⟨g5, 0, none⟩) len Y) := Lib.hid hYB
            have HBY : Hid (By Y) := Lib.hid hYB.range
            have HYL := Lib.hid hYB.size
            have HW0 := Lib.hid (Own8.lit wi wi.heap.size (Nat.le_refl _))
            have HZ := Lib.hid (below_put wi (.cells #[] 5))
            have HY1 : Hid (Bytes (wi.alloc (.cells #[] 5)) (some ⟨g5, 0, none⟩) len Y) := Lib.hid (HYB.out.below HZ.out (Nat.le_refl _))
            have HNN : Hid (some (⟨g5, 0, none⟩ : Addr) = none → len = 0) := Lib.hid (fun h => nomatch h)
            have H6 : Hid (0 + len ≤ 1000000) := Lib.hid (by omega)
            have H7 : Hid (wi.heap.size ≤ (wi.alloc (.cells #[] 5)).heap.size) := Lib.hid (Nat.le_of_lt (alloc_lt _ _))
            have H8 : Hid (len = 0 + len) := Lib.hid (by omega)
            have HM0 : Hid (0 < mm ∧ 0 < i) := Lib.hid (by omega)
            have hmm0 : (0 : Int) < mm := by omega
            have hj0 : (0 : Int) < i := by omega
            have HDC : Hid (∀ w', Below wi.heap.size wi w' → ∃ b o C0, a = some ⟨b, o, none⟩ ∧ w'.cell? ⟨b, o, none⟩ = some (.slice (A 0) len C0)) := Lib.hid (fun w' h => by
              obtain ⟨⟨b', off', e', _, c⟩, _⟩ := (HW5.out _ (b_on HB.out h)).2.1.2.2.2 0 HM0.out.2
              rw [Nat.add_zero, ← HLL.out] at c
              exact ⟨_, _, _, e', c⟩)
            clear hP hY hYB hdat hbw hcode HL5 HD5 HC5
            obtain ⟨ba, oa, C00, rfl, _⟩ := HDC.out wi (Below.refl _ _)
            have HDD : Hid (∀ w', Below wi.heap.size wi w' → ∃ C0, w'.cell? ⟨ba, oa, none⟩ = some (.slice (A 0) len C0)) := Lib.hid (fun w' h => by
              obtain ⟨b, o, C0, e, c⟩ := HDC.out w' h
              cases e
              exact ⟨_, c⟩)
            clear HDC
            obtain ⟨r, hr⟩ : ∃ r, at_.tmod (len : Int) = r := ⟨_, rfl⟩
            have hb2 := tmod_in at_ len hl1
            rw [hr] at hb2
            have hl2 : ¬ (len : Int) = 0 := by omega
            obtain ⟨nn, hnn, hcase⟩ : ∃ nn : Nat, nn < len ∧ ((r < 0 ∧ r + (len : Int) = nn) ∨ r = nn) := by
              rcases Int.lt_or_le r 0 with h | h
              · exact ⟨(r + len).toNat, by omega, .inl ⟨h, by omega⟩⟩
              · exact ⟨r.toNat, by omega, .inr (by omega)⟩
            clear hb2
            have l1 := HBY.out.lt nn
            have HYN := Lib.hid (HYC.out nn hnn)
            obtain ⟨u, hu⟩ : ∃ u, u = co Y nn := ⟨_, rfl⟩
            obtain ⟨v, hv⟩ : ∃ v, v = u ^^^ y := ⟨_, rfl⟩
            rw [← hu] at l1 HYN
            have bx := bits_u8 u y l1 hy256
            have HV : Hid (v < 256 ∧ v ≠ u) := Lib.hid ⟨by rw [hv]; exact xor_lt l1 hy256, by rw [hv]; exact spoilt_ne HY0.out⟩
            rw [← hv] at bx
            have HCY : Hid (∀ (w6 : World) (g : Nat), Dat w6 g len Y → w6.cell? ⟨g, nn, none⟩ = some (.int .u8 (u : Nat))) := Lib.hid (fun w6 g h => by rw [hu]; exact h.cell nn hnn)
            have HWL : Hid (w.heap.size < wi.heap.size ∧ w5.heap.size ≤ wi.heap.size) := Lib.hid ⟨(HW5.out _ HB.out).1.lt, HB.out.size⟩
            have HOX : Hid (∀ (w6 : World) (A6 : Option Addr) (C6 : Nat), Hid (Own8 w6 wi.heap.size (.slice A6 len C6) len Y) → Below wi.heap.size wi w6 → ∃ g, A6 = some ⟨g, 0, none⟩ ∧ wi.heap.size ≤ g ∧ ¬ g = w.heap.size ∧ ¬ w.heap.size = g ∧ Dat w6 g len Y ∧ len ≤ C6 ∧ C6 ≤ 9223372036854775807) := Lib.hid (fun w6 A6 C6 h hb => by
              have h1 := HWL.out.1
              obtain ⟨A', C', e, hC1, hC2⟩ := h.out.slice
              cases e
              rcases own_dat h.out HBY.out with h0 | ⟨g, rfl, hg, hd⟩
              · omega
              · exact ⟨g, rfl, hg, by omega, by omega, hd, hC1, by unfold maxLen at hC2; omega⟩)
            have HMK : Hid (∀ (w6 : World) (g : Nat), Below wi.heap.size wi w6 → Dat w6 g len Y → wi.heap.size ≤ g → ∀ o : Obj, OwnH ((w6.setCell ⟨g, nn, none⟩ (.int .u8 (v : Nat))).alloc o) w5.heap.size (.slice A0 i C0) i (shV (fun r => (r : Int)) A L C i) ∧ w5.heap.size ≤ ((w6.setCell ⟨g, nn, none⟩ (.int .u8 (v : Nat))).alloc o).heap.size ∧ Below w5.heap.size w5 ((w6.setCell ⟨g, nn, none⟩ (.int .u8 (v : Nat))).alloc o) ∧ Dat ((w6.setCell ⟨g, nn, none⟩ (.int .u8 (v : Nat))).alloc o) g len (Y.set nn (v : Nat))) := Lib.hid (fun w6 g hb hd hg o => by
              have hb1 : Below wi.heap.size wi (w6.setCell ⟨g, nn, none⟩ (.int .u8 (v : Nat))) := hb.setCell (p := ⟨g, nn, none⟩) hg _
              have hb2 := b_put hb1 o
              exact ⟨row_below HO.out hb2 (Nat.le_refl _), Nat.le_trans HWL.out.2 hb2.size, b_on HB.out hb2, (hd.set nn v HV.out.1).keep (Below.heap_alloc _ o _ (hd.set nn v HV.out.1).lt)⟩)
            have HNS : Hid (∀ (w6 : World) (g C6 : Nat), ((w6.setCell ⟨g, nn, none⟩ (.int .u8 (v : Nat))).alloc (.cells #[.int .i64 (i : Int), .slice (some ⟨g, 0, none⟩) len C6] 47)).heap[w6.heap.size]? = some (.cells #[.int .i64 (i : Int), .slice (some ⟨g, 0, none⟩) len C6] 47 (0, 0))) := Lib.hid (fun w6 g C6 => by
              have h := new_shard (w6.setCell ⟨g, nn, none⟩ (.int .u8 (v : Nat))) (i : Int) (some ⟨g, 0, none⟩) len C6
              rwa [show (w6.setCell ⟨g, nn, none⟩ (.int .u8 (v : Nat))).heap.size = w6.heap.size by simp] at h)
            have HLT : Hid (i + 1 ≤ 100000) := Lib.hid (by omega)
            have HFIN : Hid (∀ (w6 : World) (g C6 : Nat), Below wi.heap.size wi w6 → Dat w6 g len Y → wi.heap.size ≤ g → (len ≤ C6 ∧ C6 ≤ 9223372036854775807) → ∀ (v10 : Value) (w10 : World) (o : Obj), OwnH w10 w5.heap.size v10 (i + 1) (shV (fun r => (r : Int)) A L C i ++ [.int .i64 (i : Int), .slice (some ⟨g, 0, none⟩) len C6]) → ((w6.setCell ⟨g, nn, none⟩ (.int .u8 (v : Nat))).alloc o).grownBy w10 (Value.slice A0 i C0).ownBlock →
                ∃ A10 C10, v10 = .slice A10 (i + 1) C10 ∧ Below w5.heap.size w5 w10 ∧ Calls Try.prog 22 #[.pointer (some ⟨b, 0, none⟩), .slice A10 (i + 1) C10] w10 fun e w' => e = .returned (.tuple #[.bool false, .int .i64 0]) ∧ Below w10.heap.size w10 w') := Lib.hid (fun w6 g C6 hb hd hg hC v10 w10 o hx hgr => by
              obtain ⟨hOA, hsz, hbl, hdat⟩ := HMK.out w6 g hb hd hg o
              have hb10 : Below w5.heap.size w5 w10 := row_grown hOA hgr hbl (Nat.le_refl _) hsz
              have hd10 := dat_otherH hOA hdat hgr
              obtain ⟨A10, C10, rfl, _⟩ := OwnH.slice hx
              refine ⟨A10, C10, rfl, hb10, ?_⟩
              have hall := HW5.out _ hb10
              have hi0 := HM0.out
              have hn1 := Nat.lt_irrefl i
              have hsh : ShardsIn w10 A10 (i + 1) C10 (fun r => (r : Int)) (fun r => if r < i then A r else some ⟨g, 0, none⟩) (fun r => if r < i then L r else len) (fun r => if r < i then C r else C6) (fun r => if r < i then X r else Y.set nn (v : Nat)) := by
                refine OwnH.shards (base := w5.heap.size) _ _ _ _ _ ?_ (fun r hr => by omega) (fun r hr => ?_)
                · have e : shV (fun r => (r : Int)) (fun r => if r < i then A r else some ⟨g, 0, none⟩) (fun r => if r < i then L r else len) (fun r => if r < i then C r else C6) i = shV (fun r => (r : Int)) A L C i := shV_congr i (fun r hr => ⟨rfl, if_pos hr, if_pos hr, if_pos hr⟩)
                  show OwnH w10 w5.heap.size (.slice A10 (i + 1) C10) (i + 1) (shV (fun r => (r : Int)) (fun r => if r < i then A r else some ⟨g, 0, none⟩) (fun r => if r < i then L r else len) (fun r => if r < i then C r else C6) i ++ [.int .i64 (i : Int), .slice (if i < i then A i else some ⟨g, 0, none⟩) (if i < i then L i else len) (if i < i then C i else C6)])
                  rw [e, if_neg hn1, if_neg hn1, if_neg hn1]
                  exact hx
                · by_cases h : r < i
                  · rw [if_pos h, if_pos h, if_pos h, if_pos h]
                    exact (hall.2.1.2.2.2 r h).2
                  · rw [if_neg h, if_neg h, if_neg h, if_neg h]
                    refine ⟨?_, hC.1, hC.2, fun h => nomatch h⟩
                    have h1 := hd10.bytes 0 len (by omega) (by omega)
                    have e : seg (Y.set nn (v : Nat)) 0 len = Y.set nn (v : Nat) := by
                      unfold seg
                      rw [List.drop_zero, List.take_of_length_le (by rw [List.length_set, HYL.out]; exact Nat.le_refl _)]
                    rwa [e] at h1
              have ok : OkList (fun r => (r : Int)) (fun r => if r < i then L r else len) i (i + mm) (i + 1) := by
                refine ⟨fun r hr => by
                  refine ⟨?_, ?_, fun r' hr' => ?_⟩ <;> (dsimp only; omega), by omega, fun r hr => ?_⟩
                have h0 : (fun r => if r < i then L r else len) 0 = len := (if_pos hi0.2).trans HLL.out.symm
                rw [h0]
                dsimp only
                by_cases h : r < i
                · rw [if_pos h, HEV.out r h]; exact ⟨rfl, hl0⟩
                · rw [if_neg h]; exact ⟨rfl, hl0⟩
              refine good_fits ok hall.2.2.2 hsh false (fun h => nomatch h) (fun _ => spoilt_fit (D := X) (c := nn) (fun r _ => rfl) (by omega) (fun r hr => if_pos hr) ?_ ?_)
              · show nn < if 0 < i then L 0 else len
                rw [if_pos hi0.2, ← HLL.out]; exact hnn
              · show co (if i < i then X i else Y.set nn (v : Nat)) nn ≠ _
                rw [if_neg hn1, co_set _ _ _ _ (by rw [HYL.out]; exact hnn), if_pos rfl, ← HYN.out]
                exact HV.out.2)
            have nn0 : (0 : Int) ≤ nn := by omega
            have nn1 : (nn : Int) < len := by omega
            have hyy : ((y : Int) == (y : Nat)) = true := by simp
            clear hu hv HYC HYN HBY HYL HEV HE HNZ HV HP5
            generalize shV (fun r => (r : Int)) A L C i = SH at *
            rcases hcase with ⟨hneg, hsum⟩ | rfl
            · go_wp2_with first
                | ((with_reducible refine wpList_append_bytes (w := wi.alloc _) rfl (.tmp 133) (.tmp 136) rfl wi.heap.size _ _ _ rfl [] HW0.out _ _ _ rfl Y HY1.out HNN.out H6.out wi.heap.size wi HZ.out (Nat.le_refl _) H7.out len H8.out Y rfl ?_); intro A6 C6 w6 hown hb6; obtain ⟨g, rfl, hg, hgw, hgw2, hd, hC1, hC2⟩ := HOX.out _ _ _ hown hb6; have HB6 := Lib.hid hb6; have HG6 := Lib.hid hg; have HD6 := Lib.hid hd; have HC6 := Lib.hid (And.intro hC1 hC2); have cy := HCY.out _ _ hd; have fy := hd.frozen nn; clear hown hb6 hP0 x0 x1 x2 x3 hg hd hC1 hC2; obtain ⟨_, x0, x1, x2, x3⟩ := (HW5.out _ (b_on HB.out HB6.out)).1; obtain ⟨C01, cD⟩ := HDD.out _ HB6.out)
                | ((with_reducible refine wpList_append_sh (w := (w6.setCell _ _).alloc _) rfl (.tmp 167) (.tmp 172) rfl w5.heap.size (.slice A0 i C0) i rfl SH (HMK.out _ _ HB6.out HD6.out HG6.out _).1 w6.heap.size rfl (i : Int) (some ⟨g, 0, none⟩) len C6 (HNS.out _ _ _) HLT.out (HMK.out _ _ HB6.out HD6.out HG6.out _).2.1 ?_); intro v10 w10 hx10 hg10; obtain ⟨A10, C10, rfl, hb10, hf10⟩ := HFIN.out _ _ _ HB6.out HD6.out HG6.out HC6.out _ _ _ hx10 hg10; have HB10 := Lib.hid hb10; have HF10 := Lib.hid hf10; clear hx10 hg10 hb10 hf10)
                | (go_at_call 22; refine HF10.out.mono ?_; rintro e w11 ⟨rfl, hb11⟩; have HB11 := Lib.hid hb11; clear hb11)
                | (go_at_call 25; refine (HMU.out _).mono ?_; rintro e w12 ⟨rfl, rfl⟩)
              go_ret
              exact ⟨rfl, (HW5.out _ (b_on HB10.out HB11.out)).2.2.1⟩
            · go_wp2_with first
                | ((with_reducible refine wpList_append_bytes (w := wi.alloc _) rfl (.tmp 133) (.tmp 136) rfl wi.heap.size _ _ _ rfl [] HW0.out _ _ _ rfl Y HY1.out HNN.out H6.out wi.heap.size wi HZ.out (Nat.le_refl _) H7.out len H8.out Y rfl ?_); intro A6 C6 w6 hown hb6; obtain ⟨g, rfl, hg, hgw, hgw2, hd, hC1, hC2⟩ := HOX.out _ _ _ hown hb6; have HB6 := Lib.hid hb6; have HG6 := Lib.hid hg; have HD6 := Lib.hid hd; have HC6 := Lib.hid (And.intro hC1 hC2); have cy := HCY.out _ _ hd; have fy := hd.frozen nn; clear hown hb6 hP0 x0 x1 x2 x3 hg hd hC1 hC2; obtain ⟨_, x0, x1, x2, x3⟩ := (HW5.out _ (b_on HB.out HB6.out)).1; obtain ⟨C01, cD⟩ := HDD.out _ HB6.out)
                | ((with_reducible refine wpList_append_sh (w := (w6.setCell _ _).alloc _) rfl (.tmp 167) (.tmp 172) rfl w5.heap.size (.slice A0 i C0) i rfl SH (HMK.out _ _ HB6.out HD6.out HG6.out _).1 w6.heap.size rfl (i : Int) (some ⟨g, 0, none⟩) len C6 (HNS.out _ _ _) HLT.out (HMK.out _ _ HB6.out HD6.out HG6.out _).2.1 ?_); intro v10 w10 hx10 hg10; obtain ⟨A10, C10, rfl, hb10, hf10⟩ := HFIN.out _ _ _ HB6.out HD6.out HG6.out HC6.out _ _ _ hx10 hg10; have HB10 := Lib.hid hb10; have HF10 := Lib.hid hf10; clear hx10 hg10 hb10 hf10)
                | (go_at_call 22; refine HF10.out.mono ?_; rintro e w11 ⟨rfl, hb11⟩; have HB11 := Lib.hid hb11; clear hb11)
                | (go_at_call 25; refine (HMU.out _).mono ?_; rintro e w12 ⟨rfl, rfl⟩)
              go_ret
              exact ⟨rfl, (HW5.out _ (b_on HB10.out HB11.out)).2.2.1⟩
end Go.Proofs.Ytpofhfocmelgbaa
