/-
  Own text: the law RsAny, walked.
-/
import Derived.Test.YtpofhfocmelgbaaShard6
namespace Go.Proofs.Ytpofhfocmelgbaa
open Go.RowKit

/-- The law's argument in its box. -/
structure LBox (w : World) (b : Nat) (K M : Int) (a : Option Addr) (n cap : Nat) (z : Option Addr) (m dap : Nat) : Prop where
  lt : b < w.heap.size
  c0 : w.cell? ⟨b, 0, none⟩ = some (.int .i64 K)
  c1 : w.cell? ⟨b, 1, none⟩ = some (.int .i64 M)
  c2 : w.cell? ⟨b, 2, none⟩ = some (.slice a n cap)
  c3 : w.cell? ⟨b, 3, none⟩ = some (.slice z m dap)
theorem LBox.below {w w' : World} {b B : Nat} {K M : Int} {a : Option Addr} {n cap : Nat} {z : Option Addr} {m dap : Nat} (h : LBox w b K M a n cap z m dap) (hb : Below B w w') (hB : b < B) : LBox w' b K M a n cap z m dap :=
  ⟨Nat.lt_of_lt_of_le h.lt hb.size, (hb.cell (p := ⟨b, 0, none⟩) hB).trans h.c0, (hb.cell (p := ⟨b, 1, none⟩) hB).trans h.c1, (hb.cell (p := ⟨b, 2, none⟩) hB).trans h.c2, (hb.cell (p := ⟨b, 3, none⟩) hB).trans h.c3⟩
theorem lbox_new (W : World) (K M T : Int) (a : Option Addr) (n cap : Nat) (z : Option Addr) (m dap : Nat) (t : TypeId) : LBox (W.alloc (.cells #[.int .i64 K, .int .i64 M, .slice a n cap, .slice z m dap, .int .i64 T] t)) W.heap.size K M a n cap z m dap := by
  have h := Go.Deep.blk_alloc_new W (.cells #[.int .i64 K, .int .i64 M, .slice a n cap, .slice z m dap, .int .i64 T] t)
  refine ⟨alloc_lt _ _, ?_, ?_, ?_, ?_⟩ <;> (simp only [World.cell?, h]; rfl)
theorem LBox.all {w w' : World} {b : Nat} {K M : Int} {a : Option Addr} {n cap : Nat} {z : Option Addr} {m dap : Nat} (h : LBox w b K M a n cap z m dap) (hb : Below w.heap.size w w') : LBox w' b K M a n cap z m dap := h.below hb h.lt
theorem isrow_ints {w : World} {a : Option Addr} {len cap : Nat} {zs : List Int} (h : IsRow .i64 w a len cap zs) : Ints w a len (fun i => zs.getD i 0) := by
  rcases h.at_ with h0 | ⟨h0, b, off, e, g⟩
  · exact .inl h0
  · refine .inr ⟨b, off, e, ?_, fun i hi => g.cell i hi⟩
    have c := g.cell 0 h0
    rcases Nat.lt_or_ge b w.heap.size with g | g
    · exact g
    · simp [World.cell?, Array.getElem?_eq_none g] at c
set_option maxRecDepth 100000 in
set_option maxHeartbeats 4000000 in
theorem any6_walk (K M : Int) (n cap : Nat) (a : Option Addr) (A : Nat → Option Addr) (L C : Nat → Nat) (X : Nat → List Int) (m dap : Nat) (z : Option Addr) (zs : List Int) (T : Int) (w : World) (_ : (Lit.int .i64 K).wf = true) (_ : (Lit.int .i64 M).wf = true) (hc : ColsIn w a n cap A L C X) (hr : IsRow .i64 w z m dap zs) :
    Calls Try.prog 6 #[.agg #[.int .i64 K, .int .i64 M, .slice a n cap, .slice z m dap, .int .i64 T]] w fun e w' => e = .returned (.bool true) ∧ Below w.heap.size w w' := by
  have HAW := Lib.hid (fun w => awake6_any w)
  have HB0 := Lib.hid (below_put w (.cells #[.int .i64 K, .int .i64 M, .slice a n cap, .slice z m dap, .int .i64 T] 57))
  have HX0 := Lib.hid (lbox_new w K M T a n cap z m dap 57)
  have HLB : Hid (∀ w', Below (w.alloc (.cells #[.int .i64 K, .int .i64 M, .slice a n cap, .slice z m dap, .int .i64 T] 57)).heap.size (w.alloc (.cells #[.int .i64 K, .int .i64 M, .slice a n cap, .slice z m dap, .int .i64 T] 57)) w' → LBox w' w.heap.size K M a n cap z m dap ∧ ColsIn w' a n cap A L C X ∧ Below w.heap.size w w' ∧ ∃ b off, (0 < m → z = some ⟨b, off, none⟩) ∧ ∀ i, i < m → w'.cell? ⟨b, off + i, none⟩ = some (.int .i64 (zs.getD i 0))) :=
    Lib.hid (fun w' h => ⟨HX0.out.all h, hc.below (b_on HB0.out h) (Nat.le_refl _), b_on HB0.out h, by
      have hi := isrow_ints hr
      rcases hi.below (b_on HB0.out h) (Nat.le_refl _) with h0 | ⟨b, off, e, _, hh⟩
      · exact ⟨0, 0, fun h => absurd h (by omega), fun i hi => absurd hi (by omega)⟩
      · exact ⟨b, off, fun _ => e, hh⟩⟩)
  have hn63 := Nat.le_trans hc.1 hc.2.1
  have hm63 : m ≤ 9223372036854775807 := by have := hr.bound; omega
  have HFW := Lib.hid (fun w' h => few6_any n cap a A L C X w' (HLB.out w' h).2.1)
  clear hc hr HB0 HX0
  unfold FewTo at HFW
  by_cases hsm : 1 ≤ K ∧ 0 ≤ M ∧ K ≤ 20 ∧ M ≤ 20
  case neg =>
    have HS := Lib.hid (fun w => small6_no K M hsm w)
    clear hsm
    go_enter Try.func6, Try.ntmps6
    go_wp2_with first
      | (go_at_call 8; refine (HAW.out _).mono ?_; rintro e w1 ⟨rfl, hb⟩; have HB1 := Lib.hid hb; clear hb; obtain ⟨_, x0, x1, x2, x3⟩ := (HLB.out _ HB1.out).1)
      | (go_at_call 13; refine (HS.out _).mono ?_; rintro e w2 ⟨rfl, rfl⟩)
    go_ret
    exact ⟨rfl, (HLB.out _ HB1.out).2.2.1⟩
  obtain ⟨k, rfl⟩ : ∃ n : Nat, K = n := ⟨K.toNat, by omega⟩
  obtain ⟨mm, rfl⟩ : ∃ n : Nat, M = n := ⟨M.toNat, by omega⟩
  have hk1 : 1 ≤ k := by omega
  have hk20 : k ≤ 20 := by omega
  have hm20 : mm ≤ 20 := by omega
  have HS := Lib.hid (fun w => small6_yes k mm hk1 hk20 hm20 w)
  clear hsm
  by_cases hnk : n = k
  case neg =>
    have hnb : ((n : Int) != (k : Nat)) = true := by
      have : ¬ (n : Int) = k := by omega
      simpa using this
    clear hnk
    go_enter Try.func6, Try.ntmps6
    go_wp2_with first
      | (go_at_call 8; refine (HAW.out _).mono ?_; rintro e w1 ⟨rfl, hb⟩; have HB1 := Lib.hid hb; clear hb; obtain ⟨_, x0, x1, x2, x3⟩ := (HLB.out _ HB1.out).1)
      | (go_at_call 13; refine (HS.out _).mono ?_; rintro e w2 ⟨rfl, rfl⟩)
      | (go_at_call 16; refine (HFW.out _ HB1.out).mono ?_; rintro e w2 ⟨v, rfl, hv, rfl⟩; clear hv; cases v)
    all_goals
      go_ret
      exact ⟨rfl, (HLB.out _ HB1.out).2.2.1⟩
  subst hnk
  have hnb : ((n : Int) != (n : Nat)) = false := by simp
  by_cases hm60 : 60 < m
  case pos =>
    have hm61 : (60 : Int) < m := by omega
    go_enter Try.func6, Try.ntmps6
    go_wp2_with first
      | (go_at_call 8; refine (HAW.out _).mono ?_; rintro e w1 ⟨rfl, hb⟩; have HB1 := Lib.hid hb; clear hb; obtain ⟨_, x0, x1, x2, x3⟩ := (HLB.out _ HB1.out).1)
      | (go_at_call 13; refine (HS.out _).mono ?_; rintro e w2 ⟨rfl, rfl⟩)
      | (go_at_call 16; refine (HFW.out _ HB1.out).mono ?_; rintro e w2 ⟨v, rfl, hv, rfl⟩; clear hv; cases v)
    all_goals
      go_ret
      exact ⟨rfl, (HLB.out _ HB1.out).2.2.1⟩
  have hm61 : ¬ (60 : Int) < m := by omega
  go_enter Try.func6, Try.ntmps6
  go_wp2_with first
    | (go_at_call 8; refine (HAW.out _).mono ?_; rintro e w1 ⟨rfl, hb⟩; have HB1 := Lib.hid hb; clear hb; obtain ⟨_, x0, x1, x2, x3⟩ := (HLB.out _ HB1.out).1)
    | (go_at_call 13; refine (HS.out _).mono ?_; rintro e w2 ⟨rfl, rfl⟩)
    | (go_at_call 16; refine (HFW.out _ HB1.out).mono ?_; rintro e w2 ⟨v, rfl, hv, rfl⟩; clear hv; cases v)
  · go_ret
    exact ⟨rfl, (HLB.out _ HB1.out).2.2.1⟩
  clear x0 x1 x2 x3
  have HLW : Hid (∀ w', Below w1.heap.size w1 w' → LBox w' w.heap.size n mm a n cap z m dap ∧ ColsIn w' a n cap A L C X ∧ Below w.heap.size w w' ∧ ∃ b off, (0 < m → z = some ⟨b, off, none⟩) ∧ ∀ i, i < m → w'.cell? ⟨b, off + i, none⟩ = some (.int .i64 (zs.getD i 0))) := Lib.hid (fun w' h => HLB.out w' (b_on HB1.out h))
  have HBX : Hid (w.heap.size < w1.heap.size) := Lib.hid (HLB.out _ HB1.out).1.lt
  clear HLB HB1 HAW HS HFW
  go_loopw [3] (fun i wr => ∃ j nd : Nat, j ≤ n ∧ i = .int .i64 (j : Nat) ∧ Hid (EvenL j L) ∧ wr = w1.drewN nd) (fun i _ => n - (intOf i).toNat)
  case atStart => exact ⟨0, 0, by omega, rfl, Lib.hid (fun i h => absurd h (by omega)), rfl⟩
  case round =>
    obtain ⟨j, nd, hj, rfl, HE, hwr⟩ := hrel
    have HB1 : Hid (Below w1.heap.size w1 wr) := Lib.hid (by rw [hwr]; exact below_drewN (Below.refl _ _) nd)
    have HW := Lib.hid hwr
    clear hwr
    have hlb := (HLW.out _ HB1.out).1
    obtain ⟨_, x0, x1, x2, x3⟩ := hlb
    by_cases hlt : j < n
    · obtain ⟨⟨h, off, rfl, _, c1⟩, s1⟩ := (HLW.out _ HB1.out).2.1.2.2.2 j hlt
      obtain ⟨⟨h', off', e', _, c2⟩, _⟩ := (HLW.out _ HB1.out).2.1.2.2.2 0 (by omega)
      cases e'
      rw [Nat.add_zero] at c2
      have m1 := Nat.le_trans s1.cap s1.top
      have j0 : (0 : Int) ≤ j := by omega
      have j1 : (j : Int) < n := by omega
      have hn0 : (0 : Int) < n := by omega
      clear s1
      by_cases hne : L j = L 0
      case neg =>
        have hb : (((L j : Nat) : Int) != (L 0 : Nat)) = true := by
          have : ¬ ((L j : Nat) : Int) = (L 0 : Nat) := by omega
          simpa using this
        clear hne
        go_wp2
        go_quiet (fail)
        go_wp2
        go_ret
        exact ⟨rfl, below_drewN (HLW.out _ HB1.out).2.2.1 _⟩
      case pos =>
        have hb : (((L j : Nat) : Int) != (L 0 : Nat)) = false := by rw [hne]; simp
        by_cases hlong : 1200 < L j
        · have hd : decide ((1200 : Int) < (L j : Nat)) = true := decide_eq_true (by omega)
          clear hlong hne
          go_wp2
          go_quiet (fail)
          go_wp2
          go_ret
          exact ⟨rfl, below_drewN (HLW.out _ HB1.out).2.2.1 _⟩
        · have hd : decide ((1200 : Int) < (L j : Nat)) = false := decide_eq_false (by omega)
          have HGD : Hid (L j = L 0 ∧ L j ≤ 1200) := Lib.hid ⟨hne, by omega⟩
          clear hlong hne
          go_wp2
          go_quiet (fail)
          go_wp2
          go_roundw
          case rel =>
            rw [HW.out]
            exact ⟨j + 1, _, by omega, by go_num, Lib.hid (fun i hi => if e : i = j then e ▸ HGD.out else HE.out i (by omega)), by rw [World.drewN_drewN]⟩
          case measure => simp [intOf]; omega
    · obtain rfl : j = n := by omega
      obtain ⟨wo, ho⟩ : ∃ wo, wo = wr := ⟨_, rfl⟩
      subst ho
      have HWO : Hid (∀ w', Below wo.heap.size wo w' → LBox w' w.heap.size j mm a j cap z m dap ∧ ColsIn w' a j cap A L C X ∧ Below w.heap.size w w' ∧ ∃ b off, (0 < m → z = some ⟨b, off, none⟩) ∧ ∀ i, i < m → w'.cell? ⟨b, off + i, none⟩ = some (.int .i64 (zs.getD i 0))) := Lib.hid (fun w' h => HLW.out w' (b_on HB1.out h))
      have HN := Lib.hid (fun w => new_any w)
      have HC := Lib.hid (fun t w ht => code_some t j mm hk1 (by omega) w ht)
      unfold Coded at HC
      clear HLW HB1 HW
      go_wp2
      go_cut [1, 4, 5] (fun s1 s4 s5 wx => s1 = .pointer (some ⟨w.heap.size, 0, none⟩) ∧ s5 = .int .i64 0 ∧ ∃ b t : Nat, s4 = .pointer (some ⟨b, 0, none⟩) ∧ Hid (IsCode wx b t j mm ∧ Below wo.heap.size wo wx))
      case first =>
        clear x0 x1 x2 x3
        have HS : Hid (∀ w', Below wo.heap.size wo w' → Below wo.heap.size wo w' ∧ w'.cell? ⟨w.heap.size, 0, none⟩ = some (.int .i64 (j : Nat)) ∧ w'.cell? ⟨w.heap.size, 1, none⟩ = some (.int .i64 (mm : Nat))) := Lib.hid (fun w' h => ⟨h, (HWO.out _ h).1.c0, (HWO.out _ h).1.c1⟩)
        have cc : Below wo.heap.size wo wo.drew := (Below.refl _ _).drew
        go_region_held3 (fun w' => Below wo.heap.size wo w' ∧ w'.cell? ⟨w.heap.size, 0, none⟩ = some (.int .i64 (j : Nat)) ∧ w'.cell? ⟨w.heap.size, 1, none⟩ = some (.int .i64 (mm : Nat)))
          (first
            | exact HS.out _ cc
            | exact HS.out _ (Below.refl _ _)
            | fail "keep")
          (first
            | (go_at_call 10; (with_reducible refine (HN.out wo.drew).mono ?_); rintro e w3 ⟨rfl, ht0, hb⟩; have ht : IsTab w3 wo.heap.size := ht0; clear ht0; replace cc := b_on cc hb; clear hb)
            | (go_at_call 9; (with_reducible refine (HC.out wo.heap.size w3 ht).mono ?_); rintro e w4 ⟨b, rfl, _, hi, hb⟩; replace cc := b_on cc hb; clear hb)
            | fail "arm")
        all_goals
          have HF := Lib.hid (And.intro hi cc)
          clear hi cc ht
          go_wp2_with fail
          go_meet
          exact ⟨rfl, rfl, _, _, rfl, HF⟩
      case rest =>
        obtain ⟨rfl, rfl, b, t, rfl, HF⟩ := hcut
        have HI := Lib.hid HF.out.1
        have HWC : Hid (∀ w', Below wc.heap.size wc w' → LBox w' w.heap.size j mm a j cap z m dap ∧ ColsIn w' a j cap A L C X ∧ Below w.heap.size w w' ∧ IsCode w' b t j mm ∧ ∃ b off, (0 < m → z = some ⟨b, off, none⟩) ∧ ∀ i, i < m → w'.cell? ⟨b, off + i, none⟩ = some (.int .i64 (zs.getD i 0))) := Lib.hid (fun w' h => by
          obtain ⟨e1, e2, e3, e4⟩ := HWO.out w' (b_on HF.out.2 h)
          exact ⟨e1, e2, e3, HI.out.below h, e4⟩)
        have HEN := Lib.hid (code_encode b t j mm cap a A L C X wc HI.out (HWC.out _ (Below.refl _ _)).2.1 HE.out)
        have hl0 : L 0 ≤ 1200 := (HE.out 0 (by omega)).2
        have HEV : Hid (∀ i, i < j → L i = L 0) := Lib.hid (fun i hi => (HE.out i hi).1)
        obtain ⟨len, hlen⟩ : ∃ len, len = L 0 := ⟨_, rfl⟩
        rw [← hlen] at HEN HEV hl0
        obtain ⟨A1, L1, C1, X1, hmk⟩ : ∃ (A1 : Nat → Option Addr) (L1 C1 : Nat → Nat) (X1 : Nat → List Int), True := ⟨A, L, C, X, trivial⟩
        clear HF HI HWO HC HN hlen hmk A1 L1 C1 X1
        unfold AppliedTo at HEN
        obtain ⟨_, x0, x1, x2, x3⟩ := (HWC.out _ (Below.refl _ _)).1
        have HNE1 : Hid (a ≠ none) := Lib.hid (fun e => by
          obtain ⟨⟨b', off, e', _⟩, _⟩ := (HWC.out _ (Below.refl _ _)).2.1.2.2.2 0 (by omega)
          rw [e] at e'; cases e')
        have HNE2 : Hid (∀ h : Nat, (some ⟨h, 0, none⟩ : Option Addr) ≠ none) := Lib.hid (fun h e => nomatch e)
        have HB100 : Hid (0 + j ≤ 100000 ∧ j + mm ≤ 100000) := Lib.hid (by omega)
        have hmm1000 : mm ≤ 1000 := by omega
        go_wp2_with first
          | (go_at_call 17; refine HEN.out.mono ?_; rintro e w5 ⟨h5, g5, l5, rfl, hh5, hg5, hl, hd, hcc, hb⟩; have HL5 := Lib.hid hl; have HD5 := Lib.hid hd; have HC5 := Lib.hid hcc; have HB5 := Lib.hid hb; clear hl hd hcc hb hh5 hg5 x0 x1 x2 x3; obtain ⟨_, x0, x1, x2, x3⟩ := (HWC.out _ HB5.out).1; have HLIT := Lib.hid (OwnS.lit w5 w5.heap.size (Nat.le_refl _)); have HCA : Hid (∀ o, ColsIn (w5.alloc o) a j cap A L C X ∧ w5.heap.size ≤ (w5.alloc o).heap.size) := Lib.hid (fun o => ⟨(HWC.out _ (b_put HB5.out o)).2.1, Nat.le_of_lt (alloc_lt _ _)⟩))
          | ((with_reducible refine wpList_append_sls (w := w5.alloc _) rfl (.tmp 104) (.tmp 106) rfl w5.heap.size (.slice (some ⟨w5.heap.size, 0, none⟩) 0 0) 0 rfl [] HLIT.out a j cap rfl A L C X (HCA.out _).1 HNE1.out HB100.out.1 (HCA.out _).2 ?_); intro v6 w6 hx6 hg6; have HX6 : Hid (OwnS w6 w5.heap.size v6 j (datR A L C j)) := Lib.hid (by simpa using hx6); have HB6 : Hid (Below w5.heap.size w5 w6) := Lib.hid (row_grown HLIT.out hg6 (below_put w5 _) (Nat.le_refl _) (Nat.le_of_lt (alloc_lt _ _))); clear hx6 hg6 x0 x1 x2 x3; have HP6 := Lib.hid ((cols_applied HL5.out HD5.out hmm1000 hl0).below HB6.out (Nat.le_refl _)); obtain ⟨A6, C6, rfl, _⟩ := row_slice HX6.out)
          | ((with_reducible refine wpList_append_sls (w := w6) rfl (.tmp 107) (.tmp 108) rfl w5.heap.size (.slice A6 j C6) j rfl (datR A L C j) HX6.out (some ⟨h5, 0, none⟩) mm mm rfl _ _ _ _ HP6.out (HNE2.out _) HB100.out.2 HB6.out.size ?_); intro v7 w7 hx7 hg7; have HX7 := Lib.hid hx7; have HB7 : Hid (Below w5.heap.size w5 w7) := Lib.hid (row_grown HX6.out hg7 HB6.out (Nat.le_refl _) HB6.out.size); clear hx7 hg7; obtain ⟨A7, C7, rfl, _⟩ := row_slice HX7.out; obtain ⟨_, x0, x1, x2, x3⟩ := (HWC.out _ (b_on HB5.out HB7.out)).1)
        have hDB : ∀ i, i < j → By (X i) := fun i hi => ((HWC.out _ (Below.refl _ _)).2.1.2.2.2 i hi).2.bytes.range
        have HXX : Hid (∀ i, i < j + mm → ∀ c, c < len → co (if i < j then X i else seg l5 ((i - j) * len) len) c = wordE X j i c) := Lib.hid (fun i hi c hcl => by
          by_cases g : i < j
          · rw [if_pos g]; exact (word_first2 (by omega) hDB g c).symm
          · rw [if_neg g, seg_co _ _ _ _ hcl]
            have h1 := HC5.out (i - j) c (by omega) hcl
            have e : j + (i - j) = i := by omega
            rw [e] at h1
            exact h1)
        have HAC : Hid (∀ w', Below w7.heap.size w7 w' → ColsIn w' A7 (j + mm) C7 (fun i => if i < j then A i else some ⟨g5, (i - j) * len, none⟩) (fun _ => len) (fun i => if i < j then C i else len) (fun i => if i < j then X i else seg l5 ((i - j) * len) len)) := Lib.hid (fun w' h => by
          refine ColsIn.below ?_ h (Nat.le_refl _)
          refine OwnS.cols _ _ _ _ HX7.out (fun i hi => ?_) (fun i hi => ?_)
          · have hl1 : (datR A L C j).length = j := by unfold datR; simp
            by_cases g : i < j
            · rw [List.getElem?_append_left (by omega), datR_get g, if_pos g, if_pos g, HEV.out i g]
            · rw [List.getElem?_append_right (by omega), hl1, datR_get (by omega), if_neg g, if_neg g]
          · by_cases g : i < j
            · have h1 := ((HWC.out _ (b_on HB5.out HB7.out)).2.1.2.2.2 i g).2
              rw [HEV.out i g] at h1
              rw [if_pos g, if_pos g, if_pos g]
              exact h1
            · have h1 := (((cols_applied HL5.out HD5.out hmm1000 hl0).below HB7.out (Nat.le_refl _)).2.2.2 (i - j) (by omega)).2
              rw [if_neg g, if_neg g, if_neg g]
              exact h1)
        have HWD : Hid (∀ w', Below w7.heap.size w7 w' → LBox w' w.heap.size j mm a j cap z m dap ∧ ColsIn w' a j cap A L C X ∧ Below w.heap.size w w' ∧ IsCode w' b t j mm ∧ ∃ b off, (0 < m → z = some ⟨b, off, none⟩) ∧ ∀ i, i < m → w'.cell? ⟨b, off + i, none⟩ = some (.int .i64 (zs.getD i 0))) := Lib.hid (fun w' h => HWC.out w' (b_on (b_on HB5.out HB7.out) h))
        clear HL5 HD5 HC5 HX6 HX7 HP6 HWC HB5 HB6 HB7 HLIT HCA HEN HNE1 HNE2 HB100 x0 x1 x2 x3 hDB
        obtain ⟨AA, hAA⟩ : ∃ AA : Nat → Option Addr, AA = fun i => if i < j then A i else some ⟨g5, (i - j) * len, none⟩ := ⟨_, rfl⟩
        obtain ⟨CC, hCC⟩ : ∃ CC : Nat → Nat, CC = fun i => if i < j then C i else len := ⟨_, rfl⟩
        obtain ⟨XX, hXX⟩ : ∃ XX : Nat → List Int, XX = fun i => if i < j then X i else seg l5 ((i - j) * len) len := ⟨_, rfl⟩
        rw [← hAA, ← hCC, ← hXX] at HAC
        have HXY : Hid (∀ i, i < j + mm → ∀ c, c < len → co (XX i) c = wordE X j i c) := Lib.hid (by rw [hXX]; exact HXX.out)
        clear HXX hAA hCC hXX
        have hN1 : j ≤ j + mm ∧ j + mm ≤ 40 := by omega
        have hNm : j + mm ≤ 255 := by omega
        have HNM := Lib.hid hNm
        change Code.wp _ _ _ _ (w7.alloc (.cells (Array.replicate 40 (.bool false)) 58))
        have HSE : Hid ((w7.alloc (.cells (Array.replicate 40 (.bool false)) 58)).rowIs w7.heap.size 58 40 (fun x => .bool (decide (0 ≤ whr (fun _ => 0) 0 (x : Int))))) := Lib.hid ⟨_, Go.Deep.blk_alloc_new _ _, by simp, fun i hi => by simp [hi, whr]⟩
        have HB8 : Hid (Below w7.heap.size w7 (w7.alloc (.cells (Array.replicate 40 (.bool false)) 58))) := Lib.hid (below_put w7 _)
        have HB88 : Hid (w7.heap.size < (w7.alloc (.cells (Array.replicate 40 (.bool false)) 58)).heap.size) := Lib.hid (alloc_lt _ _)
        generalize w7.alloc (.cells (Array.replicate 40 (.bool false)) 58) = w8 at *
        generalize hN : j + mm = N at *
        obtain ⟨⟨g7, o7, rfl, _, _⟩, _⟩ := (HAC.out w7 (Below.refl _ _)).2.2.2 0 (by omega)
        have HG7 : Hid (g7 ≠ w7.heap.size) := Lib.hid (by
          obtain ⟨⟨g7', o7', e, hlt7, _⟩, _⟩ := (HAC.out w7 (Below.refl _ _)).2.2.2 0 (by omega)
          cases e
          omega)
        go_loopw [9, 11, 12] (fun kv iv _ wr => ∃ (i q : Nat) (I : Nat → Int) (A0 : Option Addr) (C0 : Nat), i ≤ m ∧ iv = .int .i64 (i : Nat) ∧ kv = .slice A0 q C0 ∧ Hid (OwnH wr w8.heap.size (.slice A0 q C0) q (shV I (fun r => AA (I r).toNat) (fun _ => len) (fun r => CC (I r).toNat) q)) ∧ Hid (GoodIx I N q) ∧ Hid (wr.rowIs w7.heap.size 58 40 (fun x => .bool (decide (0 ≤ whr I q (x : Int))))) ∧ Hid (Below w7.heap.size w7 wr) ∧ Hid (w8.heap.size ≤ wr.heap.size)) (fun _ iv _ _ => m - (intOf iv).toNat)
        case atStart => exact ⟨0, 0, fun _ => 0, none, 0, by omega, rfl, rfl, Lib.hid (OwnH.none _ _), Lib.hid (fun i h => absurd h (by omega)), HSE, HB8, Lib.hid (Nat.le_refl _)⟩
        case round =>
          obtain ⟨i, q, I, A0, C0, hi, rfl, rfl, HO, HG, HR, HB, HSZ⟩ := hrel
          obtain ⟨wi, hwi⟩ : ∃ wi, wi = wr := ⟨_, rfl⟩
          subst hwi
          obtain ⟨⟨_, x0, x1, x2, x3⟩, hdat, hbw, hcode, zb, zo, hz, hzc⟩ := HWD.out _ HB.out
          by_cases hlt : i < m
          · obtain rfl := hz (by omega)
            have cz := hzc i hlt
            obtain ⟨zi, hzi⟩ : ∃ zi, zi = zs.getD i 0 := ⟨_, rfl⟩
            rw [← hzi] at cz
            have hb2 := tmod_in zi N (by omega)
            obtain ⟨r, hr⟩ : ∃ r, zi.tmod (N : Int) = r := ⟨_, rfl⟩
            rw [hr] at hb2
            have i0 : (0 : Int) ≤ i := by omega
            have i1 : (i : Int) < m := by omega
            have hN0 : ¬ (N : Int) = 0 := by omega
            have hqN : q ≤ N := by have h1 := ordL_len q HG.out; have h2 := ord_le I q N; omega
            clear hdat hcode hzc hz hzi x0 x1 x2 hN1 hNm
            rcases Int.lt_or_le r 0 with hneg | hpos
            · obtain ⟨nn, hnn⟩ : ∃ nn : Nat, r + N = nn := ⟨(r + N).toNat, by omega⟩
              have hnnN : nn < N := by omega
              have hn40 : nn < 40 := by omega
              have cs := HR.out.cell (i := nn) hn40
              have fs := HR.out.frozen nn
              have nn0 : (0 : Int) ≤ nn := by omega
              have nn1 : (nn : Int) < 40 := by omega
              have nn2 : (nn : Int) < N := by omega
              by_cases hs : 0 ≤ whr I q (nn : Int)
              · rw [decide_eq_true hs] at cs
                clear hs
                go_wp2
                go_roundw
                case rel => exact ⟨i + 1, q, I, A0, C0, by omega, by go_num, rfl, HO, HG, HR, HB, HSZ⟩
                case measure => simp [intOf]; omega
              · rw [decide_eq_false hs] at cs
                have HNO := Lib.hid hs
                obtain ⟨W9, hW9⟩ : ∃ W9, W9 = wi.setCell ⟨w7.heap.size, nn, none⟩ (.bool true) := ⟨_, rfl⟩
                have hsz9 : W9.heap.size = wi.heap.size := by rw [hW9]; simp
                have HO9 : Hid (OwnH W9 w8.heap.size (.slice A0 q C0) q (shV I (fun r => AA (I r).toNat) (fun _ => len) (fun r => CC (I r).toNat) q)) := Lib.hid (by rw [hW9]; exact ownsRow_setCell_below HO.out HB88.out _)
                have HB9 : Hid (Below w7.heap.size w7 W9) := Lib.hid (by rw [hW9]; exact HB.out.setCell (p := ⟨w7.heap.size, nn, none⟩) (Nat.le_refl _) _)
                have HR9 : Hid (W9.rowIs w7.heap.size 58 40 (fun x => if x = nn then .bool true else .bool (decide (0 ≤ whr I q (x : Int))))) := Lib.hid (by rw [hW9]; exact HR.out.set nn _)
                have hca := ((HAC.out _ HB.out).2.2.2 nn (by omega)).1
                obtain ⟨g7', o7', e7, _, ca⟩ := hca
                cases e7
                have hca2 := ((HAC.out _ HB9.out).2.2.2 nn (by omega)).1
                obtain ⟨g7', o7', e7, _, ca2⟩ := hca2
                cases e7
                rw [hW9] at ca2
                have hne7 := HG7.out
                have hne8 : ¬ w7.heap.size = g7 := fun e => hne7 e.symm
                have HNS : Hid ((W9.alloc (.cells #[.int .i64 (nn : Int), .slice (AA nn) len (CC nn)] 47)).heap[wi.heap.size]? = some (.cells #[.int .i64 (nn : Int), .slice (AA nn) len (CC nn)] 47 (0, 0))) := Lib.hid (by rw [← hsz9]; exact new_shard W9 _ _ _ _)
                have HOA : Hid (∀ o, OwnH (W9.alloc o) w8.heap.size (.slice A0 q C0) q (shV I (fun r => AA (I r).toNat) (fun _ => len) (fun r => CC (I r).toNat) q) ∧ w8.heap.size ≤ (W9.alloc o).heap.size) := Lib.hid (fun o => ⟨row_alloc HO9.out o, Nat.le_trans HSZ.out (by rw [← hsz9]; exact Nat.le_of_lt (alloc_lt _ _))⟩)
                have HLT : Hid (q + 1 ≤ 100000) := Lib.hid (by omega)
                have HPO : Hid (∀ v' w' o, OwnH w' w8.heap.size v' (q + 1) (shV I (fun r => AA (I r).toNat) (fun _ => len) (fun r => CC (I r).toNat) q ++ [.int .i64 (nn : Int), .slice (AA nn) len (CC nn)]) → (W9.alloc o).grownBy w' (Value.slice A0 q C0).ownBlock →
                    (∃ I' : Nat → Int, OwnH w' w8.heap.size v' (q + 1) (shV I' (fun r => AA (I' r).toNat) (fun _ => len) (fun r => CC (I' r).toNat) (q + 1)) ∧ GoodIx I' N (q + 1) ∧ w'.rowIs w7.heap.size 58 40 (fun x => .bool (decide (0 ≤ whr I' (q + 1) (x : Int))))) ∧ Below w7.heap.size w7 w' ∧ w8.heap.size ≤ w'.heap.size) := Lib.hid (fun v' w' o hx hg => by
                  have hb10 : Below w8.heap.size (W9.alloc o) w' := row_grown (HOA.out o).1 hg (Below.refl _ _) (Nat.le_refl _) (HOA.out o).2
                  refine ⟨⟨fun r => if r = q then (nn : Int) else I r, ?_, ?_, ?_⟩, row_grown (HOA.out o).1 hg (b_put HB9.out o) HB8.out.size (Nat.le_trans HB8.out.size (HOA.out o).2), Nat.le_trans (HOA.out o).2 hb10.size⟩
                  · have e1 : shV (fun r => if r = q then (nn : Int) else I r) (fun r => AA (if r = q then (nn : Int) else I r).toNat) (fun _ => len) (fun r => CC (if r = q then (nn : Int) else I r).toNat) q = shV I (fun r => AA (I r).toNat) (fun _ => len) (fun r => CC (I r).toNat) q :=
                      shV_congr q (fun r hr => by rw [if_neg (by omega)]; exact ⟨rfl, rfl, rfl, rfl⟩)
                    show OwnH w' w8.heap.size v' (q + 1) (shV (fun r => if r = q then (nn : Int) else I r) (fun r => AA (if r = q then (nn : Int) else I r).toNat) (fun _ => len) (fun r => CC (if r = q then (nn : Int) else I r).toNat) q ++ [.int .i64 (if q = q then (nn : Int) else I q), .slice (AA (if q = q then (nn : Int) else I q).toNat) len (CC (if q = q then (nn : Int) else I q).toNat)])
                    rw [e1, if_pos rfl, Int.toNat_natCast]
                    exact hx
                  · intro r hr'
                    have hfree : ∀ r', r' < q → I r' ≠ nn := by
                      rcases whr_spec I (nn : Int) q with ⟨_, h⟩ | ⟨p, _, h, _⟩
                      · exact h
                      · exact absurd (by rw [h]; omega) HNO.out
                    by_cases e : r = q
                    · dsimp only
                      rw [if_pos e]
                      exact ⟨by omega, by omega, fun r' hr2 => by rw [if_neg (by omega)]; exact hfree r' (by omega)⟩
                    · have h2 := HG.out r (by omega)
                      dsimp only
                      rw [if_neg e]
                      exact ⟨h2.1, h2.2.1, fun r' hr2 => by rw [if_neg (by omega)]; exact h2.2.2 r' hr2⟩
                  · refine (((HR9.out.of_block (Below.heap_alloc _ o _ HR9.out.lt)).of_block (hb10.block _ HB88.out))).congr (fun x _ => ?_)
                    have e2 : whr (fun r => if r = q then (nn : Int) else I r) (q + 1) (x : Int) = if (nn : Int) = x then (q : Int) else whr I q x := by
                      show (if (if q = q then (nn : Int) else I q) = (x : Int) then (q : Int) else whr (fun r => if r = q then (nn : Int) else I r) q x) = _
                      rw [if_pos rfl, whr_congr (I' := I) (x : Int) q (fun r hr => by rw [if_neg (by omega)])]
                    rw [e2]
                    by_cases e : x = nn
                    · rw [if_pos e, if_pos (by omega), decide_eq_true (by omega)]
                    · rw [if_neg e, if_neg (by omega)])
                clear hs hsz9
                rw [hW9] at HNS HOA HPO
                clear hW9 HO9 HB9 HR9
                go_wp2_with ((with_reducible refine wpList_append_sh (w := (wi.setCell _ _).alloc _) rfl (.tmp 137) (.tmp 144) rfl w8.heap.size (.slice A0 q C0) q rfl (shV I (fun r => AA (I r).toNat) (fun _ => len) (fun r => CC (I r).toNat) q) (HOA.out _).1 wi.heap.size rfl nn (AA nn) len (CC nn) HNS.out HLT.out (HOA.out _).2 ?_); intro v10 w10 hx10 hg10; obtain ⟨⟨I', ho10, hgi10, hr10⟩, hb10, hs10⟩ := HPO.out _ _ _ hx10 hg10; obtain ⟨A10, C10, rfl, _⟩ := OwnH.slice ho10; have HO10 := Lib.hid ho10; have HG10 := Lib.hid hgi10; have HR10 := Lib.hid hr10; have HB10 := Lib.hid hb10; have HS10 := Lib.hid hs10; clear ho10 hgi10 hr10 hb10 hs10 hx10 hg10)
                go_roundw
                case rel => exact ⟨i + 1, q + 1, I', A10, C10, by omega, by go_num, rfl, HO10, HG10, HR10, HB10, HS10⟩
                case measure => simp [intOf]; omega
            · obtain ⟨nn, rfl⟩ : ∃ nn : Nat, r = nn := ⟨r.toNat, by omega⟩
              have hnnN : nn < N := by omega
              have hn40 : nn < 40 := by omega
              have cs := HR.out.cell (i := nn) hn40
              have fs := HR.out.frozen nn
              have nn0 : (0 : Int) ≤ nn := by omega
              have nn1 : (nn : Int) < 40 := by omega
              have nn2 : (nn : Int) < N := by omega
              by_cases hs : 0 ≤ whr I q (nn : Int)
              · rw [decide_eq_true hs] at cs
                clear hs
                go_wp2
                go_roundw
                case rel => exact ⟨i + 1, q, I, A0, C0, by omega, by go_num, rfl, HO, HG, HR, HB, HSZ⟩
                case measure => simp [intOf]; omega
              · rw [decide_eq_false hs] at cs
                have HNO := Lib.hid hs
                obtain ⟨W9, hW9⟩ : ∃ W9, W9 = wi.setCell ⟨w7.heap.size, nn, none⟩ (.bool true) := ⟨_, rfl⟩
                have hsz9 : W9.heap.size = wi.heap.size := by rw [hW9]; simp
                have HO9 : Hid (OwnH W9 w8.heap.size (.slice A0 q C0) q (shV I (fun r => AA (I r).toNat) (fun _ => len) (fun r => CC (I r).toNat) q)) := Lib.hid (by rw [hW9]; exact ownsRow_setCell_below HO.out HB88.out _)
                have HB9 : Hid (Below w7.heap.size w7 W9) := Lib.hid (by rw [hW9]; exact HB.out.setCell (p := ⟨w7.heap.size, nn, none⟩) (Nat.le_refl _) _)
                have HR9 : Hid (W9.rowIs w7.heap.size 58 40 (fun x => if x = nn then .bool true else .bool (decide (0 ≤ whr I q (x : Int))))) := Lib.hid (by rw [hW9]; exact HR.out.set nn _)
                have hca := ((HAC.out _ HB.out).2.2.2 nn (by omega)).1
                obtain ⟨g7', o7', e7, _, ca⟩ := hca
                cases e7
                have hca2 := ((HAC.out _ HB9.out).2.2.2 nn (by omega)).1
                obtain ⟨g7', o7', e7, _, ca2⟩ := hca2
                cases e7
                rw [hW9] at ca2
                have hne7 := HG7.out
                have hne8 : ¬ w7.heap.size = g7 := fun e => hne7 e.symm
                have HNS : Hid ((W9.alloc (.cells #[.int .i64 (nn : Int), .slice (AA nn) len (CC nn)] 47)).heap[wi.heap.size]? = some (.cells #[.int .i64 (nn : Int), .slice (AA nn) len (CC nn)] 47 (0, 0))) := Lib.hid (by rw [← hsz9]; exact new_shard W9 _ _ _ _)
                have HOA : Hid (∀ o, OwnH (W9.alloc o) w8.heap.size (.slice A0 q C0) q (shV I (fun r => AA (I r).toNat) (fun _ => len) (fun r => CC (I r).toNat) q) ∧ w8.heap.size ≤ (W9.alloc o).heap.size) := Lib.hid (fun o => ⟨row_alloc HO9.out o, Nat.le_trans HSZ.out (by rw [← hsz9]; exact Nat.le_of_lt (alloc_lt _ _))⟩)
                have HLT : Hid (q + 1 ≤ 100000) := Lib.hid (by omega)
                have HPO : Hid (∀ v' w' o, OwnH w' w8.heap.size v' (q + 1) (shV I (fun r => AA (I r).toNat) (fun _ => len) (fun r => CC (I r).toNat) q ++ [.int .i64 (nn : Int), .slice (AA nn) len (CC nn)]) → (W9.alloc o).grownBy w' (Value.slice A0 q C0).ownBlock →
                    (∃ I' : Nat → Int, OwnH w' w8.heap.size v' (q + 1) (shV I' (fun r => AA (I' r).toNat) (fun _ => len) (fun r => CC (I' r).toNat) (q + 1)) ∧ GoodIx I' N (q + 1) ∧ w'.rowIs w7.heap.size 58 40 (fun x => .bool (decide (0 ≤ whr I' (q + 1) (x : Int))))) ∧ Below w7.heap.size w7 w' ∧ w8.heap.size ≤ w'.heap.size) := Lib.hid (fun v' w' o hx hg => by
                  have hb10 : Below w8.heap.size (W9.alloc o) w' := row_grown (HOA.out o).1 hg (Below.refl _ _) (Nat.le_refl _) (HOA.out o).2
                  refine ⟨⟨fun r => if r = q then (nn : Int) else I r, ?_, ?_, ?_⟩, row_grown (HOA.out o).1 hg (b_put HB9.out o) HB8.out.size (Nat.le_trans HB8.out.size (HOA.out o).2), Nat.le_trans (HOA.out o).2 hb10.size⟩
                  · have e1 : shV (fun r => if r = q then (nn : Int) else I r) (fun r => AA (if r = q then (nn : Int) else I r).toNat) (fun _ => len) (fun r => CC (if r = q then (nn : Int) else I r).toNat) q = shV I (fun r => AA (I r).toNat) (fun _ => len) (fun r => CC (I r).toNat) q :=
                      shV_congr q (fun r hr => by rw [if_neg (by omega)]; exact ⟨rfl, rfl, rfl, rfl⟩)
                    show OwnH w' w8.heap.size v' (q + 1) (shV (fun r => if r = q then (nn : Int) else I r) (fun r => AA (if r = q then (nn : Int) else I r).toNat) (fun _ => len) (fun r => CC (if r = q then (nn : Int) else I r).toNat) q ++ [.int .i64 (if q = q then (nn : Int) else I q), .slice (AA (if q = q then (nn : Int) else I q).toNat) len (CC (if q = q then (nn : Int) else I q).toNat)])
                    rw [e1, if_pos rfl, Int.toNat_natCast]
                    exact hx
                  · intro r hr'
                    have hfree : ∀ r', r' < q → I r' ≠ nn := by
                      rcases whr_spec I (nn : Int) q with ⟨_, h⟩ | ⟨p, _, h, _⟩
                      · exact h
                      · exact absurd (by rw [h]; omega) HNO.out
                    by_cases e : r = q
                    · dsimp only
                      rw [if_pos e]
                      exact ⟨by omega, by omega, fun r' hr2 => by rw [if_neg (by omega)]; exact hfree r' (by omega)⟩
                    · have h2 := HG.out r (by omega)
                      dsimp only
                      rw [if_neg e]
                      exact ⟨h2.1, h2.2.1, fun r' hr2 => by rw [if_neg (by omega)]; exact h2.2.2 r' hr2⟩
                  · refine (((HR9.out.of_block (Below.heap_alloc _ o _ HR9.out.lt)).of_block (hb10.block _ HB88.out))).congr (fun x _ => ?_)
                    have e2 : whr (fun r => if r = q then (nn : Int) else I r) (q + 1) (x : Int) = if (nn : Int) = x then (q : Int) else whr I q x := by
                      show (if (if q = q then (nn : Int) else I q) = (x : Int) then (q : Int) else whr (fun r => if r = q then (nn : Int) else I r) q x) = _
                      rw [if_pos rfl, whr_congr (I' := I) (x : Int) q (fun r hr => by rw [if_neg (by omega)])]
                    rw [e2]
                    by_cases e : x = nn
                    · rw [if_pos e, if_pos (by omega), decide_eq_true (by omega)]
                    · rw [if_neg e, if_neg (by omega)])
                clear hs hsz9
                rw [hW9] at HNS HOA HPO
                clear hW9 HO9 HB9 HR9
                go_wp2_with ((with_reducible refine wpList_append_sh (w := (wi.setCell _ _).alloc _) rfl (.tmp 137) (.tmp 144) rfl w8.heap.size (.slice A0 q C0) q rfl (shV I (fun r => AA (I r).toNat) (fun _ => len) (fun r => CC (I r).toNat) q) (HOA.out _).1 wi.heap.size rfl nn (AA nn) len (CC nn) HNS.out HLT.out (HOA.out _).2 ?_); intro v10 w10 hx10 hg10; obtain ⟨⟨I', ho10, hgi10, hr10⟩, hb10, hs10⟩ := HPO.out _ _ _ hx10 hg10; obtain ⟨A10, C10, rfl, _⟩ := OwnH.slice ho10; have HO10 := Lib.hid ho10; have HG10 := Lib.hid hgi10; have HR10 := Lib.hid hr10; have HB10 := Lib.hid hb10; have HS10 := Lib.hid hs10; clear ho10 hgi10 hr10 hb10 hs10 hx10 hg10)
                go_roundw
                case rel => exact ⟨i + 1, q + 1, I', A10, C10, by omega, by go_num, rfl, HO10, HG10, HR10, HB10, HS10⟩
                case measure => simp [intOf]; omega
          · obtain rfl : i = m := by omega
            subst hN
            have HSH : Hid (∀ w', Below wi.heap.size wi w' → ShardsIn w' A0 q C0 I (fun r => AA (I r).toNat) (fun _ => len) (fun r => CC (I r).toNat) (fun r => XX (I r).toNat)) := Lib.hid (fun w' h => by
              refine ShardsIn.below ?_ h (Nat.le_refl _)
              refine OwnH.shards I _ _ _ _ HO.out (fun r hr => ?_) (fun r hr => ?_)
              · have := HG.out r hr
                omega
              · have h1 := HG.out r hr
                exact ((HAC.out _ HB.out).2.2.2 (I r).toNat (by omega)).2)
            have HCO := Lib.hid hcode
            have HWE : Hid (∀ w', Below wi.heap.size wi w' → LBox w' w.heap.size j mm a j cap z i dap ∧ ColsIn w' a j cap A L C X ∧ Below w.heap.size w w' ∧ IsCode w' b t j mm) := Lib.hid (fun w' h => by
              obtain ⟨e1, e2, e3, e4, _⟩ := HWD.out w' (b_on HB.out h)
              exact ⟨e1, e2, e3, e4⟩)
            by_cases hqk : q < j
            · have hqi : (q : Int) < j := by omega
              have HDE := Lib.hid ((code_decode b t j mm q C0 A0 I _ _ _ _ wi HCO.out (HSH.out _ (Below.refl _ _))).mono (fun e w' ho => show Barred 63 wi e w' by
                cases ho with
                | index h _ => exact absurd HG.out h
                | few _ _ he => exact he
                | length _ h _ _ => omega
                | good _ h _ _ => omega))
              unfold Barred at HDE
              clear hdat hcode hz hzc x0 x1 x2 x3 hqk
              obtain ⟨_, x0, x1, x2, x3⟩ := (HWE.out _ (Below.refl _ _)).1
              go_wp2_with (go_at_call 20; refine HDE.out.mono ?_; rintro e w9 ⟨rfl, hb⟩; have HB9 := Lib.hid hb; clear hb x0 x1 x2 x3; obtain ⟨_, x0, x1, x2, x3⟩ := (HWE.out _ HB9.out).1)
              go_ret
              exact ⟨rfl, (HWE.out _ HB9.out).2.2.1⟩
            · have hqi : ¬ (q : Int) < j := by omega
              have ok : OkList I (fun _ => len) j (j + mm) q := ⟨HG.out, by omega, fun r _ => ⟨rfl, hl0⟩⟩
              have hXq : ∀ r, r < q → ∀ c, c < len → co (XX (I r).toNat) c = wordE X j (I r).toNat c := fun r hr c hc => HXY.out _ (by have := HG.out r hr; omega) c hc
              have HDE := Lib.hid (good_decode ok HCO.out (HSH.out _ (Below.refl _ _)))
              have HFI := Lib.hid (fun w' (h : Below wi.heap.size wi w') => good_fits ok (HWE.out w' h).2.2.2 (HSH.out w' h) true (fun _ => fit_word HNM.out HG.out (by omega) hXq rfl) (fun h => nomatch h))
              have HSA : Hid (∀ w9 w' h9 g9 l9, Below wi.heap.size wi w9 → Lst w9 h9 j len (fun i => some ⟨g9, i * len, none⟩) → Dat w9 g9 (j * len) l9 → (∀ r c, r < j → c < len → gr (fun i => i * len) l9 r c = decE I (fun r => XX (I r).toNat) j (j + mm) q r c) → Below w9.heap.size w9 w' →
                  Calls Try.prog 19 #[.slice (some ⟨h9, 0, none⟩) j j, .slice a j cap] w' fun e w'' => e = .returned (.bool true) ∧ ∃ k, w'' = w'.drewN k) := Lib.hid (fun w9 w' h9 g9 l9 hb9 hl9 hd9 hc9 hb => by
                refine rsame_lists _ _ j j j cap _ _ _ _ _ _ _ _ w' ((cols_applied hl9 hd9 (by omega) hl0).below hb (Nat.le_refl _)) (HWE.out w' (b_on hb9 hb)).2.1 (by omega) (by omega) true (fun _ => ⟨rfl, fun r hr => ?_⟩) (fun h => nomatch h)
                have h1 : r * len + len ≤ j * len := by
                  have := Nat.mul_le_mul_right len (show r + 1 ≤ j from hr)
                  rwa [Nat.succ_mul] at this
                have hs : (seg l9 (r * len) len).length = len := seg_length _ _ _ (by rw [hd9.size]; exact h1)
                have hxb := ((HWE.out w' (b_on hb9 hb)).2.1.2.2.2 r hr).2.bytes
                have hxl : (X r).length = len := by rw [hxb.size]; exact HEV.out r hr
                refine list_co (seg_by hd9.by_ _ _) hxb.range (hs.trans hxl.symm) (fun c hc => ?_)
                rw [hs] at hc
                rw [seg_co _ _ _ _ hc]
                refine (hc9 r c hr hc).trans ?_
                rw [dec_word (D := X) HNM.out HG.out (by omega) hXq (by omega) hc]
                exact word_first2 (by omega) (fun i hi => ((HWE.out w' (b_on hb9 hb)).2.1.2.2.2 i hi).2.bytes.range) hr c)
              generalize decE I (fun r => XX (I r).toNat) j (j + mm) q = E at *
              unfold AppliedTo at HDE
              clear hdat hcode hz hzc x0 x1 x2 x3 hqk ok hXq
              obtain ⟨_, x0, x1, x2, x3⟩ := (HWE.out _ (Below.refl _ _)).1
              go_wp2_with first
                | (go_at_call 20; refine HDE.out.mono ?_; rintro e w9 ⟨h9, g9, l9, rfl, _, _, hl, hd, hcc, hb⟩; have HL9 := Lib.hid hl; have HD9 := Lib.hid hd; have HC9 := Lib.hid hcc; have HB9 := Lib.hid hb; clear hl hd hcc hb x0 x1 x2 x3; obtain ⟨_, x0, x1, x2, x3⟩ := (HWE.out _ HB9.out).1)
                | (go_at_call 22; refine (HFI.out _ HB9.out).mono ?_; rintro e w10 ⟨rfl, hb⟩; have HB10 := Lib.hid hb; clear hb x0 x1 x2 x3; obtain ⟨_, x0, x1, x2, x3⟩ := (HWE.out _ (b_on HB9.out HB10.out)).1)
                | (go_at_call 19; refine (HSA.out w9 w10 h9 g9 l9 HB9.out HL9.out HD9.out HC9.out HB10.out).mono ?_; rintro e w11 ⟨rfl, nq, hw⟩; have HW11 := Lib.hid hw; clear hw)
              go_ret
              refine ⟨rfl, ?_⟩
              rw [HW11.out]
              exact below_drewN (HWE.out _ (b_on HB9.out HB10.out)).2.2.1 nq
end Go.Proofs.Ytpofhfocmelgbaa
