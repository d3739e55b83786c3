/-
  Own text: the law MatrixPowers, walked.
-/
import Derived.Test.YtipaolkgafhliaaMPick
import Derived.Test.YtipaolkgafhliaaVanM
namespace Go.Proofs.Ytipaolkgafhliaa
open Go.RowKit

/-- Where only nothing is sent to nothing the rank is full. -/
theorem full_rank {M : Nat → Nat → Nat} {n d : Nat} (hk : ∀ x : Nat → Nat, (∀ i, x i < 256) → (∀ i, i < n → dots (M i) x n = 0) → ∀ j, j < n → x j = 0) (h : RankIs M n n d) : n ≤ d := by
  refine Classical.byContradiction fun g => ?_
  obtain ⟨U, _, _, c⟩ := h
  obtain ⟨x, hx, ⟨i, hi, hne⟩, hz⟩ := dep d n (by omega) (fun j i => U j i)
  refine hne (hk x hx (fun i hi => ?_) i hi)
  obtain ⟨c, hc⟩ := c i hi
  rw [dots_congr n (fun k hk => hc k hk) (fun _ _ => rfl), ← dots_dots]
  exact xs_none d (fun j hj => by show mu (c j) (dots (U j) x n) = 0; rw [hz j hj, mu_zero])
theorem IsRow.ints {w : World} {a : Option Addr} {len cap : Nat} {zs : List Int} (h : IsRow .i64 w a len cap zs) : Ints w a len (fun i => zs.getD i 0) := by
  rcases h.at_ with h0 | ⟨h0, b, off, e, g⟩
  · exact .inl h0
  · refine .inr ⟨b, off, e, ?_, fun i hi => g.cell i hi⟩
    have c := g.cell 0 h0
    rcases Nat.lt_or_ge b w.heap.size with g | g
    · exact g
    · simp [World.cell?, Array.getElem?_eq_none g] at c
/-- The test of the rows' numbers, so far. -/
def Unlike (P : Nat → Int) (j : Nat) : Prop := ∀ i, i < j → 0 ≤ P i ∧ P i ≤ 254 ∧ ∀ k, k < i → P i ≠ P k
set_option maxRecDepth 100000 in
set_option maxHeartbeats 4000000 in
theorem powers_walk (a : Option Addr) (n cap : Nat) (zs : List Int) (w : World) (hr : IsRow .i64 w a n cap zs) : Calls Try.prog 8 #[.slice a n cap] w fun e w' => e = .returned (.bool true) ∧ Below w.heap.size w w' := by
  have hI := hr.ints
  have hmx := hr.bound
  generalize hP : (fun i => zs.getD i 0) = P at *
  clear hP hr
  have HAW := Lib.hid (fun w => awake5_any w)
  by_cases hn : n ≤ 16
  case neg =>
    have h16 : (16 : Int) < n := by omega
    go_enter Try.func8, Try.ntmps8
    go_wp2_with (go_at_call 10; refine (HAW.out _).mono ?_; rintro e w1 ⟨rfl, hb⟩; have HB := Lib.hid hb; clear hb)
    go_ret
    exact ⟨rfl, HB.out⟩
  case pos =>
  have HII := Lib.hid hI
  have HNE := Lib.hid (fun w => new_any w)
  have HPW := Lib.hid (fun t w ht => powers_some t 255 n (by omega) (by omega) w ht)
  have HPK : Hid (∀ w' g l, Below w.heap.size w w' → Dat w' g (255 * n) l → Unlike P n → (∀ i k, i < 255 → k < n → co l (i * n + k) = pwr i k) → Calls Try.prog 28 #[.agg #[.int .i64 (255 : Nat), .int .i64 n, .slice (some ⟨g, 0, none⟩) ((255 * n : Nat)) (255 * n)], .slice a n cap] w' (Handed n n (fun i k => pwr (P i).toNat k) w')) :=
    Lib.hid (fun w' g l hb hd hu hc => by
      refine (mpick_any 255 n n (255 * n) cap (by omega) (by omega) (by omega) (some ⟨g, 0, none⟩) a l P w' (hd.sl (by omega)) (hI.below hb (Nat.le_refl _))).mono ?_
      rintro e w'' (⟨h1, g', l', he, hg, hd', hc', hb'⟩ | ⟨h1, _⟩)
      · refine ⟨g', l', he, hg, hd', fun i k hi hk => ?_, hb'⟩
        have := h1 i hi
        exact (hc' i k hi hk).trans (hc (P i).toNat k (by omega) hk)
      · exact absurd (fun i hi => by have := hu i hi; omega) h1)
  have HIV : Hid (∀ t w' g l, IsTab w' t → Dat w' g (n * n) l → Unlike P n → (∀ i k, i < n → k < n → co l (i * n + k) = pwr (P i).toNat k) → Calls Try.prog 30 #[.pointer (some ⟨t, 0, none⟩), .agg #[.int .i64 n, .int .i64 n, .slice (some ⟨g, 0, none⟩) ((n * n : Nat)) (n * n)]] w'
      (fun e w'' => ∃ V : Nat → Nat → Nat, (∀ i k, i < n → k < n → dots (V i) (fun j => co l (j * n + k)) n = if i = k then 1 else 0) ∧ Handed n n V w' e w'')) :=
    Lib.hid (fun t w' g l ht hd hu hc => by
      have hm : n * n ≤ 256 := Nat.mul_le_mul hn hn
      refine (invert_any t n (by omega) (some ⟨g, 0, none⟩) (n * n) l w' (hd.sl (by omega)) ht).mono ?_
      rintro e w'' (⟨d, h1, h2, _⟩ | ⟨V, _, hVl, h2, h3⟩)
      · have h4 : RankIs (fun i k => pwr (P i).toNat k) n n d := h2.congr (fun i k hi hk => hc i k hi hk)
        have := full_rank (fun x hx hz => powers_ker (X := fun i => (P i).toNat) (k := n) (fun i hi => by have := hu i hi; show (P i).toNat < 256; omega) (fun i j hij hj e => (hu j hj).2.2 i hij (by have := hu i (by omega); have := hu j hj; have e2 : (P i).toNat = (P j).toNat := e; omega)) x hx hz) h4
        omega
      · exact ⟨V, h2, h3⟩)
  have hm1 : 255 * n ≤ 4080 := by omega
  have hm2 : n * n ≤ 256 := Nat.mul_le_mul hn hn
  have HID : Hid (∀ wx, Calls Try.prog 22 #[.int .i64 (n : Nat)] wx (HandedR n n (fun i k => if i = k then 1 else 0) wx)) := Lib.hid (fun wx => rident_any n (by omega) wx)
  have HMU : Hid (∀ wx gv gq lv lq, Dat wx gv (n * n) lv → Dat wx gq (n * n) lq → Calls Try.prog 26 #[.agg #[.int .i64 n, .int .i64 n, .slice (some ⟨gv, 0, none⟩) ((n * n : Nat)) (n * n)], .agg #[.int .i64 n, .int .i64 n, .slice (some ⟨gq, 0, none⟩) ((n * n : Nat)) (n * n)]] wx (HandedR n n (fun i k => dots (fun j => co lv (i * n + j)) (fun j => co lq (j * n + k)) n) wx)) :=
    Lib.hid (fun wx gv gq lv lq h1 h2 => rmulm_any n n n (by omega) (by omega) (by omega) _ _ _ _ lv lq wx (h1.sl (by omega)).bytes (h2.sl (by omega)).bytes)
  have HSAME : Hid (∀ wx A5 C5 l5 A6 C6 l6 (F : Nat → Nat → Nat), Sl wx A5 (n * n) C5 l5 → Sl wx A6 (n * n) C6 l6 → (∀ i k, i < n → k < n → co l5 (i * n + k) = F i k) → (∀ i k, i < n → k < n → co l6 (i * n + k) = F i k) →
      Calls Try.prog 21 #[.agg #[.int .i64 n, .int .i64 n, .slice A5 ((n * n : Nat)) C5], .agg #[.int .i64 n, .int .i64 n, .slice A6 ((n * n : Nat)) C6]] wx fun e w' => e = .returned (.bool true) ∧ Below wx.heap.size wx w') :=
    Lib.hid (fun wx A5 C5 l5 A6 C6 l6 F h5 h6 c5 c6 => by
      have e : l5 = l6 := rows_eq (r := n) (c := n) h5.bytes.by_ h6.bytes.by_ h5.bytes.size h6.bytes.size (fun i k hi hk => by rw [c5 i k hi hk, c6 i k hi hk])
      subst e
      exact rsame_true n n A5 A6 (n * n) C5 C6 l5 wx h5.bytes h6.bytes)
  have HRR : Hid (∀ g wx, Calls Try.prog 11 #[.agg #[.int .i64 n, .int .i64 n, .slice (some ⟨g, 0, none⟩) ((n * n : Nat)) (n * n)]] wx fun e w' => e = .returned (.bool true) ∧ Below wx.heap.size wx w') :=
    Lib.hid (fun g wx => by
      have := rright_any (n : Int) (n : Int) (n * n) (some ⟨g, 0, none⟩) (n * n) wx
      rwa [decide_eq_true (show RightM n n (n * n) from ⟨⟨by omega, by omega⟩, ⟨by omega, by omega⟩, by omega⟩)] at this)
  unfold HandedR at HID HMU
  unfold Handed at HPW HPK HIV
  obtain ⟨m1, hm1e⟩ : ∃ m, 255 * n = m := ⟨_, rfl⟩
  obtain ⟨m2, hm2e⟩ : ∃ m, n * n = m := ⟨_, rfl⟩
  rw [hm1e] at hm1 HPW HPK
  rw [hm2e] at hm2 HPK HIV HID HMU HSAME HRR
  clear hm1e hm2e hI
  have hn' : (n : Int) ≤ 16 := by omega
  go_enter Try.func8, Try.ntmps8
  go_wp2_with (go_at_call 10; refine (HAW.out _).mono ?_; rintro e w1 ⟨rfl, hb⟩; have HB := Lib.hid hb; clear hb)
  go_loopw [3, 4] (fun i _ wr => ∃ j : Nat, j ≤ n ∧ i = .int .i64 (j : Nat) ∧ Hid (Unlike P j) ∧ Hid (Below w.heap.size w wr)) (fun i _ _ => n - (intOf i).toNat)
  case atStart => exact ⟨0, by omega, rfl, Lib.hid (fun i h => by omega), HB⟩
  case round =>
    clear HB
    obtain ⟨j, hj, rfl, HU, HB⟩ := hrel
    obtain ⟨wo, ho⟩ : ∃ wo, wo = wr := ⟨_, rfl⟩
    subst ho
    by_cases hlt : j < n
    · rcases HII.out with h0 | ⟨pb, po, rfl, hpl, hpc⟩
      · omega
      have HPC := Lib.hid hpc
      have HPL := Lib.hid hpl
      clear hpc hpl
      go_wp2
      go_loopw [4] (fun k wr => ∃ q : Nat, q ≤ j ∧ k = .int .i64 (q : Nat) ∧ Hid (∀ k, k < q → P j ≠ P k) ∧ Hid (Below w.heap.size w wr)) (fun k _ => j - (intOf k).toNat)
      case atStart => exact ⟨0, by omega, rfl, Lib.hid (fun k h => by omega), HB⟩
      case round =>
        clear HB
        obtain ⟨q, hq, rfl, HQ, HB⟩ := hrel
        obtain ⟨wi, hi⟩ : ∃ wi, wi = wr := ⟨_, rfl⟩
        subst hi
        have c0 := (HB.out.cell (p := ⟨pb, po + j, none⟩) HPL.out).trans (HPC.out j hlt)
        by_cases hlq : q < j
        · have c1 := (HB.out.cell (p := ⟨pb, po + q, none⟩) HPL.out).trans (HPC.out q (by omega))
          have q0 : (0 : Int) ≤ q := by omega
          have q1 : (q : Int) < n := by omega
          have j0 : (0 : Int) ≤ j := by omega
          have j1 : (j : Int) < n := by omega
          by_cases he : P j = P q
          · have hb : (P j == P q) = true := by simp [he]
            generalize P j = x at *
            generalize P q = y at *
            clear he
            go_wp2
            go_region
            go_wp2
            go_ret
            exact ⟨rfl, HB.out.drew⟩
          · have hb : (P j == P q) = false := by simpa using he
            have HEE := Lib.hid he
            clear he
            go_wp2
            go_region
            go_wp2
            go_roundw
            case rel => exact ⟨q + 1, by omega, by go_num, Lib.hid (fun k hk => if e : k = q then e ▸ HEE.out else HQ.out k (by omega)), Lib.hid HB.out.drew⟩
            case measure => simp [intOf]; omega
        · obtain rfl : q = j := by omega
          by_cases hrg : 0 ≤ P q ∧ P q ≤ 254
          · obtain ⟨x, hx⟩ : ∃ x, x = P q := ⟨_, rfl⟩
            have HX := Lib.hid hx
            rw [← hx] at c0 hrg
            clear hx
            obtain ⟨r0, r1⟩ := hrg
            go_wp2
            go_roundw
            case rel => exact ⟨q + 1, by omega, by go_num, Lib.hid (fun i hi => if e : i = q then by subst e; rw [← HX.out]; exact ⟨r0, r1, fun k hk => by rw [HX.out]; exact HQ.out k hk⟩ else HU.out i (by omega)), HB⟩
            case measure => simp [intOf]; omega
          · obtain ⟨x, hx⟩ : ∃ x, x = P q := ⟨_, rfl⟩
            rw [← hx] at c0 hrg
            clear hx
            rcases Int.lt_or_le x 0 with h | h
            · go_wp2
              go_ret
              exact ⟨rfl, HB.out⟩
            · have h2 : 254 < x := by omega
              go_wp2
              go_ret
              exact ⟨rfl, HB.out⟩
    · obtain rfl : j = n := by omega
      go_wp2_with first
        | (go_at_call 18; refine (HNE.out _).mono ?_; rintro e w2 ⟨rfl, ht, hb⟩; have HT2 := Lib.hid ht; have HB2 := Lib.hid hb; clear ht hb)
        | (go_at_call 17; refine (HPW.out _ _ HT2.out).mono ?_; rintro e w3 ⟨g3, l3, rfl, hg3, hd3, hc3, hb3⟩; have HD3 := Lib.hid hd3; have HC3 := Lib.hid hc3; have HB3 := Lib.hid hb3; clear hg3 hd3 hc3 hb3)
        | (go_at_call 28; refine (HPK.out (w3.alloc _) g3 l3 ((HB.out.trans ((HB2.out.trans (HB3.out.mono HB2.out.size)).mono HB.out.size)).alloc (HB.out.trans ((HB2.out.trans (HB3.out.mono HB2.out.size)).mono HB.out.size)).size _) (HD3.out.keep (Below.heap_alloc _ _ _ HD3.out.lt)) HU.out HC3.out).mono ?_; rintro e w4 ⟨g4, l4, rfl, hg4, hd4, hc4, hb4⟩; have HD4 := Lib.hid hd4; have HC4 := Lib.hid hc4; have HB4 := Lib.hid ((HB2.out.trans (HB3.out.mono HB2.out.size)).trans ((later1 hb4).mono (HB2.out.trans (HB3.out.mono HB2.out.size)).size)); have HT4 := Lib.hid (HT2.out.below (HB3.out.trans ((later1 hb4).mono HB3.out.size)) HT2.out.lt); clear hg4 hd4 hc4 hb4)
        | (go_at_call 30; refine (HIV.out wo.heap.size (w4.alloc _) g4 l4 (HT4.out.keep (Below.heap_alloc _ _ _ HT4.out.lt)) (HD4.out.keep (Below.heap_alloc _ _ _ HD4.out.lt)) HU.out HC4.out).mono ?_; rintro e w5 ⟨V, hV, g5, l5, rfl, hg5, hd5, hc5, hb5⟩; have HV := Lib.hid hV; have HD5 := Lib.hid hd5; have HC5 := Lib.hid hc5; have HX8 := Lib.hid ((alloc_bx w4 _ _ _).below hb5 (alloc_lt _ _)); have HD45 := Lib.hid (HD4.out.below (later1 hb5) HD4.out.lt); have HB5 := Lib.hid (HB4.out.trans ((later1 hb5).mono HB4.out.size)); clear hV hg5 hd5 hc5 hb5)
        | (go_at_call 12; (with_reducible refine (ref_any _ _ (some ⟨g5, 0, none⟩) m2 m2 _).mono ?_); rintro e w7 ⟨rfl, hb⟩; have HB7 := Lib.hid hb; clear hb; obtain ⟨v0, v1, v2, vf⟩ := ((alloc_bx w5 _ _ _).below HB7.out (alloc_lt _ _)).cells; obtain ⟨q0, q1, q2, qf⟩ := ((bx_alloc HX8.out _).below HB7.out (Nat.lt_trans HX8.out.lt (alloc_lt _ _))).cells)
        | (go_at_call 11; (with_reducible refine (HRR.out g5 _).mono ?_); rintro e w8 ⟨rfl, hb⟩; have HB8 := Lib.hid (HB7.out.trans (hb.mono HB7.out.size)); clear hb; clear v0 v1 v2 vf q0 q1 q2 qf; obtain ⟨v0, v1, v2, vf⟩ := ((alloc_bx w5 _ _ _).below HB8.out (alloc_lt _ _)).cells; obtain ⟨q0, q1, q2, qf⟩ := ((bx_alloc HX8.out _).below HB8.out (Nat.lt_trans HX8.out.lt (alloc_lt _ _))).cells)
        | (go_at_call 12; (with_reducible refine (ref_any _ _ (some ⟨g4, 0, none⟩) m2 m2 _).mono ?_); rintro e w9 ⟨rfl, hb⟩; have HB9 := Lib.hid (HB8.out.trans (hb.mono HB8.out.size)); clear hb; clear v0 v1 v2 vf q0 q1 q2 qf; obtain ⟨v0, v1, v2, vf⟩ := ((alloc_bx w5 _ _ _).below HB9.out (alloc_lt _ _)).cells; obtain ⟨q0, q1, q2, qf⟩ := ((bx_alloc HX8.out _).below HB9.out (Nat.lt_trans HX8.out.lt (alloc_lt _ _))).cells)
        | (go_at_call 11; (with_reducible refine (HRR.out g4 _).mono ?_); rintro e w10 ⟨rfl, hb⟩; have HB10 := Lib.hid (HB9.out.trans (hb.mono HB9.out.size)); clear hb; clear v0 v1 v2 vf q0 q1 q2 qf; obtain ⟨v0, v1, v2, vf⟩ := ((alloc_bx w5 _ _ _).below HB10.out (alloc_lt _ _)).cells; obtain ⟨q0, q1, q2, qf⟩ := ((bx_alloc HX8.out _).below HB10.out (Nat.lt_trans HX8.out.lt (alloc_lt _ _))).cells)
      clear v0 v1 v2 vf q0 q1 q2 qf
      have HXv := Lib.hid ((alloc_bx w5 _ _ _).below HB10.out (alloc_lt _ _))
      have HXq := Lib.hid ((bx_alloc HX8.out _).below HB10.out (Nat.lt_trans HX8.out.lt (alloc_lt _ _)))
      have HDv := Lib.hid ((HD5.out.keep (Below.heap_alloc _ _ _ HD5.out.lt)).below HB10.out (Nat.lt_trans HD5.out.lt (alloc_lt _ _)))
      have HDq := Lib.hid ((HD45.out.keep (Below.heap_alloc _ _ _ HD45.out.lt)).below HB10.out (Nat.lt_trans HD45.out.lt (alloc_lt _ _)))
      have HBw : Hid (Below w.heap.size w w10) := Lib.hid (by
        have h1 := HB.out.trans (HB5.out.mono HB.out.size)
        exact h1.trans ((later1 HB10.out).mono h1.size))
      have HCV : Hid (∀ l7 : List Int, (∀ i k, i < j → k < j → co l7 (i * j + k) = dots (fun x => co l5 (i * j + x)) (fun x => co l4 (x * j + k)) j) → ∀ i k, i < j → k < j → co l7 (i * j + k) = (fun i k => if i = k then 1 else 0) i k) := Lib.hid (fun l7 h i k hi hk => by
        rw [h i k hi hk, dots_congr j (fun x hx => HC5.out i x hi hx) (fun _ _ => rfl)]
        exact HV.out i k hi hk)
      have HS : Hid (∀ w', Below w10.heap.size w10 w' → Below w10.heap.size w10 w' ∧ w'.cell? ⟨w5.heap.size, 0, none⟩ = some (.int .i64 (j : Int)) ∧ w'.cell? ⟨w5.heap.size, 1, none⟩ = some (.int .i64 (j : Int)) ∧ w'.cell? ⟨w5.heap.size, 2, none⟩ = some (.slice (some ⟨g5, 0, none⟩) m2 m2) ∧ w'.cell? ⟨w4.heap.size, 0, none⟩ = some (.int .i64 (j : Int)) ∧ w'.cell? ⟨w4.heap.size, 1, none⟩ = some (.int .i64 (j : Int)) ∧ w'.cell? ⟨w4.heap.size, 2, none⟩ = some (.slice (some ⟨g4, 0, none⟩) m2 m2)) :=
        Lib.hid (fun w' h => ⟨h, (HXv.out.below h HXv.out.lt).cells.1, (HXv.out.below h HXv.out.lt).cells.2.1, (HXv.out.below h HXv.out.lt).cells.2.2.1, (HXq.out.below h HXq.out.lt).cells.1, (HXq.out.below h HXq.out.lt).cells.2.1, (HXq.out.below h HXq.out.lt).cells.2.2.1⟩)
      go_region_held3 (fun w' => Below w10.heap.size w10 w' ∧ w'.cell? ⟨w5.heap.size, 0, none⟩ = some (.int .i64 (j : Int)) ∧ w'.cell? ⟨w5.heap.size, 1, none⟩ = some (.int .i64 (j : Int)) ∧ w'.cell? ⟨w5.heap.size, 2, none⟩ = some (.slice (some ⟨g5, 0, none⟩) m2 m2) ∧ w'.cell? ⟨w4.heap.size, 0, none⟩ = some (.int .i64 (j : Int)) ∧ w'.cell? ⟨w4.heap.size, 1, none⟩ = some (.int .i64 (j : Int)) ∧ w'.cell? ⟨w4.heap.size, 2, none⟩ = some (.slice (some ⟨g4, 0, none⟩) m2 m2))
        (first
          | exact HS.out _ (Below.refl _ _)
          | exact HS.out _ (Below.refl _ _).drew
          | (have c1 := (Below.refl w10.heap.size w10).drew.trans hb1; have c2 := c1.trans (hb2.mono c1.size); have c3 := c2.trans (hb3.mono c2.size); have c4 := c3.trans (hb4.mono c3.size); have c5 := c4.trans (hb5.mono c4.size); exact HS.out _ c5)
          | (have c1 := (Below.refl w10.heap.size w10).drew.trans hb1; have c2 := c1.trans (hb2.mono c1.size); have c3 := c2.trans (hb3.mono c2.size); have c4 := c3.trans (hb4.mono c3.size); exact HS.out _ c4)
          | (have c1 := (Below.refl w10.heap.size w10).drew.trans hb1; have c2 := c1.trans (hb2.mono c1.size); have c3 := c2.trans (hb3.mono c2.size); exact HS.out _ c3)
          | (have c1 := (Below.refl w10.heap.size w10).drew.trans hb1; have c2 := c1.trans (hb2.mono c1.size); exact HS.out _ c2)
          | (have c1 := (Below.refl w10.heap.size w10).drew.trans hb1; exact HS.out _ c1))
        (first
          | (go_at_call 12; (with_reducible refine (ref_any _ _ (some ⟨g5, 0, none⟩) m2 m2 _).mono ?_); rintro e w11 ⟨rfl, hb1⟩)
          | (go_at_call 12; (with_reducible refine (ref_any _ _ (some ⟨g4, 0, none⟩) m2 m2 _).mono ?_); rintro e w12 ⟨rfl, hb2⟩)
          | (have c1 := (Below.refl w10.heap.size w10).drew.trans hb1; have c2 := c1.trans (hb2.mono c1.size); go_at_call 26; refine (HMU.out w12 g5 g4 l5 l4 (HDv.out.below c2 HDv.out.lt) (HDq.out.below c2 HDq.out.lt)).mono ?_; rintro e w13 ⟨A5, C5, l7, rfl, hs7, hc7, hb3⟩; clear c1 c2)
          | (go_at_call 22; refine (HID.out _).mono ?_; rintro e w14 ⟨A6, C6, l8, rfl, hs8, hc8, hb4⟩)
          | (go_at_call 21; refine (HSAME.out w14 A5 C5 l7 A6 C6 l8 _ (hs7.below hb4 (Nat.le_refl _)) hs8 (HCV.out l7 hc7) hc8).mono ?_; rintro e w15 ⟨rfl, hb5⟩))
      all_goals
        have c1 := (Below.refl w10.heap.size w10).drew.trans hb1
        have c2 := c1.trans (hb2.mono c1.size)
        have c3 := c2.trans (hb3.mono c2.size)
        have c4 := c3.trans (hb4.mono c3.size)
        have c5 := c4.trans (hb5.mono c4.size)
        have HC5F := Lib.hid c5
        clear c1 c2 c3 c4 c5
        go_wp2
        go_ret
        exact ⟨rfl, HBw.out.trans (HC5F.out.mono HBw.out.size)⟩
end Go.Proofs.Ytipaolkgafhliaa
