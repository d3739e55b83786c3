/-
  Own text: solve of package rs, walked.
  Decode of package rs, walked.
  Fits of package rs, walked.
-/
import Derived.Test.YtjcbcdjfhcnhcaaOrdered
import Derived.Test.YtjcbcdjfhcnhcaaCode
namespace Go.Proofs.Ytjcbcdjfhcnhcaa
open Go.RowKit

set_option maxRecDepth 100000 in
set_option maxHeartbeats 2000000 in
theorem code_solve (b t k m len cP capC : Nat) (hlen : len ≤ 1200) (aP aC : Option Addr) (P : Nat → Nat) (A : Nat → Option Addr) (L C : Nat → Nat) (X : Nat → List Int) (w : World) (h : IsCode w b t k m) (hP : Ints w aP k (fun i => P i)) (hPR : ∀ i, i < k → P i < k + m) (hPd : ∀ i j, i < j → j < k → P i ≠ P j) (hc : ColsIn w aC k capC A L C X) (hL : ∀ j, j < k → L j = len) :
    Calls Try.prog 95 #[.pointer (some ⟨b, 0, none⟩), .slice aP k cP, .slice aC k capC] w (AppliedTo k len (fun i c => xs (fun j => mu (lagw P k j i) (co (X j) c)) k) w) := by
  have h1 := h.low
  have hR := h.high
  have hm1 : (k + m) * k ≤ 65025 := Nat.mul_le_mul hR (show k ≤ 255 by omega)
  have hm2 : k * k ≤ 65025 := Nat.mul_le_mul (show k ≤ 255 by omega) (show k ≤ 255 by omega)
  obtain ⟨g, l, ⟨c0, c1, c2, c3, c4, c5⟩, hd, hcw⟩ := h.cells rfl rfl
  have HPK : Hid (Calls Try.prog 83 #[.agg #[.int .i64 (k + m : Nat), .int .i64 k, .slice (some ⟨g, 0, none⟩) (((k + m) * k : Nat)) ((k + m) * k)], .slice aP k cP] w (Handed k k (fun i j => lagw nid k j (P i)) w)) :=
    Lib.hid (by
      refine (mpick_any (k + m) k k ((k + m) * k) cP hR (by omega) (by omega) (some ⟨g, 0, none⟩) aP l _ w (hd.sl (by omega)) hP).mono ?_
      rintro e w'' (⟨h1, g', l', he, hg, hd', hc', hb'⟩ | ⟨h1, _⟩)
      · refine ⟨g', l', he, hg, hd', fun i j hi hj => ?_, hb'⟩
        refine (hc' i j hi hj).trans ?_
        show co l (((P i : Nat) : Int).toNat * k + j) = _
        rw [Int.toNat_natCast]
        exact hcw (P i) j (hPR i hi) hj
      · exact absurd (fun i hi => by show 0 ≤ ((P i : Nat) : Int) ∧ ((P i : Nat) : Int) < ((k + m : Nat) : Int); have := hPR i hi; omega) h1)
  have HIV : Hid (∀ w' g l, Below w.heap.size w w' → Dat w' g (k * k) l → (∀ i j, i < k → j < k → co l (i * k + j) = lagw nid k j (P i)) → Calls Try.prog 84 #[.pointer (some ⟨t, 0, none⟩), .agg #[.int .i64 k, .int .i64 k, .slice (some ⟨g, 0, none⟩) ((k * k : Nat)) (k * k)]] w' (Handed k k (fun i j => lagw P k j i) w')) :=
    Lib.hid (fun w' g l hb hd hc => by
      have hP8 : ∀ i, i < k → P i < 256 := fun i hi => by have := hPR i hi; omega
      refine (invert_any t k (by omega) (some ⟨g, 0, none⟩) (k * k) l w' (hd.sl (by omega)) (h.tab.below hb h.tab.lt)).mono ?_
      rintro e w'' (⟨d, h1, h2, _⟩ | ⟨V, _, hVl, h2, g', l', he, hg, hd', hc', hb'⟩)
      · have h4 : RankIs (fun i j => lagw nid k j (P i)) k k d := h2.congr (fun i j hi hj => hc i j hi hj)
        have := full_rank (fun x hx hz => weights_ker (by omega) hP8 hPd x hx hz) h4
        omega
      · refine ⟨g', l', he, hg, hd', fun i j hi hj => ?_, hb'⟩
        refine (hc' i j hi hj).trans (undo_weights (by omega) hP8 hPd hVl (fun i c hi hc2 => ?_) hi hj)
        rw [← h2 i c hi hc2]
        exact dots_congr k (fun _ _ => rfl) (fun j hj => (hc j c hj hc2).symm))
  have HAP : Hid (∀ w' g' l', Below w.heap.size w w' → Dat w' g' (k * k) l' → (∀ i j, i < k → j < k → co l' (i * k + j) = lagw P k j i) → Calls Try.prog 88 #[.pointer (some ⟨t, 0, none⟩), .agg #[.int .i64 k, .int .i64 k, .slice (some ⟨g', 0, none⟩) ((k * k : Nat)) (k * k)], .slice aC k capC] w' (AppliedTo k len (fun i c => xs (fun j => mu (lagw P k j i) (co (X j) c)) k) w')) :=
    Lib.hid (fun w' g' l' hb hd' hc' => by
      refine (mapply_some t k k len (k * k) capC (by omega) (by omega) hlen (some ⟨g', 0, none⟩) aC l' A L C X w' (hd'.sl (by omega)) (hc.below hb (Nat.le_refl _)) hL (fun h0 => by omega) (h.tab.below hb h.tab.lt)).mono ?_
      rintro e w'' ⟨h2, g2, l2, he, a1, a2, a3, a4, a5, a6⟩
      refine ⟨h2, g2, l2, he, a1, a2, a3, a4, fun i c hi hcl => ?_, a6⟩
      refine (a5 i c hi hcl).trans ?_
      exact xs_congr k (fun j hj => by show mu (co l' (i * k + j)) _ = mu (lagw P k j i) _; rw [hc' i j hi hj]))
  obtain ⟨E, hE⟩ : ∃ E : Nat → Nat → Nat, E = fun i c => xs (fun j => mu (lagw P k j i) (co (X j) c)) k := ⟨_, rfl⟩
  rw [← hE] at HAP ⊢
  have HB0 : Hid (∀ w', Below w.heap.size w w' → w'.cell? ⟨b, 0, none⟩ = some (.pointer (some ⟨t, 0, none⟩))) := Lib.hid (fun w' hb => by
    obtain ⟨g, l, ⟨c0, _, _, _, _, _⟩, _⟩ := (h.below hb).cells rfl rfl
    exact c0)
  obtain ⟨U, hU⟩ : ∃ U : Nat → Nat → Nat, U = fun i j => lagw nid k j (P i) := ⟨_, rfl⟩
  obtain ⟨T, hT⟩ : ∃ T : Nat → Nat → Nat, T = fun i j => lagw P k j i := ⟨_, rfl⟩
  have hUU : ∀ i j, lagw nid k j (P i) = U i j := fun i j => by rw [hU]
  have hTT : ∀ i j, lagw P k j i = T i j := fun i j => by rw [hT]
  simp only [hUU] at HPK HIV
  simp only [hTT] at HIV HAP
  unfold Handed at HPK HIV
  unfold AppliedTo at HAP ⊢
  obtain ⟨R, hRe⟩ : ∃ R, k + m = R := ⟨_, rfl⟩
  rw [hRe] at HPK hm1 c3 c5
  obtain ⟨M1, hM1⟩ : ∃ M, R * k = M := ⟨_, rfl⟩
  obtain ⟨M2, hM2⟩ : ∃ M, k * k = M := ⟨_, rfl⟩
  rw [hM1] at HPK hm1 c5
  rw [hM2] at HPK HIV HAP hm2
  clear hE hM1 hM2 h hR hP hPR hPd hc hL hd hcw hRe hU hT hUU hTT
  go_enter Try.func95, Try.ntmps95
  go_wp2_with (go_at_call 83; refine HPK.out.mono ?_; rintro e w1 ⟨g1, l1, rfl, hg1, hd1, hc1, hb1⟩; have HD1 := Lib.hid hd1; have HC1 := Lib.hid hc1; have HB1 := Lib.hid hb1; clear hg1 hd1 hc1 hb1)
  clear c0 c1 c2 c3 c4 c5
  have HX := Lib.hid (alloc_bx w1 (.int .i64 k) (.int .i64 k) (.slice (some ⟨g1, 0, none⟩) M2 M2))
  have HD := Lib.hid (HD1.out.keep (Below.heap_alloc w1 (.cells #[.int .i64 k, .int .i64 k, .slice (some ⟨g1, 0, none⟩) M2 M2] 137) _ HD1.out.lt))
  have HB := Lib.hid (b_put HB1.out (.cells #[.int .i64 k, .int .i64 k, .slice (some ⟨g1, 0, none⟩) M2 M2] 137))
  clear HD1 HB1 HPK
  generalize w1.alloc (.cells #[.int .i64 k, .int .i64 k, .slice (some ⟨g1, 0, none⟩) M2 M2] 137) = w2 at *
  generalize w1.heap.size = b8 at *
  go_cut [0, 2, 10] (fun s0 s2 s wx => s0 = .pointer (some ⟨b, 0, none⟩) ∧ s2 = .slice aC k capC ∧ ∃ (b9 g2 : Nat) (l2 : List Int), s = .pointer (some ⟨b9, 0, none⟩) ∧ Hid (Below w2.heap.size w2 wx ∧ Bx wx b9 (.int .i64 k) (.int .i64 k) (.slice (some ⟨g2, 0, none⟩) M2 M2) ∧ Dat wx g2 M2 l2 ∧ (∀ i j, i < k → j < k → co l2 (i * k + j) = T i j)))
  case first =>
    have HS : Hid (∀ w', Below w2.heap.size w2 w' → Below w2.heap.size w2 w' ∧ w'.cell? ⟨b8, 0, none⟩ = some (.int .i64 (k : Int)) ∧ w'.cell? ⟨b8, 1, none⟩ = some (.int .i64 (k : Int)) ∧ w'.cell? ⟨b8, 2, none⟩ = some (.slice (some ⟨g1, 0, none⟩) M2 M2) ∧ w'.cell? ⟨b, 0, none⟩ = some (.pointer (some ⟨t, 0, none⟩))) :=
      Lib.hid (fun w' h => ⟨h, (HX.out.below h HX.out.lt).cells.1, (HX.out.below h HX.out.lt).cells.2.1, (HX.out.below h HX.out.lt).cells.2.2.1, HB0.out _ (b_on HB.out h)⟩)
    have cc : Below w2.heap.size w2 w2.drew := (Below.refl _ _).drew
    have ccA : ∀ o, Below w2.heap.size w2 (w2.alloc o).drew := fun o => (below_put w2 o).drew
    go_region_held3 (fun w' => Below w2.heap.size w2 w' ∧ w'.cell? ⟨b8, 0, none⟩ = some (.int .i64 (k : Int)) ∧ w'.cell? ⟨b8, 1, none⟩ = some (.int .i64 (k : Int)) ∧ w'.cell? ⟨b8, 2, none⟩ = some (.slice (some ⟨g1, 0, none⟩) M2 M2) ∧ w'.cell? ⟨b, 0, none⟩ = some (.pointer (some ⟨t, 0, none⟩)))
      (first
        | exact HS.out _ cc
        | exact HS.out _ (cc.alloc cc.size _)
        | exact HS.out _ (ccA _)
        | exact HS.out _ (below_put w2 _)
        | exact HS.out _ (Below.refl _ _)
        | exact HS.out _ (below_set3 cc hle)
        | fail "keep")
      (first
        | (go_at_call 84; (with_reducible refine (HIV.out w2.drew g1 l1 (b_on HB.out cc) (HD.out.below cc HD.out.lt) HC1.out).mono ?_); rintro e wm ⟨g2, l2, rfl, hg2, hd2, hc2, hb⟩; replace cc := b_on cc hb; clear hb)
        | (go_at_call 84; (with_reducible refine (HIV.out _ g1 l1 (b_on HB.out (ccA _)) (HD.out.below (ccA _) HD.out.lt) HC1.out).mono ?_); rintro e wm ⟨g2, l2, rfl, hg2, hd2, hc2, hb⟩; have hle := Nat.le_refl w2.heap.size; have hne : w2.heap.size < g2 := Nat.lt_of_lt_of_le (alloc_lt w2 _) hg2; have hbx : Bx wm w2.heap.size (.int .i64 0) (.int .i64 0) (.slice none 0 0) := ((alloc_bx w2 _ _ _).keep rfl : Bx (w2.alloc _).drew _ _ _ _).below hb (alloc_lt _ _); obtain ⟨k0, k1, k2, kf⟩ := hbx.cells; replace cc := b_on (ccA _) hb; clear hb)
        | fail "arm")
    all_goals
      first
        | (have HF := Lib.hid (And.intro (below_set3 (x := .int .i64 k) (y := .int .i64 k) (z := .slice (some ⟨g2, 0, none⟩) M2 M2) cc hle) (And.intro (hbx.write (x' := .int .i64 k) (y' := .int .i64 k) (z' := .slice (some ⟨g2, 0, none⟩) M2 M2)) (And.intro (dat_set3 (x := .int .i64 k) (y := .int .i64 k) (z := .slice (some ⟨g2, 0, none⟩) M2 M2) hd2 (Nat.ne_of_gt hne)) hc2))); clear k0 k1 k2 kf; go_wp2_with fail; go_meet; exact ⟨rfl, rfl, _, _, _, rfl, HF⟩)
        | (have HF := Lib.hid (And.intro (b_put cc (.cells #[.int .i64 k, .int .i64 k, .slice (some ⟨g2, 0, none⟩) M2 M2] 137)) (And.intro (alloc_bx wm (.int .i64 k) (.int .i64 k) (.slice (some ⟨g2, 0, none⟩) M2 M2)) (And.intro (hd2.keep (Below.heap_alloc _ (.cells #[.int .i64 k, .int .i64 k, .slice (some ⟨g2, 0, none⟩) M2 M2] 137) _ hd2.lt)) hc2))); go_wp2_with fail; go_meet; exact ⟨rfl, rfl, _, _, _, rfl, HF⟩)
  case rest =>
    obtain ⟨rfl, rfl, b9, g2, l2, rfl, HF⟩ := hcut
    have HBW := Lib.hid (b_on HB.out HF.out.1)
    have HX9 := Lib.hid HF.out.2.1
    have HD9 := Lib.hid HF.out.2.2.1
    have HC9 := Lib.hid HF.out.2.2.2
    clear HF HX HD HC1 HB HIV
    have HS : Hid (∀ w', Below wc.heap.size wc w' → Below wc.heap.size wc w' ∧ w'.cell? ⟨b9, 0, none⟩ = some (.int .i64 (k : Int)) ∧ w'.cell? ⟨b9, 1, none⟩ = some (.int .i64 (k : Int)) ∧ w'.cell? ⟨b9, 2, none⟩ = some (.slice (some ⟨g2, 0, none⟩) M2 M2) ∧ w'.cell? ⟨b, 0, none⟩ = some (.pointer (some ⟨t, 0, none⟩))) :=
      Lib.hid (fun w' h => ⟨h, (HX9.out.below h HX9.out.lt).cells.1, (HX9.out.below h HX9.out.lt).cells.2.1, (HX9.out.below h HX9.out.lt).cells.2.2.1, HB0.out _ (b_on HBW.out h)⟩)
    have cc : Below wc.heap.size wc wc.drew := (Below.refl _ _).drew
    go_wp2
    go_region_held3 (fun w' => Below wc.heap.size wc w' ∧ w'.cell? ⟨b9, 0, none⟩ = some (.int .i64 (k : Int)) ∧ w'.cell? ⟨b9, 1, none⟩ = some (.int .i64 (k : Int)) ∧ w'.cell? ⟨b9, 2, none⟩ = some (.slice (some ⟨g2, 0, none⟩) M2 M2) ∧ w'.cell? ⟨b, 0, none⟩ = some (.pointer (some ⟨t, 0, none⟩)))
      (first
        | exact HS.out _ cc
        | exact HS.out _ (Below.refl _ _)
        | fail "keep")
      (first
        | (go_at_call 88; (with_reducible refine (HAP.out wc.drew g2 l2 (b_on HBW.out cc) (HD9.out.below cc HD9.out.lt) HC9.out).mono ?_); rintro e w3 ⟨h3, g3, l3, rfl, a1, a2, a3, a4, a5, hb⟩; (have q1 := Nat.le_trans cc.size a1; have q2 := Nat.le_trans cc.size a2); replace cc := b_on cc hb; clear hb)
        | fail "arm")
    all_goals
      have HF := Lib.hid (And.intro q1 (And.intro q2 (And.intro a3 (And.intro a4 (And.intro a5 (b_on HBW.out cc))))))
      clear q1 q2 a1 a2 a3 a4 a5 cc
      go_wp2
      go_ret2
      exact ⟨h3, g3, l3, rfl, Nat.le_trans HBW.out.size HF.out.1, Nat.le_trans HBW.out.size HF.out.2.1, HF.out.2.2.1, HF.out.2.2.2.1, HF.out.2.2.2.2.1, HF.out.2.2.2.2.2⟩
end Go.Proofs.Ytjcbcdjfhcnhcaa
namespace Go.Proofs.Ytjcbcdjfhcnhcaa
open Go.RowKit

/-- What Apply hands back, as columns. -/
theorem cols_applied {w : World} {h g R len : Nat} {l : List Int} (hl : Lst w h R len (fun i => some ⟨g, i * len, none⟩)) (hd : Dat w g (R * len) l) (hR : R ≤ 1000) (hlen : len ≤ 1200) :
    ColsIn w (some ⟨h, 0, none⟩) R R (fun i => some ⟨g, i * len, none⟩) (fun _ => len) (fun _ => len) (fun i => seg l (i * len) len) := by
  refine ⟨Nat.le_refl _, by omega, (fun h => nomatch h), fun r hr => ⟨⟨h, 0, rfl, hl.lt, by rw [Nat.zero_add]; exact hl.cell r hr⟩, ⟨hd.bytes (r * len) len ?_ (by omega), Nat.le_refl _, by show len ≤ 9223372036854775807; omega, fun h => nomatch h⟩⟩⟩
  have := Nat.mul_le_mul_right len (show r + 1 ≤ R from hr)
  rw [Nat.succ_mul] at this
  omega
theorem ColsIn.front {w : World} {a : Option Addr} {n k cap : Nat} {A : Nat → Option Addr} {L C : Nat → Nat} {X : Nat → List Int} (h : ColsIn w a n cap A L C X) (hk : k ≤ n) : ColsIn w a k cap A L C X :=
  ⟨Nat.le_trans hk h.1, h.2.1, h.2.2.1, fun r hr => h.2.2.2 r (by omega)⟩
theorem Ints.front {w : World} {a : Option Addr} {n k : Nat} {P : Nat → Int} (h : Ints w a n P) (hk : k ≤ n) : Ints w a k P := by
  rcases h with h | ⟨b, off, e, hl, hc⟩
  · exact .inl (by omega)
  · exact .inr ⟨b, off, e, hl, fun i hi => hc i (by omega)⟩
/-- What the data of such shards are. -/
def decE (I : Nat → Int) (X : Nat → List Int) (k N n : Nat) (i c : Nat) : Nat := xs (fun j => mu (lagw (nth I n N) k j i) (co (X (std I n N j)) c)) k
/-- What Decode answers. -/
inductive DecodedTo (I : Nat → Int) (L : Nat → Nat) (X : Nat → List Int) (k N n : Nat) (w : World) (e : Ending) (w' : World) : Prop
  | index (h : ¬ GoodIx I N n) (he : Barred 62 w e w') : DecodedTo I L X k N n w e w'
  | few (h : GoodIx I N n) (hn : n < k) (he : Barred 63 w e w') : DecodedTo I L X k N n w e w'
  | length (h : GoodIx I N n) (hn : k ≤ n) (hl : ¬ EvenL n (fun q => L (std I n N q))) (he : Barred 61 w e w') : DecodedTo I L X k N n w e w'
  | good (h : GoodIx I N n) (hn : k ≤ n) (hl : EvenL n (fun q => L (std I n N q))) (he : AppliedTo k (L (std I n N 0)) (decE I X k N n) w e w') : DecodedTo I L X k N n w e w'
theorem solve_front (b t k m n C1 C2 : Nat) (A1 A2 : Option Addr) (I : Nat → Int) (A : Nat → Option Addr) (L C : Nat → Nat) (X : Nat → List Int) (w : World) (h : IsCode w b t k m) (hg : GoodIx I (k + m) n) (hn : k ≤ n) (hl : EvenL n (fun q => L (std I n (k + m) q)))
    (h1 : Ints w A1 n (fun q => (nth I n (k + m) q : Nat))) (h2 : ColsIn w A2 n C2 (fun q => A (std I n (k + m) q)) (fun q => L (std I n (k + m) q)) (fun q => C (std I n (k + m) q)) (fun q => X (std I n (k + m) q))) :
    Calls Try.prog 95 #[.pointer (some ⟨b, 0, none⟩), .slice A1 k C1, .slice A2 k C2] w (AppliedTo k (L (std I n (k + m) 0)) (decE I X k (k + m) n) w) := by
  have hlen := ordL_len n hg
  have hk1 := h.low
  exact code_solve b t k m (L (std I n (k + m) 0)) C1 C2 (by have h5 : L (std I n (k + m) 0) ≤ 1200 := (hl 0 (by omega)).2; exact h5) A1 A2 (nth I n (k + m)) _ _ _ (fun q => X (std I n (k + m) q)) w h (h1.front hn) (fun i hi => nth_lt (by omega)) (fun i j hij hj => Nat.ne_of_lt (nth_mono hij (by omega))) (h2.front hn) (fun j hj => (hl j (by omega)).1)
/-- The four ways of ordered, one by one. -/
theorem ordered_index {b t k m n cap : Nat} {a : Option Addr} {I : Nat → Int} {A : Nat → Option Addr} {L C : Nat → Nat} {X : Nat → List Int} {w : World} (h : IsCode w b t k m) (hs : ShardsIn w a n cap I A L C X) (hg : ¬ GoodIx I (k + m) n) :
    Calls Try.prog 94 #[.pointer (some ⟨b, 0, none⟩), .slice a n cap] w fun e w' => e = .returned (.tuple #[.slice none 0 0, .slice none 0 0, .int .i64 62]) ∧ Below w.heap.size w w' :=
  (ordered_any b t k m n cap a I A L C X w h hs).mono fun e w' ho => by
    cases ho with
    | index _ he hb => exact ⟨he, hb⟩
    | few h _ _ _ => exact absurd h hg
    | length h _ _ _ _ => exact absurd h hg
    | good h _ _ _ _ _ _ _ _ _ _ _ => exact absurd h hg
theorem ordered_few {b t k m n cap : Nat} {a : Option Addr} {I : Nat → Int} {A : Nat → Option Addr} {L C : Nat → Nat} {X : Nat → List Int} {w : World} (h : IsCode w b t k m) (hs : ShardsIn w a n cap I A L C X) (hg : GoodIx I (k + m) n) (hn : n < k) :
    Calls Try.prog 94 #[.pointer (some ⟨b, 0, none⟩), .slice a n cap] w fun e w' => e = .returned (.tuple #[.slice none 0 0, .slice none 0 0, .int .i64 63]) ∧ Below w.heap.size w w' :=
  (ordered_any b t k m n cap a I A L C X w h hs).mono fun e w' ho => by
    cases ho with
    | index h _ _ => exact absurd hg h
    | few _ _ he hb => exact ⟨he, hb⟩
    | length _ h _ _ _ => omega
    | good _ h _ _ _ _ _ _ _ _ _ _ => omega
theorem ordered_length {b t k m n cap : Nat} {a : Option Addr} {I : Nat → Int} {A : Nat → Option Addr} {L C : Nat → Nat} {X : Nat → List Int} {w : World} (h : IsCode w b t k m) (hs : ShardsIn w a n cap I A L C X) (hg : GoodIx I (k + m) n) (hn : k ≤ n) (hl : ¬ EvenL n (fun q => L (std I n (k + m) q))) :
    Calls Try.prog 94 #[.pointer (some ⟨b, 0, none⟩), .slice a n cap] w fun e w' => e = .returned (.tuple #[.slice none 0 0, .slice none 0 0, .int .i64 61]) ∧ Below w.heap.size w w' :=
  (ordered_any b t k m n cap a I A L C X w h hs).mono fun e w' ho => by
    cases ho with
    | index h _ _ => exact absurd hg h
    | few _ h _ _ => omega
    | length _ _ _ he hb => exact ⟨he, hb⟩
    | good _ _ h _ _ _ _ _ _ _ _ _ => exact absurd h hl
theorem ordered_good {b t k m n cap : Nat} {a : Option Addr} {I : Nat → Int} {A : Nat → Option Addr} {L C : Nat → Nat} {X : Nat → List Int} {w : World} (h : IsCode w b t k m) (hs : ShardsIn w a n cap I A L C X) (hg : GoodIx I (k + m) n) (hn : k ≤ n) (hl : EvenL n (fun q => L (std I n (k + m) q))) :
    Calls Try.prog 94 #[.pointer (some ⟨b, 0, none⟩), .slice a n cap] w fun e w' => ∃ b1 o1 b2 o2 C1 C2, e = .returned (.tuple #[.slice (some ⟨b1, o1, none⟩) n C1, .slice (some ⟨b2, o2, none⟩) n C2, .int .i64 0]) ∧ (n ≤ C1 ∧ C1 ≤ 9223372036854775807) ∧ (n ≤ C2 ∧ C2 ≤ 9223372036854775807) ∧
      Ints w' (some ⟨b1, o1, none⟩) n (fun q => (nth I n (k + m) q : Nat)) ∧ ColsIn w' (some ⟨b2, o2, none⟩) n C2 (fun q => A (std I n (k + m) q)) (fun q => L (std I n (k + m) q)) (fun q => C (std I n (k + m) q)) (fun q => X (std I n (k + m) q)) ∧ Below w.heap.size w w' :=
  (ordered_any b t k m n cap a I A L C X w h hs).mono fun e w' ho => by
    have hk1 := h.low
    cases ho with
    | index h _ _ => exact absurd hg h
    | few _ h _ _ => omega
    | length _ _ h _ _ => exact absurd hl h
    | good _ _ _ A1 A2 C1 C2 he hc1 h1 h2 hb =>
      have h1' := h1
      rcases h1 with h0 | ⟨b1, o1, rfl, _⟩
      · omega
      · obtain ⟨⟨b2, o2, rfl, _⟩, _⟩ := h2.2.2.2 0 (by omega)
        exact ⟨b1, o1, b2, o2, C1, C2, he, ⟨hc1.1, hc1.2.1⟩, ⟨h2.1, h2.2.1⟩, h1', h2, hb⟩
set_option maxRecDepth 100000 in
set_option maxHeartbeats 1000000 in
theorem code_decode (b t k m n cap : Nat) (a : Option Addr) (I : Nat → Int) (A : Nat → Option Addr) (L C : Nat → Nat) (X : Nat → List Int) (w : World) (h : IsCode w b t k m) (hs : ShardsIn w a n cap I A L C X) :
    Calls Try.prog 79 #[.pointer (some ⟨b, 0, none⟩), .slice a n cap] w (DecodedTo I L X k (k + m) n w) := by
  by_cases hg : GoodIx I (k + m) n
  case neg =>
    have HO := Lib.hid (ordered_index h hs hg)
    have HG := Lib.hid hg
    clear h hs hg
    go_enter Try.func79, Try.ntmps79
    go_wp2_with (go_at_call 94; refine HO.out.mono ?_; rintro e w1 ⟨rfl, hb⟩; have HB := Lib.hid hb; clear hb)
    go_ret2
    exact .index HG.out ⟨rfl, HB.out⟩
  case pos =>
  by_cases hn : n < k
  case pos =>
    have HO := Lib.hid (ordered_few h hs hg hn)
    have HG := Lib.hid hg
    have HN := Lib.hid hn
    clear h hs hg hn
    go_enter Try.func79, Try.ntmps79
    go_wp2_with (go_at_call 94; refine HO.out.mono ?_; rintro e w1 ⟨rfl, hb⟩; have HB := Lib.hid hb; clear hb)
    go_ret2
    exact .few HG.out HN.out ⟨rfl, HB.out⟩
  case neg =>
  have hkn : k ≤ n := by omega
  by_cases hl : EvenL n (fun q => L (std I n (k + m) q))
  case neg =>
    have HO := Lib.hid (ordered_length h hs hg hkn hl)
    have HG := Lib.hid hg
    have HL := Lib.hid hl
    clear h hs hg hl
    go_enter Try.func79, Try.ntmps79
    go_wp2_with (go_at_call 94; refine HO.out.mono ?_; rintro e w1 ⟨rfl, hb⟩; have HB := Lib.hid hb; clear hb)
    go_ret2
    exact .length HG.out hkn HL.out ⟨rfl, HB.out⟩
  case pos =>
  have HO := Lib.hid (ordered_good h hs hg hkn hl)
  have hk255 : k ≤ 255 := by have := h.high; omega
  have HG := Lib.hid (And.intro hg hl)
  have HSO := Lib.hid (fun b1 o1 b2 o2 C1 C2 w' (hb : Below w.heap.size w w') h1 h2 => solve_front b t k m n C1 C2 (some ⟨b1, o1, none⟩) (some ⟨b2, o2, none⟩) I A L C X w' (h.below hb) hg hkn hl h1 h2)
  have HCD : Hid (∀ w', Below w.heap.size w w' → w'.cell? ⟨b, 1, none⟩ = some (.int .i64 k)) := Lib.hid (fun w' hb => by
    obtain ⟨g, l, ⟨_, c1, c2, _, _, _⟩, _⟩ := (h.below hb).cells rfl rfl
    exact c1)
  refine Calls.mono (R := AppliedTo k (L (std I n (k + m) 0)) (decE I X k (k + m) n) w) ?_ (fun e w' hh => .good HG.out.1 hkn HG.out.2 hh)
  generalize decE I X k (k + m) n = E at *
  generalize L (std I n (k + m) 0) = len at *
  clear h hs hg hl HG
  unfold AppliedTo at HSO ⊢
  go_enter Try.func79, Try.ntmps79
  go_wp2_with (go_at_call 94; refine HO.out.mono ?_; rintro e w1 ⟨b1, o1, b2, o2, C1, C2, rfl, hc1, hc2, h1, h2, hb⟩; have H1 := Lib.hid h1; have H2 := Lib.hid h2; have HB := Lib.hid hb; clear h1 h2 hb)
  have hq1 : (k : Int) ≤ C1 := by omega
  have hq2 : (k : Int) ≤ C2 := by omega
  have hq0 : (0 : Int) ≤ k := by omega
  clear hc1 hc2 HO
  have HS : Hid (∀ w', Below w1.heap.size w1 w' → Below w1.heap.size w1 w' ∧ w'.cell? ⟨b, 1, none⟩ = some (.int .i64 (k : Int))) :=
    Lib.hid (fun w' h => ⟨h, HCD.out _ (b_on HB.out h)⟩)
  have HS1 : Hid (Ints w1.drew (some ⟨b1, o1, none⟩) n (fun q => (nth I n (k + m) q : Nat))) := Lib.hid (H1.out.below (Below.refl _ _).drew (Nat.le_refl _))
  have HS2 : Hid (ColsIn w1.drew (some ⟨b2, o2, none⟩) n C2 (fun q => A (std I n (k + m) q)) (fun q => L (std I n (k + m) q)) (fun q => C (std I n (k + m) q)) (fun q => X (std I n (k + m) q))) := Lib.hid (H2.out.below (Below.refl _ _).drew (Nat.le_refl _))
  have cc : Below w1.heap.size w1 w1.drew := (Below.refl _ _).drew
  go_region_held3 (fun w' => Below w1.heap.size w1 w' ∧ w'.cell? ⟨b, 1, none⟩ = some (.int .i64 (k : Int)))
    (first
      | exact HS.out _ cc
      | exact HS.out _ (Below.refl _ _)
      | fail "keep")
    (first
      | (go_at_call 95; (with_reducible refine (HSO.out b1 o1 b2 o2 C1 C2 w1.drew (b_on HB.out cc) HS1.out HS2.out).mono ?_); rintro e w3 ⟨h3, g3, l3, rfl, a1, a2, a3, a4, a5, hb⟩; (have q1 := Nat.le_trans cc.size a1; have q2 := Nat.le_trans cc.size a2); replace cc := b_on cc hb; clear hb)
      | fail "arm")
  all_goals
    have HF := Lib.hid (And.intro q1 (And.intro q2 (And.intro a3 (And.intro a4 (And.intro a5 (b_on HB.out cc))))))
    clear q1 q2 a1 a2 a3 a4 a5 cc
    go_wp2
    go_ret2
    exact ⟨h3, g3, l3, rfl, Nat.le_trans HB.out.size HF.out.1, Nat.le_trans HB.out.size HF.out.2.1, HF.out.2.2.1, HF.out.2.2.2.1, HF.out.2.2.2.2.1, HF.out.2.2.2.2.2⟩
end Go.Proofs.Ytjcbcdjfhcnhcaa
namespace Go.Proofs.Ytjcbcdjfhcnhcaa
open Go.RowKit

/-- Are all of one code word? -/
def FitL (I : Nat → Int) (L : Nat → Nat) (X : Nat → List Int) (k N n : Nat) : Prop := ∀ q, q < n → ∀ c, c < L (std I n N 0) → decE I X k N n (nth I n N q) c = co (X (std I n N q)) c
/-- What Fits answers. -/
inductive FittedTo (I : Nat → Int) (L : Nat → Nat) (X : Nat → List Int) (k N n : Nat) (w : World) (e : Ending) (w' : World) : Prop
  | index (h : ¬ GoodIx I N n) (he : e = .returned (.tuple #[.bool false, .int .i64 62])) (hb : Below w.heap.size w w') : FittedTo I L X k N n w e w'
  | few (h : GoodIx I N n) (hn : n < k) (he : e = .returned (.tuple #[.bool false, .int .i64 63])) (hb : Below w.heap.size w w') : FittedTo I L X k N n w e w'
  | length (h : GoodIx I N n) (hn : k ≤ n) (hl : ¬ EvenL n (fun q => L (std I n N q))) (he : e = .returned (.tuple #[.bool false, .int .i64 61])) (hb : Below w.heap.size w w') : FittedTo I L X k N n w e w'
  | good (h : GoodIx I N n) (hn : k ≤ n) (hl : EvenL n (fun q => L (std I n N q))) (v : Bool) (hv1 : v = true → FitL I L X k N n) (hv2 : v = false → ¬ FitL I L X k N n) (he : e = .returned (.tuple #[.bool v, .int .i64 0])) (hb : Below w.heap.size w w') : FittedTo I L X k N n w e w'
theorem ret_good {v : Bool} {z : Int} {e : Ending} (h : e = .returned (.tuple #[.bool v, .int .i64 z])) : e = .returned (.tuple #[.bool v, .int .i64 z]) := h
end Go.Proofs.Ytjcbcdjfhcnhcaa
