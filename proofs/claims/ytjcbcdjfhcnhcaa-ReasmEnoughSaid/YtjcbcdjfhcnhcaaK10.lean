/-
  Own text: solve of package rs, walked.
    Decode of package rs, walked.
    Fits of package rs, walked.
  Own text: layer 18 (reasm): groups that come, in plain numbers.
-/
import Derived.Test.YtjcbcdjfhcnhcaaK09
import Derived.Test.YtjcbcdjfhcnhcaaK08
namespace Go.Proofs.Ytjcbcdjfhcnhcaa
open Go.RowKit

set_option maxRecDepth 100000 in
set_option maxHeartbeats 2000000 in
theorem code_solve (b t k m len cP capC : Nat) (hlen : len ≤ 1200) (aP aC : Option Addr) (P : Nat → Nat) (A : Nat → Option Addr) (L C : Nat → Nat) (X : Nat → List Int) (w : World) (h : IsCode w b t k m) (hP : Ints w aP k (fun i => P i)) (hPR : ∀ i, i < k → P i < k + m) (hPd : ∀ i j, i < j → j < k → P i ≠ P j) (hc : ColsIn w aC k capC A L C X) (hL : ∀ j, j < k → L j = len) :
    Calls Try.prog 95 #[.pointer (some ⟨b, 0, none⟩), .slice aP k cP, .slice aC k capC] w (AppliedTo k len (fun i c => xs (fun j => mu (lagw P k j i) (co (X j) c)) k) w) := by
  have h1 := h.low
  have hR := h.high
  have hm1 : (k + m) * k ≤ 65025 := Nat.mul_le_mul hR (show k ≤ 255 by omega)
  have hm2 : k * k ≤ 65025 := Nat.mul_le_mul (show k ≤ 255 by omega) (show k ≤ 255 by omega)
  obtain ⟨g, l, ⟨c0, c1, c2, c3, c4, c5⟩, hd, hcw⟩ := h.cells rfl rfl
  have HPK : Hid (Calls Try.prog 83 #[.agg #[.int .i64 (k + m : Nat), .int .i64 k, .slice (some ⟨g, 0, none⟩) (((k + m) * k : Nat)) ((k + m) * k)], .slice aP k cP] w (Handed k k (fun i j => lagw nid k j (P i)) w)) :=
    Lib.hid (by
      refine (mpick_any (k + m) k k ((k + m) * k) cP hR (by omega) (by omega) (some ⟨g, 0, none⟩) aP l _ w (hd.sl (by omega)) hP).mono ?_
      rintro e w'' (⟨h1, g', l', he, hg, hd', hc', hb'⟩ | ⟨h1, _⟩)
      · refine ⟨g', l', he, hg, hd', fun i j hi hj => ?_, hb'⟩
        refine (hc' i j hi hj).trans ?_
        show co l (((P i : Nat) : Int).toNat * k + j) = _
        rw [Int.toNat_natCast]
        exact hcw (P i) j (hPR i hi) hj
      · exact absurd (fun i hi => by show 0 ≤ ((P i : Nat) : Int) ∧ ((P i : Nat) : Int) < ((k + m : Nat) : Int); have := hPR i hi; omega) h1)
  have HIV : Hid (∀ w' g l, Below w.heap.size w w' → Dat w' g (k * k) l → (∀ i j, i < k → j < k → co l (i * k + j) = lagw nid k j (P i)) → Calls Try.prog 84 #[.pointer (some ⟨t, 0, none⟩), .agg #[.int .i64 k, .int .i64 k, .slice (some ⟨g, 0, none⟩) ((k * k : Nat)) (k * k)]] w' (Handed k k (fun i j => lagw P k j i) w')) :=
    Lib.hid (fun w' g l hb hd hc => by
      have hP8 : ∀ i, i < k → P i < 256 := fun i hi => by have := hPR i hi; omega
      refine (invert_any t k (by omega) (some ⟨g, 0, none⟩) (k * k) l w' (hd.sl (by omega)) (h.tab.below hb h.tab.lt)).mono ?_
      rintro e w'' (⟨d, h1, h2, _⟩ | ⟨V, _, hVl, h2, g', l', he, hg, hd', hc', hb'⟩)
      · have h4 : RankIs (fun i j => lagw nid k j (P i)) k k d := h2.congr (fun i j hi hj => hc i j hi hj)
        have := full_rank (fun x hx hz => weights_ker (by omega) hP8 hPd x hx hz) h4
        omega
      · refine ⟨g', l', he, hg, hd', fun i j hi hj => ?_, hb'⟩
        refine (hc' i j hi hj).trans (undo_weights (by omega) hP8 hPd hVl (fun i c hi hc2 => ?_) hi hj)
        rw [← h2 i c hi hc2]
        exact dots_congr k (fun _ _ => rfl) (fun j hj => (hc j c hj hc2).symm))
  have HAP : Hid (∀ w' g' l', Below w.heap.size w w' → Dat w' g' (k * k) l' → (∀ i j, i < k → j < k → co l' (i * k + j) = lagw P k j i) → Calls Try.prog 88 #[.pointer (some ⟨t, 0, none⟩), .agg #[.int .i64 k, .int .i64 k, .slice (some ⟨g', 0, none⟩) ((k * k : Nat)) (k * k)], .slice aC k capC] w' (AppliedTo k len (fun i c => xs (fun j => mu (lagw P k j i) (co (X j) c)) k) w')) :=
    Lib.hid (fun w' g' l' hb hd' hc' => by
      refine (mapply_some t k k len (k * k) capC (by omega) (by omega) hlen (some ⟨g', 0, none⟩) aC l' A L C X w' (hd'.sl (by omega)) (hc.below hb (Nat.le_refl _)) hL (fun h0 => by omega) (h.tab.below hb h.tab.lt)).mono ?_
      rintro e w'' ⟨h2, g2, l2, he, a1, a2, a3, a4, a5, a6⟩
      refine ⟨h2, g2, l2, he, a1, a2, a3, a4, fun i c hi hcl => ?_, a6⟩
      refine (a5 i c hi hcl).trans ?_
      exact xs_congr k (fun j hj => by show mu (co l' (i * k + j)) _ = mu (lagw P k j i) _; rw [hc' i j hi hj]))
  obtain ⟨E, hE⟩ : ∃ E : Nat → Nat → Nat, E = fun i c => xs (fun j => mu (lagw P k j i) (co (X j) c)) k := ⟨_, rfl⟩
  rw [← hE] at HAP ⊢
  have HB0 : Hid (∀ w', Below w.heap.size w w' → w'.cell? ⟨b, 0, none⟩ = some (.pointer (some ⟨t, 0, none⟩))) := Lib.hid (fun w' hb => by
    obtain ⟨g, l, ⟨c0, _, _, _, _, _⟩, _⟩ := (h.below hb).cells rfl rfl
    exact c0)
  obtain ⟨U, hU⟩ : ∃ U : Nat → Nat → Nat, U = fun i j => lagw nid k j (P i) := ⟨_, rfl⟩
  obtain ⟨T, hT⟩ : ∃ T : Nat → Nat → Nat, T = fun i j => lagw P k j i := ⟨_, rfl⟩
  have hUU : ∀ i j, lagw nid k j (P i) = U i j := fun i j => by rw [hU]
  have hTT : ∀ i j, lagw P k j i = T i j := fun i j => by rw [hT]
  simp only [hUU] at HPK HIV
  simp only [hTT] at HIV HAP
  unfold Handed at HPK HIV
  unfold AppliedTo at HAP ⊢
  obtain ⟨R, hRe⟩ : ∃ R, k + m = R := ⟨_, rfl⟩
  rw [hRe] at HPK hm1 c3 c5
  obtain ⟨M1, hM1⟩ : ∃ M, R * k = M := ⟨_, rfl⟩
  obtain ⟨M2, hM2⟩ : ∃ M, k * k = M := ⟨_, rfl⟩
  rw [hM1] at HPK hm1 c5
  rw [hM2] at HPK HIV HAP hm2
  clear hE hM1 hM2 h hR hP hPR hPd hc hL hd hcw hRe hU hT hUU hTT
  go_enter Try.func95, Try.ntmps95
  go_wp2_with (go_at_call 83; refine HPK.out.mono ?_; rintro e w1 ⟨g1, l1, rfl, hg1, hd1, hc1, hb1⟩; have HD1 := Lib.hid hd1; have HC1 := Lib.hid hc1; have HB1 := Lib.hid hb1; clear hg1 hd1 hc1 hb1)
  clear c0 c1 c2 c3 c4 c5
  have HX := Lib.hid (alloc_bx w1 (.int .i64 k) (.int .i64 k) (.slice (some ⟨g1, 0, none⟩) M2 M2))
  have HD := Lib.hid (HD1.out.keep (Below.heap_alloc w1 (.cells #[.int .i64 k, .int .i64 k, .slice (some ⟨g1, 0, none⟩) M2 M2] 137) _ HD1.out.lt))
  have HB := Lib.hid (b_put HB1.out (.cells #[.int .i64 k, .int .i64 k, .slice (some ⟨g1, 0, none⟩) M2 M2] 137))
  clear HD1 HB1 HPK
  generalize w1.alloc (.cells #[.int .i64 k, .int .i64 k, .slice (some ⟨g1, 0, none⟩) M2 M2] 137) = w2 at *
  generalize w1.heap.size = b8 at *
  go_cut [0, 2, 10] (fun s0 s2 s wx => s0 = .pointer (some ⟨b, 0, none⟩) ∧ s2 = .slice aC k capC ∧ ∃ (b9 g2 : Nat) (l2 : List Int), s = .pointer (some ⟨b9, 0, none⟩) ∧ Hid (Below w2.heap.size w2 wx ∧ Bx wx b9 (.int .i64 k) (.int .i64 k) (.slice (some ⟨g2, 0, none⟩) M2 M2) ∧ Dat wx g2 M2 l2 ∧ (∀ i j, i < k → j < k → co l2 (i * k + j) = T i j)))
  case first =>
    have HS : Hid (∀ w', Below w2.heap.size w2 w' → Below w2.heap.size w2 w' ∧ w'.cell? ⟨b8, 0, none⟩ = some (.int .i64 (k : Int)) ∧ w'.cell? ⟨b8, 1, none⟩ = some (.int .i64 (k : Int)) ∧ w'.cell? ⟨b8, 2, none⟩ = some (.slice (some ⟨g1, 0, none⟩) M2 M2) ∧ w'.cell? ⟨b, 0, none⟩ = some (.pointer (some ⟨t, 0, none⟩))) :=
      Lib.hid (fun w' h => ⟨h, (HX.out.below h HX.out.lt).cells.1, (HX.out.below h HX.out.lt).cells.2.1, (HX.out.below h HX.out.lt).cells.2.2.1, HB0.out _ (b_on HB.out h)⟩)
    have cc : Below w2.heap.size w2 w2.drew := (Below.refl _ _).drew
    have ccA : ∀ o, Below w2.heap.size w2 (w2.alloc o).drew := fun o => (below_put w2 o).drew
    go_region_held3 (fun w' => Below w2.heap.size w2 w' ∧ w'.cell? ⟨b8, 0, none⟩ = some (.int .i64 (k : Int)) ∧ w'.cell? ⟨b8, 1, none⟩ = some (.int .i64 (k : Int)) ∧ w'.cell? ⟨b8, 2, none⟩ = some (.slice (some ⟨g1, 0, none⟩) M2 M2) ∧ w'.cell? ⟨b, 0, none⟩ = some (.pointer (some ⟨t, 0, none⟩)))
      (first
        | exact HS.out _ cc
        | exact HS.out _ (cc.alloc cc.size _)
        | exact HS.out _ (ccA _)
        | exact HS.out _ (below_put w2 _)
        | exact HS.out _ (Below.refl _ _)
        | exact HS.out _ (below_set3 cc hle)
        | fail "keep")
      (first
        | (go_at_call 84; (with_reducible refine (HIV.out w2.drew g1 l1 (b_on HB.out cc) (HD.out.below cc HD.out.lt) HC1.out).mono ?_); rintro e wm ⟨g2, l2, rfl, hg2, hd2, hc2, hb⟩; replace cc := b_on cc hb; clear hb)
        | (go_at_call 84; (with_reducible refine (HIV.out _ g1 l1 (b_on HB.out (ccA _)) (HD.out.below (ccA _) HD.out.lt) HC1.out).mono ?_); rintro e wm ⟨g2, l2, rfl, hg2, hd2, hc2, hb⟩; have hle := Nat.le_refl w2.heap.size; have hne : w2.heap.size < g2 := Nat.lt_of_lt_of_le (alloc_lt w2 _) hg2; have hbx : Bx wm w2.heap.size (.int .i64 0) (.int .i64 0) (.slice none 0 0) := ((alloc_bx w2 _ _ _).keep rfl : Bx (w2.alloc _).drew _ _ _ _).below hb (alloc_lt _ _); obtain ⟨k0, k1, k2, kf⟩ := hbx.cells; replace cc := b_on (ccA _) hb; clear hb)
        | fail "arm")
    all_goals
      first
        | (have HF := Lib.hid (And.intro (below_set3 (x := .int .i64 k) (y := .int .i64 k) (z := .slice (some ⟨g2, 0, none⟩) M2 M2) cc hle) (And.intro (hbx.write (x' := .int .i64 k) (y' := .int .i64 k) (z' := .slice (some ⟨g2, 0, none⟩) M2 M2)) (And.intro (dat_set3 (x := .int .i64 k) (y := .int .i64 k) (z := .slice (some ⟨g2, 0, none⟩) M2 M2) hd2 (Nat.ne_of_gt hne)) hc2))); clear k0 k1 k2 kf; go_wp2_with fail; go_meet; exact ⟨rfl, rfl, _, _, _, rfl, HF⟩)
        | (have HF := Lib.hid (And.intro (b_put cc (.cells #[.int .i64 k, .int .i64 k, .slice (some ⟨g2, 0, none⟩) M2 M2] 137)) (And.intro (alloc_bx wm (.int .i64 k) (.int .i64 k) (.slice (some ⟨g2, 0, none⟩) M2 M2)) (And.intro (hd2.keep (Below.heap_alloc _ (.cells #[.int .i64 k, .int .i64 k, .slice (some ⟨g2, 0, none⟩) M2 M2] 137) _ hd2.lt)) hc2))); go_wp2_with fail; go_meet; exact ⟨rfl, rfl, _, _, _, rfl, HF⟩)
  case rest =>
    obtain ⟨rfl, rfl, b9, g2, l2, rfl, HF⟩ := hcut
    have HBW := Lib.hid (b_on HB.out HF.out.1)
    have HX9 := Lib.hid HF.out.2.1
    have HD9 := Lib.hid HF.out.2.2.1
    have HC9 := Lib.hid HF.out.2.2.2
    clear HF HX HD HC1 HB HIV
    have HS : Hid (∀ w', Below wc.heap.size wc w' → Below wc.heap.size wc w' ∧ w'.cell? ⟨b9, 0, none⟩ = some (.int .i64 (k : Int)) ∧ w'.cell? ⟨b9, 1, none⟩ = some (.int .i64 (k : Int)) ∧ w'.cell? ⟨b9, 2, none⟩ = some (.slice (some ⟨g2, 0, none⟩) M2 M2) ∧ w'.cell? ⟨b, 0, none⟩ = some (.pointer (some ⟨t, 0, none⟩))) :=
      Lib.hid (fun w' h => ⟨h, (HX9.out.below h HX9.out.lt).cells.1, (HX9.out.below h HX9.out.lt).cells.2.1, (HX9.out.below h HX9.out.lt).cells.2.2.1, HB0.out _ (b_on HBW.out h)⟩)
    have cc : Below wc.heap.size wc wc.drew := (Below.refl _ _).drew
    go_wp2
    go_region_held3 (fun w' => Below wc.heap.size wc w' ∧ w'.cell? ⟨b9, 0, none⟩ = some (.int .i64 (k : Int)) ∧ w'.cell? ⟨b9, 1, none⟩ = some (.int .i64 (k : Int)) ∧ w'.cell? ⟨b9, 2, none⟩ = some (.slice (some ⟨g2, 0, none⟩) M2 M2) ∧ w'.cell? ⟨b, 0, none⟩ = some (.pointer (some ⟨t, 0, none⟩)))
      (first
        | exact HS.out _ cc
        | exact HS.out _ (Below.refl _ _)
        | fail "keep")
      (first
        | (go_at_call 88; (with_reducible refine (HAP.out wc.drew g2 l2 (b_on HBW.out cc) (HD9.out.below cc HD9.out.lt) HC9.out).mono ?_); rintro e w3 ⟨h3, g3, l3, rfl, a1, a2, a3, a4, a5, hb⟩; (have q1 := Nat.le_trans cc.size a1; have q2 := Nat.le_trans cc.size a2); replace cc := b_on cc hb; clear hb)
        | fail "arm")
    all_goals
      have HF := Lib.hid (And.intro q1 (And.intro q2 (And.intro a3 (And.intro a4 (And.intro a5 (b_on HBW.out cc))))))
      clear q1 q2 a1 a2 a3 a4 a5 cc
      go_wp2
      go_ret2
      exact ⟨h3, g3, l3, rfl, Nat.le_trans HBW.out.size HF.out.1, Nat.le_trans HBW.out.size HF.out.2.1, HF.out.2.2.1, HF.out.2.2.2.1, HF.out.2.2.2.2.1, HF.out.2.2.2.2.2⟩
end Go.Proofs.Ytjcbcdjfhcnhcaa
namespace Go.Proofs.Ytjcbcdjfhcnhcaa
open Go.RowKit

/-- What Apply hands back, as columns. -/
theorem cols_applied {w : World} {h g R len : Nat} {l : List Int} (hl : Lst w h R len (fun i => some ⟨g, i * len, none⟩)) (hd : Dat w g (R * len) l) (hR : R ≤ 1000) (hlen : len ≤ 1200) :
    ColsIn w (some ⟨h, 0, none⟩) R R (fun i => some ⟨g, i * len, none⟩) (fun _ => len) (fun _ => len) (fun i => seg l (i * len) len) := by
  refine ⟨Nat.le_refl _, by omega, (fun h => nomatch h), fun r hr => ⟨⟨h, 0, rfl, hl.lt, by rw [Nat.zero_add]; exact hl.cell r hr⟩, ⟨hd.bytes (r * len) len ?_ (by omega), Nat.le_refl _, by show len ≤ 9223372036854775807; omega, fun h => nomatch h⟩⟩⟩
  have := Nat.mul_le_mul_right len (show r + 1 ≤ R from hr)
  rw [Nat.succ_mul] at this
  omega
theorem ColsIn.front {w : World} {a : Option Addr} {n k cap : Nat} {A : Nat → Option Addr} {L C : Nat → Nat} {X : Nat → List Int} (h : ColsIn w a n cap A L C X) (hk : k ≤ n) : ColsIn w a k cap A L C X :=
  ⟨Nat.le_trans hk h.1, h.2.1, h.2.2.1, fun r hr => h.2.2.2 r (by omega)⟩
theorem Ints.front {w : World} {a : Option Addr} {n k : Nat} {P : Nat → Int} (h : Ints w a n P) (hk : k ≤ n) : Ints w a k P := by
  rcases h with h | ⟨b, off, e, hl, hc⟩
  · exact .inl (by omega)
  · exact .inr ⟨b, off, e, hl, fun i hi => hc i (by omega)⟩
/-- What the data of such shards are. -/
def decE (I : Nat → Int) (X : Nat → List Int) (k N n : Nat) (i c : Nat) : Nat := xs (fun j => mu (lagw (nth I n N) k j i) (co (X (std I n N j)) c)) k
/-- What Decode answers. -/
inductive DecodedTo (I : Nat → Int) (L : Nat → Nat) (X : Nat → List Int) (k N n : Nat) (w : World) (e : Ending) (w' : World) : Prop
  | index (h : ¬ GoodIx I N n) (he : Barred 62 w e w') : DecodedTo I L X k N n w e w'
  | few (h : GoodIx I N n) (hn : n < k) (he : Barred 63 w e w') : DecodedTo I L X k N n w e w'
  | length (h : GoodIx I N n) (hn : k ≤ n) (hl : ¬ EvenL n (fun q => L (std I n N q))) (he : Barred 61 w e w') : DecodedTo I L X k N n w e w'
  | good (h : GoodIx I N n) (hn : k ≤ n) (hl : EvenL n (fun q => L (std I n N q))) (he : AppliedTo k (L (std I n N 0)) (decE I X k N n) w e w') : DecodedTo I L X k N n w e w'
theorem solve_front (b t k m n C1 C2 : Nat) (A1 A2 : Option Addr) (I : Nat → Int) (A : Nat → Option Addr) (L C : Nat → Nat) (X : Nat → List Int) (w : World) (h : IsCode w b t k m) (hg : GoodIx I (k + m) n) (hn : k ≤ n) (hl : EvenL n (fun q => L (std I n (k + m) q)))
    (h1 : Ints w A1 n (fun q => (nth I n (k + m) q : Nat))) (h2 : ColsIn w A2 n C2 (fun q => A (std I n (k + m) q)) (fun q => L (std I n (k + m) q)) (fun q => C (std I n (k + m) q)) (fun q => X (std I n (k + m) q))) :
    Calls Try.prog 95 #[.pointer (some ⟨b, 0, none⟩), .slice A1 k C1, .slice A2 k C2] w (AppliedTo k (L (std I n (k + m) 0)) (decE I X k (k + m) n) w) := by
  have hlen := ordL_len n hg
  have hk1 := h.low
  exact code_solve b t k m (L (std I n (k + m) 0)) C1 C2 (by have h5 : L (std I n (k + m) 0) ≤ 1200 := (hl 0 (by omega)).2; exact h5) A1 A2 (nth I n (k + m)) _ _ _ (fun q => X (std I n (k + m) q)) w h (h1.front hn) (fun i hi => nth_lt (by omega)) (fun i j hij hj => Nat.ne_of_lt (nth_mono hij (by omega))) (h2.front hn) (fun j hj => (hl j (by omega)).1)
/-- The four ways of ordered, one by one. -/
theorem ordered_index {b t k m n cap : Nat} {a : Option Addr} {I : Nat → Int} {A : Nat → Option Addr} {L C : Nat → Nat} {X : Nat → List Int} {w : World} (h : IsCode w b t k m) (hs : ShardsIn w a n cap I A L C X) (hg : ¬ GoodIx I (k + m) n) :
    Calls Try.prog 94 #[.pointer (some ⟨b, 0, none⟩), .slice a n cap] w fun e w' => e = .returned (.tuple #[.slice none 0 0, .slice none 0 0, .int .i64 62]) ∧ Below w.heap.size w w' :=
  (ordered_any b t k m n cap a I A L C X w h hs).mono fun e w' ho => by
    cases ho with
    | index _ he hb => exact ⟨he, hb⟩
    | few h _ _ _ => exact absurd h hg
    | length h _ _ _ _ => exact absurd h hg
    | good h _ _ _ _ _ _ _ _ _ _ _ => exact absurd h hg
theorem ordered_few {b t k m n cap : Nat} {a : Option Addr} {I : Nat → Int} {A : Nat → Option Addr} {L C : Nat → Nat} {X : Nat → List Int} {w : World} (h : IsCode w b t k m) (hs : ShardsIn w a n cap I A L C X) (hg : GoodIx I (k + m) n) (hn : n < k) :
    Calls Try.prog 94 #[.pointer (some ⟨b, 0, none⟩), .slice a n cap] w fun e w' => e = .returned (.tuple #[.slice none 0 0, .slice none 0 0, .int .i64 63]) ∧ Below w.heap.size w w' :=
  (ordered_any b t k m n cap a I A L C X w h hs).mono fun e w' ho => by
    cases ho with
    | index h _ _ => exact absurd hg h
    | few _ _ he hb => exact ⟨he, hb⟩
    | length _ h _ _ _ => omega
    | good _ h _ _ _ _ _ _ _ _ _ _ => omega
theorem ordered_length {b t k m n cap : Nat} {a : Option Addr} {I : Nat → Int} {A : Nat → Option Addr} {L C : Nat → Nat} {X : Nat → List Int} {w : World} (h : IsCode w b t k m) (hs : ShardsIn w a n cap I A L C X) (hg : GoodIx I (k + m) n) (hn : k ≤ n) (hl : ¬ EvenL n (fun q => L (std I n (k + m) q))) :
    Calls Try.prog 94 #[.pointer (some ⟨b, 0, none⟩), .slice a n cap] w fun e w' => e = .returned (.tuple #[.slice none 0 0, .slice none 0 0, .int .i64 61]) ∧ Below w.heap.size w w' :=
  (ordered_any b t k m n cap a I A L C X w h hs).mono fun e w' ho => by
    cases ho with
    | index h _ _ => exact absurd hg h
    | few _ h _ _ => omega
    | length _ _ _ he hb => exact ⟨he, hb⟩
    | good _ _ h _ _ _ _ _ _ _ _ _ => exact absurd h hl
theorem ordered_good {b t k m n cap : Nat} {a : Option Addr} {I : Nat → Int} {A : Nat → Option Addr} {L C : Nat → Nat} {X : Nat → List Int} {w : World} (h : IsCode w b t k m) (hs : ShardsIn w a n cap I A L C X) (hg : GoodIx I (k + m) n) (hn : k ≤ n) (hl : EvenL n (fun q => L (std I n (k + m) q))) :
    Calls Try.prog 94 #[.pointer (some ⟨b, 0, none⟩), .slice a n cap] w fun e w' => ∃ b1 o1 b2 o2 C1 C2, e = .returned (.tuple #[.slice (some ⟨b1, o1, none⟩) n C1, .slice (some ⟨b2, o2, none⟩) n C2, .int .i64 0]) ∧ (n ≤ C1 ∧ C1 ≤ 9223372036854775807) ∧ (n ≤ C2 ∧ C2 ≤ 9223372036854775807) ∧
      Ints w' (some ⟨b1, o1, none⟩) n (fun q => (nth I n (k + m) q : Nat)) ∧ ColsIn w' (some ⟨b2, o2, none⟩) n C2 (fun q => A (std I n (k + m) q)) (fun q => L (std I n (k + m) q)) (fun q => C (std I n (k + m) q)) (fun q => X (std I n (k + m) q)) ∧ Below w.heap.size w w' :=
  (ordered_any b t k m n cap a I A L C X w h hs).mono fun e w' ho => by
    have hk1 := h.low
    cases ho with
    | index h _ _ => exact absurd hg h
    | few _ h _ _ => omega
    | length _ _ h _ _ => exact absurd hl h
    | good _ _ _ A1 A2 C1 C2 he hc1 h1 h2 hb =>
      have h1' := h1
      rcases h1 with h0 | ⟨b1, o1, rfl, _⟩
      · omega
      · obtain ⟨⟨b2, o2, rfl, _⟩, _⟩ := h2.2.2.2 0 (by omega)
        exact ⟨b1, o1, b2, o2, C1, C2, he, ⟨hc1.1, hc1.2.1⟩, ⟨h2.1, h2.2.1⟩, h1', h2, hb⟩
set_option maxRecDepth 100000 in
set_option maxHeartbeats 1000000 in
theorem code_decode (b t k m n cap : Nat) (a : Option Addr) (I : Nat → Int) (A : Nat → Option Addr) (L C : Nat → Nat) (X : Nat → List Int) (w : World) (h : IsCode w b t k m) (hs : ShardsIn w a n cap I A L C X) :
    Calls Try.prog 79 #[.pointer (some ⟨b, 0, none⟩), .slice a n cap] w (DecodedTo I L X k (k + m) n w) := by
  by_cases hg : GoodIx I (k + m) n
  case neg =>
    have HO := Lib.hid (ordered_index h hs hg)
    have HG := Lib.hid hg
    clear h hs hg
    go_enter Try.func79, Try.ntmps79
    go_wp2_with (go_at_call 94; refine HO.out.mono ?_; rintro e w1 ⟨rfl, hb⟩; have HB := Lib.hid hb; clear hb)
    go_ret2
    exact .index HG.out ⟨rfl, HB.out⟩
  case pos =>
  by_cases hn : n < k
  case pos =>
    have HO := Lib.hid (ordered_few h hs hg hn)
    have HG := Lib.hid hg
    have HN := Lib.hid hn
    clear h hs hg hn
    go_enter Try.func79, Try.ntmps79
    go_wp2_with (go_at_call 94; refine HO.out.mono ?_; rintro e w1 ⟨rfl, hb⟩; have HB := Lib.hid hb; clear hb)
    go_ret2
    exact .few HG.out HN.out ⟨rfl, HB.out⟩
  case neg =>
  have hkn : k ≤ n := by omega
  by_cases hl : EvenL n (fun q => L (std I n (k + m) q))
  case neg =>
    have HO := Lib.hid (ordered_length h hs hg hkn hl)
    have HG := Lib.hid hg
    have HL := Lib.hid hl
    clear h hs hg hl
    go_enter Try.func79, Try.ntmps79
    go_wp2_with (go_at_call 94; refine HO.out.mono ?_; rintro e w1 ⟨rfl, hb⟩; have HB := Lib.hid hb; clear hb)
    go_ret2
    exact .length HG.out hkn HL.out ⟨rfl, HB.out⟩
  case pos =>
  have HO := Lib.hid (ordered_good h hs hg hkn hl)
  have hk255 : k ≤ 255 := by have := h.high; omega
  have HG := Lib.hid (And.intro hg hl)
  have HSO := Lib.hid (fun b1 o1 b2 o2 C1 C2 w' (hb : Below w.heap.size w w') h1 h2 => solve_front b t k m n C1 C2 (some ⟨b1, o1, none⟩) (some ⟨b2, o2, none⟩) I A L C X w' (h.below hb) hg hkn hl h1 h2)
  have HCD : Hid (∀ w', Below w.heap.size w w' → w'.cell? ⟨b, 1, none⟩ = some (.int .i64 k)) := Lib.hid (fun w' hb => by
    obtain ⟨g, l, ⟨_, c1, c2, _, _, _⟩, _⟩ := (h.below hb).cells rfl rfl
    exact c1)
  refine Calls.mono (R := AppliedTo k (L (std I n (k + m) 0)) (decE I X k (k + m) n) w) ?_ (fun e w' hh => .good HG.out.1 hkn HG.out.2 hh)
  generalize decE I X k (k + m) n = E at *
  generalize L (std I n (k + m) 0) = len at *
  clear h hs hg hl HG
  unfold AppliedTo at HSO ⊢
  go_enter Try.func79, Try.ntmps79
  go_wp2_with (go_at_call 94; refine HO.out.mono ?_; rintro e w1 ⟨b1, o1, b2, o2, C1, C2, rfl, hc1, hc2, h1, h2, hb⟩; have H1 := Lib.hid h1; have H2 := Lib.hid h2; have HB := Lib.hid hb; clear h1 h2 hb)
  have hq1 : (k : Int) ≤ C1 := by omega
  have hq2 : (k : Int) ≤ C2 := by omega
  have hq0 : (0 : Int) ≤ k := by omega
  clear hc1 hc2 HO
  have HS : Hid (∀ w', Below w1.heap.size w1 w' → Below w1.heap.size w1 w' ∧ w'.cell? ⟨b, 1, none⟩ = some (.int .i64 (k : Int))) :=
    Lib.hid (fun w' h => ⟨h, HCD.out _ (b_on HB.out h)⟩)
  have HS1 : Hid (Ints w1.drew (some ⟨b1, o1, none⟩) n (fun q => (nth I n (k + m) q : Nat))) := Lib.hid (H1.out.below (Below.refl _ _).drew (Nat.le_refl _))
  have HS2 : Hid (ColsIn w1.drew (some ⟨b2, o2, none⟩) n C2 (fun q => A (std I n (k + m) q)) (fun q => L (std I n (k + m) q)) (fun q => C (std I n (k + m) q)) (fun q => X (std I n (k + m) q))) := Lib.hid (H2.out.below (Below.refl _ _).drew (Nat.le_refl _))
  have cc : Below w1.heap.size w1 w1.drew := (Below.refl _ _).drew
  go_region_held3 (fun w' => Below w1.heap.size w1 w' ∧ w'.cell? ⟨b, 1, none⟩ = some (.int .i64 (k : Int)))
    (first
      | exact HS.out _ cc
      | exact HS.out _ (Below.refl _ _)
      | fail "keep")
    (first
      | (go_at_call 95; (with_reducible refine (HSO.out b1 o1 b2 o2 C1 C2 w1.drew (b_on HB.out cc) HS1.out HS2.out).mono ?_); rintro e w3 ⟨h3, g3, l3, rfl, a1, a2, a3, a4, a5, hb⟩; (have q1 := Nat.le_trans cc.size a1; have q2 := Nat.le_trans cc.size a2); replace cc := b_on cc hb; clear hb)
      | fail "arm")
  all_goals
    have HF := Lib.hid (And.intro q1 (And.intro q2 (And.intro a3 (And.intro a4 (And.intro a5 (b_on HB.out cc))))))
    clear q1 q2 a1 a2 a3 a4 a5 cc
    go_wp2
    go_ret2
    exact ⟨h3, g3, l3, rfl, Nat.le_trans HB.out.size HF.out.1, Nat.le_trans HB.out.size HF.out.2.1, HF.out.2.2.1, HF.out.2.2.2.1, HF.out.2.2.2.2.1, HF.out.2.2.2.2.2⟩
end Go.Proofs.Ytjcbcdjfhcnhcaa
namespace Go.Proofs.Ytjcbcdjfhcnhcaa
open Go.RowKit

/-- Are all of one code word? -/
def FitL (I : Nat → Int) (L : Nat → Nat) (X : Nat → List Int) (k N n : Nat) : Prop := ∀ q, q < n → ∀ c, c < L (std I n N 0) → decE I X k N n (nth I n N q) c = co (X (std I n N q)) c
/-- What Fits answers. -/
inductive FittedTo (I : Nat → Int) (L : Nat → Nat) (X : Nat → List Int) (k N n : Nat) (w : World) (e : Ending) (w' : World) : Prop
  | index (h : ¬ GoodIx I N n) (he : e = .returned (.tuple #[.bool false, .int .i64 62])) (hb : Below w.heap.size w w') : FittedTo I L X k N n w e w'
  | few (h : GoodIx I N n) (hn : n < k) (he : e = .returned (.tuple #[.bool false, .int .i64 63])) (hb : Below w.heap.size w w') : FittedTo I L X k N n w e w'
  | length (h : GoodIx I N n) (hn : k ≤ n) (hl : ¬ EvenL n (fun q => L (std I n N q))) (he : e = .returned (.tuple #[.bool false, .int .i64 61])) (hb : Below w.heap.size w w') : FittedTo I L X k N n w e w'
  | good (h : GoodIx I N n) (hn : k ≤ n) (hl : EvenL n (fun q => L (std I n N q))) (v : Bool) (hv1 : v = true → FitL I L X k N n) (hv2 : v = false → ¬ FitL I L X k N n) (he : e = .returned (.tuple #[.bool v, .int .i64 0])) (hb : Below w.heap.size w w') : FittedTo I L X k N n w e w'
end Go.Proofs.Ytjcbcdjfhcnhcaa
namespace Go.Proofs.Ytjcbcdjfhcnhcaa

/-- A shard that came: its number, its two bytes. -/
structure Sd where
  ix : Nat
  b0 : Nat
  b1 : Nat
def Sd.zero : Sd := ⟨0, 0, 0⟩
def ixL (s : List Sd) (i : Nat) : Int := ((s.getD i Sd.zero).ix : Nat)
def byL (s : List Sd) (i : Nat) : List Int := [((s.getD i Sd.zero).b0 : Nat), ((s.getD i Sd.zero).b1 : Nat)]
/-- The input at a place of what such shards tell. -/
def decAt (k m : Nat) (s : List Sd) (i : Nat) : Nat := 256 * decE (ixL s) (byL s) k (k + m) s.length i 0 + decE (ixL s) (byL s) k (k + m) s.length i 1
def decIn (k m : Nat) (s : List Sd) : List Int := (List.range k).map fun i => (decAt k m s i : Int)
theorem decIn_len (k m : Nat) (s : List Sd) : (decIn k m s).length = k := by simp [decIn]
/-- A group of which something came. -/
structure Pt where
  no : Nat
  fst : Nat
  k : Nat
  m : Nat
  sh : List Sd
/-- Do enough have come? -/
def Pt.full (p : Pt) : Prop := p.sh.length = p.k
instance (p : Pt) : Decidable p.full := by unfold Pt.full; infer_instance
def Pt.ins (p : Pt) : List Int := decIn p.k p.m p.sh
theorem Pt.ins_len (p : Pt) : p.ins.length = p.k := decIn_len _ _ _
/-- Did a shard of that number come? -/
def hasIx (s : List Sd) (i : Int) : Bool := s.any fun x => decide ((x.ix : Int) = i)
/-- Is one of them parity? -/
def hasPar (s : List Sd) (k : Nat) : Bool := s.any fun x => decide (k ≤ x.ix)
def Pt.add (p : Pt) (s : Sd) : Pt := { p with sh := p.sh ++ [s] }
structure Pt.ok (p : Pt) : Prop where
  fst : p.fst < 4294967296
  k1 : 1 ≤ p.k
  k2 : p.k ≤ 16
  m2 : p.m ≤ 16
  s1 : 1 ≤ p.sh.length
  s2 : p.sh.length ≤ p.k
  ix : ∀ s ∈ p.sh, s.ix < p.k + p.m ∧ s.b0 ≤ 255 ∧ s.b1 ≤ 255
  once : p.sh.Pairwise fun x y => x.ix ≠ y.ix
structure Wn where
  base : Nat
  frames : Nat
  doubles : Nat
  mended : Nat
  l : List Pt
  ready : List Int
def Wn.zero : Wn := ⟨0, 0, 0, 0, [], []⟩
/-- Where a group's part is; the length, if there is none. -/
def Wn.at_ (S : Wn) (no : Nat) : Nat := S.l.findIdx fun p => decide (p.no = no)
/-- What is next is told. -/
def Wn.turn (S : Wn) (p : Pt) : Wn := ⟨S.base + 1, S.frames + p.k, S.doubles, S.mended, S.l.eraseIdx (S.at_ S.base), S.ready ++ p.ins⟩
/-- Is there something to be told? -/
def Wn.next (S : Wn) : Option Pt := match S.l[S.at_ S.base]? with
  | some p => if p.full ∧ p.fst = S.frames then some p else none
  | none => none
def Wn.tell : Nat → Wn → Wn
  | 0, S => S
  | n + 1, S => match S.next with
    | some p => Wn.tell n (S.turn p)
    | none => S
/-- A shard: its error's number. -/
structure Cd where
  kind : Int
  A : Nat
  B : Nat
  K : Int
  M : Int
  ix : Int
  len : Nat
  b0 : Nat
  b1 : Nat
def Cd.bad (d : Cd) : Int :=
  if d.kind ≠ 2 ∧ d.kind ≠ 3 then 72
  else if d.K < 1 ∨ 16 < d.K ∨ d.M < 0 ∨ 16 < d.M ∨ d.ix < 0 ∨ d.K + d.M ≤ d.ix then 62
  else if d.len ≠ 2 then 61 else 0
/-- How far a group is ahead, as far as it matters. -/
def Wn.far (S : Wn) (no : Nat) : Int :=
  if S.base ≤ no ∧ no < S.base + 32 then 0 else if S.base ≤ no ∧ no < S.base + 2147483648 then 2 else 90
def Wn.code (S : Wn) (d : Cd) : Int :=
  if d.bad ≠ 0 then d.bad
  else if S.far d.A ≠ 0 then S.far d.A
  else match S.l[S.at_ d.A]? with
    | none => 0
    | some p => if p.fst ≠ d.B ∨ (p.k : Int) ≠ d.K ∨ (p.m : Int) ≠ d.M then 170 else if p.full ∨ hasIx p.sh d.ix = true then 171 else 0
def Cd.sd (d : Cd) : Sd := ⟨d.ix.toNat, d.b0, d.b1⟩
/-- The part that it belongs to, as it was. -/
def Wn.part (S : Wn) (d : Cd) : Pt := (S.l[S.at_ d.A]?).getD ⟨d.A, d.B, d.K.toNat, d.M.toNat, []⟩
/-- It is put there. -/
def Wn.put (S : Wn) (d : Cd) : Wn :=
  let p := (S.part d).add d.sd
  ⟨S.base, S.frames, S.doubles, if p.full ∧ hasPar p.sh p.k = true then S.mended + 1 else S.mended, if S.at_ d.A < S.l.length then S.l.set (S.at_ d.A) p else S.l ++ [p], S.ready⟩
def Wn.twice (S : Wn) : Wn := { S with doubles := S.doubles + 1 }
def Wn.take (S : Wn) (d : Cd) : Wn :=
  if S.code d = 171 then S.twice else if S.code d ≠ 0 then S else (S.put d).tell (S.put d).l.length
def Wn.read (S : Wn) : Wn := { S with ready := [] }

/-- Between two calls; so many shards came. -/
structure Wn.ok (S : Wn) (n : Nat) : Prop where
  parts : ∀ p ∈ S.l, p.ok ∧ S.base ≤ p.no ∧ p.no < S.base + 32
  once : S.l.Pairwise fun p q => p.no ≠ q.no
  base : S.base + S.l.length ≤ n
  frames : S.frames + 16 * S.l.length ≤ 16 * n
  doubles : S.doubles ≤ n
  mended : S.mended ≤ n
  ready : S.ready.length ≤ S.frames
  vals : ∀ z ∈ S.ready, 0 ≤ z ∧ z ≤ 65535
theorem Wn.zero_ok : Wn.zero.ok 0 := ⟨by simp [Wn.zero], by simp [Wn.zero], by simp [Wn.zero], by simp [Wn.zero], by simp [Wn.zero], by simp [Wn.zero], by simp [Wn.zero], by simp [Wn.zero]⟩
theorem Wn.ok.more {S : Wn} {n m : Nat} (h : S.ok n) (hm : n ≤ m) : S.ok m := ⟨h.parts, h.once, by have := h.base; omega, by have := h.frames; omega, by have := h.doubles; omega, by have := h.mended; omega, h.ready, h.vals⟩
theorem Wn.at_some {S : Wn} {no : Nat} (h : S.at_ no < S.l.length) : ∃ p, S.l[S.at_ no]? = some p ∧ p.no = no ∧ p ∈ S.l := by
  refine ⟨S.l[S.at_ no], List.getElem?_eq_getElem h, ?_, List.getElem_mem h⟩
  have := List.findIdx_getElem (p := fun p : Pt => decide (p.no = no)) (xs := S.l) (w := h)
  exact of_decide_eq_true this
theorem Wn.at_none {S : Wn} {no : Nat} (h : ¬ S.at_ no < S.l.length) : S.l[S.at_ no]? = none ∧ ∀ p ∈ S.l, p.no ≠ no := by
  refine ⟨List.getElem?_eq_none (by omega), fun p hp e => h ?_⟩
  exact List.findIdx_lt_length_of_exists ⟨p, hp, by simp [e]⟩
theorem Wn.at_le (S : Wn) (no : Nat) : S.at_ no ≤ S.l.length := List.findIdx_le_length
theorem Wn.next_some {S : Wn} {p : Pt} (h : S.next = some p) : S.at_ S.base < S.l.length ∧ S.l[S.at_ S.base]? = some p ∧ p.full ∧ p.fst = S.frames ∧ p.no = S.base ∧ p ∈ S.l := by
  unfold Wn.next at h
  by_cases hi : S.at_ S.base < S.l.length
  · obtain ⟨q, h1, h2, h3⟩ := Wn.at_some hi
    rw [h1] at h
    dsimp only at h
    by_cases hf : q.full ∧ q.fst = S.frames
    · rw [if_pos hf] at h
      cases h
      exact ⟨hi, h1, hf.1, hf.2, h2, h3⟩
    · rw [if_neg hf] at h
      cases h
  · rw [(Wn.at_none hi).1] at h
    cases h
theorem Wn.next_none {S : Wn} (h : S.next = none) : ∀ p, S.l[S.at_ S.base]? = some p → ¬ (p.full ∧ p.fst = S.frames) := by
  intro p hp hf
  unfold Wn.next at h
  rw [hp] at h
  dsimp only at h
  rw [if_pos hf] at h
  cases h
theorem erase_pair {α : Type} {R : α → α → Prop} {l : List α} (h : l.Pairwise R) (i : Nat) : (l.eraseIdx i).Pairwise R := h.sublist (List.eraseIdx_sublist l i)
theorem pair_at {l : List Pt} (h : l.Pairwise fun p q => p.no ≠ q.no) {i j : Nat} {p q : Pt} (hi : l[i]? = some p) (hj : l[j]? = some q) (e : p.no = q.no) : i = j := by
  obtain ⟨h1, rfl⟩ := List.getElem?_eq_some_iff.1 hi
  obtain ⟨h2, rfl⟩ := List.getElem?_eq_some_iff.1 hj
  rw [List.pairwise_iff_getElem] at h
  rcases Nat.lt_trichotomy i j with hlt | rfl | hlt
  · exact absurd e (h i j h1 h2 hlt)
  · rfl
  · exact absurd e.symm (h j i h2 h1 hlt)
theorem mem_erase {l : List Pt} {i : Nat} {q : Pt} (h : q ∈ l.eraseIdx i) : ∃ j, j ≠ i ∧ l[j]? = some q := by
  obtain ⟨j, h1, h2⟩ := List.mem_eraseIdx_iff_getElem?.1 h
  exact ⟨j, h1, h2⟩
theorem decE_lt (I : Nat → Int) (X : Nat → List Int) (k N n i c : Nat) : decE I X k N n i c < 256 := xs_lt _ (fun _ => mu_lt _ _) k
theorem decAt_le (k m : Nat) (s : List Sd) (i : Nat) : decAt k m s i ≤ 65535 := by
  unfold decAt
  have h1 := decE_lt (ixL s) (byL s) k (k + m) s.length i 0
  have h2 := decE_lt (ixL s) (byL s) k (k + m) s.length i 1
  omega
theorem Pt.ins_vals (p : Pt) : ∀ z ∈ p.ins, 0 ≤ z ∧ z ≤ 65535 := by
  intro z hz
  unfold Pt.ins decIn at hz
  obtain ⟨i, hi, rfl⟩ := List.mem_map.1 hz
  have := decAt_le p.k p.m p.sh i
  omega
theorem Wn.turn_len {S : Wn} {p : Pt} (hp : S.next = some p) : (S.turn p).l.length + 1 = S.l.length := by
  obtain ⟨hi, _⟩ := Wn.next_some hp
  show (S.l.eraseIdx (S.at_ S.base)).length + 1 = _
  rw [List.length_eraseIdx_of_lt hi]
  omega
theorem Wn.turn_ok {S : Wn} {p : Pt} {n : Nat} (h : S.ok n) (hp : S.next = some p) : (S.turn p).ok n := by
  obtain ⟨hi, h1, h2, h3, h4, h5⟩ := Wn.next_some hp
  obtain ⟨ok, _, _⟩ := h.parts p h5
  have hl := Wn.turn_len hp
  have hb := h.base
  have hf := h.frames
  have hk := ok.k2
  have hr := h.ready
  refine ⟨fun q hq => ?_, erase_pair h.once _, by show S.base + 1 + (S.turn p).l.length ≤ n; omega, by show S.frames + p.k + 16 * (S.turn p).l.length ≤ 16 * n; omega, h.doubles, h.mended, ?_, fun z hz => ?_⟩
  · obtain ⟨j, hj, hq2⟩ := mem_erase hq
    obtain ⟨a, b, c⟩ := h.parts q (List.mem_of_getElem? hq2)
    have : q.no ≠ S.base := fun e => hj (pair_at h.once hq2 h1 (e.trans h4.symm))
    exact ⟨a, by show S.base + 1 ≤ q.no; omega, by show q.no < S.base + 1 + 32; omega⟩
  · show (S.ready ++ p.ins).length ≤ S.frames + p.k
    rw [List.length_append, Pt.ins_len]
    omega
  · rcases List.mem_append.1 hz with h6 | h6
    · exact h.vals z h6
    · exact p.ins_vals z h6
theorem Wn.tell_ok {n : Nat} : ∀ (f : Nat) (S : Wn), S.ok n → (Wn.tell f S).ok n
  | 0, _, h => h
  | f + 1, S, h => by
    unfold Wn.tell
    cases e : S.next with
    | none => exact h
    | some p => exact Wn.tell_ok f _ (Wn.turn_ok h e)
theorem Wn.tell_stuck : ∀ (f : Nat) (S : Wn), S.l.length ≤ f → (Wn.tell f S).next = none
  | 0, S, h => by
    unfold Wn.tell
    cases e : S.next with
    | none => rfl
    | some p => have := (Wn.next_some e).1; omega
  | f + 1, S, h => by
    unfold Wn.tell
    cases e : S.next with
    | none => exact e
    | some p => exact Wn.tell_stuck f _ (by have := Wn.turn_len e; omega)
theorem Wn.tell_none {S : Wn} (h : S.next = none) (f : Nat) : Wn.tell f S = S := by
  cases f with
  | zero => rfl
  | succ f => unfold Wn.tell; rw [h]
theorem Wn.tell_some {S : Wn} {p : Pt} (h : S.next = some p) : Wn.tell S.l.length S = Wn.tell (S.turn p).l.length (S.turn p) := by
  have := Wn.turn_len h
  rw [← this, Wn.tell, h]
/-- The part of a group. -/
def Wn.of (S : Wn) (no : Nat) : Option Pt := S.l[S.at_ no]?
theorem Wn.of_some {S : Wn} {no : Nat} {p : Pt} (h : S.of no = some p) : p.no = no ∧ p ∈ S.l ∧ S.at_ no < S.l.length := by
  by_cases hi : S.at_ no < S.l.length
  · obtain ⟨q, h1, h2, h3⟩ := Wn.at_some hi
    unfold Wn.of at h
    rw [h1] at h
    cases h
    exact ⟨h2, h3, hi⟩
  · unfold Wn.of at h
    rw [(Wn.at_none hi).1] at h
    cases h
theorem Wn.of_none {S : Wn} {no : Nat} (h : S.of no = none) : (∀ p ∈ S.l, p.no ≠ no) ∧ S.at_ no = S.l.length := by
  by_cases hi : S.at_ no < S.l.length
  · obtain ⟨q, h1, h2, h3⟩ := Wn.at_some hi
    unfold Wn.of at h
    rw [h1] at h
    cases h
  · exact ⟨(Wn.at_none hi).2, by have := S.at_le no; omega⟩
theorem Wn.of_mem {S : Wn} (h : S.l.Pairwise fun p q => p.no ≠ q.no) {p : Pt} (hp : p ∈ S.l) : S.of p.no = some p := by
  cases e : S.of p.no with
  | none => exact absurd rfl ((Wn.of_none e).1 p hp)
  | some q =>
    obtain ⟨h1, h2, _⟩ := Wn.of_some e
    obtain ⟨i, hi⟩ := List.mem_iff_getElem?.1 hp
    obtain ⟨j, hj⟩ := List.mem_iff_getElem?.1 h2
    have := pair_at h hi hj h1.symm
    subst this
    rw [hi] at hj
    exact hj.symm ▸ rfl
theorem Wn.of_iff {S : Wn} (h : S.l.Pairwise fun p q => p.no ≠ q.no) {no : Nat} {p : Pt} : S.of no = some p ↔ p ∈ S.l ∧ p.no = no :=
  ⟨fun e => ⟨(Wn.of_some e).2.1, (Wn.of_some e).1⟩, fun e => by rw [← e.2]; exact Wn.of_mem h e.1⟩
theorem of_ext {a b : Option Pt} (h : ∀ p, a = some p ↔ b = some p) : a = b := by
  cases a with
  | none =>
    cases b with
    | none => rfl
    | some q => exact absurd ((h q).2 rfl) (by simp)
  | some q => exact ((h q).1 rfl).symm
theorem Wn.turn_of {S : Wn} {p : Pt} {n : Nat} (h : S.ok n) (hp : S.next = some p) (no : Nat) : (S.turn p).of no = if no = S.base then none else S.of no := by
  obtain ⟨hi, h1, h2, h3, h4, h5⟩ := Wn.next_some hp
  have ho := (Wn.turn_ok h hp).once
  refine of_ext fun q => ?_
  rw [Wn.of_iff ho]
  constructor
  · rintro ⟨hq, hn⟩
    obtain ⟨j, hj, hq2⟩ := mem_erase hq
    have : q.no ≠ S.base := fun e => hj (pair_at h.once hq2 h1 (e.trans h4.symm))
    rw [if_neg (by rw [← hn]; exact this), Wn.of_iff h.once]
    exact ⟨List.mem_of_getElem? hq2, hn⟩
  · intro hq
    by_cases e : no = S.base
    · rw [if_pos e] at hq; cases hq
    · rw [if_neg e, Wn.of_iff h.once] at hq
      obtain ⟨hq, hn⟩ := hq
      obtain ⟨j, hj⟩ := List.mem_iff_getElem?.1 hq
      refine ⟨List.mem_eraseIdx_iff_getElem?.2 ⟨j, fun ej => ?_, hj⟩, hn⟩
      rw [ej, h1] at hj
      cases hj
      exact e (hn.symm.trans h4)
/-- The numbers of a shard fit their kinds. -/
structure Cd.fit (d : Cd) : Prop where
  A : d.A < 4294967296
  B : d.B < 4294967296
  b0 : d.b0 ≤ 255
  b1 : d.b1 ≤ 255
/-- What is known of a shard that comes. -/
structure Came (S : Wn) (d : Cd) : Prop where
  kind : d.kind = 2 ∨ d.kind = 3
  K1 : 1 ≤ d.K
  K2 : d.K ≤ 16
  M1 : 0 ≤ d.M
  M2 : d.M ≤ 16
  i1 : 0 ≤ d.ix
  i2 : d.ix < d.K + d.M
  len : d.len = 2
  a1 : S.base ≤ d.A
  a2 : d.A < S.base + 32
  fits : ∀ p, S.of d.A = some p → p.fst = d.B ∧ (p.k : Int) = d.K ∧ (p.m : Int) = d.M ∧ ¬ p.full ∧ hasIx p.sh d.ix = false
theorem Cd.bad_zero {d : Cd} (h : d.bad = 0) : (d.kind = 2 ∨ d.kind = 3) ∧ 1 ≤ d.K ∧ d.K ≤ 16 ∧ 0 ≤ d.M ∧ d.M ≤ 16 ∧ 0 ≤ d.ix ∧ d.ix < d.K + d.M ∧ d.len = 2 := by
  unfold Cd.bad at h
  split at h
  · cases h
  · split at h
    · cases h
    · split at h
      · cases h
      · omega
theorem Wn.far_zero {S : Wn} {no : Nat} (h : S.far no = 0) : S.base ≤ no ∧ no < S.base + 32 := by
  unfold Wn.far at h
  split at h
  · assumption
  · split at h <;> cases h
theorem Wn.came {S : Wn} {d : Cd} (h : S.code d = 0) : Came S d := by
  unfold Wn.code at h
  by_cases h1 : d.bad = 0
  · rw [if_neg (fun c => c h1)] at h
    by_cases h2 : S.far d.A = 0
    · rw [if_neg (fun c => c h2)] at h
      obtain ⟨a1, a2, a3, a4, a5, a6, a7, a8⟩ := Cd.bad_zero h1
      obtain ⟨b1, b2⟩ := Wn.far_zero h2
      refine ⟨a1, a2, a3, a4, a5, a6, a7, a8, b1, b2, fun p hp => ?_⟩
      unfold Wn.of at hp
      rw [hp] at h
      dsimp only at h
      split at h
      · cases h
      · split at h
        · cases h
        · rename_i h3 h4
          simp only [not_or, ne_eq, Decidable.not_not, Bool.not_eq_true] at h3 h4
          exact ⟨h3.1, h3.2.1, h3.2.2, h4.1, h4.2⟩
    · rw [if_pos h2] at h; exact absurd h h2
  · rw [if_pos h1] at h; exact absurd h h1
theorem hasIx_false {s : List Sd} {i : Int} (h : hasIx s i = false) : ∀ x ∈ s, (x.ix : Int) ≠ i := by
  intro x hx e
  unfold hasIx at h
  rw [List.any_eq_false] at h
  exact h x hx (by simp [e])
/-- The part with the shard that came. -/
theorem Came.part {S : Wn} {d : Cd} {n : Nat} (c : Came S d) (h : S.ok n) (hd : d.fit) : ((S.part d).add d.sd).ok ∧ ((S.part d).add d.sd).no = d.A ∧ (((S.part d).add d.sd).k : Int) = d.K ∧ (((S.part d).add d.sd).m : Int) = d.M ∧ ((S.part d).add d.sd).fst = d.B := by
  have k1 := c.K1
  have k2 := c.K2
  have m1 := c.M1
  have m2 := c.M2
  have i1 := c.i1
  have i2 := c.i2
  cases e : S.of d.A with
  | none =>
    have hp : S.part d = ⟨d.A, d.B, d.K.toNat, d.M.toNat, []⟩ := by
      unfold Wn.part
      unfold Wn.of at e
      rw [e]
      rfl
    rw [hp]
    refine ⟨⟨hd.B, by show 1 ≤ d.K.toNat; omega, by show d.K.toNat ≤ 16; omega, by show d.M.toNat ≤ 16; omega, by simp [Pt.add], by simp [Pt.add]; omega, ?_, by simp [Pt.add]⟩, rfl, by show ((d.K.toNat : Nat) : Int) = _; omega, by show ((d.M.toNat : Nat) : Int) = _; omega, rfl⟩
    intro s hs
    simp only [Pt.add, List.nil_append, List.mem_singleton] at hs
    subst hs
    exact ⟨by show d.ix.toNat < d.K.toNat + d.M.toNat; omega, hd.b0, hd.b1⟩
  | some p =>
    have hp : S.part d = p := by
      unfold Wn.part
      unfold Wn.of at e
      rw [e]
      rfl
    rw [hp]
    obtain ⟨hn, hm, _⟩ := Wn.of_some e
    obtain ⟨ok, _, _⟩ := h.parts p hm
    obtain ⟨f1, f2, f3, f4, f5⟩ := c.fits p e
    have hlt : p.sh.length < p.k := by
      have := ok.s2
      have : p.sh.length ≠ p.k := f4
      omega
    refine ⟨⟨ok.fst, ok.k1, ok.k2, ok.m2, by simp [Pt.add], by simp [Pt.add]; omega, ?_, ?_⟩, hn, f2, f3, f1⟩
    · intro s hs
      rcases List.mem_append.1 hs with h1 | h1
      · exact ok.ix s h1
      · rw [List.mem_singleton] at h1
        subst h1
        exact ⟨by show d.ix.toNat < p.k + p.m; omega, hd.b0, hd.b1⟩
    · refine List.pairwise_append.2 ⟨ok.once, List.pairwise_singleton _ _, fun x hx y hy => ?_⟩
      rw [List.mem_singleton] at hy
      subst hy
      have := hasIx_false f5 x hx
      show x.ix ≠ d.ix.toNat
      omega
theorem pairs_map {l : List Pt} : (l.Pairwise fun p q => p.no ≠ q.no) ↔ (l.map Pt.no).Pairwise (fun a b => a ≠ b) := by rw [List.pairwise_map]
theorem Came.put_once {S : Wn} {d : Cd} {n : Nat} (c : Came S d) (h : S.ok n) (hd : d.fit) : (S.put d).l.Pairwise fun p q => p.no ≠ q.no := by
  obtain ⟨_, hno, _⟩ := c.part h hd
  show (if S.at_ d.A < S.l.length then S.l.set (S.at_ d.A) ((S.part d).add d.sd) else S.l ++ [(S.part d).add d.sd]).Pairwise _
  split
  · rename_i hi
    obtain ⟨p, h1, h2, h3⟩ := Wn.at_some hi
    rw [pairs_map, List.map_set, hno]
    have : (S.l.map Pt.no).set (S.at_ d.A) d.A = S.l.map Pt.no := by
      refine List.ext_getElem? fun j => ?_
      by_cases e : S.at_ d.A = j
      · subst e
        rw [List.getElem?_set_self (by simpa using hi), List.getElem?_map, h1]
        simp [h2]
      · rw [List.getElem?_set_ne e]
    rw [this, ← pairs_map]
    exact h.once
  · rename_i hi
    refine List.pairwise_append.2 ⟨h.once, List.pairwise_singleton _ _, fun x hx y hy => ?_⟩
    rw [List.mem_singleton] at hy
    subst hy
    rw [hno]
    exact (Wn.at_none hi).2 x hx
theorem Came.put_mem {S : Wn} {d : Cd} {n : Nat} (_ : Came S d) (h : S.ok n) (q : Pt) : q ∈ (S.put d).l ↔ q = (S.part d).add d.sd ∨ (q ∈ S.l ∧ q.no ≠ d.A) := by
  show q ∈ (if S.at_ d.A < S.l.length then S.l.set (S.at_ d.A) ((S.part d).add d.sd) else S.l ++ [(S.part d).add d.sd]) ↔ _
  split
  · rename_i hi
    obtain ⟨p, h1, h2, h3⟩ := Wn.at_some hi
    constructor
    · intro hq
      obtain ⟨j, hj⟩ := List.mem_iff_getElem?.1 hq
      by_cases e : S.at_ d.A = j
      · subst e
        rw [List.getElem?_set_self hi] at hj
        exact .inl (by cases hj; rfl)
      · rw [List.getElem?_set_ne e] at hj
        exact .inr ⟨List.mem_of_getElem? hj, fun e2 => e (pair_at h.once h1 hj (h2.trans e2.symm))⟩
    · rintro (rfl | ⟨hq, hn⟩)
      · exact List.mem_set hi _
      · obtain ⟨j, hj⟩ := List.mem_iff_getElem?.1 hq
        have e : S.at_ d.A ≠ j := fun e => by
          rw [e] at h1
          rw [hj] at h1
          cases h1
          exact hn h2
        exact List.mem_of_getElem? (i := j) (by rw [List.getElem?_set_ne e]; exact hj)
  · rename_i hi
    rw [List.mem_append, List.mem_singleton]
    constructor
    · rintro (hq | hq)
      · exact .inr ⟨hq, (Wn.at_none hi).2 q hq⟩
      · exact .inl hq
    · rintro (hq | hq)
      · exact .inr hq
      · exact .inl hq.1
theorem Came.put_of {S : Wn} {d : Cd} {n : Nat} (c : Came S d) (h : S.ok n) (hd : d.fit) (no : Nat) : (S.put d).of no = if no = d.A then some ((S.part d).add d.sd) else S.of no := by
  obtain ⟨_, hno, _⟩ := c.part h hd
  refine of_ext fun q => ?_
  rw [Wn.of_iff (c.put_once h hd), c.put_mem h]
  by_cases e : no = d.A
  · rw [if_pos e]
    constructor
    · rintro ⟨rfl | ⟨_, h1⟩, h2⟩
      · rfl
      · exact absurd (h2.trans e) h1
    · intro hq
      cases hq
      exact ⟨.inl rfl, hno.trans e.symm⟩
  · rw [if_neg e, Wn.of_iff h.once]
    constructor
    · rintro ⟨rfl | ⟨h0, h1⟩, h2⟩
      · exact absurd (h2.symm.trans hno) e
      · exact ⟨h0, h2⟩
    · rintro ⟨h1, h2⟩
      exact ⟨.inr ⟨h1, by rw [h2]; exact e⟩, h2⟩
theorem Came.put_ok {S : Wn} {d : Cd} {n : Nat} (c : Came S d) (h : S.ok n) (hd : d.fit) : (S.put d).ok (n + 1) := by
  obtain ⟨ok, hno, _⟩ := c.part h hd
  have hl : (S.put d).l.length ≤ S.l.length + 1 := by
    show (if S.at_ d.A < S.l.length then S.l.set (S.at_ d.A) ((S.part d).add d.sd) else S.l ++ [(S.part d).add d.sd]).length ≤ _
    split
    · rw [List.length_set]; omega
    · rw [List.length_append, List.length_singleton]; omega
  have hb := h.base
  have hf := h.frames
  refine ⟨fun q hq => ?_, c.put_once h hd, by show S.base + (S.put d).l.length ≤ n + 1; omega, by show S.frames + 16 * (S.put d).l.length ≤ 16 * (n + 1); omega, Nat.le_succ_of_le h.doubles, ?_, h.ready, h.vals⟩
  · rcases (c.put_mem h q).1 hq with rfl | ⟨h1, _⟩
    · exact ⟨ok, by rw [hno]; exact c.a1, by rw [hno]; exact c.a2⟩
    · exact h.parts q h1
  · have hm := h.mended
    show (if ((S.part d).add d.sd).full ∧ hasPar ((S.part d).add d.sd).sh ((S.part d).add d.sd).k = true then S.mended + 1 else S.mended) ≤ n + 1
    split
    · exact Nat.succ_le_succ hm
    · exact Nat.le_succ_of_le hm
theorem Came.put_next {S : Wn} {d : Cd} {n : Nat} (c : Came S d) (h : S.ok n) (hd : d.fit) (hs : S.next = none) (hf : ¬ ((S.part d).add d.sd).full) : (S.put d).next = none := by
  cases e : (S.put d).next with
  | none => rfl
  | some p =>
    obtain ⟨h0, h1, h2, h3, h4, h5⟩ := Wn.next_some e
    have ho : (S.put d).of S.base = some p := h1
    rw [c.put_of h hd] at ho
    by_cases eb : S.base = d.A
    · rw [if_pos eb] at ho
      cases ho
      exact absurd h2 hf
    · rw [if_neg eb] at ho
      exact absurd ⟨h2, h3⟩ (Wn.next_none hs p ho)
theorem Wn.take_ok {S : Wn} {d : Cd} {n : Nat} (h : S.ok n) (hd : d.fit) : (S.take d).ok (n + 1) := by
  unfold Wn.take
  split
  · exact ⟨h.parts, h.once, Nat.le_succ_of_le h.base, by have := h.frames; show S.frames + 16 * S.l.length ≤ _; omega, Nat.succ_le_succ h.doubles, Nat.le_succ_of_le h.mended, h.ready, h.vals⟩
  · split
    · exact h.more (Nat.le_succ n)
    · rename_i h1 h2
      exact Wn.tell_ok _ _ ((Wn.came (Decidable.not_not.1 h2)).put_ok h hd)
theorem Wn.take_stuck {S : Wn} {d : Cd} (h : S.next = none) : (S.take d).next = none := by
  unfold Wn.take
  split
  · exact h
  · split
    · exact h
    · exact Wn.tell_stuck _ _ (Nat.le_refl _)
/-- The number of the group that a slot is for. -/
def Wn.num (S : Wn) (s : Nat) : Nat := S.base + (s + 32 - S.base % 32) % 32
theorem Wn.num_of {S : Wn} {no : Nat} (h1 : S.base ≤ no) (h2 : no < S.base + 32) : S.num (no % 32) = no := by unfold Wn.num; omega
theorem Wn.num_mod {S : Wn} {s : Nat} (h : s < 32) : S.num s % 32 = s ∧ S.base ≤ S.num s ∧ S.num s < S.base + 32 := by unfold Wn.num; omega
/-- What a slot holds. -/
def Wn.slot (S : Wn) (s : Nat) : Option Pt := S.of (S.num s)
end Go.Proofs.Ytjcbcdjfhcnhcaa
