/-
  Own text: the law RsDecodes, walked.
-/
import Derived.Test.YtpofhfocmelgbaaRDec6
namespace Go.Proofs.Ytpofhfocmelgbaa
open Go.RowKit

set_option maxRecDepth 100000 in
set_option maxHeartbeats 4000000 in
theorem dec6_walk (k m : Int) (n cap : Nat) (a : Option Addr) (I : Nat → Int) (A : Nat → Option Addr) (L C : Nat → Nat) (X : Nat → List Int) (w : World) (_ : (Lit.int .i64 k).wf = true) (_ : (Lit.int .i64 m).wf = true) (hs : ShardsIn w a n cap I A L C X) :
    Calls Try.prog 5 #[.int .i64 k, .int .i64 m, .slice a n cap] w fun e w' => e = .returned (.bool true) ∧ Below w.heap.size w w' := by
  have HAW := Lib.hid (fun w => awake6_any w)
  have HSH := Lib.hid hs
  have hn63 := Nat.le_trans hs.fits hs.top
  clear hs
  go_enter Try.func5, Try.ntmps5
  go_wp2_with (go_at_call 8; refine (HAW.out _).mono ?_; rintro e w1 ⟨rfl, hb⟩; have HB1 := Lib.hid hb; clear hb)
  go_loopw [7, 8] (fun v i wr => ∃ (q : Nat) (A0 : Option Addr) (C0 : Nat), q ≤ n ∧ q ≤ 50 ∧ i = .int .i64 (q : Nat) ∧ v = .slice A0 q C0 ∧ Hid (OwnS wr w.heap.size (.slice A0 q C0) q (datR A L C q)) ∧ Hid (Below w.heap.size w wr)) (fun _ i _ => n - (intOf i).toNat)
  case atStart => exact ⟨0, none, 0, by omega, by omega, rfl, rfl, Lib.hid (OwnS.none _ _), HB1⟩
  case round =>
    clear HB1
    obtain ⟨q, A0, C0, hq, hq50, rfl, rfl, HO, HB⟩ := hrel
    obtain ⟨wo, ho⟩ : ∃ wo, wo = wr := ⟨_, rfl⟩
    subst ho
    by_cases hlt : q < n
    · have q0 : (0 : Int) ≤ q := by omega
      have q1 : (q : Int) < n := by omega
      by_cases h50 : q < 50
      · have q2 : (q : Int) < 50 := by omega
        obtain ⟨lb, lo, rfl, hlb, c1, c2⟩ := (HSH.out.below HB.out (Nat.le_refl _)).cells q hlt
        have HXA : Hid (∀ o, OwnS (wo.alloc o) w.heap.size (.slice A0 q C0) q (datR A L C q)) := Lib.hid (fun o => row_alloc HO.out o)
        have HNA : Hid (∀ o, w.heap.size ≤ (wo.alloc o).heap.size) := Lib.hid (fun o => Nat.le_trans HB.out.size (Nat.le_of_lt (alloc_lt _ _)))
        have HLT : Hid (q + 1 ≤ 100000) := Lib.hid (by omega)
        go_wp2_with ((with_reducible refine wpList_append_sl (w := wo.alloc _) rfl (.tmp 33) (.tmp 39) rfl w.heap.size _ q rfl (datR A L C q) (HXA.out _) wo.heap.size rfl (A q) (L q) (C q) (new_box wo _ _) HLT.out (HNA.out _) ?_); intro v3 w3 hx3 hg3; obtain ⟨A3, C3, rfl, _⟩ := row_slice hx3; have HX3 := Lib.hid hx3; have HB3 := Lib.hid (row_grown (row_alloc HO.out _) hg3 (b_put HB.out _) (Nat.le_refl _) (HNA.out _)); clear hx3 hg3)
        go_roundw
        case rel => exact ⟨q + 1, A3, C3, by omega, by omega, by go_num, rfl, by rw [datR_succ]; exact HX3, HB3⟩
        case measure => simp [intOf]; omega
      · -- too many
        have q2 : ¬ (q : Int) < 50 := by omega
        have hn40 : (40 : Int) < n := by omega
        by_cases hsm : 1 ≤ k ∧ 0 ≤ m ∧ k ≤ 20 ∧ m ≤ 20
        · obtain ⟨K, rfl⟩ : ∃ n : Nat, k = n := ⟨k.toNat, by omega⟩
          obtain ⟨M, rfl⟩ : ∃ n : Nat, m = n := ⟨m.toNat, by omega⟩
          have HS := Lib.hid (fun w => small6_yes K M (by omega) (by omega) (by omega) w)
          clear hsm
          go_wp2_with (go_at_call 13; refine (HS.out _).mono ?_; rintro e w2 ⟨rfl, rfl⟩)
          go_ret
          exact ⟨rfl, HB.out⟩
        · have HS := Lib.hid (fun w => small6_no k m hsm w)
          clear hsm
          go_wp2_with (go_at_call 13; refine (HS.out _).mono ?_; rintro e w2 ⟨rfl, rfl⟩)
          go_ret
          exact ⟨rfl, HB.out⟩
    · obtain rfl : q = n := by omega
      by_cases hsm : 1 ≤ k ∧ 0 ≤ m ∧ k ≤ 20 ∧ m ≤ 20
      case neg =>
        have HS := Lib.hid (fun w => small6_no k m hsm w)
        clear hsm
        go_wp2_with (go_at_call 13; refine (HS.out _).mono ?_; rintro e w2 ⟨rfl, rfl⟩)
        go_ret
        exact ⟨rfl, HB.out⟩
      case pos =>
      obtain ⟨K, rfl⟩ : ∃ n : Nat, k = n := ⟨k.toNat, by omega⟩
      obtain ⟨M, rfl⟩ : ∃ n : Nat, m = n := ⟨m.toNat, by omega⟩
      have hK1 : 1 ≤ K := by omega
      have hK20 : K ≤ 20 := by omega
      have hM20 : M ≤ 20 := by omega
      have HS := Lib.hid (fun w => small6_yes K M hK1 hK20 hM20 w)
      clear hsm
      by_cases h40 : 40 < q
      case pos =>
        have h41 : (40 : Int) < q := by omega
        go_wp2_with (go_at_call 13; refine (HS.out _).mono ?_; rintro e w2 ⟨rfl, rfl⟩)
        go_ret
        exact ⟨rfl, HB.out⟩
      case neg =>
      have h41 : ¬ (40 : Int) < q := by omega
      have hcol : ColsIn wo A0 q C0 A L C X := OwnS.cols A L C X HO.out (fun i hi => datR_get hi) (fun i hi => (HSH.out.below HB.out (Nat.le_refl _)).data i hi)
      have HFW := Lib.hid (few6_any q C0 A0 A L C X wo hcol)
      have HN := Lib.hid (fun w => new_any w)
      have HC := Lib.hid (fun t w ht => code_some t K M hK1 (by omega) w ht)
      unfold Coded at HC
      unfold FewTo at HFW
      clear hcol
      by_cases hok : OkList I L K (K + M) q
      case neg =>
        obtain ⟨z, hz, hD, hF, hC⟩ := bad_all K M q cap a I A L C X (by omega) (by omega) hok
        have HD := Lib.hid hD
        have HF := Lib.hid hF
        have HR := Lib.hid (fun w hs => rdec_bad K M q cap a z hz w (hC w hs))
        have HSN := Lib.hid (fun w => same_nothing w)
        have hz0 : (z != 0) = true := by rcases hz with rfl | rfl | rfl <;> decide
        unfold Barred at HD HR
        clear hD hF hC hz hok
        go_wp2_with first
          | (go_at_call 13; refine (HS.out _).mono ?_; rintro e w2 ⟨rfl, rfl⟩)
          | (go_at_call 16; refine HFW.out.mono ?_; rintro e w2 ⟨v, rfl, hv, rfl⟩; clear hv; cases v)
          | (go_at_call 10; refine (HN.out _).mono ?_; rintro e w3 ⟨rfl, ht, hb⟩; have HT := Lib.hid ht; have HB3 := Lib.hid (b_on HB.out hb); clear ht hb)
          | (go_at_call 9; refine (HC.out _ _ HT.out).mono ?_; rintro e w4 ⟨b, rfl, _, hc, hb⟩; have HI := Lib.hid hc; have HB4 := Lib.hid (b_on HB3.out hb); clear hc hb)
          | (go_at_call 20; refine (HD.out _ _ _ HI.out (HSH.out.below HB4.out (Nat.le_refl _))).mono ?_; rintro e w5 ⟨rfl, hb⟩; have HI5 := Lib.hid (HI.out.below hb); have HB5 := Lib.hid (b_on HB4.out hb); clear hb)
          | (go_at_call 21; refine (HR.out _ (HSH.out.below HB5.out (Nat.le_refl _))).mono ?_; rintro e w6 ⟨rfl, hb⟩; have HI6 := Lib.hid (HI5.out.below hb); have HB6 := Lib.hid (b_on HB5.out hb); clear hb)
          | (go_at_call 19; refine (HSN.out _).mono ?_; rintro e w7 ⟨rfl, q7, hw⟩; have HI7 : Hid (IsCode w7 b _ K M) := Lib.hid (by rw [hw]; exact HI6.out.below (below_drewN (Below.refl _ _) q7)); have HB7 : Hid (Below w.heap.size w w7) := Lib.hid (by rw [hw]; exact below_drewN HB6.out q7); clear hw)
          | (go_at_call 22; refine (HF.out _ _ _ HI7.out (HSH.out.below HB7.out (Nat.le_refl _))).mono ?_; rintro e w8 ⟨rfl, hb⟩; have HB8 := Lib.hid (b_on HB7.out hb); clear hb)
        · go_ret
          exact ⟨rfl, HB.out⟩
        · go_ret
          exact ⟨rfl, HB8.out⟩
      case pos =>
        have hlen := ordL_len q hok.1
        have hl0 : L (std I q (K + M) 0) ≤ 1200 := by
          have := hok.2.1
          exact (((even_perm hok.1).2 hok.2.2) 0 (by omega)).2
        obtain ⟨v, hv1, hv2⟩ : ∃ v : Bool, (v = true → FitL I L X K (K + M) q) ∧ (v = false → ¬ FitL I L X K (K + M) q) := by
          by_cases hf : FitL I L X K (K + M) q
          · exact ⟨true, fun _ => hf, fun h => nomatch h⟩
          · exact ⟨false, (fun h => nomatch h), fun _ => hf⟩
        have HD := Lib.hid (fun b t w (h : IsCode w b t K M) (hs : ShardsIn w a q cap I A L C X) => good_decode hok h hs)
        have HF := Lib.hid (fun b t w (h : IsCode w b t K M) (hs : ShardsIn w a q cap I A L C X) => good_fits hok h hs v hv1 hv2)
        have HR := Lib.hid (fun w (hs : ShardsIn w a q cap I A L C X) => rdec_good K M q cap a I A L C X hK1 (by omega) (by omega) hok w hs)
        have HLE := Lib.hid (fun w (hs : ShardsIn w a q cap I A L C X) => rleast_any K (K + M) q cap (by omega) hok.2.1 a I A L C X w hs hok.1)
        have HAT := Lib.hid (fun w A1 A2 C1 C2 h1 h2 x hx => at_least (w := w) (A1 := A1) (A2 := A2) (C1 := C1) (C2 := C2) (A := A) (C := C) (X := X) hok hK1 (by omega) h1 h2 x hx)
        have HSA := Lib.hid (fun w w' h g l A0 C0 base E hl hd hc ho hb => same_applied (w := w) (w' := w') (h := h) (g := g) (m := K) (len := L (std I q (K + M) 0)) (l := l) (A0 := A0) (C0 := C0) (base := base) (E := E) hl hd hc ho hb (by omega) hl0)
        have HVF : Hid (v = true ↔ ∀ i, i < q → ∀ c, c < L (std I q (K + M) 0) → decE I X K (K + M) q (I i).toNat c = co (X i) c) := Lib.hid (by
          rw [← fit_all hok.1]
          cases v with
          | true => exact ⟨fun _ => hv1 rfl, fun _ => rfl⟩
          | false => exact ⟨(fun h => nomatch h), fun h => absurd h (hv2 rfl)⟩)
        have HEV : Hid (∀ i, i < q → L i = L (std I q (K + M) 0)) := Lib.hid (fun i hi => by
          have h1 := (hok.2.2 i hi).1
          have h2 := (hok.2.2 _ (std_spec (I := I) (n := q) (V := K + M) (q := 0) (by omega)).1).1
          exact h1.trans h2.symm)
        have HIX : Hid (∀ i, i < q → 0 ≤ I i ∧ I i < 256) := Lib.hid (fun i hi => by
          have := hok.1 i hi
          omega)
        generalize decE I X K (K + M) q = E at *
        generalize L (std I q (K + M) 0) = len at *
        unfold AppliedTo at HD
        unfold Listed at HR
        unfold Leasts at HLE
        unfold Bytesd at HAT
        clear hok hv1 hv2 hlen
        go_wp2_with first
          | (go_at_call 13; refine (HS.out _).mono ?_; rintro e w2 ⟨rfl, rfl⟩)
          | (go_at_call 16; refine HFW.out.mono ?_; rintro e w2 ⟨vf, rfl, hv, rfl⟩; clear hv; cases vf)
          | (go_at_call 10; refine (HN.out _).mono ?_; rintro e w3 ⟨rfl, ht, hb⟩; have HT := Lib.hid ht; have HB3 := Lib.hid (b_on HB.out hb); clear ht hb)
          | (go_at_call 9; refine (HC.out _ _ HT.out).mono ?_; rintro e w4 ⟨b, rfl, _, hc, hb⟩; have HI := Lib.hid hc; have HB4 := Lib.hid (b_on HB3.out hb); clear hc hb)
          | (go_at_call 20; refine (HD.out _ _ _ HI.out (HSH.out.below HB4.out (Nat.le_refl _))).mono ?_; rintro e w5 ⟨h5, g5, l5, rfl, _, _, hl, hd, hc, hb⟩; have HL5 := Lib.hid hl; have HD5 := Lib.hid hd; have HC5 := Lib.hid hc; have HI5 := Lib.hid (HI.out.below hb); have HB5 := Lib.hid (b_on HB4.out hb); clear hl hd hc hb)
          | (go_at_call 21; refine (HR.out _ (HSH.out.below HB5.out (Nat.le_refl _))).mono ?_; rintro e w6 ⟨A6, C6, rfl, ho, hb⟩; have HO6 := Lib.hid ho; have HB56 := Lib.hid hb; have HI6 := Lib.hid (HI5.out.below hb); have HB6 := Lib.hid (b_on HB5.out hb); clear ho hb)
          | (go_at_call 19; refine (HSA.out w5 w6 h5 g5 l5 A6 C6 _ E HL5.out HD5.out HC5.out HO6.out HB56.out).mono ?_; rintro e w7 ⟨rfl, q7, hw⟩; have HI7 : Hid (IsCode w7 b _ K M) := Lib.hid (by rw [hw]; exact HI6.out.below (below_drewN (Below.refl _ _) q7)); have HB7 : Hid (Below w.heap.size w w7) := Lib.hid (by rw [hw]; exact below_drewN HB6.out q7); clear hw)
          | (go_at_call 22; refine (HF.out _ _ _ HI7.out (HSH.out.below HB7.out (Nat.le_refl _))).mono ?_; rintro e w8 ⟨rfl, hb⟩; have HB8 := Lib.hid (b_on HB7.out hb); clear hb)
          | (go_at_call 23; refine (HLE.out _ (HSH.out.below HB8.out (Nat.le_refl _))).mono ?_; rintro e w9 ⟨A1, C1, A2, C2, rfl, h1, h2, hb⟩; have HP9 := Lib.hid h1; have HQ9 := Lib.hid h2; have HB9 := Lib.hid (b_on HB8.out hb); clear h1 h2 hb)
        · go_ret
          exact ⟨rfl, HB.out⟩
        · clear HS HFW HN HC HD HF HR HLE HSA HT HI HI5 HI6 HI7 HL5 HD5 HC5 HO6 HB56 HB3 HB4 HB5 HB6 HB7 HB8
          go_loopw [19, 20] (fun o i wr => ∃ (j : Nat) (bo : Bool), j ≤ q ∧ i = .int .i64 (j : Nat) ∧ o = .bool bo ∧ Hid (bo = true ↔ ∀ i, i < j → ∀ c, c < len → E (I i).toNat c = co (X i) c) ∧ Hid (Below w9.heap.size w9 wr)) (fun _ i _ => q - (intOf i).toNat)
          case atStart => exact ⟨0, true, by omega, rfl, rfl, Lib.hid ⟨fun _ i hi => absurd hi (by omega), fun _ => rfl⟩, Lib.hid (Below.refl _ _)⟩
          case round =>
            obtain ⟨j, bo, hj, rfl, rfl, HBO, HB'⟩ := hrel
            obtain ⟨wi, hwi⟩ : ∃ wi, wi = wr := ⟨_, rfl⟩
            subst hwi
            by_cases hlj : j < q
            · have j0 : (0 : Int) ≤ j := by omega
              have j1 : (j : Int) < q := by omega
              cases bo with
              | false =>
                have HNO : Hid (¬ ∀ i, i < j → ∀ c, c < len → E (I i).toNat c = co (X i) c) := Lib.hid (fun h => nomatch HBO.out.2 h)
                go_wp2
                go_quiet (fail)
                go_wp2
                go_roundw
                case rel => exact ⟨j + 1, false, by omega, by go_num, rfl, Lib.hid ⟨(fun h => nomatch h), fun h => absurd (fun i hi => h i (by omega)) HNO.out⟩, Lib.hid (below_drewN HB'.out _)⟩
                case measure => simp [intOf]; omega
              | true =>
                have HYES : Hid (∀ i, i < j → ∀ c, c < len → E (I i).toNat c = co (X i) c) := Lib.hid (HBO.out.1 rfl)
                have HSJ := Lib.hid (HSH.out.below (b_on HB9.out HB'.out) (Nat.le_refl _))
                obtain ⟨lb, lo, rfl, hlb, c1, c2⟩ := HSJ.out.cells j hlj
                have hdj := HSJ.out.data j hlj
                obtain ⟨hx0, hx1⟩ := HIX.out j hlj
                obtain ⟨x, hx⟩ : ∃ x : Nat, I j = x := ⟨(I j).toNat, by omega⟩
                have HXE : Hid ((I j).toNat = x) := Lib.hid (by rw [hx]; exact Int.toNat_natCast x)
                rw [HEV.out j hlj] at c2 hdj
                rw [hx] at c1
                have HBX := Lib.hid (show By (X j) from hdj.bytes.range)
                have HLX := Lib.hid hdj.bytes.size
                have HSD := Lib.hid (fun w' (h : Below wi.heap.size wi w') => (hdj.below h (Nat.le_refl _)).bytes.str (C j))
                have HAJ := Lib.hid (HAT.out wi.drew A1 A2 C1 C2 ((HP9.out.below HB'.out (Nat.le_refl _)).below (Below.refl _ _).drew (Nat.le_refl _)) ((HQ9.out.below HB'.out (Nat.le_refl _)).below (Below.refl _ _).drew (Nat.le_refl _)) x (by omega))
                have HS : Hid (∀ w', Below wi.heap.size wi w' → Below wi.heap.size wi w' ∧ w'.cell? ⟨lb, lo + j * 2, none⟩ = some (.int .i64 x) ∧ w'.cell? ⟨lb, lo + j * 2 + 1, none⟩ = some (.slice (A j) len (C j)) ∧ (convert 31 9 (.slice (A j) len (C j))).run Try.prog w' = .ok (.string (strOfNums (X j))) w') := Lib.hid (fun w' h =>
                  ⟨h, (h.cell (p := ⟨lb, lo + j * 2, none⟩) hlb).trans c1, (h.cell (p := ⟨lb, lo + j * 2 + 1, none⟩) hlb).trans c2, HSD.out w' h⟩)
                generalize hsx : strOfNums (X j) = sx at *
                have HSX := Lib.hid hsx
                clear c1 c2 hdj hx hx0 hx1 hsx HSD
                have cc : Below wi.heap.size wi wi.drew := (Below.refl _ _).drew
                go_wp2
                go_region_held (fun w' => Below wi.heap.size wi w' ∧ w'.cell? ⟨lb, lo + j * 2, none⟩ = some (.int .i64 x) ∧ w'.cell? ⟨lb, lo + j * 2 + 1, none⟩ = some (.slice (A j) len (C j)) ∧ (convert 31 9 (.slice (A j) len (C j))).run Try.prog w' = .ok (.string sx) w')
                  (first
                    | exact HS.out _ cc
                    | exact HS.out _ (Below.refl _ _)
                    | fail "keep")
                  (first
                    | (go_at_call 24; (with_reducible refine HAJ.out.mono ?_); rintro e w3 ⟨g3, l3, rfl, hg3, hd3, hc3, hb⟩; have kc := (hd3.sl (by omega)).bytes.str len; generalize hsl : strOfNums l3 = sl at kc; replace cc := b_on cc hb; clear hb hg3)
                    | fail "arm")
                all_goals
                  have HF := Lib.hid (And.intro hd3 (And.intro hc3 (And.intro hsl cc)))
                  clear hd3 hc3 hsl cc kc
                  go_wp2
                  go_roundw
                  case rel =>
                    refine ⟨j + 1, _, by omega, by go_num, rfl, Lib.hid ?_, Lib.hid (b_on HB'.out HF.out.2.2.2)⟩
                    rw [← HF.out.2.2.1, ← HSX.out, str_eq HF.out.1.by_ HBX.out]
                    constructor
                    · intro h i hi c hc
                      by_cases e : i = j
                      · have h2 : l3 = X j := of_decide_eq_true h
                        rw [e, HXE.out, ← HF.out.2.1 c hc, h2]
                      · exact HYES.out i (by omega) c hc
                    · intro h
                      refine decide_eq_true (list_co HF.out.1.by_ HBX.out (HF.out.1.size.trans HLX.out.symm) (fun c hc => ?_))
                      rw [HF.out.1.size] at hc
                      rw [HF.out.2.1 c hc, ← HXE.out]
                      exact h j (by omega) c hc
                  case measure => simp [intOf]; omega
            · obtain rfl : j = q := by omega
              have hvo : v = bo := by
                have h1 := HVF.out
                have h2 := HBO.out
                cases v with
                | true => exact (h2.2 (h1.1 rfl)).symm
                | false =>
                  cases bo with
                  | false => rfl
                  | true => exact (nomatch h1.2 (h2.1 rfl))
              subst hvo
              have hbb : (v == v) = true := by cases v <;> rfl
              go_wp2
              go_ret
              exact ⟨rfl, b_on HB9.out HB'.out⟩
end Go.Proofs.Ytpofhfocmelgbaa
