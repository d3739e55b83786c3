/-
  Own text: the document's Decode, walked; which lists are in order.
-/
import Derived.Test.YtpofhfocmelgbaaLeast6
import Derived.Test.YtpofhfocmelgbaaEncL6
namespace Go.Proofs.Ytpofhfocmelgbaa
open Go.RowKit

theorem even_perm {I : Nat → Int} {N n : Nat} {L : Nat → Nat} (hg : GoodIx I N n) : EvenL n (fun q => L (std I n N q)) ↔ EvenL n L := by
  have hlen := ordL_len n hg
  constructor
  · intro h j hj
    obtain ⟨q, hq, _, e⟩ := nth_of hg hj
    obtain ⟨q0, hq0, _, e0⟩ := nth_of hg (show 0 < n by omega)
    have h1 := h q (by omega)
    have h2 := h q0 (by omega)
    dsimp only at h1 h2
    rw [e] at h1
    rw [e0] at h2
    exact ⟨h1.1.trans h2.1.symm, h1.2⟩
  · intro h q hq
    have h1 := h _ (std_spec (I := I) (n := n) (V := N) (q := q) (by omega)).1
    have h2 := h _ (std_spec (I := I) (n := n) (V := N) (q := 0) (by omega)).1
    exact ⟨h1.1.trans h2.1.symm, h1.2⟩
theorem fit_all {I : Nat → Int} {L : Nat → Nat} {X : Nat → List Int} {k N n : Nat} (hg : GoodIx I N n) : FitL I L X k N n ↔ ∀ i, i < n → ∀ c, c < L (std I n N 0) → decE I X k N n (I i).toNat c = co (X i) c := by
  have hlen := ordL_len n hg
  constructor
  · intro h i hi c hc
    obtain ⟨q, hq, e1, e2⟩ := nth_of hg hi
    have := h q (by omega) c hc
    rw [e2] at this
    rw [← e1, Int.toNat_natCast]
    exact this
  · intro h q hq c hc
    obtain ⟨h1, h2, _⟩ := std_spec (I := I) (n := n) (V := N) (q := q) (by omega)
    have := h _ h1 c hc
    rwa [h2, Int.toNat_natCast] at this
/-- All in order? -/
def OkList (I : Nat → Int) (L : Nat → Nat) (k N n : Nat) : Prop := GoodIx I N n ∧ k ≤ n ∧ EvenL n L
/-- Where it isn't: all say the same. -/
theorem bad_all (k m n cap : Nat) (a : Option Addr) (I : Nat → Int) (A : Nat → Option Addr) (L C : Nat → Nat) (X : Nat → List Int) (hkm : k + m ≤ 255) (hn : n ≤ 1000) (h : ¬ OkList I L k (k + m) n) : ∃ z : Int, (z = 61 ∨ z = 62 ∨ z = 63) ∧
    (∀ b t w, IsCode w b t k m → ShardsIn w a n cap I A L C X → Calls Try.prog 20 #[.pointer (some ⟨b, 0, none⟩), .slice a n cap] w (Barred z w)) ∧
    (∀ b t w, IsCode w b t k m → ShardsIn w a n cap I A L C X → Calls Try.prog 22 #[.pointer (some ⟨b, 0, none⟩), .slice a n cap] w fun e w' => e = .returned (.tuple #[.bool false, .int .i64 z]) ∧ Below w.heap.size w w') ∧
    (∀ w, ShardsIn w a n cap I A L C X → Calls Try.prog 37 #[.int .i64 k, .int .i64 m, .slice a n cap] w fun e w' => e = .returned (.int .i64 z) ∧ Below w.heap.size w w') := by
  by_cases hg : GoodIx I (k + m) n
  case neg =>
    refine ⟨62, .inr (.inl rfl), fun b t w h hs => ?_, fun b t w h hs => ?_, fun w hs => ?_⟩
    · refine (code_decode b t k m n cap a I A L C X w h hs).mono fun e w' ho => ?_
      cases ho with
      | index _ he => exact he
      | few h _ _ => exact absurd h hg
      | length h _ _ _ => exact absurd h hg
      | good h _ _ _ => exact absurd h hg
    · refine (code_fits b t k m n cap a I A L C X w h hs).mono fun e w' ho => ?_
      cases ho with
      | index _ he hb => exact ⟨he, hb⟩
      | few h _ _ _ => exact absurd h hg
      | length h _ _ _ _ => exact absurd h hg
      | good h _ _ _ _ _ _ _ => exact absurd h hg
    · refine (rcheck_any k m n cap hkm a I A L C X w hs hn).mono fun e w' ho => ?_
      cases ho with
      | index _ he hb => exact ⟨he, hb⟩
      | few h _ _ _ => exact absurd h hg
      | length h _ _ _ _ => exact absurd h hg
      | good h _ _ _ _ => exact absurd h hg
  by_cases hnk : n < k
  case pos =>
    refine ⟨63, .inr (.inr rfl), fun b t w h hs => ?_, fun b t w h hs => ?_, fun w hs => ?_⟩
    · refine (code_decode b t k m n cap a I A L C X w h hs).mono fun e w' ho => ?_
      cases ho with
      | index h _ => exact absurd hg h
      | few _ _ he => exact he
      | length _ h _ _ => omega
      | good _ h _ _ => omega
    · refine (code_fits b t k m n cap a I A L C X w h hs).mono fun e w' ho => ?_
      cases ho with
      | index h _ _ => exact absurd hg h
      | few _ _ he hb => exact ⟨he, hb⟩
      | length _ h _ _ _ => omega
      | good _ h _ _ _ _ _ _ => omega
    · refine (rcheck_any k m n cap hkm a I A L C X w hs hn).mono fun e w' ho => ?_
      cases ho with
      | index h _ _ => exact absurd hg h
      | few _ _ he hb => exact ⟨he, hb⟩
      | length _ h _ _ _ => omega
      | good _ h _ _ _ => omega
  have hl : ¬ EvenL n L := fun hl => h ⟨hg, by omega, hl⟩
  have hl2 : ¬ EvenL n (fun q => L (std I n (k + m) q)) := fun h => hl ((even_perm hg).1 h)
  refine ⟨61, .inl rfl, fun b t w h hs => ?_, fun b t w h hs => ?_, fun w hs => ?_⟩
  · refine (code_decode b t k m n cap a I A L C X w h hs).mono fun e w' ho => ?_
    cases ho with
    | index h _ => exact absurd hg h
    | few _ h _ => omega
    | length _ _ _ he => exact he
    | good _ _ h _ => exact absurd h hl2
  · refine (code_fits b t k m n cap a I A L C X w h hs).mono fun e w' ho => ?_
    cases ho with
    | index h _ _ => exact absurd hg h
    | few _ h _ _ => omega
    | length _ _ _ he hb => exact ⟨he, hb⟩
    | good _ _ h _ _ _ _ _ => exact absurd h hl2
  · refine (rcheck_any k m n cap hkm a I A L C X w hs hn).mono fun e w' ho => ?_
    cases ho with
    | index h _ _ => exact absurd hg h
    | few _ h _ _ => omega
    | length _ _ _ he hb => exact ⟨he, hb⟩
    | good _ _ h _ _ => exact absurd h hl
/-- Where it is. -/
theorem good_decode {b t k m n cap : Nat} {a : Option Addr} {I : Nat → Int} {A : Nat → Option Addr} {L C : Nat → Nat} {X : Nat → List Int} {w : World} (ok : OkList I L k (k + m) n) (h : IsCode w b t k m) (hs : ShardsIn w a n cap I A L C X) :
    Calls Try.prog 20 #[.pointer (some ⟨b, 0, none⟩), .slice a n cap] w (AppliedTo k (L (std I n (k + m) 0)) (decE I X k (k + m) n) w) :=
  (code_decode b t k m n cap a I A L C X w h hs).mono fun e w' ho => by
    cases ho with
    | index h _ => exact absurd ok.1 h
    | few _ h _ => have := ok.2.1; omega
    | length _ _ h _ => exact absurd ((even_perm ok.1).2 ok.2.2) h
    | good _ _ _ he => exact he
theorem good_fits {b t k m n cap : Nat} {a : Option Addr} {I : Nat → Int} {A : Nat → Option Addr} {L C : Nat → Nat} {X : Nat → List Int} {w : World} (ok : OkList I L k (k + m) n) (h : IsCode w b t k m) (hs : ShardsIn w a n cap I A L C X) (v : Bool) (hv1 : v = true → FitL I L X k (k + m) n) (hv2 : v = false → ¬ FitL I L X k (k + m) n) :
    Calls Try.prog 22 #[.pointer (some ⟨b, 0, none⟩), .slice a n cap] w fun e w' => e = .returned (.tuple #[.bool v, .int .i64 0]) ∧ Below w.heap.size w w' :=
  (code_fits b t k m n cap a I A L C X w h hs).mono fun e w' ho => by
    cases ho with
    | index h _ _ => exact absurd ok.1 h
    | few _ h _ _ => have := ok.2.1; omega
    | length _ _ h _ _ => exact absurd ((even_perm ok.1).2 ok.2.2) h
    | good _ _ _ v2 a1 a2 he hb =>
      have e : v2 = v := by
        cases v with
        | true =>
          cases v2 with
          | true => rfl
          | false => exact absurd (hv1 rfl) (a2 rfl)
        | false =>
          cases v2 with
          | false => rfl
          | true => exact absurd (a1 rfl) (hv2 rfl)
      rw [e] at he
      exact ⟨he, hb⟩
theorem good_check {k m n cap : Nat} {a : Option Addr} {I : Nat → Int} {A : Nat → Option Addr} {L C : Nat → Nat} {X : Nat → List Int} {w : World} (ok : OkList I L k (k + m) n) (hkm : k + m ≤ 255) (hn : n ≤ 1000) (hs : ShardsIn w a n cap I A L C X) :
    Calls Try.prog 37 #[.int .i64 k, .int .i64 m, .slice a n cap] w fun e w' => e = .returned (.int .i64 0) ∧ Below w.heap.size w w' :=
  (rcheck_any k m n cap hkm a I A L C X w hs hn).mono fun e w' ho => by
    cases ho with
    | index h _ _ => exact absurd ok.1 h
    | few _ h _ _ => have := ok.2.1; omega
    | length _ _ h _ _ => exact absurd ok.2.2 h
    | good _ _ _ he hb => exact ⟨he, hb⟩
theorem rdec_bad (k m n cap : Nat) (a : Option Addr) (z : Int) (hz : z = 61 ∨ z = 62 ∨ z = 63) (w : World) (hc : Calls Try.prog 37 #[.int .i64 k, .int .i64 m, .slice a n cap] w fun e w' => e = .returned (.int .i64 z) ∧ Below w.heap.size w w') :
    Calls Try.prog 21 #[.int .i64 k, .int .i64 m, .slice a n cap] w (Barred z w) := by
  have HC := Lib.hid hc
  have hb : (z != 0) = true := by rcases hz with rfl | rfl | rfl <;> decide
  clear hc hz
  unfold Barred
  go_enter Try.func21, Try.ntmps21
  go_wp2_with (go_at_call 37; refine HC.out.mono ?_; rintro e w1 ⟨rfl, hb1⟩; have HB := Lib.hid hb1; clear hb1)
  go_ret2
  exact ⟨rfl, HB.out⟩
/-- At, of those with the least numbers. -/
theorem at_least {k m n : Nat} {I : Nat → Int} {A : Nat → Option Addr} {L C : Nat → Nat} {X : Nat → List Int} {w : World} (ok : OkList I L k (k + m) n) (hk1 : 1 ≤ k) (hkm : k + m ≤ 255) {A1 A2 : Option Addr} {C1 C2 : Nat} (h1 : Ints w A1 k (fun q => (nth I n (k + m) q : Nat)))
    (h2 : ColsIn w A2 k C2 (fun q => A (std I n (k + m) q)) (fun q => L (std I n (k + m) q)) (fun q => C (std I n (k + m) q)) (fun q => X (std I n (k + m) q))) (x : Nat) (hx : x < 256) :
    Calls Try.prog 24 #[.slice A1 k C1, .slice A2 k C2, .int .i64 (x : Nat)] w (Bytesd (L (std I n (k + m) 0)) (fun c => decE I X k (k + m) n x c) w) := by
  have hlen := ordL_len n ok.1
  have hkn := ok.2.1
  have he := (even_perm ok.1).2 ok.2.2
  exact rat6_any A1 A2 k C1 C2 x (L (std I n (k + m) 0)) (nth I n (k + m)) _ _ _ (fun q => X (std I n (k + m) q)) w h1 hk1 (by omega) (fun i hi => by have : nth I n (k + m) i < k + m := nth_lt (by omega); omega) (fun i j h1 h2 => Nat.ne_of_lt (nth_mono h1 (by omega))) hx k (Nat.le_refl _) h2 (fun j hj => (he j (by omega)).1) (by have h5 : L (std I n (k + m) 0) ≤ 1200 := (he 0 (by omega)).2; exact h5)
set_option maxRecDepth 100000 in
set_option maxHeartbeats 1000000 in
theorem rdec_good (k m n cap : Nat) (a : Option Addr) (I : Nat → Int) (A : Nat → Option Addr) (L C : Nat → Nat) (X : Nat → List Int) (hk1 : 1 ≤ k) (hkm : k + m ≤ 255) (hn : n ≤ 1000) (ok : OkList I L k (k + m) n) (w : World) (hs : ShardsIn w a n cap I A L C X) :
    Calls Try.prog 21 #[.int .i64 k, .int .i64 m, .slice a n cap] w (Listed k (L (std I n (k + m) 0)) (decE I X k (k + m) n) w) := by
  have HC := Lib.hid (good_check ok hkm hn hs)
  have HL := Lib.hid (fun w' (hb : Below w.heap.size w w') => rleast_any k (k + m) n cap hkm ok.2.1 a I A L C X w' (hs.below hb (Nat.le_refl _)) ok.1)
  have HAT := Lib.hid (fun w A1 A2 C1 C2 h1 h2 x hx => at_least (w := w) (A1 := A1) (A2 := A2) (C1 := C1) (C2 := C2) (A := A) (C := C) (X := X) ok hk1 hkm h1 h2 x hx)
  generalize decE I X k (k + m) n = E at *
  generalize L (std I n (k + m) 0) = len at *
  unfold Leasts at HL
  unfold Bytesd at HAT
  unfold Listed
  clear ok hs
  go_enter Try.func21, Try.ntmps21
  go_wp2_with first
    | (go_at_call 37; refine HC.out.mono ?_; rintro e w1 ⟨rfl, hb⟩; have HB1 := Lib.hid hb; clear hb)
    | (go_at_call 23; refine (HL.out _ HB1.out).mono ?_; rintro e w2 ⟨A1, C1, A2, C2, rfl, h1, h2, hb⟩; have HI := Lib.hid h1; have HC2 := Lib.hid h2; have HB2 := Lib.hid (b_on HB1.out hb); clear h1 h2 hb)
  go_loopw [11, 12] (fun v i wr => ∃ (q : Nat) (A0 : Option Addr) (C0 : Nat), q ≤ k ∧ i = .int .i64 (q : Nat) ∧ v = .slice A0 q C0 ∧ Hid (OutS wr w2.heap.size (.slice A0 q C0) q len E) ∧ Hid (Below w2.heap.size w2 wr)) (fun _ i _ => k - (intOf i).toNat)
  case atStart => exact ⟨0, none, 0, by omega, rfl, rfl, Lib.hid (OutS.none _ _ _ _), Lib.hid (Below.refl _ _)⟩
  case round =>
    obtain ⟨q, A0, C0, hq, rfl, rfl, HO, HB⟩ := hrel
    obtain ⟨wo, ho⟩ : ∃ wo, wo = wr := ⟨_, rfl⟩
    subst ho
    by_cases hlt : q < k
    · have HLT : Hid (q + 1 ≤ 100000) := Lib.hid (by omega)
      have HATq := Lib.hid (HAT.out wo A1 A2 C1 C2 (HI.out.below HB.out (Nat.le_refl _)) (HC2.out.below HB.out (Nat.le_refl _)) q (by omega))
      go_wp2_with first
        | (go_at_call 24; refine HATq.out.mono ?_; rintro e w3 ⟨g3, l3, rfl, hg3, hd3, hc3, hb3⟩; have HD3 := Lib.hid hd3; have HC3 := Lib.hid hc3; have HB3 := Lib.hid (b_on HB.out hb3); have HO3 := Lib.hid (HO.out.below hb3); clear hg3 hd3 hc3 hb3; obtain ⟨l, ho1, ho2⟩ := HO3.out; have HOA : Hid (∀ o, OwnS (w3.alloc o) w2.heap.size (.slice A0 q C0) q l) := Lib.hid (fun o => row_alloc ho1 o); have HO2 := Lib.hid ho2; have HNA : Hid (∀ o, w2.heap.size ≤ (w3.alloc o).heap.size) := Lib.hid (fun o => Nat.le_trans HB3.out.size (Nat.le_of_lt (alloc_lt _ _))); clear ho1 ho2)
        | ((with_reducible refine wpList_append_sl (w := w3.alloc _) rfl (.tmp 31) (.tmp 36) rfl w2.heap.size _ q rfl l (HOA.out _) w3.heap.size rfl (some ⟨g3, 0, none⟩) len len (new_box w3 _ _) HLT.out (HNA.out _) ?_); intro v4 w4 hy4 hg4; obtain ⟨A4, C4, rfl, _⟩ := row_slice hy4; have HY4 := Lib.hid (OutS.step (HOA.out _) (fun i hi => (HO2.out i hi).imp fun g h => h.imp fun d h => ⟨h.1, h.2.1.keep (Below.heap_alloc _ _ _ h.2.1.lt), h.2.2⟩) (HD3.out.keep (Below.heap_alloc _ _ _ HD3.out.lt)) HC3.out hy4 hg4); have HB4 := Lib.hid (row_grown (HOA.out _) hg4 (b_put HB3.out _) (Nat.le_refl _) (HNA.out _)); clear hy4 hg4)
      go_roundw
      case rel => exact ⟨q + 1, A4, C4, by omega, by go_num, rfl, HY4, HB4⟩
      case measure => simp [intOf]; omega
    · obtain rfl : q = k := by omega
      have HFIN : Hid (OutS wo w.heap.size (.slice A0 q C0) q len E) := Lib.hid (by
        obtain ⟨l, h1, h2⟩ := HO.out
        refine ⟨l, ⟨h1.1, h1.2.imp id ?_⟩, h2⟩
        rintro ⟨g', cap', cur', e1, e2, e3⟩
        exact ⟨g', cap', cur', e1, Nat.le_trans HB2.out.size e2, e3⟩)
      go_wp2
      go_ret2
      exact ⟨A0, C0, rfl, HFIN.out, b_on HB2.out HB.out⟩
end Go.Proofs.Ytpofhfocmelgbaa
