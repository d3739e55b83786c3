/-
  Own text: few; the law RsEncodes, walked.
-/
import Derived.Test.YtpofhfocmelgbaaMakes6
namespace Go.Proofs.Ytpofhfocmelgbaa
open Go.RowKit

/-- So many bytes. -/
def lsum (L : Nat → Nat) : Nat → Nat
  | 0 => 0
  | q + 1 => lsum L q + L q
theorem lsum_le (L : Nat → Nat) : ∀ q, (∀ i, i < q → L i ≤ 1300) → lsum L q ≤ 1300 * q
  | 0, _ => Nat.le_refl _
  | q + 1, h => by
    have := lsum_le L q (fun i hi => h i (by omega))
    have := h q (by omega)
    show lsum L q + L q ≤ _
    omega
/-- Are there so few? -/
def Few (n : Nat) (L : Nat → Nat) : Prop := (∀ i, i < n → L i ≤ 1300) ∧ n ≤ 40 ∧ lsum L n ≤ 3000
/-- What few answers. -/
def FewTo (n : Nat) (L : Nat → Nat) (w : World) (e : Ending) (w' : World) : Prop := ∃ v : Bool, e = .returned (.bool v) ∧ (v = true → Few n L) ∧ w = w'
set_option maxRecDepth 100000 in
theorem few6_any (n cap : Nat) (a : Option Addr) (A : Nat → Option Addr) (L C : Nat → Nat) (X : Nat → List Int) (w : World) (hc : ColsIn w a n cap A L C X) :
    Calls Try.prog 16 #[.slice a n cap] w (FewTo n L w) := by
  have HX := Lib.hid hc
  have hn := Nat.le_trans hc.1 hc.2.1
  clear hc
  go_enter Try.func16, Try.ntmps16
  go_wp2
  go_loopw [3, 4] (fun s i wr => ∃ j : Nat, j ≤ n ∧ j ≤ 40 ∧ i = .int .i64 (j : Nat) ∧ s = .int .i64 (lsum L j : Nat) ∧ Hid (∀ i, i < j → L i ≤ 1300) ∧ wr = w) (fun _ i _ => n - (intOf i).toNat)
  case atStart => exact ⟨0, by omega, by omega, rfl, rfl, Lib.hid (fun i h => absurd h (by omega)), rfl⟩
  case round =>
    obtain ⟨j, hj, hj40, rfl, rfl, HS, rfl⟩ := hrel
    obtain ⟨wo, ho⟩ : ∃ wo, wo = wr := ⟨_, rfl⟩
    subst ho
    have hsl := lsum_le L j HS.out
    by_cases hlt : j < n
    · have j0 : (0 : Int) ≤ j := by omega
      have j1 : (j : Int) < n := by omega
      by_cases h40 : j < 40
      · have j2 : (j : Int) < 40 := by omega
        obtain ⟨⟨h, off, rfl, _, c1⟩, s1⟩ := HX.out.2.2.2 j hlt
        have m1 := Nat.le_trans s1.cap s1.top
        clear s1
        by_cases hlong : 1300 < L j
        · have hl2 : (1300 : Int) < (L j : Nat) := by omega
          go_wp2
          go_ret
          exact ⟨false, rfl, (fun h => nomatch h), rfl⟩
        · have hl2 : ¬ (1300 : Int) < (L j : Nat) := by omega
          have HLJ : Hid (L j ≤ 1300) := Lib.hid (by omega)
          have HSU : Hid (lsum L (j + 1) = lsum L j + L j) := Lib.hid rfl
          clear hlong
          go_wp2
          go_roundw
          case rel => exact ⟨j + 1, by omega, by omega, by go_num, by rw [HSU.out, Int.natCast_add], Lib.hid (fun i hi => if e : i = j then e ▸ HLJ.out else HS.out i (by omega)), trivial⟩
          case measure => simp [intOf]; omega
      · have j2 : ¬ (j : Int) < 40 := by omega
        have j3 : ¬ (n : Int) ≤ 40 := by omega
        go_wp2
        go_ret
        exact ⟨false, rfl, (fun h => nomatch h), rfl⟩
    · obtain rfl : j = n := by omega
      have j3 : (j : Int) ≤ 40 := by omega
      by_cases h3 : lsum L j ≤ 3000
      · have h4 : ((lsum L j : Nat) : Int) ≤ 3000 := by omega
        go_wp2
        go_ret
        exact ⟨_, rfl, fun _ => ⟨HS.out, hj40, h3⟩, rfl⟩
      · have h4 : ¬ ((lsum L j : Nat) : Int) ≤ 3000 := by omega
        go_wp2
        go_ret
        exact ⟨_, rfl, fun h => absurd h (by simp), rfl⟩
/-- Equal lists. -/
theorem same_applied {w w' : World} {h g m len : Nat} {l : List Int} {A0 : Option Addr} {C0 base : Nat} {E : Nat → Nat → Nat} (hl : Lst w h m len (fun i => some ⟨g, i * len, none⟩)) (hd : Dat w g (m * len) l) (hc : ∀ i c, i < m → c < len → gr (fun i => i * len) l i c = E i c)
    (ho : OutS w' base (.slice A0 m C0) m len E) (hb : Below w.heap.size w w') (hm : m ≤ 1000) (hlen : len ≤ 1200) :
    Calls Try.prog 19 #[.slice (some ⟨h, 0, none⟩) m m, .slice A0 m C0] w' fun e w'' => e = .returned (.bool true) ∧ ∃ k, w'' = w'.drewN k := by
  obtain ⟨A, Y, hY, hE⟩ := ho.cols hlen
  refine rsame_lists _ _ m m m C0 _ _ _ _ _ _ _ _ w' ((cols_applied hl hd hm hlen).below hb (Nat.le_refl _)) hY hm hm true (fun _ => ⟨rfl, fun i hi => ?_⟩) (fun h => nomatch h)
  have h1 : i * len + len ≤ m * len := by
    have := Nat.mul_le_mul_right len (show i + 1 ≤ m from hi)
    rwa [Nat.succ_mul] at this
  have hs : (seg l (i * len) len).length = len := seg_length _ _ _ (by rw [hd.size]; exact h1)
  have hyb := (hY.2.2.2 i hi).2.bytes
  refine list_co (seg_by hd.by_ _ _) hyb.range (hs.trans hyb.size.symm) (fun c hcl => ?_)
  rw [hs] at hcl
  rw [seg_co _ _ _ _ hcl, hE i hi c hcl]
  exact hc i c hi hcl
theorem same_nothing (w : World) : Calls Try.prog 19 #[.slice none 0 0, .slice none 0 0] w fun e w' => e = .returned (.bool true) ∧ ∃ k, w' = w.drewN k := by
  have hc : ColsIn w none 0 0 (fun _ => none) (fun _ => 0) (fun _ => 0) (fun _ => []) := ⟨Nat.le_refl _, by omega, fun _ => rfl, fun r hr => absurd hr (by omega)⟩
  exact rsame_lists none none 0 0 0 0 _ _ _ _ _ _ _ _ w hc hc (by omega) (by omega) true (fun _ => ⟨rfl, fun i hi => absurd hi (by omega)⟩) (fun h => nomatch h)
/-- Too great for the law. -/
theorem enc6_great (k m : Int) (n cap : Nat) (a : Option Addr) (w : World) (hs : ¬ (1 ≤ k ∧ 0 ≤ m ∧ k ≤ 20 ∧ m ≤ 20)) :
    Calls Try.prog 4 #[.int .i64 k, .int .i64 m, .slice a n cap] w fun e w' => e = .returned (.bool true) ∧ Below w.heap.size w w' := by
  have HAW := Lib.hid (fun w => awake6_any w)
  have HS := Lib.hid (fun w => small6_no k m hs w)
  clear hs
  go_enter Try.func4, Try.ntmps4
  go_wp2_with first
    | (go_at_call 8; refine (HAW.out _).mono ?_; rintro e w1 ⟨rfl, hb⟩; have HB1 := Lib.hid hb; clear hb)
    | (go_at_call 13; refine (HS.out _).mono ?_; rintro e w2 ⟨rfl, rfl⟩)
  go_ret
  exact ⟨rfl, HB1.out⟩
set_option maxRecDepth 100000 in
set_option maxHeartbeats 1000000 in
theorem enc6_small (k m n cap : Nat) (hk1 : 1 ≤ k) (hk : k ≤ 20) (hm : m ≤ 20) (a : Option Addr) (A : Nat → Option Addr) (L C : Nat → Nat) (X : Nat → List Int) (w : World) (hc : ColsIn w a n cap A L C X) :
    Calls Try.prog 4 #[.int .i64 k, .int .i64 m, .slice a n cap] w fun e w' => e = .returned (.bool true) ∧ Below w.heap.size w w' := by
  have HAW := Lib.hid (fun w => awake6_any w)
  have HS := Lib.hid (fun w => small6_yes k m hk1 hk hm w)
  have HFW := Lib.hid (fun w' (hb : Below w.heap.size w w') => few6_any n cap a A L C X w' (hc.below hb (Nat.le_refl _)))
  have HN := Lib.hid (fun w => new_any w)
  have HC := Lib.hid (fun t w ht => code_some t k m hk1 (by omega) w ht)
  have HSN := Lib.hid (fun w => same_nothing w)
  have hn63 := Nat.le_trans hc.1 hc.2.1
  unfold Coded at HC
  unfold FewTo at HFW
  by_cases hnk : n = k
  case neg =>
    have HEN := Lib.hid (fun b t w (h : IsCode w b t k m) => code_enc_shards b t k m n cap a w h hnk hn63)
    have HRE := Lib.hid (fun w => rencode_shards k m n cap a w (by omega) hn63)
    unfold Barred at HEN HRE
    clear hc hnk
    go_enter Try.func4, Try.ntmps4
    go_wp2_with first
      | (go_at_call 8; refine (HAW.out _).mono ?_; rintro e w1 ⟨rfl, hb⟩; have HB1 := Lib.hid hb; clear hb)
      | (go_at_call 13; refine (HS.out _).mono ?_; rintro e w2 ⟨rfl, rfl⟩)
      | (go_at_call 16; refine (HFW.out _ HB1.out).mono ?_; rintro e w2 ⟨v, rfl, hv, rfl⟩; clear hv; cases v)
      | (go_at_call 10; refine (HN.out _).mono ?_; rintro e w3 ⟨rfl, ht, hb⟩; have HT := Lib.hid ht; have HB3 := Lib.hid (b_on HB1.out hb); clear ht hb)
      | (go_at_call 9; refine (HC.out _ _ HT.out).mono ?_; rintro e w4 ⟨b, rfl, _, hc, hb⟩; have HI := Lib.hid hc; have HB4 := Lib.hid (b_on HB3.out hb); clear hc hb)
      | (go_at_call 17; refine (HEN.out _ _ _ HI.out).mono ?_; rintro e w5 ⟨rfl, hb⟩; have HB5 := Lib.hid (b_on HB4.out hb); clear hb)
      | (go_at_call 18; refine (HRE.out _).mono ?_; rintro e w6 ⟨rfl, hb⟩; have HB6 := Lib.hid (b_on HB5.out hb); clear hb)
      | (go_at_call 19; refine (HSN.out _).mono ?_; rintro e w7 ⟨rfl, q, hw⟩; have HB7 : Hid (Below w.heap.size w w7) := Lib.hid (by rw [hw]; exact below_drewN HB6.out q); clear hw)
    · go_ret
      exact ⟨rfl, HB1.out⟩
    · go_ret
      exact ⟨rfl, HB7.out⟩
  case pos =>
  subst hnk
  by_cases he : EvenL n L
  case neg =>
    have HEN := Lib.hid (fun b t w' (hb : Below w.heap.size w w') (h : IsCode w' b t n m) => code_enc_length b t n m cap a A L C X w' h (hc.below hb (Nat.le_refl _)) he)
    have HRE := Lib.hid (fun w' (hb : Below w.heap.size w w') => rencode_length m n cap a A L C X w' (hc.below hb (Nat.le_refl _)) hn63 he)
    unfold Barred at HEN HRE
    clear hc he
    go_enter Try.func4, Try.ntmps4
    go_wp2_with first
      | (go_at_call 8; refine (HAW.out _).mono ?_; rintro e w1 ⟨rfl, hb⟩; have HB1 := Lib.hid hb; clear hb)
      | (go_at_call 13; refine (HS.out _).mono ?_; rintro e w2 ⟨rfl, rfl⟩)
      | (go_at_call 16; refine (HFW.out _ HB1.out).mono ?_; rintro e w2 ⟨v, rfl, hv, rfl⟩; clear hv; cases v)
      | (go_at_call 10; refine (HN.out _).mono ?_; rintro e w3 ⟨rfl, ht, hb⟩; have HT := Lib.hid ht; have HB3 := Lib.hid (b_on HB1.out hb); clear ht hb)
      | (go_at_call 9; refine (HC.out _ _ HT.out).mono ?_; rintro e w4 ⟨b, rfl, _, hc, hb⟩; have HI := Lib.hid hc; have HB4 := Lib.hid (b_on HB3.out hb); clear hc hb)
      | (go_at_call 17; refine (HEN.out _ _ _ HB4.out HI.out).mono ?_; rintro e w5 ⟨rfl, hb⟩; have HB5 := Lib.hid (b_on HB4.out hb); clear hb)
      | (go_at_call 18; refine (HRE.out _ HB5.out).mono ?_; rintro e w6 ⟨rfl, hb⟩; have HB6 := Lib.hid (b_on HB5.out hb); clear hb)
      | (go_at_call 19; refine (HSN.out _).mono ?_; rintro e w7 ⟨rfl, q, hw⟩; have HB7 : Hid (Below w.heap.size w w7) := Lib.hid (by rw [hw]; exact below_drewN HB6.out q); clear hw)
    · go_ret
      exact ⟨rfl, HB1.out⟩
    · go_ret
      exact ⟨rfl, HB7.out⟩
  case pos =>
    have HEN := Lib.hid (fun b t w' (hb : Below w.heap.size w w') (h : IsCode w' b t n m) => code_encode b t n m cap a A L C X w' h (hc.below hb (Nat.le_refl _)) he)
    have HRE := Lib.hid (fun w' (hb : Below w.heap.size w w') => rencode_some n m cap hk1 (by omega) a A L C X w' (hc.below hb (Nat.le_refl _)) he)
    have hl0 : L 0 ≤ 1200 := (he 0 (by omega)).2
    have HSA := Lib.hid (fun w w' h g l A0 C0 base E hl hd hc ho hb => same_applied (w := w) (w' := w') (h := h) (g := g) (m := m) (len := L 0) (l := l) (A0 := A0) (C0 := C0) (base := base) (E := E) hl hd hc ho hb (by omega) hl0)
    obtain ⟨E, hE⟩ : ∃ E : Nat → Nat → Nat, E = fun i c => xs (fun j => mu (lagw nid n j (n + i)) (co (X j) c)) n := ⟨_, rfl⟩
    rw [← hE] at HEN HRE
    generalize L 0 = len at *
    unfold AppliedTo at HEN
    unfold Listed at HRE
    clear hc he hE
    go_enter Try.func4, Try.ntmps4
    go_wp2_with first
      | (go_at_call 8; refine (HAW.out _).mono ?_; rintro e w1 ⟨rfl, hb⟩; have HB1 := Lib.hid hb; clear hb)
      | (go_at_call 13; refine (HS.out _).mono ?_; rintro e w2 ⟨rfl, rfl⟩)
      | (go_at_call 16; refine (HFW.out _ HB1.out).mono ?_; rintro e w2 ⟨v, rfl, hv, rfl⟩; clear hv; cases v)
      | (go_at_call 10; refine (HN.out _).mono ?_; rintro e w3 ⟨rfl, ht, hb⟩; have HT := Lib.hid ht; have HB3 := Lib.hid (b_on HB1.out hb); clear ht hb)
      | (go_at_call 9; refine (HC.out _ _ HT.out).mono ?_; rintro e w4 ⟨b, rfl, _, hc, hb⟩; have HI := Lib.hid hc; have HB4 := Lib.hid (b_on HB3.out hb); clear hc hb)
      | (go_at_call 17; refine (HEN.out _ _ _ HB4.out HI.out).mono ?_; rintro e w5 ⟨h5, g5, l5, rfl, _, _, hl, hd, hc, hb⟩; have HL5 := Lib.hid hl; have HD5 := Lib.hid hd; have HC5 := Lib.hid hc; have HB5 := Lib.hid (b_on HB4.out hb); clear hl hd hc hb)
      | (go_at_call 18; refine (HRE.out _ HB5.out).mono ?_; rintro e w6 ⟨A6, C6, rfl, ho, hb⟩; have HO6 := Lib.hid ho; have HB56 := Lib.hid hb; have HB6 := Lib.hid (b_on HB5.out hb); clear ho hb)
      | (go_at_call 19; refine (HSA.out w5 w6 h5 g5 l5 A6 C6 _ E HL5.out HD5.out HC5.out HO6.out HB56.out).mono ?_; rintro e w7 ⟨rfl, q, hw⟩; have HB7 : Hid (Below w.heap.size w w7) := Lib.hid (by rw [hw]; exact below_drewN HB6.out q); clear hw)
    · go_ret
      exact ⟨rfl, HB1.out⟩
    · go_ret
      exact ⟨rfl, HB7.out⟩
theorem enc6_walk (k m : Int) (n cap : Nat) (a : Option Addr) (A : Nat → Option Addr) (L C : Nat → Nat) (X : Nat → List Int) (w : World) (_ : (Lit.int .i64 k).wf = true) (_ : (Lit.int .i64 m).wf = true) (hc : ColsIn w a n cap A L C X) :
    Calls Try.prog 4 #[.int .i64 k, .int .i64 m, .slice a n cap] w fun e w' => e = .returned (.bool true) ∧ Below w.heap.size w w' := by
  by_cases hs : 1 ≤ k ∧ 0 ≤ m ∧ k ≤ 20 ∧ m ≤ 20
  case neg => exact enc6_great k m n cap a w hs
  obtain ⟨K, rfl⟩ : ∃ n : Nat, k = n := ⟨k.toNat, by omega⟩
  obtain ⟨M, rfl⟩ : ∃ n : Nat, m = n := ⟨m.toNat, by omega⟩
  exact enc6_small K M n cap (by omega) (by omega) (by omega) a A L C X w hc
end Go.Proofs.Ytpofhfocmelgbaa
