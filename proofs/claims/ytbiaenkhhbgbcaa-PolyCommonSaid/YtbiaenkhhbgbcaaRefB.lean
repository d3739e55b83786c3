/-
  Own text: the document's sum, product, value: walked.
-/
import Derived.Test.YtbiaenkhhbgbcaaRef
namespace Go.Proofs.Ytbiaenkhhbgbcaa
open Go.RowKit

theorem one_block (w : World) (z : Nat) (hz : z < 256) : Bytes (w.alloc (.cells #[.int .u8 (z : Int)] 5)) (some ⟨w.heap.size, 0, none⟩) 1 [(z : Int)] :=
  new_block w #[.int .u8 (z : Int)] 5 (0, 0) _ rfl [(z : Int)] rfl (by simp) (fun y hy => by
    obtain rfl : y = (z : Int) := List.mem_singleton.1 hy
    omega) 1 rfl
theorem Own8.alloc {w : World} {base : Nat} {v : Value} {n : Nat} {l : List Int} (h : Own8 w base v n l) (o : Obj) : Own8 (w.alloc o) base v n l := h.below ((Below.refl w.heap.size w).alloc (Nat.le_refl _) o) (Nat.le_refl _)
/-- The sum's coefficients. -/
def sumF (x y : List Int) (i : Nat) : Nat := co x i ^^^ co y i
set_option maxRecDepth 100000 in
theorem radd_any (a b : Option Addr) (n m c d : Nat) (x y : List Int) (w : World) (hx : Bytes w a n x) (hy : Bytes w b m y) (hn : n ≤ 10000) (hm : m ≤ 10000) :
    Calls Try.prog 15 #[.slice a n c, .slice b m d] w (Sliced (ofF (sumF x y) (max n m)) w) := by
  have bx : By x := hx.range
  have bY : By y := hy.range
  have hf : ∀ i, sumF x y i < 256 := fun i => xor_lt (bx.lt i) (bY.lt i)
  have HF := Lib.hid hf
  have HXB := Lib.hid bx
  have HYB := Lib.hid bY
  have HX := Lib.hid hx
  have HY := Lib.hid hy
  have H0 : Hid (Own8 w w.heap.size (.slice Option.none 0 0) 0 (ofF (sumF x y) 0)) := Lib.hid (Own8.none _ _)
  have HB0 := Lib.hid (Below.refl w.heap.size w)
  have N1 : n ≤ max n m := Nat.le_max_left _ _
  have N2 : m ≤ max n m := Nat.le_max_right _ _
  have N3 : max n m ≤ 10000 := Nat.max_le.2 ⟨hn, hm⟩
  have N4 : max n m = n ∨ max n m = m := by omega
  clear hf bx bY hx hy
  generalize max n m = N at *
  go_enter Try.func15, Try.ntmps15
  go_wp2
  go_loopw [5, 6] (fun s i wr => ∃ (k : Nat) (A : Option Addr) (C : Nat), k ≤ N ∧ i = .int .i64 k ∧ s = .slice A k C ∧ Hid (Own8 wr w.heap.size (.slice A k C) k (ofF (sumF x y) k)) ∧ Hid (Below w.heap.size w wr)) (fun _ i _ => N - (intOf i).toNat)
  case atStart => exact ⟨0, _, _, by omega, rfl, rfl, H0, HB0⟩
  case round =>
    obtain ⟨k, A, C, hk, rfl, rfl, HO, HB⟩ := hrel
    obtain ⟨wo, ho⟩ : ∃ wo, wo = wr := ⟨_, rfl⟩
    subst ho
    by_cases hlt : k < N
    · have c1 := at_any a n c x k (by omega) wo (HX.out.below HB.out (Nat.le_refl _))
      have c2 := at_any b m d y k (by omega) wo (HY.out.below HB.out (Nat.le_refl _))
      have l1 := HXB.out.lt k
      have l2 := HYB.out.lt k
      have HS := Lib.hid (ofF_succ (sumF x y) k)
      have hq := HF.out k
      have he : sumF x y k = co x k ^^^ co y k := rfl
      have bx := bits_u8 (co x k) (co y k) l1 l2
      rw [← he] at bx
      clear he
      generalize sumF x y k = q at *
      generalize co x k = u at *
      generalize co y k = v at *
      have C1 := Lib.hid c1
      have C2 := Lib.hid c2
      have HO1 := Lib.hid (HO.out.alloc (.cells #[.int .u8 (q : Int)] 5))
      have HY1 := Lib.hid (one_block wo q hq)
      have HN : Hid (some (⟨wo.heap.size, 0, none⟩ : Addr) = Option.none → 1 = 0) := Lib.hid (fun h => nomatch h)
      have H6 : Hid (k + 1 ≤ 1000000) := Lib.hid (by omega)
      have HB1 : Hid (Below w.heap.size w (wo.alloc (.cells #[.int .u8 (q : Int)] 5))) := Lib.hid (HB.out.alloc HB.out.size _)
      have H7 := Lib.hid HB1.out.size
      clear c1 c2
      have k0 : (0 : Int) ≤ k := by omega
      have hor : (k : Int) < n ∨ ¬ (k : Int) < n := by omega
      rcases hor with g | g
      all_goals
        try have g2 : (k : Int) < m := by omega
        go_wp2_with (first
          | (go_at_call 12; (with_reducible refine C1.out.mono ?_); rintro e w2 ⟨rfl, rfl⟩)
          | (go_at_call 12; (with_reducible refine C2.out.mono ?_); rintro e w2 ⟨rfl, rfl⟩)
          | ((with_reducible refine wpList_append_bytes (w := wo.alloc _) rfl (.tmp 19) (.tmp 27) rfl w.heap.size _ _ _ rfl (ofF (sumF x y) k) HO1.out _ _ _ rfl [(q : Int)] HY1.out HN.out H6.out w.heap.size w HB1.out (Nat.le_refl _) H7.out (k + 1) rfl _ rfl ?_); intro A2 C2 w3 hown hb; have HO3 := hown; have HB3 := Lib.hid hb; clear hown hb))
        go_roundw
        case rel => exact ⟨k + 1, _, _, by omega, by go_num, rfl, Lib.hid (by rw [HS.out]; exact HO3.out), HB3⟩
        case measure => simp [intOf]; omega
    · obtain rfl : k = N := by omega
      go_wp2
      go_ret
      exact ⟨_, _, _, rfl, HO.out.sl (ofF_by HF.out _), HB.out⟩
theorem xs_stop {f : Nat → Nat} {k K : Nat} (hk : k ≤ K) (h : ∀ i, k ≤ i → f i = 0) : xs f K = xs f k := by
  obtain ⟨d, rfl⟩ : ∃ d, K = k + d := ⟨K - k, by omega⟩
  induction d with
  | zero => rfl
  | succ d ih =>
    show xs f (k + d) ^^^ f (k + d) = xs f k
    rw [h (k + d) (by omega), Nat.xor_zero]
    exact ih (by omega)
/-- A product's coefficient, as far as the first list goes. -/
theorem conv_part (x y : List Int) (N : Nat) : xs (fun i => mu (co x i) (co y (N - i))) (min (N + 1) x.length) = conv (co x) (co y) N := by
  unfold conv
  rcases Nat.le_total (N + 1) x.length with h | h
  · rw [Nat.min_eq_left h]
  · rw [Nat.min_eq_right h]
    exact (xs_stop h (fun i hi => by rw [co_out hi, zero_mu])).symm
/-- The product's coefficients. -/
def mulF (x y : List Int) (i : Nat) : Nat := conv (co x) (co y) i
set_option maxRecDepth 100000 in
set_option maxHeartbeats 1000000 in
theorem rmulp_any (a b : Option Addr) (n m c d : Nat) (x y : List Int) (w : World) (hx : Bytes w a n x) (hy : Bytes w b m y) (hn : n ≤ 10000) (hm : m ≤ 10000) :
    Calls Try.prog 17 #[.slice a n c, .slice b m d] w (Sliced (ofF (mulF x y) (n + m)) w) := by
  have bx : By x := hx.range
  have bY : By y := hy.range
  have hf : ∀ i, mulF x y i < 256 := fun i => conv_lt _ _ _
  have sx := hx.size
  have HF := Lib.hid hf
  have HXB := Lib.hid bx
  have HYB := Lib.hid bY
  have HX := Lib.hid hx
  have HY := Lib.hid hy
  have H0 : Hid (Own8 w w.heap.size (.slice Option.none 0 0) 0 (ofF (mulF x y) 0)) := Lib.hid (Own8.none _ _)
  have HB0 := Lib.hid (Below.refl w.heap.size w)
  have HP := Lib.hid (fun N => conv_part x y N)
  rw [sx] at HP
  clear hf bx bY hx hy sx
  go_enter Try.func17, Try.ntmps17
  go_wp2
  go_loopw [5, 6] (fun s i wr => ∃ (k : Nat) (A : Option Addr) (C : Nat), k ≤ n + m ∧ i = .int .i64 k ∧ s = .slice A k C ∧ Hid (Own8 wr w.heap.size (.slice A k C) k (ofF (mulF x y) k)) ∧ Hid (Below w.heap.size w wr)) (fun _ i _ => n + m - (intOf i).toNat)
  case atStart => exact ⟨0, _, _, by omega, rfl, rfl, H0, HB0⟩
  case round =>
    obtain ⟨N, A, C, hk, rfl, rfl, HO, HB⟩ := hrel
    obtain ⟨wo, ho⟩ : ∃ wo, wo = wr := ⟨_, rfl⟩
    subst ho
    by_cases hlt : N < n + m
    · have HQ := HP.out N
      have K1 : min (N + 1) n ≤ N + 1 := Nat.min_le_left _ _
      have K2 : min (N + 1) n ≤ n := Nat.min_le_right _ _
      have K3 : min (N + 1) n = N + 1 ∨ min (N + 1) n = n := by omega
      have HQ2 := Lib.hid (show mulF x y N = conv (co x) (co y) N from rfl)
      rw [← HQ] at HQ2
      have hq := HF.out N
      have hxl : ∀ k, xs (fun i => mu (co x i) (co y (N - i))) k < 256 := fun k => xs_lt _ (fun _ => mu_lt _ _) k
      have HXL := Lib.hid hxl
      have HOF := Lib.hid (ofF_succ (mulF x y) N)
      clear HQ hxl
      generalize mulF x y N = q at *
      generalize hF : (fun i => mu (co x i) (co y (N - i))) = F at *
      have HFF := Lib.hid hF
      clear hF
      generalize min (N + 1) n = K at *
      go_wp2
      go_loopw [7, 8] (fun s i wr => ∃ k : Nat, k ≤ K ∧ i = .int .i64 k ∧ s = .int .u8 (xs F k) ∧ Hid (Own8 wr w.heap.size (.slice A N C) N (ofF (mulF x y) N)) ∧ Hid (Below w.heap.size w wr)) (fun _ i _ => K - (intOf i).toNat)
      case atStart => exact ⟨0, by omega, rfl, rfl, HO, HB⟩
      case round =>
        obtain ⟨k, hkK, rfl, rfl, HO2, HB2⟩ := hrel
        by_cases hl2 : k < K
        · have kn : k < n := by omega
          have h1 := HX.out.below HB2.out (Nat.le_refl _)
          have h2 := HY.out.below HB2.out (Nat.le_refl _)
          obtain ⟨p, o, rfl, c1⟩ : ∃ p o, a = some ⟨p, o, none⟩ ∧ wr.cell? ⟨p, o + k, none⟩ = some (.int .u8 (x.getD k 0)) := by
            rcases h1.cell with h | ⟨_, b, off, e, _, h⟩
            · omega
            · exact ⟨b, off, e, h k kn⟩
          rw [HXB.out.get k] at c1
          have ca : ∀ w : World, Bytes w b m y → Calls Try.prog 12 #[.slice b m d, .int .i64 ((N : Int) - k)] w fun e w' => e = .returned (.int .u8 (co y (N - k))) ∧ w = w' := fun w h => by
            rw [show (N : Int) - k = ((N - k : Nat) : Int) by omega]
            exact at_any b m d y (N - k) (by omega) w h
          have l1 := HXB.out.lt k
          have l2 := HYB.out.lt (N - k)
          have hs : xs F (k + 1) = xs F k ^^^ gm (co x k) (co y (N - k)) := by
            show xs F k ^^^ F k = _
            rw [← HFF.out]
            show _ ^^^ mu (co x k) (co y (N - k)) = _
            rw [mu_eq l1 l2]
          have HS := Lib.hid hs
          have hr := HXL.out k
          generalize co x k = u at *
          generalize co y (N - k) = v at *
          generalize xs F k = r at *
          have hg := gm_lt (a := u) (b := v) (by omega) (by omega)
          have CM := Lib.hid (fun (w : World) => rmul_any u v (by omega) (by omega) w)
          have bx := bits_u8 r (gm u v) hr hg
          generalize gm u v = g at *
          have CA : Hid (∀ j, Calls Try.prog 12 #[.slice b m d, .int .i64 ((N : Int) - k)] (wr.drewN j) fun e w' => e = .returned (.int .u8 v) ∧ wr.drewN j = w') := Lib.hid (fun j => ca _ (h2.drewN j))
          have k0 : (0 : Int) ≤ k := by omega
          have k1 : (k : Int) < n := by omega
          have k2 : (k : Int) ≤ N := by omega
          clear h1 h2 ca hs
          go_wp2
          go_quiet (first
            | (go_at_call 12; exact (CA.out _).mono fun _ _ h => ⟨h.1, _, h.2.symm⟩)
            | (go_at_call 23; exact (CM.out _).mono fun _ _ h => ⟨h.1, _, h.2.symm⟩))
          go_wp2
          go_roundw
          case rel => exact ⟨k + 1, by omega, by go_num, by rw [HS.out], Lib.hid (HO2.out.drewN _), Lib.hid (below_drewN HB2.out _)⟩
          case measure => simp [intOf]; omega
        · obtain rfl : k = K := by omega
          rw [← HQ2.out]
          obtain ⟨wi, hi⟩ : ∃ wi, wi = wr := ⟨_, rfl⟩
          subst hi
          have HO1 := Lib.hid (HO2.out.alloc (.cells #[.int .u8 (q : Int)] 5))
          have HY1 := Lib.hid (one_block wi q hq)
          have HN : Hid (some (⟨wi.heap.size, 0, none⟩ : Addr) = Option.none → 1 = 0) := Lib.hid (fun h => nomatch h)
          have H6 : Hid (N + 1 ≤ 1000000) := Lib.hid (by omega)
          have HB1 : Hid (Below w.heap.size w (wi.alloc (.cells #[.int .u8 (q : Int)] 5))) := Lib.hid (HB2.out.alloc HB2.out.size _)
          have H7 := Lib.hid HB1.out.size
          have hor : (N : Int) < k ∨ (¬ (N : Int) < k ∧ (n : Int) ≤ k) := by omega
          rcases hor with g | ⟨g, g2⟩
          all_goals
            go_wp2_with ((with_reducible refine wpList_append_bytes (w := wi.alloc _) rfl (.tmp 41) (.tmp 43) rfl w.heap.size _ _ _ rfl (ofF (mulF x y) N) HO1.out _ _ _ rfl [(q : Int)] HY1.out HN.out H6.out w.heap.size w HB1.out (Nat.le_refl _) H7.out (N + 1) rfl _ rfl ?_); intro A2 C2 w3 hown hb; have HO3 := hown; have HB3 := Lib.hid hb; clear hown hb)
            go_roundw
            case rel => exact ⟨N + 1, _, _, by omega, by go_num, rfl, Lib.hid (by rw [HOF.out]; exact HO3.out), HB3⟩
            case measure => simp [intOf] <;> omega
    · obtain rfl : N = n + m := by omega
      go_wp2
      go_ret
      exact ⟨_, _, _, rfl, HO.out.sl (ofF_by HF.out _), HB.out⟩
end Go.Proofs.Ytbiaenkhhbgbcaa
