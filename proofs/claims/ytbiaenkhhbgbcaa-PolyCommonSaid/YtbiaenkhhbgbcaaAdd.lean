/-
  Own text: Add, walked.
-/
import Derived.Test.YtbiaenkhhbgbcaaRefC
import Derived.Test.YtbiaenkhhbgbcaaGfG
namespace Go.Proofs.Ytbiaenkhhbgbcaa
open Go.RowKit

theorem sumF_lt {x y : List Int} (hx : By x) (hy : By y) (i : Nat) : sumF x y i < 256 := xor_lt (hx.lt i) (hy.lt i)
theorem mix_sum {x y : List Int} (bx : By x) (_ : By y) (h : y.length ≤ x.length) (i : Nat) : co (mixL x y y.length) i = sumF x y i := by
  by_cases g : i < x.length
  · unfold co
    rw [mixL_get _ _ _ _ g]
    by_cases g2 : i < y.length
    · rw [if_pos g2]; show ((_ : Nat) : Int).toNat = co x i ^^^ co y i; rw [Int.toNat_natCast]; rfl
    · rw [if_neg g2]; show (x.getD i 0).toNat = co x i ^^^ co y i; rw [co_out (l := y) (by omega), Nat.xor_zero]; rfl
  · rw [co_out (by rw [mixL_length]; omega)]
    show 0 = co x i ^^^ co y i
    rw [co_out (l := x) (by omega), co_out (l := y) (by omega)]; rfl
set_option maxRecDepth 100000 in
set_option maxHeartbeats 1000000 in
theorem add_two (p q : Option Addr) (n m c d : Nat) (x y : List Int) (w : World) (args : Array Value) (hargs : args = #[.slice p n c, .slice q m d] ∨ (args = #[.slice q m d, .slice p n c] ∧ m < n)) (hx : Sl w p n c x) (hy : Sl w q m d y) (hn : n ≤ 10000) (hle : m ≤ n) :
    Calls Try.prog 14 args w (Sliced (tr (mixL x y m)) w) := by
  have bx : By x := hx.bytes.range
  have bY : By y := hy.bytes.range
  have sx := hx.bytes.size
  have sy := hy.bytes.size
  have HXB := Lib.hid bx
  have HYB := Lib.hid bY
  have HX := Lib.hid hx
  have HY := Lib.hid hy
  have HSX := Lib.hid sx
  have HSY := Lib.hid sy
  have HR := Lib.hid (show By (mixL x y m) from mixL_range x y m bx bY)
  have CC := Lib.hid (clone_any p n c x w hx (by omega))
  have hor : (n : Int) < m ∨ ¬ (n : Int) < m := by omega
  clear bx bY sx sy hx hy
  rcases hargs with rfl | ⟨rfl, hlt⟩
  all_goals
    go_enter Try.func14, Try.ntmps14
    go_wp2_with (go_at_call 29; refine CC.out.mono ?_; rintro e w1 ⟨A, C, rfl, h1, h2⟩; have H1 := Lib.hid h1; have H2 := Lib.hid h2; clear h1 h2)
    have H10 : Hid (Own8 w1 w.heap.size (.slice A n C) n (mixL x y 0)) := Lib.hid (by rw [mixL_zero]; exact H1.out)
    go_loopw [6, 7, 19] (fun _ _ i wr => ∃ k : Nat, k ≤ m ∧ i = .int .i64 k ∧ Hid (Own8 wr w.heap.size (.slice A n C) n (mixL x y k)) ∧ Hid (Below w.heap.size w wr)) (fun _ _ i _ => m - (intOf i).toNat)
    case atStart => exact ⟨0, by omega, rfl, H10, H2⟩
    case round =>
      obtain ⟨k, hk, rfl, HO, HB⟩ := hrel
      obtain ⟨wo, ho⟩ : ∃ wo, wo = wr := ⟨_, rfl⟩
      subst ho
      by_cases hl2 : k < m
      · have h2 := HY.out.bytes.below HB.out (Nat.le_refl _)
        obtain ⟨b', o', rfl, c2⟩ : ∃ b off, q = some ⟨b, off, none⟩ ∧ wo.cell? ⟨b, off + k, none⟩ = some (.int .u8 (y.getD k 0)) := by
          rcases h2.cell with h | ⟨_, b, off, e, _, h⟩
          · omega
          · exact ⟨b, off, e, h k hl2⟩
        obtain ⟨g, e0, hg0, hg1, hc, hf, hst⟩ := HO.out.at_ (by omega)
        obtain rfl := e0
        have c1 := hc k (by omega)
        rw [mixL_get _ _ _ _ (by rw [HSX.out]; omega), if_neg (by omega)] at c1
        have HSS := Lib.hid (mixL_step x y k (by rw [HSX.out]; omega))
        rw [HXB.out.get k] at c1
        rw [HYB.out.get k] at c2
        rw [HXB.out.get k, HYB.out.get k] at HSS
        have l1 := HXB.out.lt k
        have l2 := HYB.out.lt k
        have HST := Lib.hid (hst k)
        clear h2 hc hf hst
        generalize co x k = u at *
        generalize co y k = v at *
        have CA := Lib.hid (fun w => add_block [(u : Int), (v : Int)] #[.int .u8 (u : Int), .int .u8 (v : Int)] rfl (fun z hz => by simp at hz; omega) 2 rfl (by omega) (u ^^^ v) (by simp [xorL]) w 2)
        have HO1 := Lib.hid (HO.out.alloc (.cells #[.int .u8 (u : Int), .int .u8 (v : Int)] 5))
        have HB1 : Hid (Below w.heap.size w (wo.alloc (.cells #[.int .u8 (u : Int), .int .u8 (v : Int)] 5))) := Lib.hid (HB.out.alloc HB.out.size _)
        obtain ⟨g', e0, _, _, hc, hf, hst⟩ := HO1.out.at_ (by omega)
        obtain rfl : g = g' := by simpa using e0
        have c3 := hc k (by omega)
        have f3 := hf k
        have HG0 := Lib.hid hg0
        clear hc hf hst e0 hg0
        have k0 : (0 : Int) ≤ k := by omega
        have k1 : (k : Int) < n := by omega
        have k2 : (k : Int) < m := by omega
        go_wp2_with (go_at_call 30; refine (CA.out _).mono ?_; rintro e w2 ⟨rfl, rfl⟩)
        go_roundw
        case rel =>
          refine ⟨k + 1, by omega, by go_num, ?_, Lib.hid ((HB.out.setCell (p := ⟨g, k, none⟩) HG0.out _).alloc (by simpa using HB.out.size) _)⟩
          have h := HST.out ((u ^^^ v : Nat) : Int)
          have e := HSS.out
          rw [Int.toNat_natCast, Int.toNat_natCast] at e
          rw [e] at h
          exact Lib.hid (h.alloc _)
        case measure => simp [intOf] <;> omega
      · obtain rfl : k = m := by omega
        have HC := Lib.hid (cut_any A n C _ wo (HO.out.sl HR.out))
        go_wp2_with (go_at_call 28; refine HC.out.mono ?_; rintro e w2 ⟨A2, n2, C2, rfl, h3, h4⟩; have H3 := Lib.hid h3; have H4 := Lib.hid h4; clear h3 h4)
        go_ret
        exact ⟨_, _, _, rfl, H3.out, HB.out.trans (H4.out.mono HB.out.size)⟩
/-- The sum of two lists. -/
def addL (x y : List Int) : List Int := tr (ofF (sumF x y) (max x.length y.length))
theorem sum_sup (x y : List Int) : Sup (sumF x y) (max x.length y.length) := fun i hi => by
  show co x i ^^^ co y i = 0
  have h1 := Nat.le_max_left x.length y.length
  have h2 := Nat.le_max_right x.length y.length
  rw [co_out (l := x) (by omega), co_out (l := y) (by omega)]; rfl
theorem addL_by {x y : List Int} (hx : By x) (hy : By y) : By (addL x y) := tr_by (ofF_by (sumF_lt hx hy) _)
theorem addL_co (x y : List Int) (i : Nat) : co (addL x y) i = co x i ^^^ co y i := by unfold addL; rw [co_tr, ofF_all (sum_sup x y)]; rfl
theorem addL_neat {x y : List Int} (hx : By x) (hy : By y) : Neat (addL x y) := tr_neat (ofF_by (sumF_lt hx hy) _)
theorem addL_comm {x y : List Int} (hx : By x) (hy : By y) : addL x y = addL y x :=
  Neat.ext (addL_neat hx hy) (addL_by hx hy) (addL_by hy hx) (fun i => by rw [addL_co, addL_co, Nat.xor_comm]) |>.trans (addL_neat hy hx).tr_self
theorem padd_any (p q : Option Addr) (n m c d : Nat) (x y : List Int) (w : World) (hx : Sl w p n c x) (hy : Sl w q m d y) (hn : n ≤ 10000) (hm : m ≤ 10000) :
    Calls Try.prog 14 #[.slice p n c, .slice q m d] w (Sliced (addL x y) w) := by
  have bx : By x := hx.bytes.range
  have bY : By y := hy.bytes.range
  have sx := hx.bytes.size
  have sy := hy.bytes.size
  rcases Nat.lt_or_ge n m with h | h
  · have := add_two q p m n d c y x w _ (.inr ⟨rfl, h⟩) hy hx hm (by omega)
    rw [show addL x y = tr (mixL y x n) from ?_]
    · exact this
    · subst sx sy
      exact (addL_comm bx bY).trans (tr_eq (ofF_by (sumF_lt bY bx) _) (mixL_range y x _ bY bx) (fun i => by rw [ofF_all (sum_sup y x), mix_sum bY bx (by omega)]))
  · have := add_two p q n m c d x y w _ (.inl rfl) hx hy hn h
    rw [show addL x y = tr (mixL x y m) from ?_]
    · exact this
    · subst sx sy
      exact tr_eq (ofF_by (sumF_lt bx bY) _) (mixL_range x y _ bx bY) (fun i => by rw [ofF_all (sum_sup x y), mix_sum bx bY (by omega)])
end Go.Proofs.Ytbiaenkhhbgbcaa
