/-
  Own text: law PolyDivides, walked.
-/
import Derived.Test.YtbiaenkhhbgbcaaDivN
import Derived.Test.YtbiaenkhhbgbcaaAwk
namespace Go.Proofs.Ytbiaenkhhbgbcaa
open Go.RowKit

theorem divides_big (p q : Option Addr) (n m c d : Nat) (w : World) (hx : n ≤ 9223372036854775807) (hy : m ≤ 9223372036854775807) (h : ¬ (n ≤ 60 ∧ m ≤ 60)) :
    Calls Try.prog 5 #[.slice p n c, .slice q m d] w (Woke w) := by
  have HS := Lib.hid (fun w => short_no p q n m c d w hx hy h)
  clear h
  go_enter Try.func5, Try.ntmps5
  go_wp2_with (first
    | (go_at_call 8; refine (awake4_any _).mono ?_; rintro e w1 ⟨rfl, hb1⟩; have HB1 := Lib.hid hb1; clear hb1)
    | (go_at_call 9; refine (HS.out _).mono ?_; rintro e w2 ⟨rfl, rfl⟩))
  go_ret
  exact ⟨rfl, HB1.out⟩
set_option maxRecDepth 100000 in
set_option maxHeartbeats 1000000 in
theorem divides_zero (p q : Option Addr) (n m c d : Nat) (X Y : List Int) (w : World) (hX : Sl w p n c X) (hY : Sl w q m d Y) (hn : n ≤ 60) (hm : m ≤ 60) (h0 : dn Y = 0) :
    Calls Try.prog 5 #[.slice p n c, .slice q m d] w (Woke w) := by
  have HX := Lib.hid hX
  have HY := Lib.hid hY
  have CD := Lib.hid (fun t w ht hx hy => divide_none t p q n m c d X Y w ht hx hy (by omega) (by omega) h0)
  have CR := Lib.hid (fun w h => rdegree_any q m d Y w h)
  rw [h0, show ((0 : Nat) : Int) - 1 = -1 from rfl] at CR
  clear hX hY h0
  go_enter Try.func5, Try.ntmps5
  go_wp2_with (first
    | (go_at_call 8; refine (awake4_any _).mono ?_; rintro e w1 ⟨rfl, hb1⟩; have HB1 := Lib.hid hb1; clear hb1)
    | (go_at_call 9; refine (short_yes _ _ _ _ _ _ _ hn hm).mono ?_; rintro e w2 ⟨rfl, rfl⟩)
    | (go_at_call 10; refine (new_any _).mono ?_; rintro e w2 ⟨rfl, ht, hb⟩; have HT2 := Lib.hid ht; have HB2 := Lib.hid (HB1.out.trans (hb.mono HB1.out.size)); clear ht hb)
    | (go_at_call 24; refine (CD.out _ _ HT2.out (HX.out.below HB2.out (Nat.le_refl _)) (HY.out.below HB2.out (Nat.le_refl _))).mono ?_; rintro e w3 ⟨rfl, hb⟩; have HB3 := Lib.hid (HB2.out.trans (hb.mono HB2.out.size)); clear hb)
    | (go_at_call 20; (with_reducible refine (CR.out w3 (HY.out.below HB3.out (Nat.le_refl _)).bytes).mono ?_); rintro e w4 ⟨rfl, rfl⟩))
  go_ret
  exact ⟨rfl, HB3.out⟩
theorem div_again {x y q r : List Int} (hx : By x) (h : DivOK x y q r) (N M : Nat) (hN : q.length + y.length = N) (hM : max N r.length = M) : tr x = tr (ofF (sumF (ofF (mulF q y) N) r) M) := by
  subst hN hM
  have b1 : By (ofF (mulF q y) (q.length + y.length)) := ofF_by (mulF_lt q y) _
  refine tr_eq hx (ofF_by (sumF_lt b1 h.rby) _) (fun i => ?_)
  have hs : Sup (sumF (ofF (mulF q y) (q.length + y.length)) r) (max (q.length + y.length) r.length) := by
    have := sum_sup (ofF (mulF q y) (q.length + y.length)) r
    rwa [ofF_length] at this
  rw [ofF_all hs, h.all i]
  show _ = co (ofF (mulF q y) (q.length + y.length)) i ^^^ co r i
  rw [ofF_all (mulF_sup q y)]
  rfl
set_option maxRecDepth 100000 in
set_option maxHeartbeats 1000000 in
theorem divides_some (p q : Option Addr) (n m c d : Nat) (X Y : List Int) (w : World) (hX : Sl w p n c X) (hY : Sl w q m d Y) (hn : n ≤ 60) (hm : m ≤ 60) (h0 : dn Y ≠ 0) :
    Calls Try.prog 5 #[.slice p n c, .slice q m d] w (Woke w) := by
  have HX := Lib.hid hX
  have HY := Lib.hid hY
  have HBX := Lib.hid (show By X from hX.bytes.range)
  have sx := hX.bytes.size
  have sy := hY.bytes.size
  have hyd := dn_le Y
  rw [sy] at hyd
  have CD := Lib.hid (fun t w ht hx hy => (divide_some t p q n m c d X Y w ht hx hy (by omega) (by omega) h0).mono (R' := fun e w' => ∃ A k C A' k' C' Q R, e = .returned (.tuple #[.slice A k C, .slice A' k' C', .int .i64 0]) ∧ Sl w' A k C Q ∧ Sl w' A' k' C' R ∧ DivOK X Y Q R ∧ Below w.heap.size w w' ∧ k ≤ n ∧ k' < dn Y ∧ dn R = k' ∧ dn Q = k) (fun e w' ⟨A, k, C, A', k', C', Q, R, h1, h2, h3, h4, h5⟩ => ⟨A, k, C, A', k', C', Q, R, h1, h2, h3, h4, h5, by rw [← h2.bytes.size, ← sx]; exact h4.qlen, by rw [← h3.bytes.size]; exact h4.rlen, by rw [← h3.bytes.size]; exact h4.rneat, by rw [← h2.bytes.size]; exact h4.qneat⟩))
  have CR := Lib.hid (fun w h => rdegree_any q m d Y w h)
  generalize dn Y = e0 at *
  have g1 : ¬ (e0 : Int) - 1 < 0 := by omega
  clear hX hY sx
  go_enter Try.func5, Try.ntmps5
  go_wp2_with (first
    | (go_at_call 8; refine (awake4_any _).mono ?_; rintro e w1 ⟨rfl, hb1⟩; have HB1 := Lib.hid hb1; clear hb1)
    | (go_at_call 9; refine (short_yes _ _ _ _ _ _ _ hn hm).mono ?_; rintro e w2 ⟨rfl, rfl⟩)
    | (go_at_call 10; refine (new_any _).mono ?_; rintro e w2 ⟨rfl, ht, hb⟩; have HT2 := Lib.hid ht; have HB2 := Lib.hid (HB1.out.trans (hb.mono HB1.out.size)); clear ht hb)
    | (go_at_call 24; refine (CD.out _ _ HT2.out (HX.out.below HB2.out (Nat.le_refl _)) (HY.out.below HB2.out (Nat.le_refl _))).mono ?_; rintro e w3 ⟨A, k, C, A', k', C', Q, R, rfl, h3, h3', hok, hb, hk, hk', hdr, hdq⟩; have H3 := Lib.hid h3; have H3' := Lib.hid h3'; have HOK := Lib.hid hok; have HB3 := Lib.hid (HB2.out.trans (hb.mono HB2.out.size)); have g2 : ¬ (100 : Int) < k := (by omega); have g3 : ¬ (100 : Int) < k' := (by omega); have g4 : ¬ (e0 : Int) - 1 ≤ (k' : Int) - 1 := (by omega); have CR1 := Lib.hid (rdegree_any A' k' C' R w3 h3'.bytes); have CR2 := Lib.hid (rdegree_any A k C Q w3 h3.bytes); rw [hdr] at CR1; rw [hdq] at CR2; clear h3 h3' hok hb hdr hdq)
    | (go_at_call 20; (with_reducible refine (CR.out w3 (HY.out.below HB3.out (Nat.le_refl _)).bytes).mono ?_); rintro e w4 ⟨rfl, rfl⟩)
    | (go_at_call 20; (with_reducible refine CR1.out.mono ?_); rintro e w4 ⟨rfl, rfl⟩)
    | (go_at_call 20; (with_reducible refine CR2.out.mono ?_); rintro e w4 ⟨rfl, rfl⟩)
    | (go_at_call 18; refine (trim_any _ _ _ X _ (HX.out.below HB3.out (Nat.le_refl _)) (by omega)).mono ?_; rintro e w5 ⟨A5, n5, C5, rfl, h5, hb⟩; have H5 := Lib.hid h5; have H35 := Lib.hid (H3.out.below hb (Nat.le_refl _)); have H35' := Lib.hid (H3'.out.below hb (Nat.le_refl _)); have HB5 := Lib.hid (HB3.out.trans (hb.mono HB3.out.size)); clear h5 hb)
    | (go_at_call 17; refine (rmulp_any _ _ _ _ _ _ Q Y _ H35.out.bytes (HY.out.below HB5.out (Nat.le_refl _)).bytes (by omega) (by omega)).mono ?_; rintro e w6 ⟨A6, n6, C6, rfl, h6, hb⟩; have hn6 := h6.bytes.size; rw [ofF_length] at hn6; have HN6 := Lib.hid hn6; have hl6 : n6 ≤ 200 := (by omega); have H6 := Lib.hid h6; have H56 := Lib.hid (H5.out.below hb (Nat.le_refl _)); have H36' := Lib.hid (H35'.out.below hb (Nat.le_refl _)); have HB6 := Lib.hid (HB5.out.trans (hb.mono HB5.out.size)); clear h6 hb hn6)
    | (go_at_call 15; refine (radd_any _ _ _ _ _ _ _ R _ H6.out.bytes H36'.out.bytes (by omega) (by omega)).mono ?_; rintro e w7 ⟨A7, n7, C7, rfl, h7, hb⟩; have H7 := Lib.hid h7; have H57 := Lib.hid (H56.out.below hb (Nat.le_refl _)); have HB7 := Lib.hid (HB6.out.trans (hb.mono HB6.out.size)); clear h7 hb)
    | (go_at_call 13; (with_reducible refine (is_true A5 A7 n5 n7 C5 C7 _ _ w7 H57.out.bytes H7.out.bytes ?_).mono ?_); (exact div_again HBX.out HOK.out _ _ (by rw [H3.out.bytes.size, sy]) (by rw [H3'.out.bytes.size, ← HN6.out])); rintro e w8 ⟨rfl, hb⟩; have HB8 := Lib.hid (HB7.out.trans (hb.mono HB7.out.size)); clear hb))
  go_ret
  exact ⟨rfl, HB8.out⟩
theorem divides_walk (p q : Option Addr) (n m c d : Nat) (X Y : List Int) (w : World) (hX : IsRow .u8 w p n c X) (hY : IsRow .u8 w q m d Y) :
    Calls Try.prog 5 #[.slice p n c, .slice q m d] w fun e w' => e = .returned (.bool true) ∧ Below w.heap.size w w' := by
  by_cases h : n ≤ 60 ∧ m ≤ 60
  · by_cases h0 : dn (Y.take m) = 0
    · exact divides_zero p q n m c d _ _ w hX.sl hY.sl h.1 h.2 h0
    · exact divides_some p q n m c d _ _ w hX.sl hY.sl h.1 h.2 h0
  · exact divides_big p q n m c d w (by have := hX.bound; omega) (by have := hY.bound; omega) h
end Go.Proofs.Ytbiaenkhhbgbcaa
