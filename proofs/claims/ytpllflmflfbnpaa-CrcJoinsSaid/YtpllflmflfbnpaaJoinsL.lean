/-
  Own text: the law CrcJoins, walked.
-/
import Derived.Test.YtpllflmflfbnpaaJoin
import Derived.Test.YtpllflmflfbnpaaSealsL
namespace Go.Proofs.Ytpllflmflfbnpaa
open Go.RowKit

theorem more_sum (x y : List Int) : more (sumB x) y = sumB (x ++ y) := by
  unfold sumB more
  rw [BitVec.not_not, fold_append]
theorem join_sum (x y : List Int) : ones (8 * y.length) (sumB x) ^^^ sumB y = sumB (x ++ y) := by
  rw [← more_sum]
  unfold more
  have e : ~~~ sumB x = sumB x ^^^ ~~~ 0#32 := by
    rw [show ~~~ 0#32 = BitVec.allOnes 32 from rfl, BitVec.xor_allOnes]
  rw [e, fold_xor]
  unfold sumB more
  generalize fold (~~~ 0#32) y = f
  generalize ones (8 * y.length) _ = g
  apply BitVec.eq_of_getLsbD_eq
  intro i hi
  simp only [BitVec.getLsbD_xor, BitVec.getLsbD_not]
  simp [hi]
theorem sum_nil (x y : List Int) (h : y.length = 0) : sumB x = sumB (x ++ y) := by
  rw [List.eq_nil_of_length_eq_zero h, List.append_nil]
theorem join_any (x y : List Int) (m : Nat) (w : World) (hm : y.length = m) (h : m ≤ 9223372036854775807) :
    Calls Try.prog 21 #[.int .u32 (sumB x).toNat, .int .u32 (sumB y).toNat, .int .i64 m] w fun e w' => e = .returned (.int .u32 (sumB (x ++ y)).toNat) ∧ Below w.heap.size w w' := by
  by_cases h0 : m = 0
  · have := join_none (sumB x) (sumB y) m w (by omega)
    rwa [← sum_nil x y (by omega)]
  · have := join_some (sumB x) (sumB y) m w (by omega) h
    rwa [← hm, join_sum, hm] at this
theorem joins_big (a b : Option Addr) (n m c d : Nat) (w : World) (h : 1000 < n ∨ 1000 < m) (hn : n ≤ 9223372036854775807) (hm : m ≤ 9223372036854775807) :
    Calls Try.prog 6 #[.slice a n c, .slice b m d] w fun e w' => e = .returned (.bool true) ∧ Below w.heap.size w w' := by
  by_cases h1 : 1000 < n
  · go_enter Try.func6, Try.ntmps6
    go_wp2_with (go_at_call 9; refine (awake_any _).mono ?_; rintro e w' ⟨rfl, hb⟩)
    go_ret
    exact ⟨rfl, hb⟩
  · have h2 : 1000 < m := by omega
    clear h
    go_enter Try.func6, Try.ntmps6
    go_wp2_with (go_at_call 9; refine (awake_any _).mono ?_; rintro e w' ⟨rfl, hb⟩)
    go_ret
    exact ⟨rfl, hb⟩
set_option maxRecDepth 100000 in
theorem joins_small (a b : Option Addr) (n m c d : Nat) (x y : List Int) (w : World) (hx : Bytes w a n x) (hy : Bytes w b m y) (hna : a = none → c = 0) (hnb : b = none → d = 0) (hn : n ≤ 1000) (hm : m ≤ 1000) :
    Calls Try.prog 6 #[.slice a n c, .slice b m d] w fun e w' => e = .returned (.bool true) ∧ Below w.heap.size w w' := by
  have HX := Lib.hid hx
  have HY := Lib.hid hy
  have HNA := Lib.hid hna
  have HNB := Lib.hid hnb
  have HR : Hid (∀ z ∈ x ++ y, 0 ≤ z ∧ z ≤ 255) := Lib.hid (fun z hz => (List.mem_append.1 hz).elim (hx.range z) (hy.range z))
  have cj := fun w => join_any x y m w hy.size (by omega)
  have cm := fun (t : Nat) (w : World) (h1 : IsTab w t) (h2 : Bytes w b m y) => more_any t (sumB x) b m d y w h1 h2
  rw [more_sum] at cm
  have CJ := Lib.hid cj
  have CM := Lib.hid cm
  clear hx hy hna hnb cj cm
  go_enter Try.func6, Try.ntmps6
  go_wp2_with (first
    | (go_at_call 9; refine (awake_any _).mono ?_; rintro e w1 ⟨rfl, hb1⟩; have HB1 := Lib.hid hb1; clear hb1)
    | (go_at_call 10; refine (new_any _).mono ?_; rintro e w2 ⟨rfl, ht, hb2⟩; have HT := Lib.hid ht; have HB2 := Lib.hid (HB1.out.trans (hb2.mono HB1.out.size)); clear ht hb2; have HX2 := Lib.hid (HX.out.below HB2.out (Nat.le_refl _)); have HY2 := Lib.hid (HY.out.below HB2.out (Nat.le_refl _)); have HA := Lib.hid (HX2.out.below ((Below.refl w2.heap.size w2).alloc (Nat.le_refl _) (.cells #[] 5)) (Nat.le_refl _)); have HW := Lib.hid (Own8.lit w2 w2.heap.size (Nat.le_refl _)); have HZ := Lib.hid ((Below.refl w2.heap.size w2).alloc (Nat.le_refl _) (.cells #[] 5)); have H6 := Lib.hid (show 0 + n ≤ 1000000 by omega); have H9 := Lib.hid (show n + m ≤ 1000000 by omega); have H7 := Lib.hid (HZ.out.size); have H8 : Hid (n = 0 + n) := Lib.hid (Nat.zero_add n).symm)
    | ((with_reducible refine wpList_append_bytes (w := w2.alloc _) rfl (.tmp 18) (.tmp 19) rfl w2.heap.size _ _ _ rfl [] HW.out _ _ _ rfl x HA.out HNA.out H6.out w2.heap.size w2 HZ.out (Nat.le_refl _) H7.out n H8.out x rfl ?_); intro A C w3 hown hb3; have HO := hown; have HB3 := Lib.hid hb3; have HY3 := Lib.hid (HY2.out.below hb3 (Nat.le_refl _)); have H73 := Lib.hid (hb3.size); clear hown hb3)
    | ((with_reducible refine wpList_append_bytes (w := w3) rfl (.tmp 20) (.tmp 21) rfl w2.heap.size _ _ _ rfl x HO.out _ _ _ rfl y HY3.out HNB.out H9.out w2.heap.size w2 HB3.out (Nat.le_refl _) H73.out (n + m) rfl (x ++ y) rfl ?_); intro A4 C4 w4 hown hb4; have HQ : Hid (Bytes w4 A4 (n + m) (x ++ y)) := Lib.hid (hown.out.bytes HR.out); have HB4 := Lib.hid hb4; have HX4 := Lib.hid (HX2.out.below hb4 (Nat.le_refl _)); have HY4 := Lib.hid (HY2.out.below hb4 (Nat.le_refl _)); have HT4 := Lib.hid (HT.out.below hb4 HT.out.lt); clear hown hb4)
    | (go_at_call 15; ((with_reducible refine (sum_any _ a _ _ _ w4 HT4.out HX4.out).mono ?_); rintro e w' ⟨rfl, rfl⟩))
    | (go_at_call 15; ((with_reducible refine (sum_any _ b _ _ _ w4 HT4.out HY4.out).mono ?_); rintro e w' ⟨rfl, rfl⟩))
    | (go_at_call 21; refine (CJ.out _).mono ?_; rintro e w5 ⟨rfl, hb5⟩; have HB5 := Lib.hid (HB4.out.trans (hb5.mono HB4.out.size)); have HQ5 := Lib.hid (HQ.out.below hb5 (Nat.le_refl _)); have HX5 := Lib.hid (HX4.out.below hb5 (Nat.le_refl _)); have HY5 := Lib.hid (HY4.out.below hb5 (Nat.le_refl _)); have HT5 := Lib.hid (HT4.out.below hb5 HT4.out.lt); clear hb5)
    | (go_at_call 15; ((with_reducible refine (sum_any _ A4 _ _ _ w5 HT5.out HQ5.out).mono ?_); rintro e w' ⟨rfl, rfl⟩))
    | (go_at_call 15; ((with_reducible refine (sum_any _ a _ _ _ w5 HT5.out HX5.out).mono ?_); rintro e w' ⟨rfl, rfl⟩))
    | (go_at_call 13; refine (CM.out _ _ HT5.out HY5.out).mono ?_; rintro e w' ⟨rfl, rfl⟩))
  go_ret
  exact ⟨rfl, HB2.out.trans (HB5.out.mono HB2.out.size)⟩
theorem joins_walk (a b : Option Addr) (n m c d : Nat) (x y : List Int) (w : World) (hx : IsRow .u8 w a n c x) (hy : IsRow .u8 w b m d y) :
    Calls Try.prog 6 #[.slice a n c, .slice b m d] w fun e w' => e = .returned (.bool true) ∧ Below w.heap.size w w' := by
  have h1 := hx.bytes
  have h2 := hy.bytes
  by_cases h : 1000 < n ∨ 1000 < m
  · exact joins_big a b n m c d w h h1.max h2.max
  · exact joins_small a b n m c d _ _ w h1 h2 hx.nil_cap hy.nil_cap (by omega) (by omega)
end Go.Proofs.Ytpllflmflfbnpaa
