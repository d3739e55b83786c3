/-
  Own text: the law GfRows, walked.
-/
import Derived.Test.YtcdikbnbkaahjaaGfR2
import Derived.Test.YtcdikbnbkaahjaaGfR4
import Derived.Test.YtcdikbnbkaahjaaByteC
namespace Go.Proofs.Ytcdikbnbkaahjaa
open Go.RowKit

theorem rows_big (a : Int) (p q : Option Addr) (n m c d : Nat) (w : World) (h : 2000 < n ∨ 2000 < m) (hn : n ≤ 9223372036854775807) (hm : m ≤ 9223372036854775807) :
    Calls Try.prog 8 #[.int .u8 a, .slice p n c, .slice q m d] w fun e w' => e = .returned (.bool true) ∧ Below w.heap.size w w' := by
  by_cases h1 : 2000 < n
  · go_enter Try.func8, Try.ntmps8
    go_wp2_with (go_at_call 9; refine (awake_any _).mono ?_; rintro e w' ⟨rfl, hb⟩)
    go_ret
    exact ⟨rfl, hb⟩
  · have h2 : 2000 < m := by omega
    clear h
    go_enter Try.func8, Try.ntmps8
    go_wp2_with (go_at_call 9; refine (awake_any _).mono ?_; rintro e w' ⟨rfl, hb⟩)
    go_ret
    exact ⟨rfl, hb⟩
set_option maxRecDepth 100000 in
theorem rows_small (a : Nat) (p q : Option Addr) (n m c d : Nat) (X Y : List Int) (w : World) (ha : a < 256) (hx : Bytes w p n X) (hy : Bytes w q m Y) (hnb : q = none → d = 0) (hnc : n ≤ c) (hn : n ≤ 2000) (hm : m ≤ 2000) :
    Calls Try.prog 8 #[.int .u8 a, .slice p n c, .slice q m d] w fun e w' => e = .returned (.bool true) ∧ Below w.heap.size w w' := by
  have HX := Lib.hid hx
  have HY := Lib.hid hy
  have HNB := Lib.hid hnb
  have HN := Lib.hid (show n ≤ 100000 by omega)
  have HM := Lib.hid (show m ≤ 100000 by omega)
  have H6 := Lib.hid (show 0 + m ≤ 1000000 by omega)
  have H8 : Hid (m = 0 + m) := Lib.hid (Nat.zero_add m).symm
  clear hx hy hnb
  go_enter Try.func8, Try.ntmps8
  go_wp2_with (first
    | (go_at_call 9; refine (awake_any _).mono ?_; rintro e w1 ⟨rfl, hb1⟩; have HB1 := Lib.hid hb1; clear hb1)
    | (go_at_call 10; refine (new_any _).mono ?_; rintro e w2 ⟨rfl, ht, hb2⟩; have HT2 := Lib.hid ht; have HB2 := Lib.hid (HB1.out.trans (hb2.mono HB1.out.size)); clear ht hb2; have HX2 := Lib.hid (HX.out.below HB2.out (Nat.le_refl _)))
    | (go_at_call 21; refine (scale_any _ a p n c X w2 ha HT2.out HX2.out HN.out).mono ?_; rintro e w3 ⟨g0, rfl, hg0, hr0, hb3⟩; have HG0 := Lib.hid hg0; have HR3 := Lib.hid hr0; have HT3 := Lib.hid (HT2.out.below hb3 HT2.out.lt); have HB3 := Lib.hid (HB2.out.trans (hb3.mono HB2.out.size)); clear hg0 hr0 hb3; have HZ := Lib.hid ((Below.refl w3.heap.size w3).alloc (Nat.le_refl _) (.cells #[] 5)); have HY3 := Lib.hid ((HY.out.below HB3.out (Nat.le_refl _)).below HZ.out (Nat.le_refl _)); have HW := Lib.hid (Own8.lit w3 w3.heap.size (Nat.le_refl _)); have H7 := Lib.hid (HZ.out.size))
    | ((with_reducible refine wpList_append_bytes (w := w3.alloc _) rfl (.tmp 28) (.tmp 29) rfl w3.heap.size _ _ _ rfl [] HW.out _ _ _ rfl Y HY3.out HNB.out H6.out w3.heap.size w3 HZ.out (Nat.le_refl _) H7.out m H8.out Y rfl ?_); intro A C w4 hown hb4; have HO4 := hown; have HT4 := Lib.hid (HT3.out.below hb4 HT3.out.lt); have HB4 := Lib.hid (HB3.out.trans (hb4.mono HB3.out.size)); have HX4 := Lib.hid (HX.out.below HB4.out (Nat.le_refl _)); have HS4 := Lib.hid hb4.size; have HB34 := Lib.hid hb4; clear hown hb4)
    | (go_at_call 22; refine (mix_any _ a A m C Y p n c X w4 w3.heap.size ha HT4.out HO4.out HS4.out HX4.out HN.out hnc HM.out HY.out.range).mono ?_; rintro e w5 ⟨rfl, ho5, hb5⟩; have HO5 := Lib.hid ho5; have HB35 := Lib.hid (HB34.out.trans hb5); clear ho5 hb5; have HT5 := Lib.hid (HT3.out.below HB35.out HT3.out.lt); have HB5 := Lib.hid (HB3.out.trans (HB35.out.mono HB3.out.size)); have HX5 := Lib.hid (HX.out.below HB5.out (Nat.le_refl _)); have HY5 := Lib.hid (HY.out.below HB5.out (Nat.le_refl _)))
    | (go_at_call 23; refine (dot_any _ p q n m c d X Y w5 HT5.out HX5.out HY5.out).mono ?_; rintro e w6 ⟨rfl, hb6⟩; have HB6 := Lib.hid hb6; have HX6 := Lib.hid (HX5.out.below hb6 (Nat.le_refl _)); have HY6 := Lib.hid (HY5.out.below hb6 (Nat.le_refl _)); clear hb6)
    | (go_at_call 24; refine (rdot_any p q n m c d X Y w6 HX6.out HY6.out).mono ?_; rintro e w7 ⟨rfl, hb7⟩; have HB57 := Lib.hid (HB6.out.trans (hb7.mono HB6.out.size)); have HB7 := Lib.hid (HB5.out.trans (HB57.out.mono HB5.out.size)); clear hb7; have HZ7 := Lib.hid ((Below.refl w7.heap.size w7).alloc (Nat.le_refl _) (.cells #[] 5)); have HY7 := Lib.hid ((HY.out.below HB7.out (Nat.le_refl _)).below HZ7.out (Nat.le_refl _)); have HW7 := Lib.hid (Own8.lit w7 w7.heap.size (Nat.le_refl _)); have H77 := Lib.hid (HZ7.out.size))
    | ((with_reducible refine wpList_append_bytes (w := w7.alloc _) rfl (.tmp 58) (.tmp 59) rfl w7.heap.size _ _ _ rfl [] HW7.out _ _ _ rfl Y HY7.out HNB.out H6.out w7.heap.size w7 HZ7.out (Nat.le_refl _) H77.out m H8.out Y rfl ?_); intro A2 C2 w8 hown hb8; have HO8 := hown; have HB78 := Lib.hid hb8; clear hown hb8))
  have HX7 := Lib.hid (HX.out.below HB7.out (Nat.le_refl _))
  have HR7 := Lib.hid ((HR3.out.below HB35.out HR3.out.lt).below HB57.out (Nat.lt_of_lt_of_le HR3.out.lt HB35.out.size))
  have HG7 := Lib.hid HR7.out.lt
  have HQ7 := Lib.hid ((HO5.out.bytes (mixL_range _ _ _ HY.out.range (sc_range a ha X HX.out.range))).below HB57.out (Nat.le_refl _))
  have HST : Hid (Own8 w8 w7.heap.size (.slice A2 m C2) m (mixL Y (sc a X) 0)) := Lib.hid (by rw [mixL_zero]; exact HO8.out)
  have HSX := Lib.hid HX.out.size
  have HSY := Lib.hid HY.out.size
  have HYR := Lib.hid HY.out.range
  have HXR := Lib.hid HX.out.range
  have HSC := Lib.hid (sc_length a X)
  have HMR := Lib.hid (mixL_range Y (sc a X) n HY.out.range (sc_range a ha X HX.out.range))
  have HXB := Lib.hid (fun i hi => HX.out.byte i hi)
  have HYB := Lib.hid (fun i hi => HY.out.byte i hi)
  have HSG := Lib.hid (fun i (hi : i < n) => sc_get a X i (by rw [HX.out.size]; exact hi))
  clear HX HY HX2 HX4 HX5 HX6 HY3 HY5 HY6 HY7 HW HW7 HZ HZ7 H7 H77 HO4 HO5 HO8 HT2 HT3 HT4 HT5 HB1 HB2 HB3 HB4 HB5 HB6 HB34 HB35 HB57 HS4 HR3 HG0 HNB HN HM H6 H8
  go_loopw [11, 12] (fun i _ wr => ∃ k : Nat, k ≤ n ∧ i = .int .i64 k ∧ Hid (Own8 wr w7.heap.size (.slice A2 m C2) m (mixL Y (sc a X) k)) ∧ Hid (Below w7.heap.size w7 wr)) (fun i _ _ => n - (intOf i).toNat)
  case atStart => exact ⟨0, by omega, rfl, HST, HB78⟩
  case round =>
    obtain ⟨k, hk, rfl, HO, HB⟩ := hrel
    obtain ⟨wo, ho⟩ : ∃ wo, wo = wr := ⟨_, rfl⟩
    subst ho
    by_cases hlt : k < n
    · have h1 := HX7.out.below HB.out (Nat.le_refl _)
      obtain ⟨b, off, rfl, c1⟩ : ∃ b off, p = some ⟨b, off, none⟩ ∧ wo.cell? ⟨b, off + k, none⟩ = some (.int .u8 (X.getD k 0)) := by
        rcases h1.cell with h | ⟨_, b, off, e, _, h⟩
        · omega
        · exact ⟨b, off, e, h k hlt⟩
      have c3 := (HR7.out.below HB.out HG7.out).cell k (by rw [HSC.out, HSX.out]; exact hlt)
      have hg := HSG.out k hlt
      rw [hg] at c3
      obtain ⟨x0, x1⟩ := HXB.out k hlt
      have HSG' := Lib.hid hg
      clear h1 hg
      generalize X.getD k 0 = u0 at *
      obtain ⟨u, rfl⟩ : ∃ u : Nat, u0 = u := ⟨u0.toNat, by omega⟩
      rw [Int.toNat_natCast] at c3
      have CR := Lib.hid (fun w => rmul_any a u ha (by omega) w)
      have hq := gm_lt (a := a) (b := u) ha (by omega)
      by_cases hkm : k < m
      · obtain ⟨b2, rfl, hb0, hb1, hc, hf, hst⟩ := HO.out.at_ (by omega)
        have c2 := hc k hkm
        have f2 := hf k
        have HST2 := Lib.hid (hst k)
        rw [mixL_get _ _ _ _ (by rw [HSY.out]; exact hkm), if_neg (by omega)] at c2
        have hss := mixL_step Y (sc a X) k (by rw [HSY.out]; exact hkm)
        rw [HSG'.out, Int.toNat_natCast, Int.toNat_natCast] at hss
        obtain ⟨y0, y1⟩ := HYB.out k hkm
        generalize Y.getD k 0 = v0 at *
        obtain ⟨v, rfl⟩ : ∃ u : Nat, v0 = u := ⟨v0.toNat, by omega⟩
        rw [Int.toNat_natCast] at hss
        generalize gm a u = r at *
        have HSS := Lib.hid hss
        have HB0 := Lib.hid hb0
        have bx := bits_u8 v r (by omega) hq
        clear hc hf hst hss hb0 hb1
        go_wp2_with (go_at_call 12; refine (CR.out _).mono ?_; rintro e w9 ⟨rfl, rfl⟩)
        go_roundw
        case rel =>
          refine ⟨k + 1, by omega, by go_num, ?_, Lib.hid (HB.out.setCell (p := ⟨b2, k, none⟩) HB0.out _)⟩
          have h := HST2.out ((v ^^^ r : Nat) : Int)
          rw [HSS.out] at h
          exact Lib.hid h
        case measure => simp [intOf]; omega
      · have HBY := Lib.hid (mixL_beyond Y (sc a X) k (by rw [HSY.out]; omega))
        generalize gm a u = r at *
        go_wp2_with (go_at_call 12; refine (CR.out _).mono ?_; rintro e w9 ⟨rfl, rfl⟩)
        go_roundw
        case rel => exact ⟨k + 1, by omega, by go_num, by rw [HBY.out]; exact HO, HB⟩
        case measure => simp [intOf]; omega
    · obtain rfl : k = n := by omega
      have HF1 := Lib.hid (HQ7.out.below HB.out (Nat.le_refl _))
      have HF2 := Lib.hid (HO.out.bytes HMR.out)
      go_wp2_with (go_at_call 25; refine (same_true _ _ _ _ _ _ _ _ HF1.out HF2.out).mono ?_; rintro e w9 ⟨rfl, hb9⟩; have HB9 := Lib.hid hb9; clear hb9)
      go_ret
      have z7 := HB7.out.size
      have z8 := HB.out.size
      exact ⟨rfl, HB7.out.trans ((HB.out.trans (HB9.out.mono z8)).mono z7)⟩
theorem rows_walk (a : Int) (p q : Option Addr) (n m c d : Nat) (x y : List Int) (w : World) (ha : (Lit.int .u8 a).wf = true) (hx : IsRow .u8 w p n c x) (hy : IsRow .u8 w q m d y) :
    Calls Try.prog 8 #[.int .u8 a, .slice p n c, .slice q m d] w fun e w' => e = .returned (.bool true) ∧ Below w.heap.size w w' := by
  obtain ⟨a, rfl, ha8⟩ := u8_of ha
  have h1 := hx.bytes
  have h2 := hy.bytes
  by_cases h : 2000 < n ∨ 2000 < m
  · exact rows_big a p q n m c d w h h1.max h2.max
  · exact rows_small a p q n m c d _ _ w ha8 h1 h2 hy.nil_cap hx.bound.1 (by omega) (by omega)
end Go.Proofs.Ytcdikbnbkaahjaa
