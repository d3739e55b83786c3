/-
  Own text: law PolyCommon, walked.
-/
import Derived.Test.YtbiaenkhhbgbcaaCom
import Derived.Test.YtbiaenkhhbgbcaaAwk
namespace Go.Proofs.Ytbiaenkhhbgbcaa
open Go.RowKit

theorem common_far (p q r : Option Addr) (n m k c d e : Nat) (w : World) (hx : n ≤ 9223372036854775807) (hy : m ≤ 9223372036854775807) (h : ¬ (n ≤ 60 ∧ m ≤ 60)) :
    Calls Try.prog 7 #[.slice p n c, .slice q m d, .slice r k e] w (Woke w) := by
  have HS := Lib.hid (fun w => short_no p q n m c d w hx hy h)
  clear h
  go_enter Try.func7, Try.ntmps7
  go_wp2_with (first
    | (go_at_call 8; refine (awake4_any _).mono ?_; rintro e w1 ⟨rfl, hb1⟩; have HB1 := Lib.hid hb1; clear hb1)
    | (go_at_call 9; refine (HS.out _).mono ?_; rintro e w2 ⟨rfl, rfl⟩))
  go_ret
  exact ⟨rfl, HB1.out⟩
theorem common_big (p q r : Option Addr) (n m k c d e : Nat) (w : World) (hz : k ≤ 9223372036854775807) (hn : n ≤ 60) (hm : m ≤ 60) (h : ¬ (n ≤ 30 ∧ m ≤ 30 ∧ k ≤ 30)) :
    Calls Try.prog 7 #[.slice p n c, .slice q m d, .slice r k e] w (Woke w) := by
  have h1 : (30 : Int) < k ∨ (¬ (30 : Int) < k ∧ (30 : Int) < n) ∨ (¬ (30 : Int) < k ∧ ¬ (30 : Int) < n ∧ (30 : Int) < m) := by omega
  clear h
  rcases h1 with h1 | ⟨h1, h2⟩ | ⟨h1, h2, h3⟩
  all_goals
    go_enter Try.func7, Try.ntmps7
    go_wp2_with (first
      | (go_at_call 8; refine (awake4_any _).mono ?_; rintro e w1 ⟨rfl, hb1⟩; have HB1 := Lib.hid hb1; clear hb1)
      | (go_at_call 9; refine (short_yes _ _ _ _ _ _ _ hn hm).mono ?_; rintro e w2 ⟨rfl, rfl⟩))
    go_ret
    exact ⟨rfl, HB1.out⟩
theorem divide_null (t : Nat) (a b : Option Addr) (n m c d : Nat) (x y : List Int) (w : World) (ht : IsTab w t) (hx : Sl w a n c x) (hy : Sl w b m d y) (hn : n ≤ 10000) (hm : m ≤ 10000) (h0 : dn y ≠ 0) (hu : Mult (co x) (co y)) :
    Calls Try.prog 24 #[.pointer (some ⟨t, 0, none⟩), .slice a n c, .slice b m d] w fun e w' => ∃ A k C A' C', e = .returned (.tuple #[.slice A k C, .slice A' 0 C', .int .i64 0]) ∧ Below w.heap.size w w' :=
  (divide_some t a b n m c d x y w ht hx hy hn hm h0).mono fun e w' ⟨A, k, C, A', k', C', q, r, h1, _, h3, h4, h5⟩ => by
    have hr := rest_none hy.bytes.range h4 h0 hu
    subst hr
    obtain rfl : k' = 0 := by have := h3.bytes.size; simp at this; exact this.symm
    exact ⟨A, k, C, A', C', h1, h5⟩
theorem mulF_mult {x y : List Int} (hx : By x) (N : Nat) (hN : x.length + y.length = N) : Mult (co (ofF (mulF x y) N)) (co y) :=
  ⟨co x, hx.lt, ⟨_, co_sup x⟩, fun i => by subst hN; rw [ofF_all (mulF_sup x y)]; rfl⟩
theorem dn_null {x : List Int} (h : dn x = 0) (i : Nat) : co x i = 0 := co_dn x i (by omega)
theorem null_dn {x : List Int} (hx : By x) (h : ∀ i, co x i = 0) : dn x = 0 := dn_of hx (fun i _ => h i) (fun e => absurd rfl e)
theorem null_mul {x y : List Int} (N : Nat) (h : dn y = 0) : dn (ofF (mulF x y) N) = 0 :=
  null_dn (ofF_by (mulF_lt x y) _) (fun i => by
    by_cases g : i < N
    · rw [ofF_co _ _ _ g]
      show conv (co x) (co y) i = 0
      rw [conv_comm]; exact conv_null (dn_null h) i
    · exact co_out (by rw [ofF_length]; omega))
set_option maxRecDepth 100000 in
set_option maxHeartbeats 2000000 in
theorem common_zero (p q r : Option Addr) (n m k c d e : Nat) (X Y Z : List Int) (w : World) (hX : Sl w p n c X) (hY : Sl w q m d Y) (hZ : Sl w r k e Z) (hn : n ≤ 30) (hm : m ≤ 30) (hk : k ≤ 30) (z1 : dn (ofF (mulF X Z) (n + k)) = 0) (z2 : dn (ofF (mulF Y Z) (m + k)) = 0) :
    Calls Try.prog 7 #[.slice p n c, .slice q m d, .slice r k e] w (Woke w) := by
  have HX := Lib.hid hX
  have HY := Lib.hid hY
  have HZ := Lib.hid hZ
  have M1 := Lib.hid (fun w h1 h2 => rmulp_any p r n k c e X Z w h1 h2 (by omega) (by omega))
  have M2 := Lib.hid (fun w h1 h2 => rmulp_any q r m k d e Y Z w h1 h2 (by omega) (by omega))
  have R1 := Lib.hid (fun A N C w h => rdegree_any A N C (ofF (mulF X Z) (n + k)) w h)
  have R2 := Lib.hid (fun A N C w h => rdegree_any A N C (ofF (mulF Y Z) (m + k)) w h)
  rw [z1, show ((0 : Nat) : Int) - 1 = -1 from rfl] at R1
  rw [z2, show ((0 : Nat) : Int) - 1 = -1 from rfl] at R2
  have L1 := ofF_length (mulF X Z) (n + k)
  have L2 := ofF_length (mulF Y Z) (m + k)
  have hnul : ∀ D, ComOK (ofF (mulF X Z) (n + k)) (ofF (mulF Y Z) (m + k)) D → D.length = 0 := fun D h => Classical.byContradiction fun g => h.some g ⟨dn_null z1, dn_null z2⟩
  have HNUL := Lib.hid hnul
  have g1 : ¬ (30 : Int) < n := by omega
  have g2 : ¬ (30 : Int) < m := by omega
  have g3 : ¬ (30 : Int) < k := by omega
  clear hX hY hZ z1 z2 hnul
  generalize ofF (mulF X Z) (n + k) = U at *
  generalize ofF (mulF Y Z) (m + k) = V at *
  have HL1 := Lib.hid L1
  have HL2 := Lib.hid L2
  clear L1 L2
  go_enter Try.func7, Try.ntmps7
  go_wp2_with (first
    | (go_at_call 8; refine (awake4_any _).mono ?_; rintro e w1 ⟨rfl, hb1⟩; have HB1 := Lib.hid hb1; clear hb1)
    | (go_at_call 9; refine (short_yes _ _ _ _ _ _ _ (by omega) (by omega)).mono ?_; rintro e w2 ⟨rfl, rfl⟩)
    | (go_at_call 10; refine (new_any _).mono ?_; rintro e w2 ⟨rfl, ht, hb⟩; have HT2 := Lib.hid ht; have HB2 := Lib.hid (HB1.out.trans (hb.mono HB1.out.size)); clear ht hb)
    | (go_at_call 17; (with_reducible refine (M1.out w2 (HX.out.below HB2.out (Nat.le_refl _)).bytes (HZ.out.below HB2.out (Nat.le_refl _)).bytes).mono ?_); rintro e w3 ⟨A3, n3, C3, rfl, h3, hb⟩; have H3 := Lib.hid h3; have HT3 := Lib.hid (HT2.out.below hb HT2.out.lt); have HB3 := Lib.hid (HB2.out.trans (hb.mono HB2.out.size)); clear h3 hb)
    | (go_at_call 17; (with_reducible refine (M2.out w3 (HY.out.below HB3.out (Nat.le_refl _)).bytes (HZ.out.below HB3.out (Nat.le_refl _)).bytes).mono ?_); rintro e w4 ⟨A4, n4, C4, rfl, h4, hb⟩; have H4 := Lib.hid h4; have H34 := Lib.hid (H3.out.below hb (Nat.le_refl _)); have HT4 := Lib.hid (HT3.out.below hb HT3.out.lt); have HB4 := Lib.hid (HB3.out.trans (hb.mono HB3.out.size)); clear h4 hb)
    | (go_at_call 26; refine (common_any _ A3 A4 n3 n4 C3 C4 U V w4 HT4.out H34.out H4.out (by rw [← H34.out.bytes.size, HL1.out]; omega) (by rw [← H4.out.bytes.size, HL2.out]; omega)).mono ?_; rintro e w5 ⟨A5, n5, C5, D5, rfl, h5, hok, hl, hl2, hb⟩; obtain rfl : n5 = 0 := (by rw [← hl]; exact HNUL.out _ hok); have H35 := Lib.hid (H34.out.below hb (Nat.le_refl _)); have H45 := Lib.hid (H4.out.below hb (Nat.le_refl _)); have HB5 := Lib.hid (HB4.out.trans (hb.mono HB4.out.size)); clear h5 hb hok hl hl2)
    | (go_at_call 20; (with_reducible refine (R1.out A3 n3 C3 w5 H35.out.bytes).mono ?_); rintro e w6 ⟨rfl, rfl⟩)
    | (go_at_call 20; (with_reducible refine (R2.out A4 n4 C4 w5 H45.out.bytes).mono ?_); rintro e w6 ⟨rfl, rfl⟩))
  go_ret
  exact ⟨rfl, HB5.out⟩
set_option maxRecDepth 100000 in
set_option maxHeartbeats 4000000 in
theorem common_some (p q r : Option Addr) (n m k c d e : Nat) (X Y Z : List Int) (w : World) (hX : Sl w p n c X) (hY : Sl w q m d Y) (hZ : Sl w r k e Z) (hn : n ≤ 30) (hm : m ≤ 30) (hk : k ≤ 30) (z12 : ¬ (dn (ofF (mulF X Z) (n + k)) = 0 ∧ dn (ofF (mulF Y Z) (m + k)) = 0)) :
    Calls Try.prog 7 #[.slice p n c, .slice q m d, .slice r k e] w (Woke w) := by
  have HX := Lib.hid hX
  have HY := Lib.hid hY
  have HZ := Lib.hid hZ
  have M1 := Lib.hid (fun w h1 h2 => rmulp_any p r n k c e X Z w h1 h2 (by omega) (by omega))
  have M2 := Lib.hid (fun w h1 h2 => rmulp_any q r m k d e Y Z w h1 h2 (by omega) (by omega))
  have R1 := Lib.hid (fun A N C w h => rdegree_any A N C (ofF (mulF X Z) (n + k)) w h)
  have R2 := Lib.hid (fun A N C w h => rdegree_any A N C (ofF (mulF Y Z) (m + k)) w h)
  have L1 := ofF_length (mulF X Z) (n + k)
  have L2 := ofF_length (mulF Y Z) (m + k)
  have hz0 : dn Z ≠ 0 := fun h => z12 ⟨null_mul _ h, null_mul _ h⟩
  have HU := Lib.hid (mulF_mult (x := X) (y := Z) hX.bytes.range (n + k) (by rw [hX.bytes.size, hZ.bytes.size]))
  have HV := Lib.hid (mulF_mult (x := Y) (y := Z) hY.bytes.range (m + k) (by rw [hY.bytes.size, hZ.bytes.size]))
  have hby1 : By (ofF (mulF X Z) (n + k)) := ofF_by (mulF_lt X Z) _
  have hby2 : By (ofF (mulF Y Z) (m + k)) := ofF_by (mulF_lt Y Z) _
  generalize ofF (mulF X Z) (n + k) = U at *
  generalize ofF (mulF Y Z) (m + k) = V at *
  have HD := Lib.hid (fun D (h : ComOK U V D) => show D.length ≠ 0 from fun g => z12 ⟨null_dn hby1 (h.null g).1, null_dn hby2 (h.null g).2⟩)
  have hor : (¬ (dn U : Int) - 1 < 0) ∨ ((dn U : Int) - 1 < 0 ∧ ¬ (dn V : Int) - 1 < 0) := by omega
  generalize dn U = u0 at *
  generalize dn V = v0 at *
  have HZ0 := Lib.hid hz0
  have HL1 := Lib.hid L1
  have HL2 := Lib.hid L2
  have g1 : ¬ (30 : Int) < n := by omega
  have g2 : ¬ (30 : Int) < m := by omega
  have g3 : ¬ (30 : Int) < k := by omega
  clear hX hY hZ z12 hby1 hby2 hz0 L1 L2
  rcases hor with h1 | ⟨h1, h2⟩
  all_goals
    go_enter Try.func7, Try.ntmps7
    go_wp2_with (first
      | (go_at_call 8; refine (awake4_any _).mono ?_; rintro e w1 ⟨rfl, hb1⟩; have HB1 := Lib.hid hb1; clear hb1)
      | (go_at_call 9; refine (short_yes _ _ _ _ _ _ _ (by omega) (by omega)).mono ?_; rintro e w2 ⟨rfl, rfl⟩)
      | (go_at_call 10; refine (new_any _).mono ?_; rintro e w2 ⟨rfl, ht, hb⟩; have HT2 := Lib.hid ht; have HB2 := Lib.hid (HB1.out.trans (hb.mono HB1.out.size)); clear ht hb)
      | (go_at_call 17; (with_reducible refine (M1.out w2 (HX.out.below HB2.out (Nat.le_refl _)).bytes (HZ.out.below HB2.out (Nat.le_refl _)).bytes).mono ?_); rintro e w3 ⟨A3, n3, C3, rfl, h3, hb⟩; have H3 := Lib.hid h3; have HT3 := Lib.hid (HT2.out.below hb HT2.out.lt); have HB3 := Lib.hid (HB2.out.trans (hb.mono HB2.out.size)); clear h3 hb)
      | (go_at_call 17; (with_reducible refine (M2.out w3 (HY.out.below HB3.out (Nat.le_refl _)).bytes (HZ.out.below HB3.out (Nat.le_refl _)).bytes).mono ?_); rintro e w4 ⟨A4, n4, C4, rfl, h4, hb⟩; have H4 := Lib.hid h4; have H34 := Lib.hid (H3.out.below hb (Nat.le_refl _)); have HT4 := Lib.hid (HT3.out.below hb HT3.out.lt); have HB4 := Lib.hid (HB3.out.trans (hb.mono HB3.out.size)); have l3 : n3 ≤ 60 := (by have := H3.out.bytes.size; rw [HL1.out] at this; omega); have l4 : n4 ≤ 60 := (by have := H4.out.bytes.size; rw [HL2.out] at this; omega); clear h4 hb)
      | (go_at_call 26; refine (common_any _ A3 A4 n3 n4 C3 C4 U V w4 HT4.out H34.out H4.out (by omega) (by omega)).mono ?_; rintro e w5 ⟨A5, n5, C5, D5, rfl, h5, hok, hl, hl2, hb⟩; have H5 := Lib.hid h5; have HOK := Lib.hid hok; have HT5 := Lib.hid (HT4.out.below hb HT4.out.lt); have H35 := Lib.hid (H34.out.below hb (Nat.le_refl _)); have H45 := Lib.hid (H4.out.below hb (Nat.le_refl _)); have HB5 := Lib.hid (HB4.out.trans (hb.mono HB4.out.size)); have hne := HD.out _ hok; have hone := hok.one hne; have hdn : dn D5 = n5 := (by rw [← hl]; exact hok.neat); have HDN := Lib.hid hdn; rw [hl] at hne hone; obtain ⟨j, hj⟩ : ∃ j, n5 - 1 = j := ⟨_, rfl⟩; rw [hj] at hone; have hj2 : (n5 : Int) - 1 = (j : Int) := (by omega); have hj3 : (0 : Int) ≤ j := (by omega); have hj4 : (j : Int) < n5 := (by omega); have hn0 : ((n5 : Int) == 0) = false := (by rw [beq_eq_false_iff_ne]; omega); obtain ⟨b', off', rfl, ck⟩ : ∃ b off, A5 = some ⟨b, off, none⟩ ∧ w5.cell? ⟨b, off + j, none⟩ = some (.int .u8 1) := (by rcases h5.bytes.cell with h | ⟨_, b, off, e, _, h⟩ <;> first | (exfalso; omega) | exact ⟨b, off, e, by rw [h j (by omega), hone]⟩); have HNE := Lib.hid hne; clear h5 hok hb hl hne hone hdn hj)
      | (go_at_call 20; (with_reducible refine (R1.out A3 n3 C3 w5 H35.out.bytes).mono ?_); rintro e w6 ⟨rfl, rfl⟩)
      | (go_at_call 20; (with_reducible refine (R2.out A4 n4 C4 w5 H45.out.bytes).mono ?_); rintro e w6 ⟨rfl, rfl⟩)
      | (go_at_call 24; (with_reducible refine (divide_null _ A3 (some ⟨b', off', none⟩) n3 n5 C3 C5 U D5 w5 HT5.out H35.out H5.out (by omega) hl2 (by rw [HDN.out]; exact HNE.out) HOK.out.first).mono ?_); rintro e w6 ⟨A6, k6, C6, A6', C6', rfl, hb⟩; have HT6 := Lib.hid (HT5.out.below hb HT5.out.lt); have H46 := Lib.hid (H45.out.below hb (Nat.le_refl _)); have H56 := Lib.hid (H5.out.below hb (Nat.le_refl _)); have HB6 := Lib.hid (HB5.out.trans (hb.mono HB5.out.size)); clear hb)
      | (go_at_call 24; (with_reducible refine (divide_null _ A4 (some ⟨b', off', none⟩) n4 n5 C4 C5 V D5 w6 HT6.out H46.out H56.out (by omega) hl2 (by rw [HDN.out]; exact HNE.out) HOK.out.second).mono ?_); rintro e w7 ⟨A7, k7, C7, A7', C7', rfl, hb⟩; have HT7 := Lib.hid (HT6.out.below hb HT6.out.lt); have H57 := Lib.hid (H56.out.below hb (Nat.le_refl _)); have HB7 := Lib.hid (HB6.out.trans (hb.mono HB6.out.size)); clear hb)
      | (go_at_call 24; (with_reducible refine (divide_null _ (some ⟨b', off', none⟩) r n5 k C5 _ D5 Z w7 HT7.out H57.out (HZ.out.below HB7.out (Nat.le_refl _)) hl2 (by omega) HZ0.out (HOK.out.goes _ HU.out HV.out)).mono ?_); rintro e w8 ⟨A8, k8, C8, A8', C8', rfl, hb⟩; have HB8 := Lib.hid (HB7.out.trans (hb.mono HB7.out.size)); clear hb))
    go_ret
    exact ⟨rfl, HB8.out⟩
theorem common_walk (p q r : Option Addr) (n m k c d e : Nat) (X Y Z : List Int) (w : World) (hX : IsRow .u8 w p n c X) (hY : IsRow .u8 w q m d Y) (hZ : IsRow .u8 w r k e Z) :
    Calls Try.prog 7 #[.slice p n c, .slice q m d, .slice r k e] w fun e w' => e = .returned (.bool true) ∧ Below w.heap.size w w' := by
  by_cases h : n ≤ 60 ∧ m ≤ 60
  · by_cases h2 : n ≤ 30 ∧ m ≤ 30 ∧ k ≤ 30
    · by_cases h0 : dn (ofF (mulF (X.take n) (Z.take k)) (n + k)) = 0 ∧ dn (ofF (mulF (Y.take m) (Z.take k)) (m + k)) = 0
      · exact common_zero p q r n m k c d e _ _ _ w hX.sl hY.sl hZ.sl h2.1 h2.2.1 h2.2.2 h0.1 h0.2
      · exact common_some p q r n m k c d e _ _ _ w hX.sl hY.sl hZ.sl h2.1 h2.2.1 h2.2.2 h0
    · exact common_big p q r n m k c d e w (by have := hZ.bound; omega) h.1 h.2 h2
  · exact common_far p q r n m k c d e w (by have := hX.bound; omega) (by have := hY.bound; omega) h
end Go.Proofs.Ytbiaenkhhbgbcaa
