/-
  Own text: Mul, walked.
-/
import Derived.Test.YtbiaenkhhbgbcaaMul
namespace Go.Proofs.Ytbiaenkhhbgbcaa
open Go.RowKit

theorem cutn_any (a : Option Addr) (n c : Nat) (l : List Int) (w : World) (hl : Sl w a n c l) : Calls Try.prog 28 #[.slice a n c] w (SlicedN (dn l) (tr l) w) :=
  slicedN (cut_any a n c l w hl) _ (tr_length l)
set_option maxRecDepth 100000 in
theorem pmul_none (t : Option Addr) (a b : Option Addr) (n m c d : Nat) (x y : List Int) (w : World) (hx : Sl w a n c x) (hy : Sl w b m d y) (hz : dn x = 0 ∨ dn y = 0) :
    Calls Try.prog 16 #[.pointer t, .slice a n c, .slice b m d] w (SlicedN 0 [] w) := by
  have c1 := cutn_any a n c x w hx
  have HY := Lib.hid hy
  have c2 := fun w h => cutn_any b m d y w h
  have C1 := Lib.hid c1
  have C2 := Lib.hid c2
  have q1 := dn_le x
  have q2 := dn_le y
  rw [hx.bytes.size] at q1
  rw [hy.bytes.size] at q2
  have q3 := hx.bytes.max
  have q4 := hy.bytes.max
  clear c1 c2 hx hy
  generalize dn x = p at *
  generalize dn y = q at *
  generalize tr x = X at *
  generalize tr y = Y at *
  have h1 : (p : Int) = 0 ∨ ((p : Int) ≠ 0 ∧ (q : Int) = 0) := by omega
  have hp : p = 0 ∨ (0 < p ∧ q = 0) := by omega
  rcases hp with rfl | ⟨h0, rfl⟩
  all_goals
    go_enter Try.func16, Try.ntmps16
    go_wp2_with (first
      | (go_at_call 28; (with_reducible refine C1.out.mono ?_); rintro e w1 ⟨A1, C1', rfl, h1, h2⟩; have H1 := Lib.hid h1; have H2 := Lib.hid h2; have HY1 := Lib.hid (HY.out.below h2 (Nat.le_refl _)); clear h1 h2)
      | (go_at_call 28; (with_reducible refine (C2.out _ HY1.out).mono ?_); rintro e w2 ⟨A2, C2', rfl, h3, h4⟩; have H3 := Lib.hid h3; have H4 := Lib.hid h4; clear h3 h4))
    go_ret
    exact ⟨_, _, rfl, Sl.nil _, H2.out.trans (H4.out.mono H2.out.size)⟩
set_option maxRecDepth 100000 in
set_option maxHeartbeats 1000000 in
theorem pmul_le (t : Nat) (a b : Option Addr) (n m c d : Nat) (x y : List Int) (w : World) (ht : IsTab w t) (hx : Sl w a n c x) (hy : Sl w b m d y) (hn : n ≤ 10000) (hm : m ≤ 10000) (p0 : 0 < dn x) (q0 : 0 < dn y) (hpq : dn x ≤ dn y) :
    Calls Try.prog 16 #[.pointer (some ⟨t, 0, none⟩), .slice a n c, .slice b m d] w (SlicedN ((dn x) + (dn y) - 1) (ofF (prodK (tr x) (tr y) (dn x)) ((dn x) + (dn y) - 1)) w) := by
  have HX0 := Lib.hid (show By (tr x) from tr_by hx.bytes.range)
  have HY0 := Lib.hid (show By (tr y) from tr_by hy.bytes.range)
  have LX := Lib.hid (tr_length x)
  have LY := Lib.hid (tr_length y)
  have c1 := cutn_any a n c x w hx
  have HY := Lib.hid hy
  have c2 := fun w h => cutn_any b m d y w h
  have C1 := Lib.hid c1
  have C2 := Lib.hid c2
  have q1 := dn_le x
  have q2 := dn_le y
  rw [hx.bytes.size] at q1
  rw [hy.bytes.size] at q2
  have HT := Lib.hid ht
  have HLT := Lib.hid ht.lt
  clear c1 c2 hx hy ht
  generalize dn x = p at *
  generalize dn y = q at *
  generalize tr x = X at *
  generalize tr y = Y at *
  obtain ⟨N, hN⟩ : ∃ N, p + q - 1 = N := ⟨_, rfl⟩
  rw [hN]
  have hmk : ∀ w : World, (Instr.makeSlice 22 (.int .i64 ((p : Int) + q - 1)) (.int .i64 ((p : Int) + q - 1))).run Try.prog w = .ok (.slice (some ⟨w.heap.size, 0, none⟩) N N) (w.alloc (.cells (madeCells #[.int .u8 0] N) 5)) := fun w => by
    rw [show ((p : Int) + q - 1) = (N : Int) by omega]
    exact run_make_row' (P := Try.prog) 22 5 (.int .u8 0) 1 Try.underlying22 (by kernel_rfl) rfl .i64 .i64 N (by omega) (by omega) w
  have HM := Lib.hid (fun w => made_row w N 5)
  generalize madeCells #[Value.int .u8 0] N = M at *
  have r1 : (p : Int) ≠ 0 := by omega
  have r2 : (q : Int) ≠ 0 := by omega
  have r3 : ((p : Int) == 0) = false := by simpa using r1
  have r4 : ((q : Int) == 0) = false := by simpa using r2
  have r5 : decide (q < p) = false := by simp; omega
  go_enter Try.func16, Try.ntmps16
  go_wp2_with (first
    | (go_at_call 28; (with_reducible refine C1.out.mono ?_); rintro e w1 ⟨A1, C1', rfl, h1, h2⟩; have H1 := Lib.hid h1; have H2 := Lib.hid h2; have HY1 := Lib.hid (HY.out.below h2 (Nat.le_refl _)); have HT1 := Lib.hid (HT.out.below h2 HLT.out); clear h1 h2)
    | (go_at_call 28; (with_reducible refine (C2.out _ HY1.out).mono ?_); rintro e w2 ⟨A2, C2', rfl, h3, h4⟩; have H3 := Lib.hid h3; have H4 := Lib.hid h4; have HX2 := Lib.hid (H1.out.below h4 (Nat.le_refl _)); have HT2 := Lib.hid (HT1.out.below h4 (Nat.lt_of_lt_of_le HLT.out H2.out.size)); clear h3 h4))
  have HB2 : Hid (Below w.heap.size w w2) := Lib.hid (H2.out.trans (H4.out.mono H2.out.size))
  have hs2 := HB2.out.size
  have HO0 : Hid (Own8 (w2.alloc (.cells M 5)) w2.heap.size (.slice (some ⟨w2.heap.size, 0, none⟩) N N) N (ofF (prodK X Y 0) N)) := Lib.hid (by
    rw [prodK_none]
    exact Own8.row (HM.out w2) (Nat.le_refl _) (by simp) (by unfold maxLen; omega))
  have HB0 : Hid (w2.grownBy (w2.alloc (.cells M 5)) (some w2.heap.size)) := Lib.hid (World.grownBy_alloc _ _ _)
  go_loopw [8, 9, 38] (fun _ _ i wr => ∃ k : Nat, k ≤ p ∧ i = .int .i64 k ∧ Hid (Own8 wr w2.heap.size (.slice (some ⟨w2.heap.size, 0, none⟩) N N) N (ofF (prodK X Y k) N)) ∧ Hid (w2.grownBy wr (some w2.heap.size))) (fun _ _ i _ => p - (intOf i).toNat)
  case atStart => exact ⟨0, by omega, rfl, HO0, HB0⟩
  case round =>
    obtain ⟨k, hk, rfl, HO, HG⟩ := hrel
    obtain ⟨wo, ho⟩ : ∃ wo, wo = wr := ⟨_, rfl⟩
    subst ho
    have HB3 : Hid (Below w2.heap.size w2 wo) := Lib.hid (below_grows HG.out (Nat.le_refl _) (Nat.le_refl _))
    by_cases hlt : k < p
    · have h5 := HX2.out.bytes.below HB3.out (Nat.le_refl _)
      have h6 := H3.out.bytes.below HB3.out (Nat.le_refl _)
      obtain ⟨b', off', rfl, ck⟩ : ∃ b off, A1 = some ⟨b, off, none⟩ ∧ wo.cell? ⟨b, off + k, none⟩ = some (.int .u8 (X.getD k 0)) := by
        rcases h5.cell with h | ⟨_, b, off, e, _, h⟩
        · omega
        · exact ⟨b, off, e, h k hlt⟩
      rw [HX0.out.get k] at ck
      have l1 := HX0.out.lt k
      have HS := Lib.hid (prodK_step HX0.out HY0.out N k (by rw [LY.out]; omega))
      rw [LY.out] at HS
      have HT3 := Lib.hid (HT2.out.below HB3.out (Nat.lt_of_lt_of_le HLT.out hs2))
      have HBy := Lib.hid (show By (ofF (prodK X Y k) N) from ofF_by (prodK_lt X Y k) N)
      have H6 := Lib.hid h6
      clear h5 h6
      generalize co X k = u at *
      have CM := Lib.hid (mixo_any t u w2.heap.size k N (N - k) N (N - k) _ A2 q _ Y wo w2.heap.size l1 HT3.out HO.out H6.out (by omega) H3.out.cap (by omega) (by omega) (by omega) HBy.out)
      have k0 : (0 : Int) ≤ k := by omega
      have k1 : (k : Int) < p := by omega
      have k2 : (k : Int) ≤ N := by omega
      go_wp2_with (go_at_call 31; refine CM.out.mono ?_; rintro e w4 ⟨rfl, h7, h8⟩; have H7 := Lib.hid h7; have H8 := Lib.hid h8; clear h7 h8)
      go_roundw
      case rel => exact ⟨k + 1, by omega, by go_num, Lib.hid (by rw [← HS.out]; exact H7.out), Lib.hid (grown_trans HG.out H8.out)⟩
      case measure => simp [intOf] <;> omega
    · obtain rfl : k = p := by omega
      go_wp2
      go_ret
      exact ⟨_, _, rfl, HO.out.sl (ofF_by (prodK_lt _ _ _) _), HB2.out.trans (HB3.out.mono hs2)⟩
set_option maxRecDepth 100000 in
set_option maxHeartbeats 1000000 in
theorem pmul_gt (t : Nat) (a b : Option Addr) (n m c d : Nat) (x y : List Int) (w : World) (ht : IsTab w t) (hx : Sl w a n c x) (hy : Sl w b m d y) (hn : n ≤ 10000) (hm : m ≤ 10000) (p0 : 0 < dn x) (q0 : 0 < dn y) (hpq : dn y < dn x) :
    Calls Try.prog 16 #[.pointer (some ⟨t, 0, none⟩), .slice a n c, .slice b m d] w (SlicedN ((dn y) + (dn x) - 1) (ofF (prodK (tr y) (tr x) (dn y)) ((dn y) + (dn x) - 1)) w) := by
  have HX0 := Lib.hid (show By (tr x) from tr_by hx.bytes.range)
  have HY0 := Lib.hid (show By (tr y) from tr_by hy.bytes.range)
  have LX := Lib.hid (tr_length x)
  have LY := Lib.hid (tr_length y)
  have c1 := cutn_any a n c x w hx
  have HY := Lib.hid hy
  have c2 := fun w h => cutn_any b m d y w h
  have C1 := Lib.hid c1
  have C2 := Lib.hid c2
  have q1 := dn_le x
  have q2 := dn_le y
  rw [hx.bytes.size] at q1
  rw [hy.bytes.size] at q2
  have HT := Lib.hid ht
  have HLT := Lib.hid ht.lt
  clear c1 c2 hx hy ht
  generalize dn x = p at *
  generalize dn y = q at *
  generalize tr x = X at *
  generalize tr y = Y at *
  obtain ⟨N, hN⟩ : ∃ N, q + p - 1 = N := ⟨_, rfl⟩
  rw [hN]
  have hmk : ∀ w : World, (Instr.makeSlice 22 (.int .i64 ((q : Int) + p - 1)) (.int .i64 ((q : Int) + p - 1))).run Try.prog w = .ok (.slice (some ⟨w.heap.size, 0, none⟩) N N) (w.alloc (.cells (madeCells #[.int .u8 0] N) 5)) := fun w => by
    rw [show ((q : Int) + p - 1) = (N : Int) by omega]
    exact run_make_row' (P := Try.prog) 22 5 (.int .u8 0) 1 Try.underlying22 (by kernel_rfl) rfl .i64 .i64 N (by omega) (by omega) w
  have HM := Lib.hid (fun w => made_row w N 5)
  generalize madeCells #[Value.int .u8 0] N = M at *
  have r1 : (p : Int) ≠ 0 := by omega
  have r2 : (q : Int) ≠ 0 := by omega
  have r3 : ((p : Int) == 0) = false := by simpa using r1
  have r4 : ((q : Int) == 0) = false := by simpa using r2
  have r5 : decide (q < p) = true := by simp; omega
  go_enter Try.func16, Try.ntmps16
  go_wp2_with (first
    | (go_at_call 28; (with_reducible refine C1.out.mono ?_); rintro e w1 ⟨A1, C1', rfl, h1, h2⟩; have H1 := Lib.hid h1; have H2 := Lib.hid h2; have HY1 := Lib.hid (HY.out.below h2 (Nat.le_refl _)); have HT1 := Lib.hid (HT.out.below h2 HLT.out); clear h1 h2)
    | (go_at_call 28; (with_reducible refine (C2.out _ HY1.out).mono ?_); rintro e w2 ⟨A2, C2', rfl, h3, h4⟩; have H3 := Lib.hid h3; have H4 := Lib.hid h4; have HX2 := Lib.hid (H1.out.below h4 (Nat.le_refl _)); have HT2 := Lib.hid (HT1.out.below h4 (Nat.lt_of_lt_of_le HLT.out H2.out.size)); clear h3 h4))
  have HB2 : Hid (Below w.heap.size w w2) := Lib.hid (H2.out.trans (H4.out.mono H2.out.size))
  have hs2 := HB2.out.size
  have HO0 : Hid (Own8 (w2.alloc (.cells M 5)) w2.heap.size (.slice (some ⟨w2.heap.size, 0, none⟩) N N) N (ofF (prodK Y X 0) N)) := Lib.hid (by
    rw [prodK_none]
    exact Own8.row (HM.out w2) (Nat.le_refl _) (by simp) (by unfold maxLen; omega))
  have HB0 : Hid (w2.grownBy (w2.alloc (.cells M 5)) (some w2.heap.size)) := Lib.hid (World.grownBy_alloc _ _ _)
  go_loopw [8, 9, 38] (fun _ _ i wr => ∃ k : Nat, k ≤ q ∧ i = .int .i64 k ∧ Hid (Own8 wr w2.heap.size (.slice (some ⟨w2.heap.size, 0, none⟩) N N) N (ofF (prodK Y X k) N)) ∧ Hid (w2.grownBy wr (some w2.heap.size))) (fun _ _ i _ => q - (intOf i).toNat)
  case atStart => exact ⟨0, by omega, rfl, HO0, HB0⟩
  case round =>
    obtain ⟨k, hk, rfl, HO, HG⟩ := hrel
    obtain ⟨wo, ho⟩ : ∃ wo, wo = wr := ⟨_, rfl⟩
    subst ho
    have HB3 : Hid (Below w2.heap.size w2 wo) := Lib.hid (below_grows HG.out (Nat.le_refl _) (Nat.le_refl _))
    by_cases hlt : k < q
    · have h5 := H3.out.bytes.below HB3.out (Nat.le_refl _)
      have h6 := HX2.out.bytes.below HB3.out (Nat.le_refl _)
      obtain ⟨b', off', rfl, ck⟩ : ∃ b off, A2 = some ⟨b, off, none⟩ ∧ wo.cell? ⟨b, off + k, none⟩ = some (.int .u8 (Y.getD k 0)) := by
        rcases h5.cell with h | ⟨_, b, off, e, _, h⟩
        · omega
        · exact ⟨b, off, e, h k hlt⟩
      rw [HY0.out.get k] at ck
      have l1 := HY0.out.lt k
      have HS := Lib.hid (prodK_step HY0.out HX0.out N k (by rw [LX.out]; omega))
      rw [LX.out] at HS
      have HT3 := Lib.hid (HT2.out.below HB3.out (Nat.lt_of_lt_of_le HLT.out hs2))
      have HBy := Lib.hid (show By (ofF (prodK Y X k) N) from ofF_by (prodK_lt Y X k) N)
      have H6 := Lib.hid h6
      clear h5 h6
      generalize co Y k = u at *
      have CM := Lib.hid (mixo_any t u w2.heap.size k N (N - k) N (N - k) _ A1 p _ X wo w2.heap.size l1 HT3.out HO.out H6.out (by omega) HX2.out.cap (by omega) (by omega) (by omega) HBy.out)
      have k0 : (0 : Int) ≤ k := by omega
      have k1 : (k : Int) < q := by omega
      have k2 : (k : Int) ≤ N := by omega
      go_wp2_with (go_at_call 31; refine CM.out.mono ?_; rintro e w4 ⟨rfl, h7, h8⟩; have H7 := Lib.hid h7; have H8 := Lib.hid h8; clear h7 h8)
      go_roundw
      case rel => exact ⟨k + 1, by omega, by go_num, Lib.hid (by rw [← HS.out]; exact H7.out), Lib.hid (grown_trans HG.out H8.out)⟩
      case measure => simp [intOf] <;> omega
    · obtain rfl : k = q := by omega
      go_wp2
      go_ret
      exact ⟨_, _, rfl, HO.out.sl (ofF_by (prodK_lt _ _ _) _), HB2.out.trans (HB3.out.mono hs2)⟩
theorem pmul_any (t : Nat) (a b : Option Addr) (n m c d : Nat) (x y : List Int) (w : World) (ht : IsTab w t) (hx : Sl w a n c x) (hy : Sl w b m d y) (hn : n ≤ 10000) (hm : m ≤ 10000) :
    Calls Try.prog 16 #[.pointer (some ⟨t, 0, none⟩), .slice a n c, .slice b m d] w (Sliced (mulL x y) w) := by
  have bx : By x := hx.bytes.range
  have bY : By y := hy.bytes.range
  by_cases p0 : dn x = 0
  · rw [mulL_nil p0]
    exact (pmul_none _ a b n m c d x y w hx hy (.inl p0)).mono fun e w' ⟨A, C, h1, h2, h3⟩ => ⟨A, _, C, h1, h2, h3⟩
  by_cases q0 : dn y = 0
  · rw [mulL_comm, mulL_nil q0]
    exact (pmul_none _ a b n m c d x y w hx hy (.inr q0)).mono fun e w' ⟨A, C, h1, h2, h3⟩ => ⟨A, _, C, h1, h2, h3⟩
  rcases Nat.lt_or_ge (dn y) (dn x) with g | g
  · rw [mulL_comm, mulL_top bY bx q0 p0]
    have h := pmul_gt t a b n m c d x y w ht hx hy hn hm (by omega) (by omega) g
    have e : prodK (tr y) (tr x) (dn y) = mulF (tr y) (tr x) := by
      have h1 := prodK_all (tr y) (tr x)
      rw [tr_length] at h1
      exact funext h1
    rw [e] at h
    exact h.mono fun e w' ⟨A, C, h1, h2, h3⟩ => ⟨A, _, C, h1, h2, h3⟩
  · rw [mulL_top bx bY p0 q0]
    have h := pmul_le t a b n m c d x y w ht hx hy hn hm (by omega) (by omega) g
    have e : prodK (tr x) (tr y) (dn x) = mulF (tr x) (tr y) := by
      have h1 := prodK_all (tr x) (tr y)
      rw [tr_length] at h1
      exact funext h1
    rw [e] at h
    exact h.mono fun e w' ⟨A, C, h1, h2, h3⟩ => ⟨A, _, C, h1, h2, h3⟩
end Go.Proofs.Ytbiaenkhhbgbcaa
