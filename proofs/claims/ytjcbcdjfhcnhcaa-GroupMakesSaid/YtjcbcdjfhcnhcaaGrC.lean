/-
  Own text: layer 17 (group): Make of as many inputs as there may be, walked.
-/
import Derived.Test.YtjcbcdjfhcnhcaaGrB
namespace Go.Proofs.Ytjcbcdjfhcnhcaa
open Go.RowKit

theorem ss_cells (f : Nat → Addr) (m : Nat) : ∀ u ∈ (List.range m).map (fun i => Value.slice (some (f i)) 2 2), u.oneCell' = true := by
  intro u hu
  obtain ⟨i, _, rfl⟩ := List.mem_map.1 hu
  rfl
/-- Parity shards, one behind the other in a block. -/
theorem par_rows {w : World} {h g base m : Nat} {l : List Int} {E : Nat → Nat → Nat} (hl : Lst w h m 2 (fun i => some ⟨g, i * 2, none⟩)) (hd : Dat w g (m * 2) l) (hc : ∀ i c, i < m → c < 2 → gr (fun i => i * 2) l i c = E i c) (hb : base ≤ h) (hm : m ≤ 16) :
    OwnS w base (.slice (some ⟨h, 0, none⟩) m m) m ((List.range m).map (fun i => Value.slice (some ⟨g, i * 2, none⟩) 2 2)) ∧
    ∀ i, i < m → ∃ g' off N d, ((List.range m).map (fun i => Value.slice (some ⟨g, i * 2, none⟩) 2 2))[i]? = some (.slice (some ⟨g', off, none⟩) 2 2) ∧ Dat w g' N d ∧ off + 2 ≤ N ∧ N ≤ 1000 ∧ ∀ c, c < 2 → co d (off + c) = E i c :=
  ⟨rowIs_owns hl hb (by unfold maxLen; omega), fun i hi => ⟨g, i * 2, m * 2, l, by rw [List.getElem?_map, List.getElem?_range hi]; rfl, hd, by omega, by omega, fun c h2 => hc i c hi h2⟩⟩
set_option maxRecDepth 100000 in
set_option maxHeartbeats 1000000 in
theorem gmake_yes (t : Nat) (no fst : Int) (n m N cap : Nat) (a : Option Addr) (Z : List Int) (w : World) (h1 : 1 ≤ n) (h2 : n ≤ 16) (hm : m ≤ 16) (hI : Ins w a n Z) (hZ : ∀ z ∈ Z, 0 ≤ z ∧ z ≤ 65535) (ht : IsTab w t) (hN : n + m = N) :
    Calls Try.prog 8 #[.pointer (some ⟨t, 0, none⟩), .int .u32 no, .int .u32 fst, .int .i64 m, .slice a n cap] w (MadeG no fst n m N (.int .i64 0) (G17 Z n) w) := by
  have hmk := fun w => run_make_row' (P := Try.prog) 26 42 (.slice none 0 0) 24 Try.underlying26 info_row rfl .i64 .i64 n (by omega) (by omega) w
  obtain ⟨b1, o1, rfl, hb1, hc1⟩ := hI.2.resolve_left (by omega)
  have hlen := hI.1
  have HP := Lib.hid (fun k w' (hk : k < n) => put16_nil (Z.getD k 0) w' (by rw [List.getD_eq_getElem?_getD, List.getElem?_eq_getElem (by omega)]; exact (hZ _ (List.getElem_mem _)).1) (by rw [List.getD_eq_getElem?_getD, List.getElem?_eq_getElem (by omega)]; exact (hZ _ (List.getElem_mem _)).2))
  have HCD := Lib.hid (fun w' h => code_some t n m h1 (by omega) w' h)
  have HT : Hid (∀ w', Below w.heap.size w w' → IsTab w' t) := Lib.hid (fun w' hb => ht.below hb ht.lt)
  have HIN : Hid (∀ w' k, Below w.heap.size w w' → k < n → w'.cell? ⟨b1, o1 + k, none⟩ = some (.int .u16 (Z.getD k 0))) := Lib.hid (fun w' k hb hk => (hb.cell (p := ⟨b1, o1 + k, none⟩) hb1).trans (hc1 k hk))
  obtain ⟨Y, hY⟩ : ∃ Y : Nat → Int, ∀ k, Z.getD k 0 = Y k := ⟨_, fun _ => rfl⟩
  simp only [hY] at HP HIN
  have HY := Lib.hid hY
  clear hY
  have hs0 : (w.alloc (.cells #[.int .u32 0, .int .u32 0, .int .i64 0, .int .i64 0, .slice none 0 0] 28)).heap.size = w.heap.size + 1 := by simp
  obtain ⟨W, hW⟩ : ∃ W, W = (w.alloc (.cells #[.int .u32 0, .int .u32 0, .int .i64 0, .int .i64 0, .slice none 0 0] 28)).alloc (.cells (madeCells #[.slice none 0 0] n) 42) := ⟨_, rfl⟩
  have HB5 : Hid (B5 28 W w.heap.size (.int .u32 0) (.int .u32 0) (.int .i64 0) (.int .i64 0) (.slice none 0 0)) := Lib.hid (by
    have h := B5.new w 28 (.int .u32 0) (.int .u32 0) (.int .i64 0) (.int .i64 0) (.slice none 0 0)
    rw [hW]
    exact h.keep (Below.heap_alloc _ _ _ h.lt))
  have HR0 : Hid (W.rowIs (w.heap.size + 1) 42 n (rowV (fun _ => 0) 0)) := Lib.hid (by
    have h := row_zero (w.alloc (.cells #[.int .u32 0, .int .u32 0, .int .i64 0, .int .i64 0, .slice none 0 0] 28)) (fun _ => 0) n
    rw [hs0] at h
    rw [hW]
    exact h)
  have HB0 : Hid (Below w.heap.size w W) := Lib.hid (by rw [hW]; exact ((Below.refl w.heap.size w).alloc (Nat.le_refl _) _).alloc (by simp) _)
  have k1 : ¬ (n : Int) < 1 := by omega
  have k2 : ¬ (16 : Int) < n := by omega
  have k3 : ¬ (m : Int) < 0 := by omega
  have k4 : ¬ (16 : Int) < m := by omega
  have HN : Hid (1 ≤ n ∧ n ≤ 16 ∧ m ≤ 16) := Lib.hid ⟨h1, h2, hm⟩
  have HNN := Lib.hid hN
  clear hI hZ ht hc1 hlen hs0 h1 h2 hm hN hb1
  unfold MadeG
  unfold Coded at HCD
  go_enter Try.func8, Try.ntmps8
  go_upto_region 5 with fail
  rw [← hW]
  clear hW hmk
  have HG : Hid (w.heap.size < w.heap.size + 1) := Lib.hid (by omega)
  generalize hh : w.heap.size + 1 = g at *
  clear hh
  go_wp2
  go_loopw [14, 15, 41] (fun _ _ i wr => ∃ (k : Nat) (ad : Nat → Nat), k ≤ n ∧ i = .int .i64 k ∧ Hid (wr.rowIs g 42 n (rowV ad k)) ∧ Hid (∀ j, j < k → Dat wr (ad j) 2 (be 2 (Y j)) ∧ g < ad j) ∧ Hid (B5 28 wr w.heap.size (.int .u32 0) (.int .u32 0) (.int .i64 0) (.int .i64 0) (.slice none 0 0)) ∧ Hid (Below w.heap.size w wr)) (fun _ _ i _ => n - (intOf i).toNat)
  case atStart => exact ⟨0, fun _ => 0, by omega, rfl, HR0, Lib.hid (fun j hj => absurd hj (by omega)), HB5, HB0⟩
  case round =>
    clear HR0 HB5 HB0
    obtain ⟨k, ad, hk, rfl, HO, HD, HX, HB⟩ := hrel
    obtain ⟨wo, ho⟩ : ∃ wo, wo = wr := ⟨_, rfl⟩
    subst ho
    by_cases hlt : k < n
    · have j0 : (0 : Int) ≤ k := by omega
      have j1 : (k : Int) < n := by omega
      have c0 := HIN.out _ k HB.out hlt
      have HPK := Lib.hid (fun w' => HP.out k w' hlt)
      have HLT := Lib.hid hlt
      go_wp2_with (first
        | (go_at_call 29; (with_reducible refine (HPK.out _).mono ?_); rintro e w2 ⟨gn, rfl, HGN, HDN, HBN⟩; have HO2 := Lib.hid (HO.out.of_block (HBN.out.block g HO.out.lt)); have c2 := HO2.out.cell HLT.out; have f2 := HO2.out.frozen k; simp only [rowV, Nat.lt_irrefl, if_false] at c2)
        | fail)
      go_roundw
      case rel =>
        have hne : ∀ q, g < q → q ≠ g := fun q h => by omega
        have hgn : g < gn := by have := HO.out.lt; have := HGN.out; omega
        refine ⟨k + 1, fun j => if j = k then gn else ad j, by omega, by go_num, Lib.hid (row_step HO2.out), Lib.hid (fun j hj => ?_), Lib.hid ((HX.out.below HBN.out HX.out.lt).keep (Below.heap_setCell _ _ _ _ (by show w.heap.size ≠ g; have := HG.out; omega))), Lib.hid ((HB.out.trans (HBN.out.mono HB.out.size)).setCell (p := ⟨g, k, none⟩) (by show w.heap.size ≤ g; have := HG.out; omega) _)⟩
        show Dat _ (if j = k then gn else ad j) 2 (be 2 (Y j)) ∧ g < (if j = k then gn else ad j)
        by_cases e : j = k
        · rw [if_pos e, e]
          exact ⟨HDN.out.keep (Below.heap_setCell _ _ _ _ (hne _ hgn)), hgn⟩
        · rw [if_neg e]
          obtain ⟨d1, d2⟩ := HD.out j (by omega)
          exact ⟨(d1.below HBN.out d1.lt).keep (Below.heap_setCell _ _ _ _ (hne _ d2)), d2⟩
      case measure => simp [intOf]; omega
    · obtain rfl : k = n := by omega
      clear HP HIN hlt hk
      have HGG := Lib.hid HG.out
      have HS : Hid (∀ w', Below wo.heap.size wo w' → Shs w' g (.slice (some ⟨g, 0, none⟩) k k) k (G17 Z k)) := Lib.hid (fun w' hb => row_end (HO.out.of_block (hb.block g HO.out.lt)) (Nat.le_refl _) HN.out.2.1 (fun j hj => by rw [HY.out j]; exact (HD.out j hj).1.below hb (HD.out j hj).1.lt))
      have HENC : Hid (∀ w' b, Below wo.heap.size wo w' → IsCode w' b t k m → Calls Try.prog 31 #[.pointer (some ⟨b, 0, none⟩), .slice (some ⟨g, 0, none⟩) k k] w' (AppliedTo m 2 (fun i c => G17 Z k (k + i) c) w')) := Lib.hid (fun w' b hb hc => by
        obtain ⟨A, X, hX, hE⟩ := (HS.out w' hb).cols
        refine (code_encode b t k m k _ A _ _ X w' hc hX (fun j _ => ⟨rfl, by show 2 ≤ 1200; omega⟩)).mono ?_
        rintro e w2 ⟨h2, g2, l2, he, a1, a2, a3, a4, a5, a6⟩
        refine ⟨h2, g2, l2, he, a1, a2, a3, a4, fun i c hi hc2 => ?_, a6⟩
        refine (a5 i c hi hc2).trans ?_
        exact G17_more Z (by have := HN.out; omega) X c (fun j hj => (hE j hj c hc2).trans (G17_data Z (by have := HN.out; omega) hj c)) i)
      have HOWN : Hid (∀ w', Below wo.heap.size wo w' → OwnS w' g (.slice (some ⟨g, 0, none⟩) k k) k ((List.range k).map (rowV ad k))) := Lib.hid (fun w' hb => rowIs_owns (HO.out.of_block (hb.block g HO.out.lt)) (Nat.le_refl _) (by have := HN.out; unfold maxLen; omega))
      unfold AppliedTo at HENC
      obtain ⟨LL, hLL⟩ : ∃ LL, LL = (List.range k).map (rowV ad k) := ⟨_, rfl⟩
      rw [← hLL] at HOWN
      have HLS : Hid (∀ w', Below wo.heap.size wo w' → ∀ i, i < k → ∃ g off N d, LL[i]? = some (.slice (some ⟨g, off, none⟩) 2 2) ∧ Dat w' g N d ∧ off + 2 ≤ N ∧ N ≤ 1000 ∧ ∀ c, c < 2 → co d (off + c) = G17 Z k i c) := Lib.hid (fun w' hb i hi => ⟨ad i, 0, 2, _, by
        rw [hLL, List.getElem?_map, List.getElem?_range hi]
        show some (rowV ad k i) = _
        unfold rowV
        rw [if_pos hi], (HD.out i hi).1.below hb (HD.out i hi).1.lt, by omega, by omega, fun c _ => by rw [Nat.zero_add, G17_data Z (by have := HN.out; omega) hi, HY.out i]⟩)
      have HKM : Hid (k + m ≤ 100000) := Lib.hid (by have := HN.out; omega)
      have HGB : Hid (∀ w', Below wo.heap.size wo w' → g ≤ w'.heap.size) := Lib.hid (fun w' hb => by have := HO.out.lt; have := hb.size; omega)
      have HNE : Hid (∀ n C, some w.heap.size ≠ (Value.slice (some ⟨g, 0, none⟩) n C).ownBlock) := Lib.hid (fun n C e => by
        have e2 : w.heap.size = g := by simpa [Value.ownBlock] using e
        have := HG.out
        omega)
      clear hLL HS
      go_wp2_with (first
        | (go_at_call 30; (with_reducible refine (HCD.out _ (HT.out _ HB.out)).mono ?_); rintro e w2 ⟨bc, rfl, _, hc, hb⟩; have HC2 := Lib.hid hc; have HB2 := Lib.hid hb; clear hc hb)
        | (go_at_call 31; (with_reducible refine (HENC.out _ _ HB2.out HC2.out).mono ?_); rintro e w3 ⟨h3, g3, l3, rfl, a1, a2, a3, a4, a5, a6⟩; have HP3 := Lib.hid (par_rows a3 a4 a5 (Nat.zero_le h3) HN.out.2.2); have HB3 := Lib.hid (HB2.out.trans (a6.mono HB2.out.size)); have HX3 := Lib.hid (HX.out.below HB3.out HX.out.lt); clear a1 a2 a3 a4 a5 a6)
        | ((with_reducible refine wpList_append_ss rfl (.tmp 69) (.tmp 70) rfl g (some ⟨g, 0, none⟩) k k rfl LL (HOWN.out _ HB3.out) 0 (some ⟨h3, 0, none⟩) m m rfl _ HP3.out.1 (ss_cells (fun i => ⟨g3, i * 2, none⟩) m) HKM.out (HGB.out _ HB3.out) (k + m) rfl _ rfl ?_); intro A4 C4 w4 HO4 HG4 HF4; have HX4 := Lib.hid (HX3.out.keep (HG4.out.block w.heap.size HX3.out.lt (HNE.out _ _))); obtain ⟨c0, c1, c2, c3, c4⟩ := HX4.out.cells; have f0 := HX4.out.frozen 0; have f1 := HX4.out.frozen 1; have f2 := HX4.out.frozen 2; have f3 := HX4.out.frozen 3; have f4 := HX4.out.frozen 4)
        | fail)
      obtain ⟨z0, z1, z2, z3, z4⟩ := put5_cells HX4.out (.int .u32 no) (.int .u32 fst) (.int .i64 k) (.int .i64 m) (.slice A4 (k + m) C4) rfl
      refine bodyPost_ret (v := .tuple #[.agg #[.int .u32 no, .int .u32 fst, .int .i64 k, .int .i64 m, .slice A4 (k + m) C4], .int .i64 0]) (by simp [results, Try.results8, go_sem, z0, z1, z2, z3, z4]) rfl ?_
      have hgw : w.heap.size ≤ g := Nat.le_of_lt HG.out
      have hb3 : Below w.heap.size w w3 := HB.out.trans (HB3.out.mono HB.out.size)
      have hb4 : Below w.heap.size w w4 := hb3.grown HG4.out hb3.size (fun q e => by
        have e2 : g = q := by simpa [Value.ownBlock] using e
        omega)
      refine ⟨A4, C4, by rw [← HNN.out], ?_, Lib.hid (below_put5 hb4 (Nat.le_refl _) _ _ _ _ _)⟩
      rw [← HNN.out]
      exact Lib.hid (((Shs.other (HOWN.out _ HB3.out) (HLS.out _ HB3.out) HP3.out.2 HO4.out HG4.out (fun _ _ _ _ => rfl) (fun _ _ _ _ => rfl)).low hgw).put HX4.out (by decide) (by decide) _ _ _ _ _)
end Go.Proofs.Ytjcbcdjfhcnhcaa
