/-
  Own text: both Decode, whatever comes; what they answer is the same; the laws WireDecodes, WireSealed, walked.
-/
import Derived.Test.YtfiacpbpfdencaaRDec7
import Derived.Test.YtfiacpbpfdencaaRSame7
import Derived.Test.YtfiacpbpfdencaaAwake7
namespace Go.Proofs.Ytfiacpbpfdencaa
open Go.RowKit

theorem decode_any (t : Nat) (ses : Int) (a : Option Addr) (n cap : Nat) (l : List Int) (w : World) (ht : IsTab w t) (hl : Bytes w a n l) (hcap : n ≤ cap) :
    Calls Try.prog 16 #[.pointer (some ⟨t, 0, none⟩), .int .u32 ses, .slice a n cap] w (Decd ses n l w) := by
  by_cases h : 1400 < n ∨ n < 33
  · exact decode_early t ses a n cap l w hl.max h
  · obtain ⟨m, rfl⟩ : ∃ m, n = m + 4 := ⟨n - 4, by omega⟩
    exact decode_late t ses a m cap l w ht hl (by omega) (by omega) hcap
theorem rdecode_any (ses : Int) (a : Option Addr) (n cap : Nat) (l : List Int) (w : World) (hl : Bytes w a n l) (hcap : n ≤ cap) (hcm : cap ≤ 9223372036854775807) :
    Calls Try.prog 17 #[.int .u32 ses, .slice a n cap] w (Decd ses n l w) := by
  by_cases h : 1400 < n ∨ n < 33
  · exact rdecode_early ses a n cap l w hl.max h
  · obtain ⟨m, rfl⟩ : ∃ m, n = m + 4 := ⟨n - 4, by omega⟩
    rcases hl.cell with g | ⟨_, bb, off, rfl, _, _⟩
    · omega
    · exact rdecode_late ses bb off m cap l w hl (by omega) (by omega) hcap hcm
/-- What both answer is the same. -/
theorem decd_same {ses : Int} {n : Nat} {l : List Int} {w3 w4 : World} {D D' : Dg}
    (h0 : decCode ses n l = 0 → ∃ A C, D = dgL (l.take (n - 4)) A (n - 33) C ∧ Bytes w3 A (n - 33) ((l.take (n - 4)).drop 29)) (h1 : decCode ses n l ≠ 0 → D = Dg.zero)
    (h0' : decCode ses n l = 0 → ∃ A C, D' = dgL (l.take (n - 4)) A (n - 33) C ∧ Bytes w4 A (n - 33) ((l.take (n - 4)).drop 29)) (h1' : decCode ses n l ≠ 0 → D' = Dg.zero)
    (w' : World) (hb : Below w3.heap.size w3 w') (hb' : Below w4.heap.size w4 w') :
    Calls Try.prog 18 #[D.val, D'.val] w' fun e w'' => e = .returned (.bool true) ∧ Below w'.heap.size w' w'' := by
  by_cases h : decCode ses n l = 0
  · obtain ⟨A, C, rfl, hx⟩ := h0 h
    obtain ⟨A', C', rfl, hy⟩ := h0' h
    exact rsame7_true _ _ _ _ _ _ _ _ _ _ A A' (n - 33) C C' _ w' (hx.below hb (Nat.le_refl _)) (hy.below hb' (Nat.le_refl _))
  · obtain rfl := h1 h
    obtain rfl := h1' h
    exact rsame7_true _ _ _ _ _ _ _ _ _ _ none none 0 0 0 [] w' (Bytes.nil w') (Bytes.nil w')
set_option maxRecDepth 100000 in
set_option maxHeartbeats 4000000 in
theorem decodes7_walk (ses : Int) (a : Option Addr) (n cap : Nat) (zs : List Int) (w : World) (h : IsRow .u8 w a n cap zs) :
    Calls Try.prog 4 #[.int .u32 ses, .slice a n cap] w fun e w' => e = .returned (.bool true) ∧ Below w.heap.size w w' := by
  have hbd := h.bound
  have HL := Lib.hid h.bytes
  have HBD := Lib.hid hbd
  generalize zs.take n = l at *
  have hm := HL.out.max
  clear h hbd
  have HAW := Lib.hid (fun w => awake7_any w)
  by_cases h3 : 3000 < n
  · go_enter Try.func4, Try.ntmps4
    go_wp2_with first
      | (go_at_call 9; refine (HAW.out _).mono ?_; rintro e w1 ⟨rfl, hb⟩; have HB1 := Lib.hid hb; clear hb)
      | fail
    go_ret
    exact ⟨rfl, HB1.out⟩
  obtain ⟨c, hc⟩ : ∃ c, c = decCode ses n l := ⟨_, rfl⟩
  have HC := Lib.hid hc
  clear hc
  go_enter Try.func4, Try.ntmps4
  go_upto_region 6 with first
    | (go_at_call 9; refine (HAW.out _).mono ?_; rintro e w1 ⟨rfl, hb⟩; have HB1 := Lib.hid hb; clear hb)
    | (go_at_call 11; refine (new_any _).mono ?_; rintro e w2 ⟨rfl, ht, hb⟩; have HT := Lib.hid ht; have HB2 := Lib.hid (HB1.out.trans (hb.mono HB1.out.size)); clear ht hb)
    | (go_at_call 16; refine (decode_any _ ses a n cap l _ HT.out (HL.out.below HB2.out (Nat.le_refl _)) HBD.out.1).mono ?_; rintro e w3 ⟨D, rfl, h0, h1, hb⟩; have HD0 := Lib.hid h0; have HD1 := Lib.hid h1; have HB3 := Lib.hid (HB2.out.trans (hb.mono HB2.out.size)); clear h0 h1 hb; rw [← HC.out])
    | fail
  have HQ := Lib.hid (show DBlk (w3.alloc (.cells D.cells 25)) w3.heap.size D from Go.Deep.blk_alloc_new w3 _)
  have HW3 : Hid (Below w3.heap.size w3 (w3.alloc (.cells D.cells 25))) := Lib.hid ((Below.refl w3.heap.size w3).alloc (Nat.le_refl _) _)
  have HBX : Hid (Below w.heap.size w (w3.alloc (.cells D.cells 25))) := Lib.hid (HB3.out.alloc HB3.out.size _)
  dsimp only [Dg.cells, Dg.val] at HQ HW3 HBX ⊢
  generalize (w3.alloc (.cells #[.int .i64 D.kind, .int .u32 D.ses, .int .u32 D.seq, .int .i64 D.path, .int .u32 D.tick, .int .u32 D.A, .int .u32 D.B, .int .i64 D.K, .int .i64 D.M, .int .i64 D.ix, .slice D.da D.dl D.dc] 25)) = w4 at *
  go_upto_region 7 with first
    | (go_at_call 17; refine (rdecode_any ses a n cap l _ (HL.out.below HBX.out (Nat.le_refl _)) HBD.out.1 HBD.out.2).mono ?_; rintro e w5 ⟨D', rfl, h0, h1, hb⟩; have HE0 := Lib.hid h0; have HE1 := Lib.hid h1; have HB5 := Lib.hid hb; clear h0 h1 hb; rw [← HC.out])
    | fail
  have HQ' := Lib.hid (show DBlk (w5.alloc (.cells D'.cells 25)) w5.heap.size D' from Go.Deep.blk_alloc_new w5 _)
  have H6 : Hid (DBlk (w5.alloc (.cells D'.cells 25)) w3.heap.size D ∧ Below w3.heap.size w3 (w5.alloc (.cells D'.cells 25)) ∧ Below w5.heap.size w5 (w5.alloc (.cells D'.cells 25)) ∧ Below w.heap.size w (w5.alloc (.cells D'.cells 25))) := Lib.hid (by
    have b5 := HW3.out.trans (HB5.out.mono HW3.out.size)
    have c5 := HBX.out.trans (HB5.out.mono HBX.out.size)
    exact ⟨((HQ.out.below HB5.out HQ.out.lt)).keep (Below.heap_alloc _ _ _ (Nat.lt_of_lt_of_le HQ.out.lt HB5.out.size)), b5.alloc b5.size _, (Below.refl w5.heap.size w5).alloc (Nat.le_refl _) _, c5.alloc c5.size _⟩)
  have HSM := Lib.hid (fun w' h => decd_same HD0.out HD1.out HE0.out HE1.out w' (H6.out.2.1.trans (Below.mono h H6.out.2.1.size)) (H6.out.2.2.1.trans (Below.mono h H6.out.2.2.1.size)))
  dsimp only [Dg.cells, Dg.val] at HQ' H6 HSM ⊢
  generalize (w5.alloc (.cells #[.int .i64 D'.kind, .int .u32 D'.ses, .int .u32 D'.seq, .int .i64 D'.path, .int .u32 D'.tick, .int .u32 D'.A, .int .u32 D'.B, .int .i64 D'.K, .int .i64 D'.M, .int .i64 D'.ix, .slice D'.da D'.dl D'.dc] 25)) = w6 at *
  obtain ⟨_, d0, d1, d2, d3, d4, d5, d6, d7, d8, d9, d10⟩ := H6.out.1.box
  obtain ⟨_, e0, e1, e2, e3, e4, e5, e6, e7, e8, e9, e10⟩ := HQ'.out.box
  go_wp2_with first
    | (go_at_call 18; refine (HSM.out _ (Below.refl _ _)).mono ?_; rintro e w7 ⟨rfl, hb⟩; have HB7 := Lib.hid hb; clear hb)
    | fail
  go_ret
  exact ⟨rfl, H6.out.2.2.2.trans (HB7.out.mono H6.out.2.2.2.size)⟩
set_option maxRecDepth 100000 in
set_option maxHeartbeats 4000000 in
theorem sealed7_walk (ses : Int) (a : Option Addr) (n cap : Nat) (zs : List Int) (w : World) (h : IsRow .u8 w a n cap zs) :
    Calls Try.prog 5 #[.int .u32 ses, .slice a n cap] w fun e w' => e = .returned (.bool true) ∧ Below w.heap.size w w' := by
  have hbd := h.bound
  have HL := Lib.hid h.bytes
  have HBD := Lib.hid hbd
  generalize zs.take n = l at *
  have hm := HL.out.max
  clear h hbd
  have HAW := Lib.hid (fun w => awake7_any w)
  by_cases h3 : 2000 < n
  · go_enter Try.func5, Try.ntmps5
    go_wp2_with first
      | (go_at_call 9; refine (HAW.out _).mono ?_; rintro e w1 ⟨rfl, hb⟩; have HB1 := Lib.hid hb; clear hb)
      | fail
    go_ret
    exact ⟨rfl, HB1.out⟩
  obtain ⟨c, hc⟩ : ∃ c, c = decCode ses (n + 4) (l ++ sealL (sumB l)) := ⟨_, rfl⟩
  have HC := Lib.hid hc
  clear hc
  go_enter Try.func5, Try.ntmps5
  go_upto_region 7 with first
    | (go_at_call 9; refine (HAW.out _).mono ?_; rintro e w1 ⟨rfl, hb⟩; have HB1 := Lib.hid hb; clear hb)
    | (go_at_call 19; refine (rseal_own a n cap l _ (HL.out.below HB1.out (Nat.le_refl _)) (by omega)).mono ?_; rintro e ws ⟨A, C, rfl, hs, hb, hc1, hc2⟩; have HS := Lib.hid hs; have HCC := Lib.hid (And.intro hc1 hc2); have HBS := Lib.hid (HB1.out.trans (hb.mono HB1.out.size)); clear hs hb hc1 hc2)
    | (go_at_call 11; refine (new_any _).mono ?_; rintro e w2 ⟨rfl, ht, hb⟩; have HT := Lib.hid ht; have HB2 := Lib.hid (HBS.out.trans (hb.mono HBS.out.size)); have HS2 := Lib.hid (HS.out.below hb (Nat.le_refl _)); clear ht hb)
    | (go_at_call 16; refine (decode_any _ ses A (n + 4) C (l ++ sealL (sumB l)) _ HT.out HS2.out HCC.out.1).mono ?_; rintro e w3 ⟨D, rfl, h0, h1, hb⟩; have HD0 := Lib.hid h0; have HD1 := Lib.hid h1; have HB3 := Lib.hid (HB2.out.trans (hb.mono HB2.out.size)); have HS3 := Lib.hid (HS2.out.below (hb.alloc hb.size (.cells D.cells 25)) (Nat.le_refl _)); clear h0 h1 hb; rw [← HC.out])
    | fail
  have HQ := Lib.hid (show DBlk (w3.alloc (.cells D.cells 25)) w3.heap.size D from Go.Deep.blk_alloc_new w3 _)
  have HW3 : Hid (Below w3.heap.size w3 (w3.alloc (.cells D.cells 25))) := Lib.hid ((Below.refl w3.heap.size w3).alloc (Nat.le_refl _) _)
  have HBX : Hid (Below w.heap.size w (w3.alloc (.cells D.cells 25))) := Lib.hid (HB3.out.alloc HB3.out.size _)
  dsimp only [Dg.cells, Dg.val] at HQ HW3 HBX HS3 ⊢
  generalize (w3.alloc (.cells #[.int .i64 D.kind, .int .u32 D.ses, .int .u32 D.seq, .int .i64 D.path, .int .u32 D.tick, .int .u32 D.A, .int .u32 D.B, .int .i64 D.K, .int .i64 D.M, .int .i64 D.ix, .slice D.da D.dl D.dc] 25)) = w4 at *
  go_upto_region 8 with first
    | (go_at_call 17; refine (rdecode_any ses A (n + 4) C (l ++ sealL (sumB l)) _ HS3.out HCC.out.1 HCC.out.2).mono ?_; rintro e w5 ⟨D', rfl, h0, h1, hb⟩; have HE0 := Lib.hid h0; have HE1 := Lib.hid h1; have HB5 := Lib.hid hb; clear h0 h1 hb; rw [← HC.out])
    | fail
  have HQ' := Lib.hid (show DBlk (w5.alloc (.cells D'.cells 25)) w5.heap.size D' from Go.Deep.blk_alloc_new w5 _)
  have H6 : Hid (DBlk (w5.alloc (.cells D'.cells 25)) w3.heap.size D ∧ Below w3.heap.size w3 (w5.alloc (.cells D'.cells 25)) ∧ Below w5.heap.size w5 (w5.alloc (.cells D'.cells 25)) ∧ Below w.heap.size w (w5.alloc (.cells D'.cells 25))) := Lib.hid (by
    have b5 := HW3.out.trans (HB5.out.mono HW3.out.size)
    have c5 := HBX.out.trans (HB5.out.mono HBX.out.size)
    exact ⟨((HQ.out.below HB5.out HQ.out.lt)).keep (Below.heap_alloc _ _ _ (Nat.lt_of_lt_of_le HQ.out.lt HB5.out.size)), b5.alloc b5.size _, (Below.refl w5.heap.size w5).alloc (Nat.le_refl _) _, c5.alloc c5.size _⟩)
  have HSM := Lib.hid (fun w' h => decd_same HD0.out HD1.out HE0.out HE1.out w' (H6.out.2.1.trans (Below.mono h H6.out.2.1.size)) (H6.out.2.2.1.trans (Below.mono h H6.out.2.2.1.size)))
  dsimp only [Dg.cells, Dg.val] at HQ' H6 HSM ⊢
  generalize (w5.alloc (.cells #[.int .i64 D'.kind, .int .u32 D'.ses, .int .u32 D'.seq, .int .i64 D'.path, .int .u32 D'.tick, .int .u32 D'.A, .int .u32 D'.B, .int .i64 D'.K, .int .i64 D'.M, .int .i64 D'.ix, .slice D'.da D'.dl D'.dc] 25)) = w6 at *
  obtain ⟨_, d0, d1, d2, d3, d4, d5, d6, d7, d8, d9, d10⟩ := H6.out.1.box
  obtain ⟨_, e0, e1, e2, e3, e4, e5, e6, e7, e8, e9, e10⟩ := HQ'.out.box
  go_wp2_with first
    | (go_at_call 18; refine (HSM.out _ (Below.refl _ _)).mono ?_; rintro e w7 ⟨rfl, hb⟩; have HB7 := Lib.hid hb; clear hb)
    | fail
  go_ret
  exact ⟨rfl, H6.out.2.2.2.trans (HB7.out.mono H6.out.2.2.2.size)⟩
end Go.Proofs.Ytfiacpbpfdencaa
