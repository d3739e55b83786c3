/-
  Own text: wire.read, walked.
-/
import Derived.Test.YtfiacpbpfdencaaNext7
import Derived.BigRegion
namespace Go.Proofs.Ytfiacpbpfdencaa
open Go.RowKit

theorem blk_set {w : World} {b : Nat} {C : Array Value} {t : TypeId} {fr : Nat × Nat} (h : w.heap[b]? = some (.cells C t fr)) (i : Nat) (v : Value) : (w.setCell ⟨b, i, none⟩ v).heap[b]? = some (.cells (C.setIfInBounds i v) t fr) := by
  simp only [World.setCell, Array.getElem?_modify, h]
  simp
theorem blk_other {w : World} {b c : Nat} (i : Nat) (v : Value) (h : b ≠ c) : (w.setCell ⟨b, i, none⟩ v).heap[c]? = w.heap[c]? := by
  simp only [World.setCell, Array.getElem?_modify]
  rw [if_neg h]
theorem blk_frozen {w : World} {b : Nat} {C : Array Value} {t : TypeId} (h : w.heap[b]? = some (.cells C t (0, 0))) (i : Nat) : w.frozen? ⟨b, i, none⟩ = false := by simp [World.frozen?, h]
/-- A block that holds a datagram. -/
def DBlk (w : World) (b : Nat) (d : Dg) : Prop := w.heap[b]? = some (.cells d.cells 25 (0, 0))
theorem DBlk.lt {w : World} {b : Nat} {d : Dg} (h : DBlk w b d) : b < w.heap.size := (Array.getElem?_eq_some_iff.1 h).1
theorem DBlk.box {w : World} {b : Nat} {d : Dg} (h : DBlk w b d) : DBox w b d := by
  unfold DBlk at h
  refine ⟨DBlk.lt h, ?_, ?_, ?_, ?_, ?_, ?_, ?_, ?_, ?_, ?_, ?_⟩ <;> (simp only [World.cell?, h]; rfl)
theorem DBlk.frozen {w : World} {b : Nat} {d : Dg} (h : DBlk w b d) (i : Nat) : w.frozen? ⟨b, i, none⟩ = false := by
  unfold DBlk at h
  simp [World.frozen?, h]
theorem DBlk.keep {w w' : World} {b : Nat} {d : Dg} (h : DBlk w b d) (e : w'.heap[b]? = w.heap[b]?) : DBlk w' b d := e.trans h
theorem DBlk.below {w w' : World} {b B : Nat} {d : Dg} (h : DBlk w b d) (hb : Below B w w') (hB : b < B) : DBlk w' b d := h.keep (hb.block b hB)
theorem DBlk.drew {w : World} {b : Nat} {d : Dg} (h : DBlk w b d) : DBlk w.drew b d := h.keep rfl
/-- A store of a whole datagram. -/
abbrev setDg (w : World) (b : Nat) (d : Dg) : World := ((((((((((w.setCell ⟨b, 0, none⟩ (.int .i64 d.kind)).setCell ⟨b, 1, none⟩ (.int .u32 d.ses)).setCell ⟨b, 2, none⟩ (.int .u32 d.seq)).setCell ⟨b, 3, none⟩ (.int .i64 d.path)).setCell ⟨b, 4, none⟩ (.int .u32 d.tick)).setCell ⟨b, 5, none⟩ (.int .u32 d.A)).setCell ⟨b, 6, none⟩ (.int .u32 d.B)).setCell ⟨b, 7, none⟩ (.int .i64 d.K)).setCell ⟨b, 8, none⟩ (.int .i64 d.M)).setCell ⟨b, 9, none⟩ (.int .i64 d.ix)).setCell ⟨b, 10, none⟩ (.slice d.da d.dl d.dc)
theorem DBlk.write {w : World} {b : Nat} {d : Dg} (h : DBlk w b d) (d' : Dg) : DBlk (setDg w b d') b d' := by
  unfold DBlk at *
  have h := blk_set (blk_set (blk_set (blk_set (blk_set (blk_set (blk_set (blk_set (blk_set (blk_set (blk_set h 0 (.int .i64 d'.kind)) 1 (.int .u32 d'.ses)) 2 (.int .u32 d'.seq)) 3 (.int .i64 d'.path)) 4 (.int .u32 d'.tick)) 5 (.int .u32 d'.A)) 6 (.int .u32 d'.B)) 7 (.int .i64 d'.K)) 8 (.int .i64 d'.M)) 9 (.int .i64 d'.ix)) 10 (.slice d'.da d'.dl d'.dc)
  simp only [Dg.cells, List.setIfInBounds_toArray, List.set_cons_zero, List.set_cons_succ] at h
  exact h
theorem setDg_below {w : World} {b B : Nat} {w0 : World} (h : Below B w0 w) (hb : B ≤ b) (d : Dg) : Below B w0 (setDg w b d) :=
  ((((((((((h.setCell hb _).setCell hb _).setCell hb _).setCell hb _).setCell hb _).setCell hb _).setCell hb _).setCell hb _).setCell hb _).setCell hb _).setCell hb _
theorem setDg_other {w : World} {b c : Nat} (d : Dg) (h : b ≠ c) : (setDg w b d).heap[c]? = w.heap[c]? := by
  simp only [setDg, blk_other _ _ h]
def Dg.zero : Dg := ⟨0, 0, 0, 0, 0, 0, 0, 0, 0, 0, none, 0, 0⟩
/-- How far a datagram is read: what is left of the bytes in box p, the datagram in block q. -/
structure RS (W w : World) (p q r : Nat) (l : List Int) (N C pos : Nat) (d : Dg) : Prop where
  cur : ∃ A, w.cell? ⟨p, 0, none⟩ = some (.slice A (N - pos) (C - pos)) ∧ Bytes W A (N - pos) (l.drop pos)
  fro : w.frozen? ⟨p, 0, none⟩ = false
  blk : DBlk w q d
  res : DBlk w r Dg.zero
  bel : Below W.heap.size W w
  low : (W.heap.size ≤ p ∧ W.heap.size ≤ q ∧ p ≠ q) ∧ W.heap.size ≤ r ∧ p ≠ r ∧ q ≠ r
theorem RS.set {W w : World} {p q r : Nat} {l : List Int} {N C pos : Nat} {d : Dg} (h : RS W w p q r l N C pos d) (i : Nat) (v : Value) (d' : Dg) (e : d.cells.setIfInBounds i v = d'.cells) : RS W (w.setCell ⟨q, i, none⟩ v) p q r l N C pos d' := by
  obtain ⟨A, hc, hb⟩ := h.cur
  refine ⟨⟨A, (World.cell?_setCell_far w ⟨q, i, none⟩ ⟨p, 0, none⟩ v (fun e => h.low.1.2.2 e.symm)).trans hc, hb⟩, (World.frozen?_setCell _ _ _ _).trans h.fro, ?_, h.res.keep (blk_other i v h.low.2.2.2), h.bel.setCell h.low.1.2.1 _, h.low⟩
  unfold DBlk
  rw [← e]
  exact blk_set h.blk i v
theorem RS.next {W w : World} {p q r : Nat} {l : List Int} {N C pos : Nat} {d : Dg} (h : RS W w p q r l N C pos d) (k : Nat) (hk : pos + k ≤ N) (hN : N ≤ C) (hC : C ≤ 100000) (hk0 : 0 < k) (hk8 : k ≤ 4) :
    Calls Try.prog 45 #[.int .i64 k, .pointer (some ⟨p, 0, none⟩)] w fun e w' => ∃ v : Int, e = .returned (.int .u64 v) ∧ 0 ≤ v ∧ v < 256 ^ k ∧ Hid (v = wordOf ((l.drop pos).take k)) ∧ Hid (RS W w' p q r l N C (pos + k) d) := by
  obtain ⟨A, hc, hb⟩ := h.cur
  rcases hb.cell with g | ⟨_, b, off, rfl, hbw, _⟩
  · omega
  have hb' : Bytes w (some ⟨b, off, none⟩) (N - pos) (l.drop pos) := hb.below h.bel (Nat.le_refl _)
  refine (next_any p b off (N - pos) (C - pos) k (l.drop pos) w hc h.fro hb' (by omega) (by omega) (by omega) (by omega) hk0).mono ?_
  rintro e w' ⟨rfl, A', rfl, hA⟩
  have hbd := wordOf_bound (l.drop pos) (N - pos) (by rw [hb.size]; exact Nat.le_refl _) hb.byte k (by omega)
  refine ⟨_, rfl, hbd.1, hbd.2, Lib.hid rfl, Lib.hid ⟨⟨A', ?_, ?_⟩, (World.frozen?_setCell _ _ _ _).trans h.fro, h.blk.keep (blk_other 0 _ h.low.1.2.2), h.res.keep (blk_other 0 _ h.low.2.2.1), h.bel.setCell h.low.1.1 _, h.low⟩⟩
  · rw [← Nat.sub_sub, ← Nat.sub_sub]
    exact World.cell?_setCell_same _ _ _ hc
  · rw [← Nat.sub_sub, ← List.drop_drop]
    exact hA W hb
theorem RS.next1 {W w : World} {p q r : Nat} {l : List Int} {N C pos : Nat} {d : Dg} (h : RS W w p q r l N C pos d) (hk : pos + 1 ≤ N) (hN : N ≤ C) (hC : C ≤ 100000) :
    Calls Try.prog 45 #[.int .i64 1, .pointer (some ⟨p, 0, none⟩)] w fun e w' => ∃ v : Int, e = .returned (.int .u64 v) ∧ 0 ≤ v ∧ v < 256 ∧ Hid (v = wordOf ((l.drop pos).take 1)) ∧ Hid (RS W w' p q r l N C (pos + 1) d) :=
  h.next 1 hk hN hC (by omega) (by omega)
theorem RS.next2 {W w : World} {p q r : Nat} {l : List Int} {N C pos : Nat} {d : Dg} (h : RS W w p q r l N C pos d) (hk : pos + 2 ≤ N) (hN : N ≤ C) (hC : C ≤ 100000) :
    Calls Try.prog 45 #[.int .i64 2, .pointer (some ⟨p, 0, none⟩)] w fun e w' => ∃ v : Int, e = .returned (.int .u64 v) ∧ 0 ≤ v ∧ v < 65536 ∧ Hid (v = wordOf ((l.drop pos).take 2)) ∧ Hid (RS W w' p q r l N C (pos + 2) d) :=
  h.next 2 hk hN hC (by omega) (by omega)
theorem RS.next4 {W w : World} {p q r : Nat} {l : List Int} {N C pos : Nat} {d : Dg} (h : RS W w p q r l N C pos d) (hk : pos + 4 ≤ N) (hN : N ≤ C) (hC : C ≤ 100000) :
    Calls Try.prog 45 #[.int .i64 4, .pointer (some ⟨p, 0, none⟩)] w fun e w' => ∃ v : Int, e = .returned (.int .u64 v) ∧ 0 ≤ v ∧ v < 4294967296 ∧ Hid (v = wordOf ((l.drop pos).take 4)) ∧ Hid (RS W w' p q r l N C (pos + 4) d) :=
  h.next 4 hk hN hC (by omega) (by omega)
theorem idxp_0 (a b c d e : Value) (w : World) : (Instr.index 80 (.agg #[a, b, c, d, e]) (.int .i64 0)).run Try.prog w = .ok a w := by kernel_rfl
theorem idxp_1 (a b c d e : Value) (w : World) : (Instr.index 80 (.agg #[a, b, c, d, e]) (.int .i64 1)).run Try.prog w = .ok b w := by kernel_rfl
theorem idxp_2 (a b c d e : Value) (w : World) : (Instr.index 80 (.agg #[a, b, c, d, e]) (.int .i64 2)).run Try.prog w = .ok c w := by kernel_rfl
theorem idxp_3 (a b c d e : Value) (w : World) : (Instr.index 80 (.agg #[a, b, c, d, e]) (.int .i64 3)).run Try.prog w = .ok d w := by kernel_rfl
theorem idxp_4 (a b c d e : Value) (w : World) : (Instr.index 80 (.agg #[a, b, c, d, e]) (.int .i64 4)).run Try.prog w = .ok e w := by kernel_rfl

/-- The bytes' datagram, but for its data. -/
def dgL (l : List Int) (da : Option Addr) (dl dc : Nat) : Dg :=
  ⟨wordOf ((l.drop 2).take 1), wordOf ((l.drop 4).take 4), wordOf ((l.drop 8).take 4), wordOf ((l.drop 3).take 1), wordOf ((l.drop 12).take 4), wordOf ((l.drop 16).take 4), wordOf ((l.drop 20).take 4), wordOf ((l.drop 24).take 1), wordOf ((l.drop 25).take 1), wordOf ((l.drop 26).take 1), da, dl, dc⟩
set_option maxRecDepth 100000 in
set_option maxHeartbeats 4000000 in
theorem read_any (a : Option Addr) (N C : Nat) (l : List Int) (w : World) (hl : Bytes w a N l) (h29 : 29 ≤ N) (hN : N ≤ C) (hC : C ≤ 100000) :
    Calls Try.prog 31 #[.slice a N C] w fun e w' => ∃ A, e = .returned (.tuple #[.int .i64 (wordOf (l.take 2)), (dgL l A (N - 29) (C - 29)).val, .int .i64 (wordOf ((l.drop 27).take 2))]) ∧ Bytes w' A (N - 29) (l.drop 29) ∧ Below w.heap.size w w' := by
  have HL := Lib.hid hl
  clear hl
  go_enter Try.func31, Try.ntmps31
  go_upto_region 3 with fail
  have HS : RS w (((w.alloc (.cells #[.slice a N C] 23)).alloc (.cells #[.int .i64 0, .int .u32 0, .int .u32 0, .int .i64 0, .int .u32 0, .int .u32 0, .int .u32 0, .int .i64 0, .int .i64 0, .int .i64 0, .slice none 0 0] 25)).alloc (.cells #[.int .i64 0, .int .u32 0, .int .u32 0, .int .i64 0, .int .u32 0, .int .u32 0, .int .u32 0, .int .i64 0, .int .i64 0, .int .i64 0, .slice none 0 0] 25)) w.heap.size (w.heap.size + 1 + 1) (w.heap.size + 1) l N C 0 Dg.zero := by
    have h1 : (w.alloc (.cells #[.slice a N C] 23)).heap.size = w.heap.size + 1 := by simp
    have h2 : ((w.alloc (.cells #[.slice a N C] 23)).alloc (.cells #[.int .i64 0, .int .u32 0, .int .u32 0, .int .i64 0, .int .u32 0, .int .u32 0, .int .u32 0, .int .i64 0, .int .i64 0, .int .i64 0, .slice none 0 0] 25)).heap.size = w.heap.size + 1 + 1 := by simp
    have b1 := Go.Deep.blk_alloc_new w (.cells #[.slice a N C] 23)
    have b2 := Go.Deep.blk_alloc_new (w.alloc (.cells #[.slice a N C] 23)) (.cells #[.int .i64 0, .int .u32 0, .int .u32 0, .int .i64 0, .int .u32 0, .int .u32 0, .int .u32 0, .int .i64 0, .int .i64 0, .int .i64 0, .slice none 0 0] 25)
    have b3 := Go.Deep.blk_alloc_new ((w.alloc (.cells #[.slice a N C] 23)).alloc (.cells #[.int .i64 0, .int .u32 0, .int .u32 0, .int .i64 0, .int .u32 0, .int .u32 0, .int .u32 0, .int .i64 0, .int .i64 0, .int .i64 0, .slice none 0 0] 25)) (.cells #[.int .i64 0, .int .u32 0, .int .u32 0, .int .i64 0, .int .u32 0, .int .u32 0, .int .u32 0, .int .i64 0, .int .i64 0, .int .i64 0, .slice none 0 0] 25)
    have k2 := (Below.heap_alloc ((w.alloc (.cells #[.slice a N C] 23)).alloc (.cells #[.int .i64 0, .int .u32 0, .int .u32 0, .int .i64 0, .int .u32 0, .int .u32 0, .int .u32 0, .int .i64 0, .int .i64 0, .int .i64 0, .slice none 0 0] 25)) (.cells #[.int .i64 0, .int .u32 0, .int .u32 0, .int .i64 0, .int .u32 0, .int .u32 0, .int .u32 0, .int .i64 0, .int .i64 0, .int .i64 0, .slice none 0 0] 25) (w.heap.size + 1) (by omega))
    have k1 := (Below.heap_alloc (w.alloc (.cells #[.slice a N C] 23)) (.cells #[.int .i64 0, .int .u32 0, .int .u32 0, .int .i64 0, .int .u32 0, .int .u32 0, .int .u32 0, .int .i64 0, .int .i64 0, .int .i64 0, .slice none 0 0] 25) w.heap.size (by omega))
    have k0 := (Below.heap_alloc ((w.alloc (.cells #[.slice a N C] 23)).alloc (.cells #[.int .i64 0, .int .u32 0, .int .u32 0, .int .i64 0, .int .u32 0, .int .u32 0, .int .u32 0, .int .i64 0, .int .i64 0, .int .i64 0, .slice none 0 0] 25)) (.cells #[.int .i64 0, .int .u32 0, .int .u32 0, .int .i64 0, .int .u32 0, .int .u32 0, .int .u32 0, .int .i64 0, .int .i64 0, .int .i64 0, .slice none 0 0] 25) w.heap.size (by omega))
    rw [h1] at b2
    rw [h2] at b3
    refine ⟨⟨a, ?_, ?_⟩, ?_, b3, k2.trans b2, (((Below.refl w.heap.size w).alloc (Nat.le_refl _) _).alloc (by simp) _).alloc (by simp; omega) _, ⟨Nat.le_refl _, by omega, by omega⟩, by omega, by omega, by omega⟩
    · simp only [World.cell?, k0, k1, b1]
      rfl
    · simpa using HL.out
    · exact blk_frozen ((k0.trans k1).trans b1) 0
  generalize (((w.alloc (.cells #[.slice a N C] 23)).alloc (.cells #[.int .i64 0, .int .u32 0, .int .u32 0, .int .i64 0, .int .u32 0, .int .u32 0, .int .u32 0, .int .i64 0, .int .i64 0, .int .i64 0, .slice none 0 0] 25)).alloc (.cells #[.int .i64 0, .int .u32 0, .int .u32 0, .int .i64 0, .int .u32 0, .int .u32 0, .int .u32 0, .int .i64 0, .int .i64 0, .int .i64 0, .slice none 0 0] 25)) = w1 at *
  have HS1 := Lib.hid HS
  clear HS
  generalize w.heap.size + 1 + 1 = q at *
  generalize w.heap.size + 1 = r at *
  go_upto_region 4 with first
    | ((with_reducible refine (RS.next2 HS1.out (by omega) hN hC).mono ?_); rintro e w2 ⟨vm, rfl, vm0, vm1, HVvm, HS2⟩; clear HS1)
  go_upto_region 5 with first
    | ((with_reducible refine (RS.next1 HS2.out (by omega) hN hC).mono ?_); rintro e w3 ⟨v0, rfl, v00, v01, HVv0, HS3⟩; clear HS2)
    | ((with_reducible refine (RS.next1 HS3.out (by omega) hN hC).mono ?_); rintro e w4 ⟨v3, rfl, v30, v31, HVv3, HS4⟩; clear HS3; have c0 := HS4.out.blk.box.c0; have f0 := HS4.out.blk.frozen 0; have c3 := HS4.out.blk.box.c3; have f3 := HS4.out.blk.frozen 3)
  have HS5 : Hid (RS w ((w4.setCell ⟨q, 0, none⟩ (.int .i64 v0)).setCell ⟨q, 3, none⟩ (.int .i64 v3)) w.heap.size q r l N C 4 ⟨v0, 0, 0, v3, 0, 0, 0, 0, 0, 0, none, 0, 0⟩) := Lib.hid (((HS4.out.set 0 (.int .i64 v0) ⟨v0, 0, 0, 0, 0, 0, 0, 0, 0, 0, none, 0, 0⟩ rfl).set 3 (.int .i64 v3) ⟨v0, 0, 0, v3, 0, 0, 0, 0, 0, 0, none, 0, 0⟩ rfl))
  clear HS4 c0 f0 c3 f3
  generalize ((w4.setCell ⟨q, 0, none⟩ (.int .i64 v0)).setCell ⟨q, 3, none⟩ (.int .i64 v3)) = w5 at *
  go_wp2_with fail
  have i0 := idxp_0
  have i1 := idxp_1
  have i2 := idxp_2
  have i3 := idxp_3
  have i4 := idxp_4
  refine wp_loop_rounds 6 ?_
  rw [rounds_succ]
  go_wp2_with first
    | ((with_reducible refine (RS.next4 HS5.out (by omega) hN hC).mono ?_); rintro e wa1 ⟨v1, rfl, v10, v11, HVv1, HA1⟩; clear HS5; have c1 := HA1.out.blk.box.c1; have f1 := HA1.out.blk.frozen 1)
  have HL1 : Hid (RS w (wa1.setCell ⟨q, 1, none⟩ (.int .u32 v1)) w.heap.size q r l N C 8 ⟨v0, v1, 0, v3, 0, 0, 0, 0, 0, 0, none, 0, 0⟩) := Lib.hid ((HA1.out.set 1 (.int .u32 v1) ⟨v0, v1, 0, v3, 0, 0, 0, 0, 0, 0, none, 0, 0⟩ rfl))
  clear HA1 c1 f1
  generalize (wa1.setCell ⟨q, 1, none⟩ (.int .u32 v1)) = wl1 at *
  rw [rounds_succ]
  go_wp2_with first
    | ((with_reducible refine (RS.next4 HL1.out (by omega) hN hC).mono ?_); rintro e wa2 ⟨v2, rfl, v20, v21, HVv2, HA2⟩; clear HL1; have c2 := HA2.out.blk.box.c2; have f2 := HA2.out.blk.frozen 2)
  have HL2 : Hid (RS w (wa2.setCell ⟨q, 2, none⟩ (.int .u32 v2)) w.heap.size q r l N C 12 ⟨v0, v1, v2, v3, 0, 0, 0, 0, 0, 0, none, 0, 0⟩) := Lib.hid ((HA2.out.set 2 (.int .u32 v2) ⟨v0, v1, v2, v3, 0, 0, 0, 0, 0, 0, none, 0, 0⟩ rfl))
  clear HA2 c2 f2
  generalize (wa2.setCell ⟨q, 2, none⟩ (.int .u32 v2)) = wl2 at *
  rw [rounds_succ]
  go_wp2_with first
    | ((with_reducible refine (RS.next4 HL2.out (by omega) hN hC).mono ?_); rintro e wa4 ⟨v4, rfl, v40, v41, HVv4, HA4⟩; clear HL2; have c4 := HA4.out.blk.box.c4; have f4 := HA4.out.blk.frozen 4)
  have HL4 : Hid (RS w (wa4.setCell ⟨q, 4, none⟩ (.int .u32 v4)) w.heap.size q r l N C 16 ⟨v0, v1, v2, v3, v4, 0, 0, 0, 0, 0, none, 0, 0⟩) := Lib.hid ((HA4.out.set 4 (.int .u32 v4) ⟨v0, v1, v2, v3, v4, 0, 0, 0, 0, 0, none, 0, 0⟩ rfl))
  clear HA4 c4 f4
  generalize (wa4.setCell ⟨q, 4, none⟩ (.int .u32 v4)) = wl4 at *
  rw [rounds_succ]
  go_wp2_with first
    | ((with_reducible refine (RS.next4 HL4.out (by omega) hN hC).mono ?_); rintro e wa5 ⟨v5, rfl, v50, v51, HVv5, HA5⟩; clear HL4; have c5 := HA5.out.blk.box.c5; have f5 := HA5.out.blk.frozen 5)
  have HL5 : Hid (RS w (wa5.setCell ⟨q, 5, none⟩ (.int .u32 v5)) w.heap.size q r l N C 20 ⟨v0, v1, v2, v3, v4, v5, 0, 0, 0, 0, none, 0, 0⟩) := Lib.hid ((HA5.out.set 5 (.int .u32 v5) ⟨v0, v1, v2, v3, v4, v5, 0, 0, 0, 0, none, 0, 0⟩ rfl))
  clear HA5 c5 f5
  generalize (wa5.setCell ⟨q, 5, none⟩ (.int .u32 v5)) = wl5 at *
  rw [rounds_succ]
  go_wp2_with first
    | ((with_reducible refine (RS.next4 HL5.out (by omega) hN hC).mono ?_); rintro e wa6 ⟨v6, rfl, v60, v61, HVv6, HA6⟩; clear HL5; have c6 := HA6.out.blk.box.c6; have f6 := HA6.out.blk.frozen 6)
  have HL6 : Hid (RS w (wa6.setCell ⟨q, 6, none⟩ (.int .u32 v6)) w.heap.size q r l N C 24 ⟨v0, v1, v2, v3, v4, v5, v6, 0, 0, 0, none, 0, 0⟩) := Lib.hid ((HA6.out.set 6 (.int .u32 v6) ⟨v0, v1, v2, v3, v4, v5, v6, 0, 0, 0, none, 0, 0⟩ rfl))
  clear HA6 c6 f6
  generalize (wa6.setCell ⟨q, 6, none⟩ (.int .u32 v6)) = wl6 at *
  rw [rounds_succ]
  go_upto_region 11 with first
    | ((with_reducible refine (RS.next1 HL6.out (by omega) hN hC).mono ?_); rintro e w7 ⟨v7, rfl, v70, v71, HVv7, HS7⟩; clear HL6)
    | ((with_reducible refine (RS.next1 HS7.out (by omega) hN hC).mono ?_); rintro e w8 ⟨v8, rfl, v80, v81, HVv8, HS8⟩; clear HS7)
    | ((with_reducible refine (RS.next1 HS8.out (by omega) hN hC).mono ?_); rintro e w9 ⟨v9, rfl, v90, v91, HVv9, HS9⟩; clear HS8; have c7 := HS9.out.blk.box.c7; have f7 := HS9.out.blk.frozen 7; have c8 := HS9.out.blk.box.c8; have f8 := HS9.out.blk.frozen 8; have c9 := HS9.out.blk.box.c9; have f9 := HS9.out.blk.frozen 9)
  have HT1 : Hid (RS w (((w9.setCell ⟨q, 7, none⟩ (.int .i64 v7)).setCell ⟨q, 8, none⟩ (.int .i64 v8)).setCell ⟨q, 9, none⟩ (.int .i64 v9)) w.heap.size q r l N C 27 ⟨v0, v1, v2, v3, v4, v5, v6, v7, v8, v9, none, 0, 0⟩) := Lib.hid ((((HS9.out.set 7 (.int .i64 v7) ⟨v0, v1, v2, v3, v4, v5, v6, v7, 0, 0, none, 0, 0⟩ rfl).set 8 (.int .i64 v8) ⟨v0, v1, v2, v3, v4, v5, v6, v7, v8, 0, none, 0, 0⟩ rfl).set 9 (.int .i64 v9) ⟨v0, v1, v2, v3, v4, v5, v6, v7, v8, v9, none, 0, 0⟩ rfl))
  clear HS9 c7 f7 c8 f8 c9 f9
  generalize (((w9.setCell ⟨q, 7, none⟩ (.int .i64 v7)).setCell ⟨q, 8, none⟩ (.int .i64 v8)).setCell ⟨q, 9, none⟩ (.int .i64 v9)) = x1 at *
  go_upto_region 12 with first
    | ((with_reducible refine (RS.next2 HT1.out (by omega) hN hC).mono ?_); rintro e x2 ⟨vs, rfl, vs0, vs1, HVvs, HT2⟩; clear HT1)
  obtain ⟨AD, hcd, hbd⟩ := HT2.out.cur
  have c10 := HT2.out.blk.box.c10
  have f10 := HT2.out.blk.frozen 10
  go_upto_region 13 with fail
  clear i0 i1 i2 i3 i4 c10 f10
  have HX3 : Hid (RS w (x2.setCell ⟨q, 10, none⟩ (.slice AD (N - 29) (C - 29))) w.heap.size q r l N C 29 ⟨v0, v1, v2, v3, v4, v5, v6, v7, v8, v9, AD, N - 29, C - 29⟩) := Lib.hid (HT2.out.set 10 (.slice AD (N - 29) (C - 29)) ⟨v0, v1, v2, v3, v4, v5, v6, v7, v8, v9, AD, N - 29, C - 29⟩ rfl)
  clear HT2 hcd
  have HBD := Lib.hid hbd
  clear hbd
  generalize (x2.setCell ⟨q, 10, none⟩ (.slice AD (N - 29) (C - 29))) = x3 at *
  obtain ⟨_, d0, d1, d2, d3, d4, d5, d6, d7, d8, d9, d10⟩ := HX3.out.blk.box
  obtain ⟨_, r0, r1, r2, r3, r4, r5, r6, r7, r8, r9, r10⟩ := HX3.out.res.box
  have fr := HX3.out.res.frozen
  have fr0 := fr 0
  have fr1 := fr 1
  have fr2 := fr 2
  have fr3 := fr 3
  have fr4 := fr 4
  have fr5 := fr 5
  have fr6 := fr 6
  have fr7 := fr 7
  have fr8 := fr 8
  have fr9 := fr 9
  have fr10 := fr 10
  clear fr
  have hqr : ¬ q = r := HX3.out.low.2.2.2
  have hrq : ¬ r = q := fun h => hqr h.symm
  go_region
  all_goals
    have HF := Lib.hid (DBlk.drew (DBlk.write HX3.out.res ⟨v0, v1, v2, v3, v4, v5, v6, v7, v8, v9, AD, N - 29, C - 29⟩))
    have HFB := Lib.hid (setDg_below HX3.out.bel HX3.out.low.2.1 ⟨v0, v1, v2, v3, v4, v5, v6, v7, v8, v9, AD, N - 29, C - 29⟩).drew
    dsimp only [setDg] at HF HFB
    clear d0 d1 d2 d3 d4 d5 d6 d7 d8 d9 d10 r0 r1 r2 r3 r4 r5 r6 r7 r8 r9 r10 fr0 fr1 fr2 fr3 fr4 fr5 fr6 fr7 fr8 fr9 fr10 HX3
    generalize (((((((((((x3.setCell ⟨r, 0, none⟩ (.int .i64 v0)).setCell ⟨r, 1, none⟩ (.int .u32 v1)).setCell ⟨r, 2, none⟩ (.int .u32 v2)).setCell ⟨r, 3, none⟩ (.int .i64 v3)).setCell ⟨r, 4, none⟩ (.int .u32 v4)).setCell ⟨r, 5, none⟩ (.int .u32 v5)).setCell ⟨r, 6, none⟩ (.int .u32 v6)).setCell ⟨r, 7, none⟩ (.int .i64 v7)).setCell ⟨r, 8, none⟩ (.int .i64 v8)).setCell ⟨r, 9, none⟩ (.int .i64 v9)).setCell ⟨r, 10, none⟩ (.slice AD (N - 29) (C - 29))).drew = x4 at *
    obtain ⟨_, z0, z1, z2, z3, z4, z5, z6, z7, z8, z9, z10⟩ := HF.out.box
    go_wp2
    refine bodyPost_ret (v := .tuple #[.int .i64 vm, .agg #[.int .i64 v0, .int .u32 v1, .int .u32 v2, .int .i64 v3, .int .u32 v4, .int .u32 v5, .int .u32 v6, .int .i64 v7, .int .i64 v8, .int .i64 v9, .slice AD (N - 29) (C - 29)], .int .i64 vs]) (by simp [results, Try.results31, go_sem, z0, z1, z2, z3, z4, z5, z6, z7, z8, z9, z10]) rfl ?_
    refine ⟨AD, ?_, HBD.out.below HFB.out (Nat.le_refl _), HFB.out⟩
    have em : wordOf (l.take 2) = vm := by have h := HVvm.out; simp only [List.drop_zero] at h; exact h.symm
    have es : wordOf ((l.drop 27).take 2) = vs := HVvs.out.symm
    have e0 : wordOf ((l.drop 2).take 1) = v0 := HVv0.out.symm
    have e1 : wordOf ((l.drop 4).take 4) = v1 := HVv1.out.symm
    have e2 : wordOf ((l.drop 8).take 4) = v2 := HVv2.out.symm
    have e3 : wordOf ((l.drop 3).take 1) = v3 := HVv3.out.symm
    have e4 : wordOf ((l.drop 12).take 4) = v4 := HVv4.out.symm
    have e5 : wordOf ((l.drop 16).take 4) = v5 := HVv5.out.symm
    have e6 : wordOf ((l.drop 20).take 4) = v6 := HVv6.out.symm
    have e7 : wordOf ((l.drop 24).take 1) = v7 := HVv7.out.symm
    have e8 : wordOf ((l.drop 25).take 1) = v8 := HVv8.out.symm
    have e9 : wordOf ((l.drop 26).take 1) = v9 := HVv9.out.symm
    simp only [dgL, em, es, e0, e1, e2, e3, e4, e5, e6, e7, e8, e9]
end Go.Proofs.Ytfiacpbpfdencaa
