/-
  Own text: the document's Decode, walked.
-/
import Derived.Test.YtfiacpbpfdencaaDec7
import Derived.Test.YtfiacpbpfdencaaRCheck7
import Derived.BigRegion
namespace Go.Proofs.Ytfiacpbpfdencaa
open Go.RowKit

theorem Bytes.mid {w : World} {b off n : Nat} {l : List Int} (h : Bytes w (some ⟨b, off, none⟩) n l) (i k : Nat) (hk : i + k ≤ n) : Bytes w (some ⟨b, off + i, none⟩) k ((l.drop i).take k) :=
  (h.behind (k := i) (by omega)).front (by omega)
theorem rget4_any (a : Option Addr) (cap : Nat) (l : List Int) (w : World) (h : Bytes w a 4 l) (hc : 4 ≤ cap) (hm : cap ≤ 9223372036854775807) :
    Calls Try.prog 33 #[.slice a 4 cap] w fun e w' => ∃ v : Int, e = .returned (.int .u64 v) ∧ w = w' ∧ Hid (v = wordOf l) ∧ 0 ≤ v ∧ v ≤ 4294967295 := by
  refine (rget7_any a 4 cap l w h (by omega) (by omega) hc hm).mono ?_
  rintro e w' ⟨rfl, rfl⟩
  have hb := wordOf_bound l 4 (by rw [h.size]; exact Nat.le_refl _) h.byte 4 (Nat.le_refl _)
  rw [List.take_of_length_le (by rw [h.size]; exact Nat.le_refl _)] at hb
  exact ⟨_, rfl, rfl, Lib.hid rfl, hb.1, by have := hb.2; omega⟩
theorem rget2_any (a : Option Addr) (cap : Nat) (l : List Int) (w : World) (h : Bytes w a 2 l) (hc : 2 ≤ cap) (hm : cap ≤ 9223372036854775807) :
    Calls Try.prog 33 #[.slice a 2 cap] w fun e w' => ∃ v : Int, e = .returned (.int .u64 v) ∧ w = w' ∧ Hid (v = wordOf l) ∧ 0 ≤ v ∧ v ≤ 65535 := by
  refine (rget7_any a 2 cap l w h (by omega) (by omega) hc hm).mono ?_
  rintro e w' ⟨rfl, rfl⟩
  have hb := wordOf_bound l 2 (by rw [h.size]; exact Nat.le_refl _) h.byte 2 (Nat.le_refl _)
  rw [List.take_of_length_le (by rw [h.size]; exact Nat.le_refl _)] at hb
  exact ⟨_, rfl, rfl, Lib.hid rfl, hb.1, by have := hb.2; omega⟩
theorem word_cell (l : List Int) (i : Nat) (h : i < l.length) : wordOf ((l.drop i).take 1) = l.getD i 0 := by
  rw [List.drop_eq_getElem_cons h, List.take_succ_cons, List.take_zero, List.getD_eq_getElem?_getD, List.getElem?_eq_getElem h]
  simp [wordOf]
theorem word_front (l : List Int) (h : 2 ≤ l.length) : wordOf (l.take 2) = l.getD 0 0 * 256 + l.getD 1 0 := by
  rw [show (2 : Nat) = 1 + 1 from rfl, wordOf_snoc l 1 (by omega), show l.take 1 = (l.drop 0).take 1 by simp, word_cell l 0 (by omega)]
set_option maxRecDepth 100000 in
set_option maxHeartbeats 8000000 in
theorem rdecode_early (ses : Int) (a : Option Addr) (n cap : Nat) (l : List Int) (w : World) (hn : n ≤ 9223372036854775807) (h : 1400 < n ∨ n < 33) :
    Calls Try.prog 17 #[.int .u32 ses, .slice a n cap] w (Decd ses n l w) := by
  have HZ : Hid (DBlk (w.alloc (.cells #[.int .i64 0, .int .u32 0, .int .u32 0, .int .i64 0, .int .u32 0, .int .u32 0, .int .u32 0, .int .i64 0, .int .i64 0, .int .i64 0, .slice none 0 0] 25)) w.heap.size Dg.zero) := Lib.hid (Go.Deep.blk_alloc_new w _)
  have HB : Hid (Below w.heap.size w (w.alloc (.cells #[.int .i64 0, .int .u32 0, .int .u32 0, .int .i64 0, .int .u32 0, .int .u32 0, .int .u32 0, .int .i64 0, .int .i64 0, .int .i64 0, .slice none 0 0] 25))) := Lib.hid ((Below.refl w.heap.size w).alloc (Nat.le_refl _) _)
  go_enter Try.func17, Try.ntmps17
  go_upto_region 1 with fail
  generalize (w.alloc (.cells #[.int .i64 0, .int .u32 0, .int .u32 0, .int .i64 0, .int .u32 0, .int .u32 0, .int .u32 0, .int .i64 0, .int .i64 0, .int .i64 0, .slice none 0 0] 25)) = w0 at *
  obtain ⟨_, r0, r1, r2, r3, r4, r5, r6, r7, r8, r9, r10⟩ := (DBlk.box HZ.out)
  have fr0 := DBlk.frozen HZ.out 0
  have fr1 := DBlk.frozen HZ.out 1
  have fr2 := DBlk.frozen HZ.out 2
  have fr3 := DBlk.frozen HZ.out 3
  have fr4 := DBlk.frozen HZ.out 4
  have fr5 := DBlk.frozen HZ.out 5
  have fr6 := DBlk.frozen HZ.out 6
  have fr7 := DBlk.frozen HZ.out 7
  have fr8 := DBlk.frozen HZ.out 8
  have fr9 := DBlk.frozen HZ.out 9
  have fr10 := DBlk.frozen HZ.out 10
  dsimp only [Dg.zero] at r0 r1 r2 r3 r4 r5 r6 r7 r8 r9 r10
  rcases h with h | h
  · have HC : Hid (decCode ses n l = 2) := Lib.hid (by unfold decCode; rw [if_pos h])
    go_wp2_with fail
    have HF := Lib.hid (DBlk.write HZ.out Dg.zero)
    have HFB := Lib.hid (setDg_below HB.out (Nat.le_refl _) Dg.zero)
    dsimp only [setDg, Dg.zero] at HF HFB
    generalize (((((((((((w0.setCell ⟨w.heap.size, 0, none⟩ (.int .i64 0)).setCell ⟨w.heap.size, 1, none⟩ (.int .u32 0)).setCell ⟨w.heap.size, 2, none⟩ (.int .u32 0)).setCell ⟨w.heap.size, 3, none⟩ (.int .i64 0)).setCell ⟨w.heap.size, 4, none⟩ (.int .u32 0)).setCell ⟨w.heap.size, 5, none⟩ (.int .u32 0)).setCell ⟨w.heap.size, 6, none⟩ (.int .u32 0)).setCell ⟨w.heap.size, 7, none⟩ (.int .i64 0)).setCell ⟨w.heap.size, 8, none⟩ (.int .i64 0)).setCell ⟨w.heap.size, 9, none⟩ (.int .i64 0)).setCell ⟨w.heap.size, 10, none⟩ (.slice none 0 0)) = x4 at *
    obtain ⟨_, z0, z1, z2, z3, z4, z5, z6, z7, z8, z9, z10⟩ := HF.out.box
    dsimp only at z0 z1 z2 z3 z4 z5 z6 z7 z8 z9 z10
    refine bodyPost_ret (v := .tuple #[.agg #[.int .i64 0, .int .u32 0, .int .u32 0, .int .i64 0, .int .u32 0, .int .u32 0, .int .u32 0, .int .i64 0, .int .i64 0, .int .i64 0, .slice none 0 0], .int .i64 2]) (by simp [results, Try.results17, go_sem, z0, z1, z2, z3, z4, z5, z6, z7, z8, z9, z10]) rfl ?_
    exact decd_bad HC.out (by decide) rfl HFB.out
  · have HC : Hid (decCode ses n l = 70) := Lib.hid (by unfold decCode; rw [if_neg (by omega), if_pos h])
    have h14 : n ≤ 1400 := by omega
    go_wp2_with fail
    have HF := Lib.hid (DBlk.write HZ.out Dg.zero)
    have HFB := Lib.hid (setDg_below HB.out (Nat.le_refl _) Dg.zero)
    dsimp only [setDg, Dg.zero] at HF HFB
    generalize (((((((((((w0.setCell ⟨w.heap.size, 0, none⟩ (.int .i64 0)).setCell ⟨w.heap.size, 1, none⟩ (.int .u32 0)).setCell ⟨w.heap.size, 2, none⟩ (.int .u32 0)).setCell ⟨w.heap.size, 3, none⟩ (.int .i64 0)).setCell ⟨w.heap.size, 4, none⟩ (.int .u32 0)).setCell ⟨w.heap.size, 5, none⟩ (.int .u32 0)).setCell ⟨w.heap.size, 6, none⟩ (.int .u32 0)).setCell ⟨w.heap.size, 7, none⟩ (.int .i64 0)).setCell ⟨w.heap.size, 8, none⟩ (.int .i64 0)).setCell ⟨w.heap.size, 9, none⟩ (.int .i64 0)).setCell ⟨w.heap.size, 10, none⟩ (.slice none 0 0)) = x4 at *
    obtain ⟨_, z0, z1, z2, z3, z4, z5, z6, z7, z8, z9, z10⟩ := HF.out.box
    dsimp only at z0 z1 z2 z3 z4 z5 z6 z7 z8 z9 z10
    refine bodyPost_ret (v := .tuple #[.agg #[.int .i64 0, .int .u32 0, .int .u32 0, .int .i64 0, .int .u32 0, .int .u32 0, .int .u32 0, .int .i64 0, .int .i64 0, .int .i64 0, .slice none 0 0], .int .i64 70]) (by simp [results, Try.results17, go_sem, z0, z1, z2, z3, z4, z5, z6, z7, z8, z9, z10]) rfl ?_
    exact decd_bad HC.out (by decide) rfl HFB.out
/-- How far a datagram is read: in block q; r is the answer's. -/
structure RD (W w : World) (q r : Nat) (d : Dg) : Prop where
  blk : DBlk w q d
  res : DBlk w r Dg.zero
  bel : Below W.heap.size W w
  lq : W.heap.size ≤ q
  lr : W.heap.size ≤ r
  ne : q ≠ r
theorem RD.old {W w : World} {q r : Nat} {d : Dg} (h : RD W w q r d) {b o : Nat} (hb : b < W.heap.size) (v : Value) (hc : W.cell? ⟨b, o, none⟩ = some v) : w.cell? ⟨b, o, none⟩ = some v := (h.bel.cell (p := ⟨b, o, none⟩) hb).trans hc
theorem RD.set {W w : World} {q r : Nat} {d : Dg} (h : RD W w q r d) (i : Nat) (v : Value) (d' : Dg) (e : d.cells.setIfInBounds i v = d'.cells) : RD W (w.setCell ⟨q, i, none⟩ v) q r d' := by
  refine ⟨?_, h.res.keep (blk_other i v h.ne), h.bel.setCell h.lq _, h.lq, h.lr, h.ne⟩
  unfold DBlk
  rw [← e]
  exact blk_set h.blk i v
theorem RD.drew {W w : World} {q r : Nat} {d : Dg} (h : RD W w q r d) : RD W w.drew q r d := ⟨h.blk.drew, h.res.drew, h.bel.drew, h.lq, h.lr, h.ne⟩
set_option maxRecDepth 100000 in
set_option maxHeartbeats 8000000 in
theorem rdecode_late (ses : Int) (bb off : Nat) (m cap : Nat) (l : List Int) (w : World) (hl : Bytes w (some ⟨bb, off, none⟩) (m + 4) l) (h29 : 29 ≤ m) (hm : m ≤ 1396) (hcap : m + 4 ≤ cap) (hcm : cap ≤ 9223372036854775807) :
    Calls Try.prog 17 #[.int .u32 ses, .slice (some ⟨bb, off, none⟩) (m + 4) cap] w (Decd ses (m + 4) l w) := by
  have HZ : Hid (DBlk (w.alloc (.cells #[.int .i64 0, .int .u32 0, .int .u32 0, .int .i64 0, .int .u32 0, .int .u32 0, .int .u32 0, .int .i64 0, .int .i64 0, .int .i64 0, .slice none 0 0] 25)) w.heap.size Dg.zero) := Lib.hid (Go.Deep.blk_alloc_new w _)
  have HB : Hid (Below w.heap.size w (w.alloc (.cells #[.int .i64 0, .int .u32 0, .int .u32 0, .int .i64 0, .int .u32 0, .int .u32 0, .int .u32 0, .int .i64 0, .int .i64 0, .int .i64 0, .slice none 0 0] 25))) := Lib.hid ((Below.refl w.heap.size w).alloc (Nat.le_refl _) _)
  have HLW := Lib.hid hl
  have HLS := Lib.hid hl.size
  have HCE : Hid (bb < w.heap.size ∧ ∀ i, i < m → w.cell? ⟨bb, off + i, none⟩ = some (.int .u8 ((l.take m).getD i 0))) := Lib.hid (by
    rcases (hl.front (n := m) (by omega)).cell with g | ⟨_, b', off', e, hb, hc⟩
    · omega
    · simp only [Option.some.injEq, Addr.mk.injEq, and_true] at e
      obtain ⟨rfl, rfl⟩ := e
      exact ⟨hb, hc⟩)
  have HBY : Hid (∀ i, i < m → 0 ≤ (l.take m).getD i 0 ∧ (l.take m).getD i 0 ≤ 255) := Lib.hid (hl.front (n := m) (by omega)).byte
  clear hl
  have HU : Hid (∀ c, (if opensB m l = false then 20 else if wordOf ((l.take m).take 2) ≠ 17003 ∨ wordOf (((l.take m).drop 4).take 4) ≠ ses then 71 else
    if wordOf (((l.take m).drop 27).take 2) ≠ ((m - 29 : Nat) : Int) then 73 else chk (dgL (l.take m) none (m - 29) 0) ((l.take m).drop 29)) = c → decCode ses (m + 4) l = c) := Lib.hid (fun c h => by
      unfold decCode
      rw [if_neg (by omega), if_neg (by omega), Nat.add_sub_cancel, show m + 4 - 33 = m - 29 by omega]
      exact h)
  go_enter Try.func17, Try.ntmps17
  go_upto_region 1 with fail
  generalize (w.alloc (.cells #[.int .i64 0, .int .u32 0, .int .u32 0, .int .i64 0, .int .u32 0, .int .u32 0, .int .u32 0, .int .i64 0, .int .i64 0, .int .i64 0, .slice none 0 0] 25)) = w0 at *
  have HO := Lib.hid (ropen_any (some ⟨bb, off, none⟩) m cap l w0 (HLW.out.below HB.out (Nat.le_refl _)) (by omega) hcap)
  cases ho : opensB m l
  case false =>
    have HC : Hid (decCode ses (m + 4) l = 20) := Lib.hid (HU.out _ (by rw [if_pos ho]))
    rw [ho] at HO
    clear ho HU
    simp only [Bool.false_eq_true, if_false] at HO
    go_upto_region 7 with first
      | (go_at_call 32; refine HO.out.mono ?_; rintro e w1 ⟨rfl, hb⟩; have HB1 := Lib.hid hb; clear hb)
    have HZ1 : Hid (DBlk w1 w.heap.size Dg.zero) := Lib.hid (HZ.out.below HB1.out HZ.out.lt)
    have HBB : Hid (Below w.heap.size w w1) := Lib.hid (HB.out.trans (HB1.out.mono HB.out.size))
    obtain ⟨_, r0, r1, r2, r3, r4, r5, r6, r7, r8, r9, r10⟩ := (DBlk.box HZ1.out)
    have fr0 := DBlk.frozen HZ1.out 0
    have fr1 := DBlk.frozen HZ1.out 1
    have fr2 := DBlk.frozen HZ1.out 2
    have fr3 := DBlk.frozen HZ1.out 3
    have fr4 := DBlk.frozen HZ1.out 4
    have fr5 := DBlk.frozen HZ1.out 5
    have fr6 := DBlk.frozen HZ1.out 6
    have fr7 := DBlk.frozen HZ1.out 7
    have fr8 := DBlk.frozen HZ1.out 8
    have fr9 := DBlk.frozen HZ1.out 9
    have fr10 := DBlk.frozen HZ1.out 10
    dsimp only [Dg.zero] at r0 r1 r2 r3 r4 r5 r6 r7 r8 r9 r10
    go_wp2_with fail
    have HF := Lib.hid (DBlk.write HZ1.out Dg.zero)
    have HFB := Lib.hid (setDg_below HBB.out (Nat.le_refl _) Dg.zero)
    dsimp only [setDg, Dg.zero] at HF HFB
    generalize (((((((((((w1.setCell ⟨w.heap.size, 0, none⟩ (.int .i64 0)).setCell ⟨w.heap.size, 1, none⟩ (.int .u32 0)).setCell ⟨w.heap.size, 2, none⟩ (.int .u32 0)).setCell ⟨w.heap.size, 3, none⟩ (.int .i64 0)).setCell ⟨w.heap.size, 4, none⟩ (.int .u32 0)).setCell ⟨w.heap.size, 5, none⟩ (.int .u32 0)).setCell ⟨w.heap.size, 6, none⟩ (.int .u32 0)).setCell ⟨w.heap.size, 7, none⟩ (.int .i64 0)).setCell ⟨w.heap.size, 8, none⟩ (.int .i64 0)).setCell ⟨w.heap.size, 9, none⟩ (.int .i64 0)).setCell ⟨w.heap.size, 10, none⟩ (.slice none 0 0)) = x4 at *
    obtain ⟨_, z0, z1, z2, z3, z4, z5, z6, z7, z8, z9, z10⟩ := HF.out.box
    dsimp only at z0 z1 z2 z3 z4 z5 z6 z7 z8 z9 z10
    refine bodyPost_ret (v := .tuple #[.agg #[.int .i64 0, .int .u32 0, .int .u32 0, .int .i64 0, .int .u32 0, .int .u32 0, .int .u32 0, .int .i64 0, .int .i64 0, .int .i64 0, .slice none 0 0], .int .i64 20]) (by simp [results, Try.results17, go_sem, z0, z1, z2, z3, z4, z5, z6, z7, z8, z9, z10]) rfl ?_
    exact decd_bad HC.out (by decide) rfl HFB.out
  case true =>
    rw [ho] at HO
    simp only [if_true] at HO
    go_upto_region 9 with first
      | (go_at_call 32; refine HO.out.mono ?_; rintro e w1 ⟨rfl, hb⟩; have HB1 := Lib.hid hb; clear hb HO)
    have HW : Hid (RD w (w1.alloc (.cells #[.int .i64 0, .int .u32 0, .int .u32 0, .int .i64 0, .int .u32 0, .int .u32 0, .int .u32 0, .int .i64 0, .int .i64 0, .int .i64 0, .slice none 0 0] 25)) w1.heap.size w.heap.size Dg.zero) := Lib.hid ⟨Go.Deep.blk_alloc_new w1 _, (HZ.out.below HB1.out HZ.out.lt).keep (Below.heap_alloc _ _ _ (Nat.lt_of_lt_of_le HZ.out.lt HB1.out.size)), (HB.out.trans (HB1.out.mono HB.out.size)).alloc (Nat.le_trans HB.out.size HB1.out.size) _, Nat.le_trans HB.out.size HB1.out.size, Nat.le_refl _, by have := Nat.lt_of_lt_of_le HZ.out.lt HB1.out.size; omega⟩
    clear HZ HB HB1
    generalize (w1.alloc (.cells #[.int .i64 0, .int .u32 0, .int .u32 0, .int .i64 0, .int .u32 0, .int .u32 0, .int .u32 0, .int .i64 0, .int .i64 0, .int .i64 0, .slice none 0 0] 25)) = w2 at *
    generalize w1.heap.size = q at *
    have hi33 : (33 : Int) ≤ cap := by omega
    have hi29 : (29 : Int) ≤ m := by omega
    have him : (m : Int) ≤ 1396 := by omega
    have himc : (m : Int) ≤ cap := by omega
    have hicm : (cap : Int) ≤ 9223372036854775807 := by omega
    obtain ⟨e0, he0⟩ : ∃ e, Hid (e = (l.take m).getD 0 0) := ⟨_, Lib.hid rfl⟩
    have hb0 : 0 ≤ e0 ∧ e0 ≤ 255 := by rw [he0.out]; exact HBY.out 0 (by omega)
    obtain ⟨e1, he1⟩ : ∃ e, Hid (e = (l.take m).getD 1 0) := ⟨_, Lib.hid rfl⟩
    have hb1 : 0 ≤ e1 ∧ e1 ≤ 255 := by rw [he1.out]; exact HBY.out 1 (by omega)
    obtain ⟨e2, he2⟩ : ∃ e, Hid (e = (l.take m).getD 2 0) := ⟨_, Lib.hid rfl⟩
    have hb2 : 0 ≤ e2 ∧ e2 ≤ 255 := by rw [he2.out]; exact HBY.out 2 (by omega)
    obtain ⟨e3, he3⟩ : ∃ e, Hid (e = (l.take m).getD 3 0) := ⟨_, Lib.hid rfl⟩
    have hb3 : 0 ≤ e3 ∧ e3 ≤ 255 := by rw [he3.out]; exact HBY.out 3 (by omega)
    obtain ⟨e24, he24⟩ : ∃ e, Hid (e = (l.take m).getD 24 0) := ⟨_, Lib.hid rfl⟩
    have hb24 : 0 ≤ e24 ∧ e24 ≤ 255 := by rw [he24.out]; exact HBY.out 24 (by omega)
    obtain ⟨e25, he25⟩ : ∃ e, Hid (e = (l.take m).getD 25 0) := ⟨_, Lib.hid rfl⟩
    have hb25 : 0 ≤ e25 ∧ e25 ≤ 255 := by rw [he25.out]; exact HBY.out 25 (by omega)
    obtain ⟨e26, he26⟩ : ∃ e, Hid (e = (l.take m).getD 26 0) := ⟨_, Lib.hid rfl⟩
    have hb26 : 0 ≤ e26 ∧ e26 ≤ 255 := by rw [he26.out]; exact HBY.out 26 (by omega)
    have x2 : w2.cell? ⟨bb, off + 2, none⟩ = some (.int .u8 e2) := by rw [he2.out]; exact RD.old HW.out HCE.out.1 _ (HCE.out.2 2 (by omega))
    have x3 : w2.cell? ⟨bb, off + 3, none⟩ = some (.int .u8 e3) := by rw [he3.out]; exact RD.old HW.out HCE.out.1 _ (HCE.out.2 3 (by omega))
    have c0 := HW.out.blk.box.c0
    have f0 := HW.out.blk.frozen 0
    have c3 := HW.out.blk.box.c3
    have f3 := HW.out.blk.frozen 3
    dsimp only [Dg.zero] at c0 c3
    go_region
    have HW3 : Hid (RD w (((w2.setCell ⟨q, 0, none⟩ (.int .i64 e2)).setCell ⟨q, 3, none⟩ (.int .i64 e3)).drew) q w.heap.size ⟨e2, 0, 0, e3, 0, 0, 0, 0, 0, 0, none, 0, 0⟩) := Lib.hid (RD.drew (RD.set (RD.set HW.out 0 (.int .i64 e2) ⟨e2, 0, 0, 0, 0, 0, 0, 0, 0, 0, none, 0, 0⟩ rfl) 3 (.int .i64 e3) ⟨e2, 0, 0, e3, 0, 0, 0, 0, 0, 0, none, 0, 0⟩ rfl))
    clear c0 f0 c3 f3
    generalize ((w2.setCell ⟨q, 0, none⟩ (.int .i64 e2)).setCell ⟨q, 3, none⟩ (.int .i64 e3)).drew = w3 at *
    clear x2 x3 HW
    have HLF : Hid (Bytes w (some ⟨bb, off, none⟩) m (l.take m)) := Lib.hid (HLW.out.front (by omega))
    have c1 := HW3.out.blk.box.c1
    have f1 := HW3.out.blk.frozen 1
    dsimp only at c1
    go_upto_region 11 with first
      | (go_at_call 33; refine (rget4_any _ _ _ _ (Bytes.mid (HLF.out.below HW3.out.bel (Nat.le_refl _)) 4 4 (by omega)) (by omega) (by omega)).mono ?_; rintro e wx ⟨v1, rfl, rfl, hv1, hv1b⟩)
    have HV1 : Hid (RD w ((w3.setCell ⟨q, 1, none⟩ (.int .u32 v1))) q w.heap.size ⟨e2, v1, 0, e3, 0, 0, 0, 0, 0, 0, none, 0, 0⟩) := Lib.hid (RD.set HW3.out 1 (.int .u32 v1) ⟨e2, v1, 0, e3, 0, 0, 0, 0, 0, 0, none, 0, 0⟩ rfl)
    clear c1 f1
    generalize (w3.setCell ⟨q, 1, none⟩ (.int .u32 v1)) = wv1 at *
    have c2 := HV1.out.blk.box.c2
    have f2 := HV1.out.blk.frozen 2
    dsimp only at c2
    go_upto_region 12 with first
      | (go_at_call 33; refine (rget4_any _ _ _ _ (Bytes.mid (HLF.out.below HV1.out.bel (Nat.le_refl _)) 8 4 (by omega)) (by omega) (by omega)).mono ?_; rintro e wx ⟨v2, rfl, rfl, hv2, hv2b⟩)
    have HV2 : Hid (RD w ((wv1.setCell ⟨q, 2, none⟩ (.int .u32 v2))) q w.heap.size ⟨e2, v1, v2, e3, 0, 0, 0, 0, 0, 0, none, 0, 0⟩) := Lib.hid (RD.set HV1.out 2 (.int .u32 v2) ⟨e2, v1, v2, e3, 0, 0, 0, 0, 0, 0, none, 0, 0⟩ rfl)
    clear c2 f2
    generalize (wv1.setCell ⟨q, 2, none⟩ (.int .u32 v2)) = wv2 at *
    have c4 := HV2.out.blk.box.c4
    have f4 := HV2.out.blk.frozen 4
    dsimp only at c4
    go_upto_region 13 with first
      | (go_at_call 33; refine (rget4_any _ _ _ _ (Bytes.mid (HLF.out.below HV2.out.bel (Nat.le_refl _)) 12 4 (by omega)) (by omega) (by omega)).mono ?_; rintro e wx ⟨v4, rfl, rfl, hv4, hv4b⟩)
    have HV4 : Hid (RD w ((wv2.setCell ⟨q, 4, none⟩ (.int .u32 v4))) q w.heap.size ⟨e2, v1, v2, e3, v4, 0, 0, 0, 0, 0, none, 0, 0⟩) := Lib.hid (RD.set HV2.out 4 (.int .u32 v4) ⟨e2, v1, v2, e3, v4, 0, 0, 0, 0, 0, none, 0, 0⟩ rfl)
    clear c4 f4
    generalize (wv2.setCell ⟨q, 4, none⟩ (.int .u32 v4)) = wv4 at *
    have c5 := HV4.out.blk.box.c5
    have f5 := HV4.out.blk.frozen 5
    dsimp only at c5
    go_upto_region 14 with first
      | (go_at_call 33; refine (rget4_any _ _ _ _ (Bytes.mid (HLF.out.below HV4.out.bel (Nat.le_refl _)) 16 4 (by omega)) (by omega) (by omega)).mono ?_; rintro e wx ⟨v5, rfl, rfl, hv5, hv5b⟩)
    have HV5 : Hid (RD w ((wv4.setCell ⟨q, 5, none⟩ (.int .u32 v5))) q w.heap.size ⟨e2, v1, v2, e3, v4, v5, 0, 0, 0, 0, none, 0, 0⟩) := Lib.hid (RD.set HV4.out 5 (.int .u32 v5) ⟨e2, v1, v2, e3, v4, v5, 0, 0, 0, 0, none, 0, 0⟩ rfl)
    clear c5 f5
    generalize (wv4.setCell ⟨q, 5, none⟩ (.int .u32 v5)) = wv5 at *
    have c6 := HV5.out.blk.box.c6
    have f6 := HV5.out.blk.frozen 6
    dsimp only at c6
    go_upto_region 15 with first
      | (go_at_call 33; refine (rget4_any _ _ _ _ (Bytes.mid (HLF.out.below HV5.out.bel (Nat.le_refl _)) 20 4 (by omega)) (by omega) (by omega)).mono ?_; rintro e wx ⟨v6, rfl, rfl, hv6, hv6b⟩)
    have HV6 : Hid (RD w ((wv5.setCell ⟨q, 6, none⟩ (.int .u32 v6))) q w.heap.size ⟨e2, v1, v2, e3, v4, v5, v6, 0, 0, 0, none, 0, 0⟩) := Lib.hid (RD.set HV5.out 6 (.int .u32 v6) ⟨e2, v1, v2, e3, v4, v5, v6, 0, 0, 0, none, 0, 0⟩ rfl)
    clear c6 f6
    generalize (wv5.setCell ⟨q, 6, none⟩ (.int .u32 v6)) = wv6 at *
    have x24 : wv6.cell? ⟨bb, off + 24, none⟩ = some (.int .u8 e24) := by rw [he24.out]; exact RD.old HV6.out HCE.out.1 _ (HCE.out.2 24 (by omega))
    have x25 : wv6.cell? ⟨bb, off + 25, none⟩ = some (.int .u8 e25) := by rw [he25.out]; exact RD.old HV6.out HCE.out.1 _ (HCE.out.2 25 (by omega))
    have x26 : wv6.cell? ⟨bb, off + 26, none⟩ = some (.int .u8 e26) := by rw [he26.out]; exact RD.old HV6.out HCE.out.1 _ (HCE.out.2 26 (by omega))
    have c7 := HV6.out.blk.box.c7
    have f7 := HV6.out.blk.frozen 7
    have c8 := HV6.out.blk.box.c8
    have f8 := HV6.out.blk.frozen 8
    have c9 := HV6.out.blk.box.c9
    have f9 := HV6.out.blk.frozen 9
    dsimp only at c7 c8 c9
    go_region
    have HT1 : Hid (RD w ((((wv6.setCell ⟨q, 7, none⟩ (.int .i64 e24)).setCell ⟨q, 8, none⟩ (.int .i64 e25)).setCell ⟨q, 9, none⟩ (.int .i64 e26)).drew) q w.heap.size ⟨e2, v1, v2, e3, v4, v5, v6, e24, e25, e26, none, 0, 0⟩) := Lib.hid (RD.drew (RD.set (RD.set (RD.set HV6.out 7 (.int .i64 e24) ⟨e2, v1, v2, e3, v4, v5, v6, e24, 0, 0, none, 0, 0⟩ rfl) 8 (.int .i64 e25) ⟨e2, v1, v2, e3, v4, v5, v6, e24, e25, 0, none, 0, 0⟩ rfl) 9 (.int .i64 e26) ⟨e2, v1, v2, e3, v4, v5, v6, e24, e25, e26, none, 0, 0⟩ rfl))
    clear c7 f7 c8 f8 c9 f9
    generalize (((wv6.setCell ⟨q, 7, none⟩ (.int .i64 e24)).setCell ⟨q, 8, none⟩ (.int .i64 e25)).setCell ⟨q, 9, none⟩ (.int .i64 e26)).drew = x1 at *
    clear x24 x25 x26
    have c10 := HT1.out.blk.box.c10
    have f10 := HT1.out.blk.frozen 10
    dsimp only at c10
    have hne : ¬ cap = 29 := by omega
    go_upto_region 17 with fail
    have HT2 : Hid (RD w (x1.setCell ⟨q, 10, none⟩ (.slice (some ⟨bb, off + 29, none⟩) (m - 29) (cap - 29))) q w.heap.size ⟨e2, v1, v2, e3, v4, v5, v6, e24, e25, e26, some ⟨bb, off + 29, none⟩, m - 29, cap - 29⟩) := Lib.hid (RD.set HT1.out 10 (.slice (some ⟨bb, off + 29, none⟩) (m - 29) (cap - 29)) ⟨e2, v1, v2, e3, v4, v5, v6, e24, e25, e26, some ⟨bb, off + 29, none⟩, m - 29, cap - 29⟩ rfl)
    clear c10 f10 HT1
    generalize (x1.setCell ⟨q, 10, none⟩ (.slice (some ⟨bb, off + 29, none⟩) (m - 29) (cap - 29))) = w3 at *
    have hll : (l.take m).length = m := by rw [List.length_take, HLS.out]; omega
    have HD : Hid (dgL (l.take m) (some ⟨bb, off + 29, none⟩) (m - 29) (cap - 29) = ⟨e2, v1, v2, e3, v4, v5, v6, e24, e25, e26, some ⟨bb, off + 29, none⟩, m - 29, cap - 29⟩) := Lib.hid (by
      unfold dgL
      rw [word_cell _ 2 (by omega), word_cell _ 3 (by omega), word_cell _ 24 (by omega), word_cell _ 25 (by omega), word_cell _ 26 (by omega), ← he2.out, ← he3.out, ← he24.out, ← he25.out, ← he26.out, ← hv1.out, ← hv2.out, ← hv4.out, ← hv5.out, ← hv6.out])
    have HVM : Hid (wordOf ((l.take m).take 2) = e0 * 256 + e1) := Lib.hid (by rw [word_front _ (by omega), ← he0.out, ← he1.out])
    have HL3 : Hid (Bytes w3 (some ⟨bb, off + 29, none⟩) (m - 29) ((l.take m).drop 29)) := Lib.hid ((HLF.out.below HT2.out.bel (Nat.le_refl _)).behind (by omega))
    have HU2 : Hid (∀ c, (if e0 * 256 + e1 ≠ 17003 ∨ v1 ≠ ses then 71 else if wordOf (((l.take m).drop 27).take 2) ≠ ((m - 29 : Nat) : Int) then 73 else chk ⟨e2, v1, v2, e3, v4, v5, v6, e24, e25, e26, some ⟨bb, off + 29, none⟩, m - 29, cap - 29⟩ ((l.take m).drop 29)) = c → decCode ses (m + 4) l = c) := Lib.hid (fun c h => HU.out c (by
      rw [if_neg (by rw [ho]; decide), HVM.out, ← hv1.out, ← h, ← HD.out]
      rfl))
    clear HU ho hll
    have x0 : w3.cell? ⟨bb, off + 0, none⟩ = some (.int .u8 e0) := by rw [he0.out]; exact RD.old HT2.out HCE.out.1 _ (HCE.out.2 0 (by omega))
    have x1 : w3.cell? ⟨bb, off + 1, none⟩ = some (.int .u8 e1) := by rw [he1.out]; exact RD.old HT2.out HCE.out.1 _ (HCE.out.2 1 (by omega))
    have c1 := HT2.out.blk.box.c1
    have f1 := HT2.out.blk.frozen 1
    dsimp only at c1
    clear f1
    obtain ⟨_, r0, r1, r2, r3, r4, r5, r6, r7, r8, r9, r10⟩ := (DBlk.box HT2.out.res)
    have fr0 := DBlk.frozen HT2.out.res 0
    have fr1 := DBlk.frozen HT2.out.res 1
    have fr2 := DBlk.frozen HT2.out.res 2
    have fr3 := DBlk.frozen HT2.out.res 3
    have fr4 := DBlk.frozen HT2.out.res 4
    have fr5 := DBlk.frozen HT2.out.res 5
    have fr6 := DBlk.frozen HT2.out.res 6
    have fr7 := DBlk.frozen HT2.out.res 7
    have fr8 := DBlk.frozen HT2.out.res 8
    have fr9 := DBlk.frozen HT2.out.res 9
    have fr10 := DBlk.frozen HT2.out.res 10
    dsimp only [Dg.zero] at r0 r1 r2 r3 r4 r5 r6 r7 r8 r9 r10
    rw [Nat.add_zero] at x0
    have HZ3 : Hid (DBlk w3 w.heap.size Dg.zero) := Lib.hid HT2.out.res
    have HB3 : Hid (Below w.heap.size w w3) := Lib.hid HT2.out.bel
    by_cases k0 : e0 = 66
    case neg =>
      have b0 : (e0 != 66) = true := by simpa using k0
      have HC : Hid (decCode ses (m + 4) l = 71) := Lib.hid (HU2.out _ (by rw [if_pos (.inl (by omega))]))
      go_wp2_with fail
      have HF := Lib.hid (DBlk.write HZ3.out Dg.zero)
      have HFB := Lib.hid (setDg_below HB3.out (Nat.le_refl _) Dg.zero)
      dsimp only [setDg, Dg.zero] at HF HFB
      generalize (((((((((((w3.setCell ⟨w.heap.size, 0, none⟩ (.int .i64 0)).setCell ⟨w.heap.size, 1, none⟩ (.int .u32 0)).setCell ⟨w.heap.size, 2, none⟩ (.int .u32 0)).setCell ⟨w.heap.size, 3, none⟩ (.int .i64 0)).setCell ⟨w.heap.size, 4, none⟩ (.int .u32 0)).setCell ⟨w.heap.size, 5, none⟩ (.int .u32 0)).setCell ⟨w.heap.size, 6, none⟩ (.int .u32 0)).setCell ⟨w.heap.size, 7, none⟩ (.int .i64 0)).setCell ⟨w.heap.size, 8, none⟩ (.int .i64 0)).setCell ⟨w.heap.size, 9, none⟩ (.int .i64 0)).setCell ⟨w.heap.size, 10, none⟩ (.slice none 0 0)) = x4 at *
      obtain ⟨_, z0, z1, z2, z3, z4, z5, z6, z7, z8, z9, z10⟩ := HF.out.box
      dsimp only at z0 z1 z2 z3 z4 z5 z6 z7 z8 z9 z10
      refine bodyPost_ret (v := .tuple #[.agg #[.int .i64 0, .int .u32 0, .int .u32 0, .int .i64 0, .int .u32 0, .int .u32 0, .int .u32 0, .int .i64 0, .int .i64 0, .int .i64 0, .slice none 0 0], .int .i64 71]) (by simp [results, Try.results17, go_sem, z0, z1, z2, z3, z4, z5, z6, z7, z8, z9, z10]) rfl ?_
      exact decd_bad HC.out (by decide) rfl HFB.out
    have b0 : (e0 != 66) = false := by simpa using k0
    by_cases k1 : e1 = 107
    case neg =>
      have b1 : (e1 != 107) = true := by simpa using k1
      have HC : Hid (decCode ses (m + 4) l = 71) := Lib.hid (HU2.out _ (by rw [if_pos (.inl (by omega))]))
      clear k0
      go_wp2_with fail
      have HF := Lib.hid (DBlk.write HZ3.out Dg.zero)
      have HFB := Lib.hid (setDg_below HB3.out (Nat.le_refl _) Dg.zero)
      dsimp only [setDg, Dg.zero] at HF HFB
      generalize (((((((((((w3.setCell ⟨w.heap.size, 0, none⟩ (.int .i64 0)).setCell ⟨w.heap.size, 1, none⟩ (.int .u32 0)).setCell ⟨w.heap.size, 2, none⟩ (.int .u32 0)).setCell ⟨w.heap.size, 3, none⟩ (.int .i64 0)).setCell ⟨w.heap.size, 4, none⟩ (.int .u32 0)).setCell ⟨w.heap.size, 5, none⟩ (.int .u32 0)).setCell ⟨w.heap.size, 6, none⟩ (.int .u32 0)).setCell ⟨w.heap.size, 7, none⟩ (.int .i64 0)).setCell ⟨w.heap.size, 8, none⟩ (.int .i64 0)).setCell ⟨w.heap.size, 9, none⟩ (.int .i64 0)).setCell ⟨w.heap.size, 10, none⟩ (.slice none 0 0)) = x4 at *
      obtain ⟨_, z0, z1, z2, z3, z4, z5, z6, z7, z8, z9, z10⟩ := HF.out.box
      dsimp only at z0 z1 z2 z3 z4 z5 z6 z7 z8 z9 z10
      refine bodyPost_ret (v := .tuple #[.agg #[.int .i64 0, .int .u32 0, .int .u32 0, .int .i64 0, .int .u32 0, .int .u32 0, .int .u32 0, .int .i64 0, .int .i64 0, .int .i64 0, .slice none 0 0], .int .i64 71]) (by simp [results, Try.results17, go_sem, z0, z1, z2, z3, z4, z5, z6, z7, z8, z9, z10]) rfl ?_
      exact decd_bad HC.out (by decide) rfl HFB.out
    have b1 : (e1 != 107) = false := by simpa using k1
    by_cases k2 : v1 = ses
    case neg =>
      have b2 : (v1 != ses) = true := by simpa using k2
      have HC : Hid (decCode ses (m + 4) l = 71) := Lib.hid (HU2.out _ (by rw [if_pos (.inr k2)]))
      clear k0 k1 k2
      go_wp2_with fail
      have HF := Lib.hid (DBlk.write HZ3.out Dg.zero)
      have HFB := Lib.hid (setDg_below HB3.out (Nat.le_refl _) Dg.zero)
      dsimp only [setDg, Dg.zero] at HF HFB
      generalize (((((((((((w3.setCell ⟨w.heap.size, 0, none⟩ (.int .i64 0)).setCell ⟨w.heap.size, 1, none⟩ (.int .u32 0)).setCell ⟨w.heap.size, 2, none⟩ (.int .u32 0)).setCell ⟨w.heap.size, 3, none⟩ (.int .i64 0)).setCell ⟨w.heap.size, 4, none⟩ (.int .u32 0)).setCell ⟨w.heap.size, 5, none⟩ (.int .u32 0)).setCell ⟨w.heap.size, 6, none⟩ (.int .u32 0)).setCell ⟨w.heap.size, 7, none⟩ (.int .i64 0)).setCell ⟨w.heap.size, 8, none⟩ (.int .i64 0)).setCell ⟨w.heap.size, 9, none⟩ (.int .i64 0)).setCell ⟨w.heap.size, 10, none⟩ (.slice none 0 0)) = x4 at *
      obtain ⟨_, z0, z1, z2, z3, z4, z5, z6, z7, z8, z9, z10⟩ := HF.out.box
      dsimp only at z0 z1 z2 z3 z4 z5 z6 z7 z8 z9 z10
      refine bodyPost_ret (v := .tuple #[.agg #[.int .i64 0, .int .u32 0, .int .u32 0, .int .i64 0, .int .u32 0, .int .u32 0, .int .u32 0, .int .i64 0, .int .i64 0, .int .i64 0, .slice none 0 0], .int .i64 71]) (by simp [results, Try.results17, go_sem, z0, z1, z2, z3, z4, z5, z6, z7, z8, z9, z10]) rfl ?_
      exact decd_bad HC.out (by decide) rfl HFB.out
    have b2 : (v1 != ses) = false := by simpa using k2
    have HU3 : Hid (∀ c, (if wordOf (((l.take m).drop 27).take 2) ≠ ((m - 29 : Nat) : Int) then 73 else chk ⟨e2, v1, v2, e3, v4, v5, v6, e24, e25, e26, some ⟨bb, off + 29, none⟩, m - 29, cap - 29⟩ ((l.take m).drop 29)) = c → decCode ses (m + 4) l = c) := Lib.hid (fun c h => HU2.out c (by rw [if_neg (fun g => g.elim (fun g => g (by omega)) (fun g => g k2))]; exact h))
    clear k0 k1 k2 HU2
    have HG := Lib.hid (rget2_any _ (cap - 27) _ w3 (Bytes.mid (HLF.out.below HT2.out.bel (Nat.le_refl _)) 27 2 (by omega)) (by omega) (by omega))
    go_upto_region 19 with fail
    by_cases k3 : wordOf (((l.take m).drop 27).take 2) = ((m - 29 : Nat) : Int)
    case neg =>
      have HC : Hid (decCode ses (m + 4) l = 73) := Lib.hid (HU3.out _ (by rw [if_pos k3]))
      have HK3 := Lib.hid k3
      clear k3
      go_wp2_with first
        | (go_at_call 33; refine HG.out.mono ?_; rintro e wx ⟨vs, rfl, rfl, hvs, hs0, hs1⟩; have b3 : (vs != (m : Int) - 29) = true := by (have h := HK3.out; rw [← hvs.out] at h; simp; omega))
      have HF := Lib.hid (DBlk.write HZ3.out Dg.zero)
      have HFB := Lib.hid (setDg_below HB3.out (Nat.le_refl _) Dg.zero)
      dsimp only [setDg, Dg.zero] at HF HFB
      generalize (((((((((((w3.setCell ⟨w.heap.size, 0, none⟩ (.int .i64 0)).setCell ⟨w.heap.size, 1, none⟩ (.int .u32 0)).setCell ⟨w.heap.size, 2, none⟩ (.int .u32 0)).setCell ⟨w.heap.size, 3, none⟩ (.int .i64 0)).setCell ⟨w.heap.size, 4, none⟩ (.int .u32 0)).setCell ⟨w.heap.size, 5, none⟩ (.int .u32 0)).setCell ⟨w.heap.size, 6, none⟩ (.int .u32 0)).setCell ⟨w.heap.size, 7, none⟩ (.int .i64 0)).setCell ⟨w.heap.size, 8, none⟩ (.int .i64 0)).setCell ⟨w.heap.size, 9, none⟩ (.int .i64 0)).setCell ⟨w.heap.size, 10, none⟩ (.slice none 0 0)) = x4 at *
      obtain ⟨_, z0, z1, z2, z3, z4, z5, z6, z7, z8, z9, z10⟩ := HF.out.box
      dsimp only at z0 z1 z2 z3 z4 z5 z6 z7 z8 z9 z10
      refine bodyPost_ret (v := .tuple #[.agg #[.int .i64 0, .int .u32 0, .int .u32 0, .int .i64 0, .int .u32 0, .int .u32 0, .int .u32 0, .int .i64 0, .int .i64 0, .int .i64 0, .slice none 0 0], .int .i64 73]) (by simp [results, Try.results17, go_sem, z0, z1, z2, z3, z4, z5, z6, z7, z8, z9, z10]) rfl ?_
      exact decd_bad HC.out (by decide) rfl HFB.out
    have HU4 : Hid (decCode ses (m + 4) l = chk ⟨e2, v1, v2, e3, v4, v5, v6, e24, e25, e26, some ⟨bb, off + 29, none⟩, m - 29, cap - 29⟩ ((l.take m).drop 29)) := Lib.hid (HU3.out _ (by rw [if_neg (fun g => g k3)]))
    have HK3 := Lib.hid k3
    clear k3 HU3
    have HCK := Lib.hid (rcheck_any ⟨e2, v1, v2, e3, v4, v5, v6, e24, e25, e26, some ⟨bb, off + 29, none⟩, m - 29, cap - 29⟩ _ w3 HL3.out)
    obtain ⟨c, hc⟩ : ∃ c, c = chk ⟨e2, v1, v2, e3, v4, v5, v6, e24, e25, e26, some ⟨bb, off + 29, none⟩, m - 29, cap - 29⟩ ((l.take m).drop 29) := ⟨_, rfl⟩
    rw [← hc] at HU4 HCK
    clear hc
    dsimp only [Dg.val] at HCK
    obtain ⟨_, d0, d1, d2, d3, d4, d5, d6, d7, d8, d9, d10⟩ := (DBlk.box HT2.out.blk)
    have fd0 := DBlk.frozen HT2.out.blk 0
    have fd1 := DBlk.frozen HT2.out.blk 1
    have fd2 := DBlk.frozen HT2.out.blk 2
    have fd3 := DBlk.frozen HT2.out.blk 3
    have fd4 := DBlk.frozen HT2.out.blk 4
    have fd5 := DBlk.frozen HT2.out.blk 5
    have fd6 := DBlk.frozen HT2.out.blk 6
    have fd7 := DBlk.frozen HT2.out.blk 7
    have fd8 := DBlk.frozen HT2.out.blk 8
    have fd9 := DBlk.frozen HT2.out.blk 9
    have fd10 := DBlk.frozen HT2.out.blk 10
    dsimp only at d0 d1 d2 d3 d4 d5 d6 d7 d8 d9 d10
    clear fd0 fd1 fd2 fd3 fd4 fd5 fd6 fd7 fd8 fd9 fd10
    by_cases k4 : c = 0
    case neg =>
      have e4 : (c != 0) = true := by simpa using k4
      go_upto_region 23 with first
        | (go_at_call 33; refine HG.out.mono ?_; rintro e wx ⟨vs, rfl, rfl, hvs, hs0, hs1⟩; have b3 : (vs != (m : Int) - 29) = false := by (have h := HK3.out; rw [← hvs.out] at h; simp; omega))
        | (go_at_call 27; refine HCK.out.mono ?_; rintro e w4 ⟨rfl, hb⟩; have HB4 := Lib.hid hb; clear hb HCK)
      have HZ4 : Hid (DBlk w4 w.heap.size Dg.zero) := Lib.hid (HZ3.out.below HB4.out HZ3.out.lt)
      have HBB : Hid (Below w.heap.size w w4) := Lib.hid (HB3.out.trans (HB4.out.mono HB3.out.size))
      clear x0 x1 c1 r0 r1 r2 r3 r4 r5 r6 r7 r8 r9 r10 fr0 fr1 fr2 fr3 fr4 fr5 fr6 fr7 fr8 fr9 fr10 d0 d1 d2 d3 d4 d5 d6 d7 d8 d9 d10
      obtain ⟨_, r0, r1, r2, r3, r4, r5, r6, r7, r8, r9, r10⟩ := (DBlk.box HZ4.out)
      have fr0 := DBlk.frozen HZ4.out 0
      have fr1 := DBlk.frozen HZ4.out 1
      have fr2 := DBlk.frozen HZ4.out 2
      have fr3 := DBlk.frozen HZ4.out 3
      have fr4 := DBlk.frozen HZ4.out 4
      have fr5 := DBlk.frozen HZ4.out 5
      have fr6 := DBlk.frozen HZ4.out 6
      have fr7 := DBlk.frozen HZ4.out 7
      have fr8 := DBlk.frozen HZ4.out 8
      have fr9 := DBlk.frozen HZ4.out 9
      have fr10 := DBlk.frozen HZ4.out 10
      dsimp only [Dg.zero] at r0 r1 r2 r3 r4 r5 r6 r7 r8 r9 r10
      go_wp2_with fail
      have HF := Lib.hid (DBlk.write HZ4.out Dg.zero)
      have HFB := Lib.hid (setDg_below HBB.out (Nat.le_refl _) Dg.zero)
      dsimp only [setDg, Dg.zero] at HF HFB
      generalize (((((((((((w4.setCell ⟨w.heap.size, 0, none⟩ (.int .i64 0)).setCell ⟨w.heap.size, 1, none⟩ (.int .u32 0)).setCell ⟨w.heap.size, 2, none⟩ (.int .u32 0)).setCell ⟨w.heap.size, 3, none⟩ (.int .i64 0)).setCell ⟨w.heap.size, 4, none⟩ (.int .u32 0)).setCell ⟨w.heap.size, 5, none⟩ (.int .u32 0)).setCell ⟨w.heap.size, 6, none⟩ (.int .u32 0)).setCell ⟨w.heap.size, 7, none⟩ (.int .i64 0)).setCell ⟨w.heap.size, 8, none⟩ (.int .i64 0)).setCell ⟨w.heap.size, 9, none⟩ (.int .i64 0)).setCell ⟨w.heap.size, 10, none⟩ (.slice none 0 0)) = x4 at *
      obtain ⟨_, z0, z1, z2, z3, z4, z5, z6, z7, z8, z9, z10⟩ := HF.out.box
      dsimp only at z0 z1 z2 z3 z4 z5 z6 z7 z8 z9 z10
      refine bodyPost_ret (v := .tuple #[.agg #[.int .i64 0, .int .u32 0, .int .u32 0, .int .i64 0, .int .u32 0, .int .u32 0, .int .u32 0, .int .i64 0, .int .i64 0, .int .i64 0, .slice none 0 0], .int .i64 c]) (by simp [results, Try.results17, go_sem, z0, z1, z2, z3, z4, z5, z6, z7, z8, z9, z10]) rfl ?_
      exact decd_bad HU4.out k4 rfl HFB.out
    case pos =>
      subst k4
      go_upto_region 24 with first
        | (go_at_call 33; refine HG.out.mono ?_; rintro e wx ⟨vs, rfl, rfl, hvs, hs0, hs1⟩; have b3 : (vs != (m : Int) - 29) = false := by (have h := HK3.out; rw [← hvs.out] at h; simp; omega))
        | (go_at_call 27; refine HCK.out.mono ?_; rintro e w4 ⟨rfl, hb⟩; have HB4 := Lib.hid hb; clear hb HCK)
      have HZ4 : Hid (DBlk w4 w.heap.size Dg.zero) := Lib.hid (HZ3.out.below HB4.out HZ3.out.lt)
      have HQ4 : Hid (DBlk w4 q ⟨e2, v1, v2, e3, v4, v5, v6, e24, e25, e26, some ⟨bb, off + 29, none⟩, m - 29, cap - 29⟩) := Lib.hid (HT2.out.blk.below HB4.out HT2.out.blk.lt)
      have HBB : Hid (Below w.heap.size w w4) := Lib.hid (HB3.out.trans (HB4.out.mono HB3.out.size))
      clear x0 x1 c1 r0 r1 r2 r3 r4 r5 r6 r7 r8 r9 r10 fr0 fr1 fr2 fr3 fr4 fr5 fr6 fr7 fr8 fr9 fr10 d0 d1 d2 d3 d4 d5 d6 d7 d8 d9 d10
      obtain ⟨_, r0, r1, r2, r3, r4, r5, r6, r7, r8, r9, r10⟩ := (DBlk.box HZ4.out)
      have fr0 := DBlk.frozen HZ4.out 0
      have fr1 := DBlk.frozen HZ4.out 1
      have fr2 := DBlk.frozen HZ4.out 2
      have fr3 := DBlk.frozen HZ4.out 3
      have fr4 := DBlk.frozen HZ4.out 4
      have fr5 := DBlk.frozen HZ4.out 5
      have fr6 := DBlk.frozen HZ4.out 6
      have fr7 := DBlk.frozen HZ4.out 7
      have fr8 := DBlk.frozen HZ4.out 8
      have fr9 := DBlk.frozen HZ4.out 9
      have fr10 := DBlk.frozen HZ4.out 10
      dsimp only [Dg.zero] at r0 r1 r2 r3 r4 r5 r6 r7 r8 r9 r10
      obtain ⟨_, d0, d1, d2, d3, d4, d5, d6, d7, d8, d9, d10⟩ := (DBlk.box HQ4.out)
      have fd0 := DBlk.frozen HQ4.out 0
      have fd1 := DBlk.frozen HQ4.out 1
      have fd2 := DBlk.frozen HQ4.out 2
      have fd3 := DBlk.frozen HQ4.out 3
      have fd4 := DBlk.frozen HQ4.out 4
      have fd5 := DBlk.frozen HQ4.out 5
      have fd6 := DBlk.frozen HQ4.out 6
      have fd7 := DBlk.frozen HQ4.out 7
      have fd8 := DBlk.frozen HQ4.out 8
      have fd9 := DBlk.frozen HQ4.out 9
      have fd10 := DBlk.frozen HQ4.out 10
      dsimp only at d0 d1 d2 d3 d4 d5 d6 d7 d8 d9 d10
      clear fd0 fd1 fd2 fd3 fd4 fd5 fd6 fd7 fd8 fd9 fd10
      go_wp2_with fail
      have HF := Lib.hid (DBlk.write HZ4.out ⟨e2, v1, v2, e3, v4, v5, v6, e24, e25, e26, some ⟨bb, off + 29, none⟩, m - 29, cap - 29⟩)
      have HFB := Lib.hid (setDg_below HBB.out (Nat.le_refl _) ⟨e2, v1, v2, e3, v4, v5, v6, e24, e25, e26, some ⟨bb, off + 29, none⟩, m - 29, cap - 29⟩)
      dsimp only [setDg, Dg.zero] at HF HFB
      generalize (((((((((((w4.setCell ⟨w.heap.size, 0, none⟩ (.int .i64 e2)).setCell ⟨w.heap.size, 1, none⟩ (.int .u32 v1)).setCell ⟨w.heap.size, 2, none⟩ (.int .u32 v2)).setCell ⟨w.heap.size, 3, none⟩ (.int .i64 e3)).setCell ⟨w.heap.size, 4, none⟩ (.int .u32 v4)).setCell ⟨w.heap.size, 5, none⟩ (.int .u32 v5)).setCell ⟨w.heap.size, 6, none⟩ (.int .u32 v6)).setCell ⟨w.heap.size, 7, none⟩ (.int .i64 e24)).setCell ⟨w.heap.size, 8, none⟩ (.int .i64 e25)).setCell ⟨w.heap.size, 9, none⟩ (.int .i64 e26)).setCell ⟨w.heap.size, 10, none⟩ (.slice (some ⟨bb, off + 29, none⟩) (m - 29) (cap - 29))) = x4 at *
      obtain ⟨_, z0, z1, z2, z3, z4, z5, z6, z7, z8, z9, z10⟩ := HF.out.box
      dsimp only at z0 z1 z2 z3 z4 z5 z6 z7 z8 z9 z10
      refine bodyPost_ret (v := .tuple #[.agg #[.int .i64 e2, .int .u32 v1, .int .u32 v2, .int .i64 e3, .int .u32 v4, .int .u32 v5, .int .u32 v6, .int .i64 e24, .int .i64 e25, .int .i64 e26, .slice (some ⟨bb, off + 29, none⟩) (m - 29) (cap - 29)], .int .i64 0]) (by simp [results, Try.results17, go_sem, z0, z1, z2, z3, z4, z5, z6, z7, z8, z9, z10]) rfl ?_
      refine ⟨⟨e2, v1, v2, e3, v4, v5, v6, e24, e25, e26, some ⟨bb, off + 29, none⟩, m - 29, cap - 29⟩, by rw [HU4.out], fun _ => ⟨some ⟨bb, off + 29, none⟩, cap - 29, ?_, ?_⟩, fun h => absurd HU4.out h, HFB.out⟩
      · rw [Nat.add_sub_cancel, show m + 4 - 33 = m - 29 by omega]
        exact HD.out.symm
      · rw [Nat.add_sub_cancel, show m + 4 - 33 = m - 29 by omega]
        exact (HLF.out.below HFB.out (Nat.le_refl _)).behind (by omega)
end Go.Proofs.Ytfiacpbpfdencaa
