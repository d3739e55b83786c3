/-
  Own text: wire.Decode, walked.
-/
import Derived.Test.YtfiacpbpfdencaaRead7
import Derived.Test.YtfiacpbpfdencaaOpen
namespace Go.Proofs.Ytfiacpbpfdencaa
open Go.RowKit

/-- Decode's error's number. -/
noncomputable def decCode (ses : Int) (n : Nat) (l : List Int) : Int :=
  if 1400 < n then 2 else if n < 33 then 70 else if opensB (n - 4) l = false then 20 else
  if wordOf ((l.take (n - 4)).take 2) ≠ 17003 ∨ wordOf (((l.take (n - 4)).drop 4).take 4) ≠ ses then 71 else
  if wordOf (((l.take (n - 4)).drop 27).take 2) ≠ ((n - 33 : Nat) : Int) then 73 else chk (dgL (l.take (n - 4)) none (n - 33) 0) ((l.take (n - 4)).drop 29)
/-- What Decode answers. -/
def Decd (ses : Int) (n : Nat) (l : List Int) (w : World) (e : Ending) (w' : World) : Prop :=
  ∃ D : Dg, e = .returned (.tuple #[D.val, .int .i64 (decCode ses n l)]) ∧ (decCode ses n l = 0 → ∃ A C, D = dgL (l.take (n - 4)) A (n - 33) C ∧ Bytes w' A (n - 33) ((l.take (n - 4)).drop 29)) ∧ (decCode ses n l ≠ 0 → D = Dg.zero) ∧ Below w.heap.size w w'
theorem decd_bad {ses : Int} {n : Nat} {l : List Int} {w w' : World} {e : Ending} {c : Int} (hc : decCode ses n l = c) (h0 : c ≠ 0) (he : e = .returned (.tuple #[Dg.zero.val, .int .i64 c])) (hb : Below w.heap.size w w') : Decd ses n l w e w' :=
  ⟨Dg.zero, by rw [he, hc], fun h => absurd (hc.symm.trans h) h0, fun _ => rfl, hb⟩
theorem Bytes.setDg {w : World} {a : Option Addr} {n r : Nat} {l : List Int} {d : Dg} (h : Bytes w a n l) (hd : DBlk w r d) (D : Dg) : Bytes (setDg w r D) a n l := by
  refine ⟨h.size, h.max, h.byte, ?_⟩
  rcases h.cell with g | ⟨g, b, off, e, hb, hc⟩
  · exact .inl g
  · have hbr : r ≠ b := by
      rintro rfl
      have h0 := hc 0 g
      unfold DBlk at hd
      simp only [World.cell?, hd, Nat.add_zero] at h0
      have ho : off < 11 := by
        rcases Nat.lt_or_ge off 11 with g | g
        · exact g
        · rw [Array.getElem?_eq_none (by simpa using g)] at h0
          simp at h0
      rcases (show off = 0 ∨ off = 1 ∨ off = 2 ∨ off = 3 ∨ off = 4 ∨ off = 5 ∨ off = 6 ∨ off = 7 ∨ off = 8 ∨ off = 9 ∨ off = 10 by omega) with rfl | rfl | rfl | rfl | rfl | rfl | rfl | rfl | rfl | rfl | rfl <;> simp at h0
    refine .inr ⟨g, b, off, e, ?_, fun i hi => ?_⟩
    · exact Nat.lt_of_lt_of_le hb (setDg_below (Below.refl 0 w) (Nat.zero_le _) D).size
    · rw [← hc i hi]
      exact World.cell?_of_block (setDg_other D hbr)
theorem chk_da (b : List Int) (da da' : Option Addr) (dl dc dc' : Nat) (x : List Int) : chk (dgL b da dl dc) x = chk (dgL b da' dl dc') x := rfl
set_option maxRecDepth 100000 in
set_option maxHeartbeats 8000000 in
theorem decode_early (t : Nat) (ses : Int) (a : Option Addr) (n cap : Nat) (l : List Int) (w : World) (hn : n ≤ 9223372036854775807) (h : 1400 < n ∨ n < 33) :
    Calls Try.prog 16 #[.pointer (some ⟨t, 0, none⟩), .int .u32 ses, .slice a n cap] w (Decd ses n l w) := by
  have HZ : Hid (DBlk (w.alloc (.cells #[.int .i64 0, .int .u32 0, .int .u32 0, .int .i64 0, .int .u32 0, .int .u32 0, .int .u32 0, .int .i64 0, .int .i64 0, .int .i64 0, .slice none 0 0] 25)) w.heap.size Dg.zero) := Lib.hid (Go.Deep.blk_alloc_new w _)
  have HB : Hid (Below w.heap.size w (w.alloc (.cells #[.int .i64 0, .int .u32 0, .int .u32 0, .int .i64 0, .int .u32 0, .int .u32 0, .int .u32 0, .int .i64 0, .int .i64 0, .int .i64 0, .slice none 0 0] 25))) := Lib.hid ((Below.refl w.heap.size w).alloc (Nat.le_refl _) _)
  go_enter Try.func16, Try.ntmps16
  go_upto_region 1 with fail
  generalize (w.alloc (.cells #[.int .i64 0, .int .u32 0, .int .u32 0, .int .i64 0, .int .u32 0, .int .u32 0, .int .u32 0, .int .i64 0, .int .i64 0, .int .i64 0, .slice none 0 0] 25)) = w0 at *
  obtain ⟨_, r0, r1, r2, r3, r4, r5, r6, r7, r8, r9, r10⟩ := (DBlk.box HZ.out)
  have fr0 := DBlk.frozen HZ.out 0
  have fr1 := DBlk.frozen HZ.out 1
  have fr2 := DBlk.frozen HZ.out 2
  have fr3 := DBlk.frozen HZ.out 3
  have fr4 := DBlk.frozen HZ.out 4
  have fr5 := DBlk.frozen HZ.out 5
  have fr6 := DBlk.frozen HZ.out 6
  have fr7 := DBlk.frozen HZ.out 7
  have fr8 := DBlk.frozen HZ.out 8
  have fr9 := DBlk.frozen HZ.out 9
  have fr10 := DBlk.frozen HZ.out 10
  dsimp only [Dg.zero] at r0 r1 r2 r3 r4 r5 r6 r7 r8 r9 r10
  rcases h with h | h
  · have HC : Hid (decCode ses n l = 2) := Lib.hid (by unfold decCode; rw [if_pos h])
    go_wp2_with fail
    have HF := Lib.hid (DBlk.write HZ.out Dg.zero)
    have HFB := Lib.hid (setDg_below HB.out (Nat.le_refl _) Dg.zero)
    dsimp only [setDg, Dg.zero] at HF HFB
    generalize (((((((((((w0.setCell ⟨w.heap.size, 0, none⟩ (.int .i64 0)).setCell ⟨w.heap.size, 1, none⟩ (.int .u32 0)).setCell ⟨w.heap.size, 2, none⟩ (.int .u32 0)).setCell ⟨w.heap.size, 3, none⟩ (.int .i64 0)).setCell ⟨w.heap.size, 4, none⟩ (.int .u32 0)).setCell ⟨w.heap.size, 5, none⟩ (.int .u32 0)).setCell ⟨w.heap.size, 6, none⟩ (.int .u32 0)).setCell ⟨w.heap.size, 7, none⟩ (.int .i64 0)).setCell ⟨w.heap.size, 8, none⟩ (.int .i64 0)).setCell ⟨w.heap.size, 9, none⟩ (.int .i64 0)).setCell ⟨w.heap.size, 10, none⟩ (.slice none 0 0)) = x4 at *
    obtain ⟨_, z0, z1, z2, z3, z4, z5, z6, z7, z8, z9, z10⟩ := HF.out.box
    dsimp only at z0 z1 z2 z3 z4 z5 z6 z7 z8 z9 z10
    refine bodyPost_ret (v := .tuple #[.agg #[.int .i64 0, .int .u32 0, .int .u32 0, .int .i64 0, .int .u32 0, .int .u32 0, .int .u32 0, .int .i64 0, .int .i64 0, .int .i64 0, .slice none 0 0], .int .i64 2]) (by simp [results, Try.results16, go_sem, z0, z1, z2, z3, z4, z5, z6, z7, z8, z9, z10]) rfl ?_
    exact decd_bad HC.out (by decide) rfl HFB.out
  · have HC : Hid (decCode ses n l = 70) := Lib.hid (by unfold decCode; rw [if_neg (by omega), if_pos h])
    have h14 : n ≤ 1400 := by omega
    go_wp2_with fail
    have HF := Lib.hid (DBlk.write HZ.out Dg.zero)
    have HFB := Lib.hid (setDg_below HB.out (Nat.le_refl _) Dg.zero)
    dsimp only [setDg, Dg.zero] at HF HFB
    generalize (((((((((((w0.setCell ⟨w.heap.size, 0, none⟩ (.int .i64 0)).setCell ⟨w.heap.size, 1, none⟩ (.int .u32 0)).setCell ⟨w.heap.size, 2, none⟩ (.int .u32 0)).setCell ⟨w.heap.size, 3, none⟩ (.int .i64 0)).setCell ⟨w.heap.size, 4, none⟩ (.int .u32 0)).setCell ⟨w.heap.size, 5, none⟩ (.int .u32 0)).setCell ⟨w.heap.size, 6, none⟩ (.int .u32 0)).setCell ⟨w.heap.size, 7, none⟩ (.int .i64 0)).setCell ⟨w.heap.size, 8, none⟩ (.int .i64 0)).setCell ⟨w.heap.size, 9, none⟩ (.int .i64 0)).setCell ⟨w.heap.size, 10, none⟩ (.slice none 0 0)) = x4 at *
    obtain ⟨_, z0, z1, z2, z3, z4, z5, z6, z7, z8, z9, z10⟩ := HF.out.box
    dsimp only at z0 z1 z2 z3 z4 z5 z6 z7 z8 z9 z10
    refine bodyPost_ret (v := .tuple #[.agg #[.int .i64 0, .int .u32 0, .int .u32 0, .int .i64 0, .int .u32 0, .int .u32 0, .int .u32 0, .int .i64 0, .int .i64 0, .int .i64 0, .slice none 0 0], .int .i64 70]) (by simp [results, Try.results16, go_sem, z0, z1, z2, z3, z4, z5, z6, z7, z8, z9, z10]) rfl ?_
    exact decd_bad HC.out (by decide) rfl HFB.out
set_option maxRecDepth 100000 in
set_option maxHeartbeats 8000000 in
theorem decode_late (t : Nat) (ses : Int) (a : Option Addr) (m cap : Nat) (l : List Int) (w : World) (ht : IsTab w t) (hl : Bytes w a (m + 4) l) (h29 : 29 ≤ m) (hm : m ≤ 1396) (hcap : m + 4 ≤ cap) :
    Calls Try.prog 16 #[.pointer (some ⟨t, 0, none⟩), .int .u32 ses, .slice a (m + 4) cap] w (Decd ses (m + 4) l w) := by
  have HZ : Hid (DBlk (w.alloc (.cells #[.int .i64 0, .int .u32 0, .int .u32 0, .int .i64 0, .int .u32 0, .int .u32 0, .int .u32 0, .int .i64 0, .int .i64 0, .int .i64 0, .slice none 0 0] 25)) w.heap.size Dg.zero) := Lib.hid (Go.Deep.blk_alloc_new w _)
  have HB : Hid (Below w.heap.size w (w.alloc (.cells #[.int .i64 0, .int .u32 0, .int .u32 0, .int .i64 0, .int .u32 0, .int .u32 0, .int .u32 0, .int .i64 0, .int .i64 0, .int .i64 0, .slice none 0 0] 25))) := Lib.hid ((Below.refl w.heap.size w).alloc (Nat.le_refl _) _)
  have HT : Hid (IsTab (w.alloc (.cells #[.int .i64 0, .int .u32 0, .int .u32 0, .int .i64 0, .int .u32 0, .int .u32 0, .int .u32 0, .int .i64 0, .int .i64 0, .int .i64 0, .slice none 0 0] 25)) t) := Lib.hid (ht.alloc _)
  have HL : Hid (Bytes (w.alloc (.cells #[.int .i64 0, .int .u32 0, .int .u32 0, .int .i64 0, .int .u32 0, .int .u32 0, .int .u32 0, .int .i64 0, .int .i64 0, .int .i64 0, .slice none 0 0] 25)) a (m + 4) l) := Lib.hid (hl.below HB.out (Nat.le_refl _))
  have HLS := Lib.hid hl.size
  clear hl ht
  have HU : Hid (∀ c, (if opensB m l = false then 20 else if wordOf ((l.take m).take 2) ≠ 17003 ∨ wordOf (((l.take m).drop 4).take 4) ≠ ses then 71 else
    if wordOf (((l.take m).drop 27).take 2) ≠ ((m - 29 : Nat) : Int) then 73 else chk (dgL (l.take m) none (m - 29) 0) ((l.take m).drop 29)) = c → decCode ses (m + 4) l = c) := Lib.hid (fun c h => by
      unfold decCode
      rw [if_neg (by omega), if_neg (by omega), Nat.add_sub_cancel, show m + 4 - 33 = m - 29 by omega]
      exact h)
  go_enter Try.func16, Try.ntmps16
  go_upto_region 1 with fail
  generalize (w.alloc (.cells #[.int .i64 0, .int .u32 0, .int .u32 0, .int .i64 0, .int .u32 0, .int .u32 0, .int .u32 0, .int .i64 0, .int .i64 0, .int .i64 0, .slice none 0 0] 25)) = w0 at *
  cases ho : opensB m l
  case false =>
    have HC : Hid (decCode ses (m + 4) l = 20) := Lib.hid (HU.out _ (by rw [if_pos ho]))
    have HO := Lib.hid (open_bad t a m cap l w0 HT.out HL.out (by omega) hcap ho)
    clear ho HU
    go_upto_region 7 with first
      | (go_at_call 30; refine HO.out.mono ?_; rintro e w1 ⟨rfl, hb⟩; have HB1 := Lib.hid hb; clear hb)
    have HZ1 : Hid (DBlk w1 w.heap.size Dg.zero) := Lib.hid (HZ.out.below HB1.out HZ.out.lt)
    have HBB : Hid (Below w.heap.size w w1) := Lib.hid (HB.out.trans (HB1.out.mono HB.out.size))
    obtain ⟨_, r0, r1, r2, r3, r4, r5, r6, r7, r8, r9, r10⟩ := (DBlk.box HZ1.out)
    have fr0 := DBlk.frozen HZ1.out 0
    have fr1 := DBlk.frozen HZ1.out 1
    have fr2 := DBlk.frozen HZ1.out 2
    have fr3 := DBlk.frozen HZ1.out 3
    have fr4 := DBlk.frozen HZ1.out 4
    have fr5 := DBlk.frozen HZ1.out 5
    have fr6 := DBlk.frozen HZ1.out 6
    have fr7 := DBlk.frozen HZ1.out 7
    have fr8 := DBlk.frozen HZ1.out 8
    have fr9 := DBlk.frozen HZ1.out 9
    have fr10 := DBlk.frozen HZ1.out 10
    dsimp only [Dg.zero] at r0 r1 r2 r3 r4 r5 r6 r7 r8 r9 r10
    go_wp2_with fail
    have HF := Lib.hid (DBlk.write HZ1.out Dg.zero)
    have HFB := Lib.hid (setDg_below HBB.out (Nat.le_refl _) Dg.zero)
    dsimp only [setDg, Dg.zero] at HF HFB
    generalize (((((((((((w1.setCell ⟨w.heap.size, 0, none⟩ (.int .i64 0)).setCell ⟨w.heap.size, 1, none⟩ (.int .u32 0)).setCell ⟨w.heap.size, 2, none⟩ (.int .u32 0)).setCell ⟨w.heap.size, 3, none⟩ (.int .i64 0)).setCell ⟨w.heap.size, 4, none⟩ (.int .u32 0)).setCell ⟨w.heap.size, 5, none⟩ (.int .u32 0)).setCell ⟨w.heap.size, 6, none⟩ (.int .u32 0)).setCell ⟨w.heap.size, 7, none⟩ (.int .i64 0)).setCell ⟨w.heap.size, 8, none⟩ (.int .i64 0)).setCell ⟨w.heap.size, 9, none⟩ (.int .i64 0)).setCell ⟨w.heap.size, 10, none⟩ (.slice none 0 0)) = x4 at *
    obtain ⟨_, z0, z1, z2, z3, z4, z5, z6, z7, z8, z9, z10⟩ := HF.out.box
    dsimp only at z0 z1 z2 z3 z4 z5 z6 z7 z8 z9 z10
    refine bodyPost_ret (v := .tuple #[.agg #[.int .i64 0, .int .u32 0, .int .u32 0, .int .i64 0, .int .u32 0, .int .u32 0, .int .u32 0, .int .i64 0, .int .i64 0, .int .i64 0, .slice none 0 0], .int .i64 20]) (by simp [results, Try.results16, go_sem, z0, z1, z2, z3, z4, z5, z6, z7, z8, z9, z10]) rfl ?_
    exact decd_bad HC.out (by decide) rfl HFB.out
  case true =>
    have HO := Lib.hid (open_good t a m cap l w0 HT.out HL.out (by omega) hcap ho)
    go_upto_region 9 with first
      | (go_at_call 30; refine HO.out.mono ?_; rintro e w1 ⟨g, rfl, hg, hr, hb⟩; have HB1 := Lib.hid hb; have HR1 := Lib.hid (Row8.whole hr (fun z hz => HL.out.range z (List.mem_of_mem_take hz)) m (by rw [List.length_take, HLS.out]; omega) (by omega)); clear hb hr HO)
      | (go_at_call 31; refine (read_any _ m m (l.take m) _ HR1.out h29 (Nat.le_refl _) (by omega)).mono ?_; rintro e w2 ⟨AD, rfl, hbd, hb⟩; have HB2 := Lib.hid hb; have HBD := Lib.hid hbd; clear hb hbd HR1)
    generalize hD : dgL (l.take m) AD (m - 29) (m - 29) = D at *
    have HD := Lib.hid hD
    have HDL : Hid (D.dl = m - 29) := Lib.hid (by rw [← hD]; rfl)
    have HDS : Hid (D.ses = wordOf (((l.take m).drop 4).take 4)) := Lib.hid (by rw [← hD]; rfl)
    have HDA : Hid (D.da = AD) := Lib.hid (by rw [← hD]; rfl)
    clear hD
    generalize hvm : wordOf ((l.take m).take 2) = vm at *
    generalize hvs : wordOf (((l.take m).drop 27).take 2) = vs at *
    clear hvm hvs
    have HU2 : Hid (∀ c, (if vm ≠ 17003 ∨ D.ses ≠ ses then 71 else if vs ≠ (D.dl : Nat) then 73 else chk D ((l.take m).drop 29)) = c → decCode ses (m + 4) l = c) := Lib.hid (fun c h => HU.out c (by
      rw [if_neg (by rw [ho]; decide), ← HDS.out, ← HDL.out, ← h, ← HD.out]
      rfl))
    clear HU ho
    have HB3 : Hid (Below w.heap.size w (w2.alloc (.cells D.cells 25))) := Lib.hid (((HB.out.trans (HB1.out.mono HB.out.size)).trans (HB2.out.mono (Nat.le_trans HB.out.size HB1.out.size))).alloc (Nat.le_trans HB.out.size (Nat.le_trans HB1.out.size HB2.out.size)) _)
    have HZ3 : Hid (DBlk (w2.alloc (.cells D.cells 25)) w.heap.size Dg.zero) := Lib.hid (((HZ.out.below HB1.out HZ.out.lt).below HB2.out (Nat.lt_of_lt_of_le HZ.out.lt HB1.out.size)).keep (Below.heap_alloc _ _ _ (Nat.lt_of_lt_of_le HZ.out.lt (Nat.le_trans HB1.out.size HB2.out.size))))
    have HQ3 : Hid (DBlk (w2.alloc (.cells D.cells 25)) w2.heap.size D) := Lib.hid (Go.Deep.blk_alloc_new w2 _)
    have HL3 : Hid (Bytes (w2.alloc (.cells D.cells 25)) D.da D.dl ((l.take m).drop 29)) := Lib.hid (by
      rw [HDA.out, HDL.out]
      exact HBD.out.below ((Below.refl w2.heap.size w2).alloc (Nat.le_refl _) _) (Nat.le_refl _))
    have HWQ : Hid (w.heap.size < w2.heap.size) := Lib.hid (Nat.lt_of_lt_of_le HZ.out.lt (Nat.le_trans HB1.out.size HB2.out.size))
    dsimp only [Dg.cells, Dg.val] at *
    generalize (w2.alloc (.cells #[.int .i64 D.kind, .int .u32 D.ses, .int .u32 D.seq, .int .i64 D.path, .int .u32 D.tick, .int .u32 D.A, .int .u32 D.B, .int .i64 D.K, .int .i64 D.M, .int .i64 D.ix, .slice D.da D.dl D.dc] 25)) = w3 at *
    clear HB1 HB2 HBD HL HT HZ HB
    generalize w2.heap.size = q at *
    obtain ⟨_, r0, r1, r2, r3, r4, r5, r6, r7, r8, r9, r10⟩ := (DBlk.box HZ3.out)
    have fr0 := DBlk.frozen HZ3.out 0
    have fr1 := DBlk.frozen HZ3.out 1
    have fr2 := DBlk.frozen HZ3.out 2
    have fr3 := DBlk.frozen HZ3.out 3
    have fr4 := DBlk.frozen HZ3.out 4
    have fr5 := DBlk.frozen HZ3.out 5
    have fr6 := DBlk.frozen HZ3.out 6
    have fr7 := DBlk.frozen HZ3.out 7
    have fr8 := DBlk.frozen HZ3.out 8
    have fr9 := DBlk.frozen HZ3.out 9
    have fr10 := DBlk.frozen HZ3.out 10
    dsimp only [Dg.zero] at r0 r1 r2 r3 r4 r5 r6 r7 r8 r9 r10
    obtain ⟨_, d0, d1, d2, d3, d4, d5, d6, d7, d8, d9, d10⟩ := (DBlk.box HQ3.out)
    have fd0 := DBlk.frozen HQ3.out 0
    have fd1 := DBlk.frozen HQ3.out 1
    have fd2 := DBlk.frozen HQ3.out 2
    have fd3 := DBlk.frozen HQ3.out 3
    have fd4 := DBlk.frozen HQ3.out 4
    have fd5 := DBlk.frozen HQ3.out 5
    have fd6 := DBlk.frozen HQ3.out 6
    have fd7 := DBlk.frozen HQ3.out 7
    have fd8 := DBlk.frozen HQ3.out 8
    have fd9 := DBlk.frozen HQ3.out 9
    have fd10 := DBlk.frozen HQ3.out 10
    clear fd0 fd1 fd2 fd3 fd4 fd5 fd6 fd7 fd8 fd9 fd10
    obtain ⟨dl, hdl⟩ : ∃ dl, dl = D.dl := ⟨_, rfl⟩
    have hdl1 : (dl : Int) ≤ 1396 := by have := HDL.out; omega
    by_cases k1 : vm = 17003
    case neg =>
      have HC : Hid (decCode ses (m + 4) l = 71) := Lib.hid (HU2.out _ (by rw [if_pos (.inl k1)]))
      have e1 : (vm != 17003) = true := by simpa using k1
      clear k1 HU2
      go_wp2_with fail
      have HF := Lib.hid (DBlk.write HZ3.out Dg.zero)
      have HFB := Lib.hid (setDg_below HB3.out (Nat.le_refl _) Dg.zero)
      dsimp only [setDg, Dg.zero] at HF HFB
      generalize (((((((((((w3.setCell ⟨w.heap.size, 0, none⟩ (.int .i64 0)).setCell ⟨w.heap.size, 1, none⟩ (.int .u32 0)).setCell ⟨w.heap.size, 2, none⟩ (.int .u32 0)).setCell ⟨w.heap.size, 3, none⟩ (.int .i64 0)).setCell ⟨w.heap.size, 4, none⟩ (.int .u32 0)).setCell ⟨w.heap.size, 5, none⟩ (.int .u32 0)).setCell ⟨w.heap.size, 6, none⟩ (.int .u32 0)).setCell ⟨w.heap.size, 7, none⟩ (.int .i64 0)).setCell ⟨w.heap.size, 8, none⟩ (.int .i64 0)).setCell ⟨w.heap.size, 9, none⟩ (.int .i64 0)).setCell ⟨w.heap.size, 10, none⟩ (.slice none 0 0)) = x4 at *
      obtain ⟨_, z0, z1, z2, z3, z4, z5, z6, z7, z8, z9, z10⟩ := HF.out.box
      dsimp only at z0 z1 z2 z3 z4 z5 z6 z7 z8 z9 z10
      refine bodyPost_ret (v := .tuple #[.agg #[.int .i64 0, .int .u32 0, .int .u32 0, .int .i64 0, .int .u32 0, .int .u32 0, .int .u32 0, .int .i64 0, .int .i64 0, .int .i64 0, .slice none 0 0], .int .i64 71]) (by simp [results, Try.results16, go_sem, z0, z1, z2, z3, z4, z5, z6, z7, z8, z9, z10]) rfl ?_
      exact decd_bad HC.out (by decide) rfl HFB.out
    case pos =>
      have e1 : (vm != 17003) = false := by simpa using k1
      by_cases k2 : D.ses = ses
      case neg =>
        have HC : Hid (decCode ses (m + 4) l = 71) := Lib.hid (HU2.out _ (by rw [if_pos (.inr k2)]))
        have e2 : (D.ses != ses) = true := by simpa using k2
        clear k1 k2 HU2
        go_wp2_with fail
        have HF := Lib.hid (DBlk.write HZ3.out Dg.zero)
        have HFB := Lib.hid (setDg_below HB3.out (Nat.le_refl _) Dg.zero)
        dsimp only [setDg, Dg.zero] at HF HFB
        generalize (((((((((((w3.setCell ⟨w.heap.size, 0, none⟩ (.int .i64 0)).setCell ⟨w.heap.size, 1, none⟩ (.int .u32 0)).setCell ⟨w.heap.size, 2, none⟩ (.int .u32 0)).setCell ⟨w.heap.size, 3, none⟩ (.int .i64 0)).setCell ⟨w.heap.size, 4, none⟩ (.int .u32 0)).setCell ⟨w.heap.size, 5, none⟩ (.int .u32 0)).setCell ⟨w.heap.size, 6, none⟩ (.int .u32 0)).setCell ⟨w.heap.size, 7, none⟩ (.int .i64 0)).setCell ⟨w.heap.size, 8, none⟩ (.int .i64 0)).setCell ⟨w.heap.size, 9, none⟩ (.int .i64 0)).setCell ⟨w.heap.size, 10, none⟩ (.slice none 0 0)) = x4 at *
        obtain ⟨_, z0, z1, z2, z3, z4, z5, z6, z7, z8, z9, z10⟩ := HF.out.box
        dsimp only at z0 z1 z2 z3 z4 z5 z6 z7 z8 z9 z10
        refine bodyPost_ret (v := .tuple #[.agg #[.int .i64 0, .int .u32 0, .int .u32 0, .int .i64 0, .int .u32 0, .int .u32 0, .int .u32 0, .int .i64 0, .int .i64 0, .int .i64 0, .slice none 0 0], .int .i64 71]) (by simp [results, Try.results16, go_sem, z0, z1, z2, z3, z4, z5, z6, z7, z8, z9, z10]) rfl ?_
        exact decd_bad HC.out (by decide) rfl HFB.out
      case pos =>
        have e2 : (D.ses != ses) = false := by simpa using k2
        have HU3 : Hid (∀ c, (if vs ≠ (D.dl : Nat) then 73 else chk D ((l.take m).drop 29)) = c → decCode ses (m + 4) l = c) := Lib.hid (fun c h => HU2.out c (by rw [if_neg (fun g => g.elim (fun g => g k1) (fun g => g k2))]; exact h))
        clear k1 k2 HU2
        by_cases k3 : vs = (D.dl : Nat)
        case neg =>
          have HC : Hid (decCode ses (m + 4) l = 73) := Lib.hid (HU3.out _ (by rw [if_pos k3]))
          have e3 : (vs != (D.dl : Nat)) = true := by simpa using k3
          clear k3 HU3
          go_wp2_with fail
          have HF := Lib.hid (DBlk.write HZ3.out Dg.zero)
          have HFB := Lib.hid (setDg_below HB3.out (Nat.le_refl _) Dg.zero)
          dsimp only [setDg, Dg.zero] at HF HFB
          generalize (((((((((((w3.setCell ⟨w.heap.size, 0, none⟩ (.int .i64 0)).setCell ⟨w.heap.size, 1, none⟩ (.int .u32 0)).setCell ⟨w.heap.size, 2, none⟩ (.int .u32 0)).setCell ⟨w.heap.size, 3, none⟩ (.int .i64 0)).setCell ⟨w.heap.size, 4, none⟩ (.int .u32 0)).setCell ⟨w.heap.size, 5, none⟩ (.int .u32 0)).setCell ⟨w.heap.size, 6, none⟩ (.int .u32 0)).setCell ⟨w.heap.size, 7, none⟩ (.int .i64 0)).setCell ⟨w.heap.size, 8, none⟩ (.int .i64 0)).setCell ⟨w.heap.size, 9, none⟩ (.int .i64 0)).setCell ⟨w.heap.size, 10, none⟩ (.slice none 0 0)) = x4 at *
          obtain ⟨_, z0, z1, z2, z3, z4, z5, z6, z7, z8, z9, z10⟩ := HF.out.box
          dsimp only at z0 z1 z2 z3 z4 z5 z6 z7 z8 z9 z10
          refine bodyPost_ret (v := .tuple #[.agg #[.int .i64 0, .int .u32 0, .int .u32 0, .int .i64 0, .int .u32 0, .int .u32 0, .int .u32 0, .int .i64 0, .int .i64 0, .int .i64 0, .slice none 0 0], .int .i64 73]) (by simp [results, Try.results16, go_sem, z0, z1, z2, z3, z4, z5, z6, z7, z8, z9, z10]) rfl ?_
          exact decd_bad HC.out (by decide) rfl HFB.out
        case pos =>
          have e3 : (vs != (D.dl : Nat)) = false := by simpa using k3
          have HU4 : Hid (decCode ses (m + 4) l = chk D ((l.take m).drop 29)) := Lib.hid (HU3.out _ (by rw [if_neg (fun g => g k3)]))
          clear k3 HU3
          have HCK := Lib.hid (check_any D _ w3 HL3.out)
          obtain ⟨c, hc⟩ : ∃ c, c = chk D ((l.take m).drop 29) := ⟨_, rfl⟩
          rw [← hc] at HU4 HCK
          clear hc
          dsimp only [Dg.val] at HCK
          by_cases k4 : c = 0
          case neg =>
            have e4 : (c != 0) = true := by simpa using k4
            go_upto_region 15 with first
              | (go_at_call 13; refine HCK.out.mono ?_; rintro e w4 ⟨rfl, hb⟩; have HB4 := Lib.hid hb; clear hb HCK)
            have HZ4 : Hid (DBlk w4 w.heap.size Dg.zero) := Lib.hid (HZ3.out.below HB4.out HZ3.out.lt)
            have HBB : Hid (Below w.heap.size w w4) := Lib.hid (HB3.out.trans (HB4.out.mono HB3.out.size))
            clear r0 r1 r2 r3 r4 r5 r6 r7 r8 r9 r10 fr0 fr1 fr2 fr3 fr4 fr5 fr6 fr7 fr8 fr9 fr10 d0 d1 d2 d3 d4 d5 d6 d7 d8 d9 d10
            obtain ⟨_, r0, r1, r2, r3, r4, r5, r6, r7, r8, r9, r10⟩ := (DBlk.box HZ4.out)
            have fr0 := DBlk.frozen HZ4.out 0
            have fr1 := DBlk.frozen HZ4.out 1
            have fr2 := DBlk.frozen HZ4.out 2
            have fr3 := DBlk.frozen HZ4.out 3
            have fr4 := DBlk.frozen HZ4.out 4
            have fr5 := DBlk.frozen HZ4.out 5
            have fr6 := DBlk.frozen HZ4.out 6
            have fr7 := DBlk.frozen HZ4.out 7
            have fr8 := DBlk.frozen HZ4.out 8
            have fr9 := DBlk.frozen HZ4.out 9
            have fr10 := DBlk.frozen HZ4.out 10
            dsimp only [Dg.zero] at r0 r1 r2 r3 r4 r5 r6 r7 r8 r9 r10
            go_wp2_with fail
            have HF := Lib.hid (DBlk.write HZ4.out Dg.zero)
            have HFB := Lib.hid (setDg_below HBB.out (Nat.le_refl _) Dg.zero)
            dsimp only [setDg, Dg.zero] at HF HFB
            generalize (((((((((((w4.setCell ⟨w.heap.size, 0, none⟩ (.int .i64 0)).setCell ⟨w.heap.size, 1, none⟩ (.int .u32 0)).setCell ⟨w.heap.size, 2, none⟩ (.int .u32 0)).setCell ⟨w.heap.size, 3, none⟩ (.int .i64 0)).setCell ⟨w.heap.size, 4, none⟩ (.int .u32 0)).setCell ⟨w.heap.size, 5, none⟩ (.int .u32 0)).setCell ⟨w.heap.size, 6, none⟩ (.int .u32 0)).setCell ⟨w.heap.size, 7, none⟩ (.int .i64 0)).setCell ⟨w.heap.size, 8, none⟩ (.int .i64 0)).setCell ⟨w.heap.size, 9, none⟩ (.int .i64 0)).setCell ⟨w.heap.size, 10, none⟩ (.slice none 0 0)) = x4 at *
            obtain ⟨_, z0, z1, z2, z3, z4, z5, z6, z7, z8, z9, z10⟩ := HF.out.box
            dsimp only at z0 z1 z2 z3 z4 z5 z6 z7 z8 z9 z10
            refine bodyPost_ret (v := .tuple #[.agg #[.int .i64 0, .int .u32 0, .int .u32 0, .int .i64 0, .int .u32 0, .int .u32 0, .int .u32 0, .int .i64 0, .int .i64 0, .int .i64 0, .slice none 0 0], .int .i64 c]) (by simp [results, Try.results16, go_sem, z0, z1, z2, z3, z4, z5, z6, z7, z8, z9, z10]) rfl ?_
            exact decd_bad HU4.out k4 rfl HFB.out
          case pos =>
            subst k4
            go_upto_region 16 with first
              | (go_at_call 13; refine HCK.out.mono ?_; rintro e w4 ⟨rfl, hb⟩; have HB4 := Lib.hid hb; clear hb HCK)
            have HZ4 : Hid (DBlk w4 w.heap.size Dg.zero) := Lib.hid (HZ3.out.below HB4.out HZ3.out.lt)
            have HQ4 : Hid (DBlk w4 q D) := Lib.hid (HQ3.out.below HB4.out HQ3.out.lt)
            have HBB : Hid (Below w.heap.size w w4) := Lib.hid (HB3.out.trans (HB4.out.mono HB3.out.size))
            have HL4 : Hid (Bytes w4 D.da D.dl ((l.take m).drop 29)) := Lib.hid (HL3.out.below HB4.out (Nat.le_refl _))
            clear r0 r1 r2 r3 r4 r5 r6 r7 r8 r9 r10 fr0 fr1 fr2 fr3 fr4 fr5 fr6 fr7 fr8 fr9 fr10 d0 d1 d2 d3 d4 d5 d6 d7 d8 d9 d10
            obtain ⟨_, r0, r1, r2, r3, r4, r5, r6, r7, r8, r9, r10⟩ := (DBlk.box HZ4.out)
            have fr0 := DBlk.frozen HZ4.out 0
            have fr1 := DBlk.frozen HZ4.out 1
            have fr2 := DBlk.frozen HZ4.out 2
            have fr3 := DBlk.frozen HZ4.out 3
            have fr4 := DBlk.frozen HZ4.out 4
            have fr5 := DBlk.frozen HZ4.out 5
            have fr6 := DBlk.frozen HZ4.out 6
            have fr7 := DBlk.frozen HZ4.out 7
            have fr8 := DBlk.frozen HZ4.out 8
            have fr9 := DBlk.frozen HZ4.out 9
            have fr10 := DBlk.frozen HZ4.out 10
            dsimp only [Dg.zero] at r0 r1 r2 r3 r4 r5 r6 r7 r8 r9 r10
            obtain ⟨_, d0, d1, d2, d3, d4, d5, d6, d7, d8, d9, d10⟩ := (DBlk.box HQ4.out)
            have fd0 := DBlk.frozen HQ4.out 0
            have fd1 := DBlk.frozen HQ4.out 1
            have fd2 := DBlk.frozen HQ4.out 2
            have fd3 := DBlk.frozen HQ4.out 3
            have fd4 := DBlk.frozen HQ4.out 4
            have fd5 := DBlk.frozen HQ4.out 5
            have fd6 := DBlk.frozen HQ4.out 6
            have fd7 := DBlk.frozen HQ4.out 7
            have fd8 := DBlk.frozen HQ4.out 8
            have fd9 := DBlk.frozen HQ4.out 9
            have fd10 := DBlk.frozen HQ4.out 10
            clear fd0 fd1 fd2 fd3 fd4 fd5 fd6 fd7 fd8 fd9 fd10
            go_wp2_with fail
            have HF := Lib.hid (DBlk.write HZ4.out D)
            have HFB := Lib.hid (setDg_below HBB.out (Nat.le_refl _) D)
            have HLF := Lib.hid (Bytes.setDg HL4.out HZ4.out D)
            dsimp only [setDg, Dg.zero] at HF HFB HLF
            generalize (((((((((((w4.setCell ⟨w.heap.size, 0, none⟩ (.int .i64 D.kind)).setCell ⟨w.heap.size, 1, none⟩ (.int .u32 D.ses)).setCell ⟨w.heap.size, 2, none⟩ (.int .u32 D.seq)).setCell ⟨w.heap.size, 3, none⟩ (.int .i64 D.path)).setCell ⟨w.heap.size, 4, none⟩ (.int .u32 D.tick)).setCell ⟨w.heap.size, 5, none⟩ (.int .u32 D.A)).setCell ⟨w.heap.size, 6, none⟩ (.int .u32 D.B)).setCell ⟨w.heap.size, 7, none⟩ (.int .i64 D.K)).setCell ⟨w.heap.size, 8, none⟩ (.int .i64 D.M)).setCell ⟨w.heap.size, 9, none⟩ (.int .i64 D.ix)).setCell ⟨w.heap.size, 10, none⟩ (.slice D.da D.dl D.dc)) = x4 at *
            obtain ⟨_, z0, z1, z2, z3, z4, z5, z6, z7, z8, z9, z10⟩ := HF.out.box
            refine bodyPost_ret (v := .tuple #[.agg #[.int .i64 D.kind, .int .u32 D.ses, .int .u32 D.seq, .int .i64 D.path, .int .u32 D.tick, .int .u32 D.A, .int .u32 D.B, .int .i64 D.K, .int .i64 D.M, .int .i64 D.ix, .slice D.da D.dl D.dc], .int .i64 0]) (by simp [results, Try.results16, go_sem, z0, z1, z2, z3, z4, z5, z6, z7, z8, z9, z10]) rfl ?_
            refine ⟨D, by rw [HU4.out], fun _ => ⟨AD, m - 29, ?_, ?_⟩, fun h => absurd HU4.out h, HFB.out⟩
            · rw [Nat.add_sub_cancel, show m + 4 - 33 = m - 29 by omega]
              exact HD.out.symm
            · have h := HLF.out
              rw [HDA.out, HDL.out] at h
              rw [Nat.add_sub_cancel, show m + 4 - 33 = m - 29 by omega]
              exact h
end Go.Proofs.Ytfiacpbpfdencaa
