/-
  Own text: move, walked.
-/
import Derived.Test.YtopnceniihgkpaaSqB
namespace Go.Proofs.Ytopnceniihgkpaa
open Go.RowKit

theorem pop_bv (b : BitVec 64) : pop b.toNat = cnt b.getLsbD 64 := cnt_congr (fun _ _ => BitVec.testBit_toNat b)
/-- Of the last ones those that go out, and didn't come. -/
def outs (b : BitVec 64) (k : Nat) : Nat := cnt (fun i => decide (64 ≤ i + k) && !b.getLsbD i) 64
theorem outs_le (b : BitVec 64) (k : Nat) : outs b k ≤ 64 := cnt_le _ _
theorem outs_pop (b : BitVec 64) (k o : Nat) (ho : o = min k 64) : pop ((~~~ b) >>> (64 - o)).toNat = outs b k := by
  rw [pop_bv]
  unfold outs
  have hs1 : ∀ p : Nat → Bool, cnt p 64 = cnt p o + cnt (fun i => p (i + o)) (64 - o) := fun p => by rw [← cnt_add]; congr 1; omega
  have hs2 : ∀ p : Nat → Bool, cnt p 64 = cnt p (64 - o) + cnt (fun i => p (i + (64 - o))) o := fun p => by rw [← cnt_add]; congr 1; omega
  have h1 : cnt ((~~~ b) >>> (64 - o)).getLsbD 64 = cnt ((~~~ b) >>> (64 - o)).getLsbD o + 0 := by
    rw [hs1]
    congr 1
    apply cnt_none
    intro i _
    rw [BitVec.getLsbD_ushiftRight]
    exact BitVec.getLsbD_of_ge _ _ (by omega)
  have h2 : cnt (fun i => decide (64 ≤ i + k) && !b.getLsbD i) 64 = 0 + cnt (fun i => !b.getLsbD (i + (64 - o))) o := by
    rw [hs2]
    congr 1
    · apply cnt_none
      intro i hi
      have : ¬ 64 ≤ i + k := by omega
      simp [this]
    · apply cnt_congr
      intro i hi
      have : 64 ≤ i + (64 - o) + k := by omega
      simp [this]
  rw [h1, h2, Nat.add_zero, Nat.zero_add]
  apply cnt_congr
  intro i hi
  rw [BitVec.getLsbD_ushiftRight, BitVec.getLsbD_not, Nat.add_comm]
  have : i + (64 - o) < 64 := by omega
  simp [this]
theorem shr64 (b : BitVec 64) (k : Nat) : (b.toNat : Int) / 2 ^ k = ((b >>> k).toNat : Int) := by
  rw [BitVec.toNat_ushiftRight, Nat.shiftRight_eq_div_pow]
  simp
theorem shl64 (b : BitVec 64) (d : Nat) (yk : IntKind) (hd : d < 4294967296) : Op.shift .shl .u64 (b.toNat : Int) yk (d : Int) = pure (.int .u64 ((b <<< d).toNat : Int)) := by
  have h0 : ¬ ((d : Int) < 0) := by omega
  simp only [Op.shift, h0, if_false]
  have e : min (d : Int).toNat IntKind.u64.bits = min d 64 := by simp [IntKind.bits]
  rw [e, IntKind.wrap_u64]
  congr 2
  rw [BitVec.toNat_shiftLeft]
  simp only [Nat.shiftLeft_eq]
  by_cases h : d < 64
  · rw [Nat.min_eq_left (by omega)]
    simp
  · rw [Nat.min_eq_right (by omega), show d = 64 + (d - 64) by omega, Nat.pow_add, ← Nat.mul_assoc, Nat.mul_right_comm]
    simp
/-- What a block's own call changes: that block alone. -/
structure Only (b : Nat) (w w' : World) : Prop where
  size : w'.heap.size = w.heap.size
  blk : ∀ c, c ≠ b → w'.heap[c]? = w.heap[c]?
  bel : ∀ (B : Nat) (w0 : World), B ≤ b → Below B w0 w → Below B w0 w'
theorem Only.refl (b : Nat) (w : World) : Only b w w := ⟨rfl, fun _ _ => rfl, fun _ _ _ h => h⟩
theorem Only.trans {b : Nat} {w w' w'' : World} (h : Only b w w') (k : Only b w' w'') : Only b w w'' :=
  ⟨k.size.trans h.size, fun c hc => (k.blk c hc).trans (h.blk c hc), fun B w0 hB hb => k.bel B w0 hB (h.bel B w0 hB hb)⟩
theorem Only.drew (b : Nat) (w : World) : Only b w w.drew := ⟨rfl, fun _ _ => rfl, fun _ _ _ h => h.drew⟩
theorem Only.set (b : Nat) (w : World) (i : Nat) (v : Value) : Only b w (w.setCell ⟨b, i, none⟩ v) :=
  ⟨by simp [World.setCell], fun c hc => by simp only [World.setCell, Array.getElem?_modify]; rw [if_neg (fun e => hc e.symm)], fun _ _ hB h => h.setCell hB _⟩
theorem SBlk.set {w : World} {b : Nat} {s : Sn} (h : SBlk w b s) (i : Nat) (v : Value) (s' : Sn) (e : s.cells.setIfInBounds i v = s'.cells) : SBlk (w.setCell ⟨b, i, none⟩ v) b s' := by
  unfold SBlk at *
  simp only [World.setCell, Array.getElem?_modify, h]
  simp [e]
/-- Moved on by so many. -/
def Sn.moved (s : Sn) (n k : Nat) : Sn := { s with top := n, bts := s.bts <<< k, lost := s.lost + outs s.bts k + (k - 64) }
set_option maxRecDepth 100000 in
theorem move_any (b : Nat) (s : Sn) (n k : Nat) (hs : s.any = true) (hn : n < 4294967296) (ht : s.top < 4294967296) (hl : s.lost ≤ 4294967296 * 1000000) (hk : k < 2147483648) (hm : ((s.top : Int) + k) % 4294967296 = n) (w : World) (h : SBlk w b s) :
    Calls Try.prog 41 #[.pointer (some ⟨b, 0, none⟩), .int .i64 k] w fun e w' => (∃ v, e = .returned v) ∧ Hid (SBlk w' b (s.moved n k)) ∧ Hid (Only b w w') := by
  obtain ⟨o, ho⟩ : ∃ o, o = min k 64 := ⟨_, rfl⟩
  have hp := outs_pop s.bts k o ho
  have hpl := outs_le s.bts k
  have hg : s.gone = ~~~ s.bts := by unfold Sn.gone; rw [hs]; rfl
  have sr := shr64 (~~~ s.bts) (64 - o)
  have sl := shl64 s.bts k .i64 (by omega)
  have c5 : w.cell? ⟨b, 5, none⟩ = some (.int .i64 s.lost) := h.cell 5
  have f5 := h.frozen 5
  have c1 : w.cell? ⟨b, 1, none⟩ = some (.int .u32 s.top) := h.cell 1
  have f1 := h.frozen 1
  have c2 : w.cell? ⟨b, 2, none⟩ = some (.int .u64 s.bts.toNat) := h.cell 2
  have f2 := h.frozen 2
  have CM := Lib.hid (missing_any b s)
  rw [hg] at CM
  have CO := Lib.hid (ones_any ((~~~ s.bts) >>> (64 - o)).toNat (BitVec.isLt _))
  rw [hp] at CO
  generalize hq : outs s.bts k = q at *
  obtain ⟨j, hj⟩ : ∃ j, j = 64 - o := ⟨_, rfl⟩
  rw [← hj] at sr CO
  have hj2 : (64 : Int) - (o : Int) = j := by omega
  have hjl : j ≤ 64 := by omega
  have HM := Lib.hid hm
  have hko : (k ≤ 64 → o = k) ∧ (¬ k ≤ 64 → o = 64) := by omega
  have sw : IntKind.u64.wrap ((s.bts.toNat : Int) * 2 ^ k) = ((s.bts <<< k).toNat : Int) := by
    rw [IntKind.wrap_u64, BitVec.toNat_shiftLeft, Nat.shiftLeft_eq]
    simp
  have HQ := Lib.hid hq
  clear hp hg hj ho hm hq
  have H := Lib.hid h
  clear h
  have wk1 : IntKind.i64.wrap (j : Int) = j := IntWalk.i64_in _ (by omega)
  have wk2 : IntKind.i64.wrap ((s.lost : Int) + (q : Int)) = ((s.lost + q : Nat) : Int) := by rw [IntKind.wrap_i64]; omega
  generalize (~~~ s.bts >>> j).toNat = v at *
  generalize (~~~ s.bts).toNat = u at *
  have sr2 : Op.shift .shr .u64 (u : Int) .i64 (j : Int) = pure (.int .u64 (v : Int)) := by
    rw [shift_shr _ _ _ _ (by omega) (by show (j : Int) ≤ 64; omega), ← sr]
    rfl
  by_cases h64 : k ≤ 64
  · obtain rfl := hko.1 h64
    clear hko
    go_enter Try.func41, Try.ntmps41
    go_upto_region 1 with fail
    refine wp_region_still_tail 13 (by kernel_rfl) (by kernel_rfl) ?_
    simp only [List.take_succ_cons, List.take_zero, List.drop_succ_cons, List.drop_zero]
    iterate 5 still_step
    still_call ((CM.out _ H.out.drew).mono fun _ _ h => ⟨h.1, h.2.symm⟩)
    iterate 3 still_step
    still_call ((CO.out _).mono fun _ _ h => ⟨h.1, h.2.symm⟩)
    iterate 3 still_step
    refine wpStill_nil ?_
    change wpList _ _ _ _ _ w.drew
    go_upto_region 2 with fail
    have HM2 := HM.out
    go_wp2
    go_end0
    refine ⟨⟨_, rfl⟩, Lib.hid ?_, Lib.hid ?_⟩
    · refine SBlk.drew (SBlk.set (SBlk.set (SBlk.set (SBlk.set H.out 5 _ { s with lost := s.lost + q } (by simp)) 5 _ { s with lost := s.lost + q } (by simp)) 2 _ { s with lost := s.lost + q, bts := s.bts <<< o } (by simp)) 1 _ (s.moved n o) ?_)
      have := HQ.out
      simp [Sn.moved, this, h64]
    · exact (((((Only.set _ _ _ _).trans (Only.set _ _ _ _)).trans (Only.set _ _ _ _)).trans (Only.set _ _ _ _)).trans (Only.drew _ _))
  · obtain rfl := hko.2 h64
    clear hko
    obtain rfl : j = 0 := by omega
    have wk0 : IntKind.i64.wrap 0 = 0 := rfl
    have sr0 : Op.shift .shr .u64 (u : Int) .i64 0 = pure (.int .u64 (v : Int)) := sr2
    clear sr sr2 wk1 hj2
    go_enter Try.func41, Try.ntmps41
    go_upto_region 1 with fail
    refine wp_region_still_tail 13 (by kernel_rfl) (by kernel_rfl) ?_
    simp only [List.take_succ_cons, List.take_zero, List.drop_succ_cons, List.drop_zero]
    iterate 5 still_step
    still_call ((CM.out _ H.out.drew).mono fun _ _ h => ⟨h.1, h.2.symm⟩)
    iterate 3 still_step
    still_call ((CO.out _).mono fun _ _ h => ⟨h.1, h.2.symm⟩)
    iterate 3 still_step
    refine wpStill_nil ?_
    change wpList _ _ _ _ _ w.drew
    go_upto_region 2 with fail
    have HM2 := HM.out
    go_wp2
    go_end0
    refine ⟨⟨_, rfl⟩, Lib.hid ?_, Lib.hid ?_⟩
    · refine SBlk.drew (SBlk.set (SBlk.set (SBlk.set (SBlk.set H.out 5 _ { s with lost := s.lost + q } (by simp)) 5 _ { s with lost := s.lost + q + (k - 64) } (by simp; omega)) 2 _ { s with lost := s.lost + q + (k - 64), bts := s.bts <<< k } (by simp)) 1 _ (s.moved n k) ?_)
      have := HQ.out
      simp [Sn.moved, this]
    · exact (((((Only.set _ _ _ _).trans (Only.set _ _ _ _)).trans (Only.set _ _ _ _)).trans (Only.set _ _ _ _)).trans (Only.drew _ _))
end Go.Proofs.Ytopnceniihgkpaa
