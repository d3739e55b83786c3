/-
  Own text: layer 8's bit, missing, move, Take: at any offset within a block. (Written by gen_spa.py.)
    layer 13's Mark and Trip: at any offset within a block. (Written by gen_spb.py.)
-/
import Derived.Test.YtldhlknmabpanaaGreatK02
import Derived.Test.YtldhlknmabpanaaGreatK03
namespace Go.Proofs.YtldhlknmabpanaaGreat
open Go.RowKit

/-- What came, at any offset within a block. -/
def SLie (w : World) (b o : Nat) (s : Sn) : Prop := Lies w b o s.cells
section
variable {w : World} {b o : Nat} {s : Sn}
theorem SLie.lt (h : SLie w b o s) : b < w.heap.size := Lies.lt h
theorem SLie.cell (h : SLie w b o s) (i : Nat) (hi : i < 6 := by decide) : w.cell? ⟨b, o + i, none⟩ = s.cells[i]? := Lies.cell h i hi
theorem SLie.frozen (h : SLie w b o s) (i : Nat) : w.frozen? ⟨b, o + i, none⟩ = false := Lies.frozen h (o + i)
theorem SLie.drew (h : SLie w b o s) : SLie w.drew b o s := h
theorem SLie.set (h : SLie w b o s) (i : Nat) (v : Value) (s' : Sn) (e : s.cells.setIfInBounds i v = s'.cells) : SLie (w.setCell ⟨b, o + i, none⟩ v) b o s' := (Lies.set h i v).eq e
/-- A store of a whole one. -/
abbrev setSnO (w : World) (b o : Nat) (s : Sn) : World := (((((w.setCell ⟨b, o, none⟩ (.bool s.any)).setCell ⟨b, o + 1, none⟩ (.int .u32 s.top)).setCell ⟨b, o + 2, none⟩ (.int .u64 s.bts.toNat)).setCell ⟨b, o + 3, none⟩ (.int .i64 s.came)).setCell ⟨b, o + 4, none⟩ (.int .i64 s.twice)).setCell ⟨b, o + 5, none⟩ (.int .i64 s.lost)
theorem SLie.write (h : SLie w b o s) (s' : Sn) : SLie (setSnO w b o s') b o s' := by
  have h := ((((((Lies.set0 h (.bool s'.any)).set 1 (.int .u32 s'.top)).set 2 (.int .u64 s'.bts.toNat)).set 3 (.int .i64 s'.came)).set 4 (.int .i64 s'.twice)).set 5 (.int .i64 s'.lost))
  simp only [Sn.cells, List.setIfInBounds_toArray, List.set_cons_zero, List.set_cons_succ] at h
  exact h
end
theorem SPrt.set (b o : Nat) (w : World) (i : Nat) (v : Value) (hi : i < 6 := by decide) : Prt b o 6 w (w.setCell ⟨b, o + i, none⟩ v) := (Prt.refl _ _ _ _).set i hi v
theorem SPrt.set0 (b o : Nat) (w : World) (v : Value) : Prt b o 6 w (w.setCell ⟨b, o, none⟩ v) := (Prt.refl _ _ _ _).set0 (by decide) v
theorem SPrt.drew (b o : Nat) (w : World) : Prt b o 6 w w.drew := (Prt.refl _ _ _ _).drew
theorem SPrt.write (b o : Nat) (w : World) (s : Sn) : Prt b o 6 w (setSnO w b o s) :=
  (((((SPrt.set0 b o w _).trans (SPrt.set _ _ _ 1 _)).trans (SPrt.set _ _ _ 2 _)).trans (SPrt.set _ _ _ 3 _)).trans (SPrt.set _ _ _ 4 _)).trans (SPrt.set _ _ _ 5 _)
theorem sbit_any (b oo : Nat) (s : Sn) (n : Nat) (hn : n < 4294967296) (ht : s.top < 4294967296) (w : World) (h : SLie w b oo s) :
    Calls Tryz.prog 122 #[.pointer (some ⟨b, oo, none⟩), .int .u32 n] w fun e w' => e = .returned (.int .u64 ((1#64 <<< dist s.top n).toNat : Int)) ∧ w = w' := by
  have c1 : w.cell? ⟨b, oo + 1, none⟩ = some (.int .u32 s.top) := h.cell 1
  have hd : dist s.top n < 4294967296 := Nat.mod_lt _ (by omega)
  have sh := one_shl (dist s.top n) hd
  have ew : ((s.top : Int) - n) % 4294967296 = (dist s.top n : Int) := by unfold dist; omega
  clear h
  generalize dist s.top n = d at *
  generalize (1#64 <<< d).toNat = v at *
  generalize s.top = t at *
  go_enter Tryz.func122, Tryz.ntmps122
  go_wp2
  go_ret
  exact ⟨rfl, rfl⟩
theorem smissing_any (b oo : Nat) (s : Sn) (w : World) (h : SLie w b oo s) :
    Calls Tryz.prog 138 #[.pointer (some ⟨b, oo, none⟩)] w fun e w' => e = .returned (.int .u64 (s.gone.toNat : Int)) ∧ w = w' := by
  have c0 : w.cell? ⟨b, oo, none⟩ = some (.bool s.any) := h.cell 0
  have c2 : w.cell? ⟨b, oo + 2, none⟩ = some (.int .u64 s.bts.toNat) := h.cell 2
  have hx := not64 s.bts
  clear h
  cases ha : s.any
  · have hg : s.gone = 0#64 := by unfold Sn.gone; rw [ha]; rfl
    rw [hg]
    rw [ha] at c0
    go_enter Tryz.func138, Tryz.ntmps138
    go_wp2
    go_ret
    exact ⟨rfl, rfl⟩
  · have hg : s.gone = ~~~ s.bts := by unfold Sn.gone; rw [ha]; rfl
    rw [hg]
    rw [ha] at c0
    generalize (~~~ s.bts).toNat = v at *
    generalize s.bts.toNat = u at *
    go_enter Tryz.func138, Tryz.ntmps138
    go_wp2
    go_ret
    exact ⟨rfl, rfl⟩
set_option maxRecDepth 100000 in
theorem smove_any (b oo : Nat) (s : Sn) (n k : Nat) (hs : s.any = true) (hn : n < 4294967296) (ht : s.top < 4294967296) (hl : s.lost ≤ 4294967296 * 1000000) (hk : k < 2147483648) (hm : ((s.top : Int) + k) % 4294967296 = n) (w : World) (h : SLie w b oo s) :
    Calls Tryz.prog 121 #[.pointer (some ⟨b, oo, none⟩), .int .i64 k] w fun e w' => (∃ v, e = .returned v) ∧ Hid (SLie w' b oo (s.moved n k)) ∧ Hid (Prt b oo 6 w w') := by
  obtain ⟨o, ho⟩ : ∃ o, o = min k 64 := ⟨_, rfl⟩
  have hp := outs_pop s.bts k o ho
  have hpl := outs_le s.bts k
  have hg : s.gone = ~~~ s.bts := by unfold Sn.gone; rw [hs]; rfl
  have sr := shr64 (~~~ s.bts) (64 - o)
  have sl := shl64 s.bts k .i64 (by omega)
  have c5 : w.cell? ⟨b, oo + 5, none⟩ = some (.int .i64 s.lost) := h.cell 5
  have f5 := h.frozen 5
  have c1 : w.cell? ⟨b, oo + 1, none⟩ = some (.int .u32 s.top) := h.cell 1
  have f1 := h.frozen 1
  have c2 : w.cell? ⟨b, oo + 2, none⟩ = some (.int .u64 s.bts.toNat) := h.cell 2
  have f2 := h.frozen 2
  have CM := Lib.hid (smissing_any b oo s)
  rw [hg] at CM
  have CO := Lib.hid (ones_any ((~~~ s.bts) >>> (64 - o)).toNat (BitVec.isLt _))
  rw [hp] at CO
  generalize hq : outs s.bts k = q at *
  obtain ⟨j, hj⟩ : ∃ j, j = 64 - o := ⟨_, rfl⟩
  rw [← hj] at sr CO
  have hj2 : (64 : Int) - (o : Int) = j := by omega
  have hjl : j ≤ 64 := by omega
  have HM := Lib.hid hm
  have hko : (k ≤ 64 → o = k) ∧ (¬ k ≤ 64 → o = 64) := by omega
  have sw : IntKind.u64.wrap ((s.bts.toNat : Int) * 2 ^ k) = ((s.bts <<< k).toNat : Int) := by
    rw [IntKind.wrap_u64, BitVec.toNat_shiftLeft, Nat.shiftLeft_eq]
    simp
  have HQ := Lib.hid hq
  clear hp hg hj ho hm hq
  have H := Lib.hid h
  clear h
  have wk1 : IntKind.i64.wrap (j : Int) = j := IntWalk.i64_in _ (by omega)
  have wk2 : IntKind.i64.wrap ((s.lost : Int) + (q : Int)) = ((s.lost + q : Nat) : Int) := by rw [IntKind.wrap_i64]; omega
  generalize (~~~ s.bts >>> j).toNat = v at *
  generalize (~~~ s.bts).toNat = u at *
  have sr2 : Op.shift .shr .u64 (u : Int) .i64 (j : Int) = pure (.int .u64 (v : Int)) := by
    rw [shift_shr _ _ _ _ (by omega) (by show (j : Int) ≤ 64; omega), ← sr]
    rfl
  by_cases h64 : k ≤ 64
  · obtain rfl := hko.1 h64
    clear hko
    go_enter Tryz.func121, Tryz.ntmps121
    go_upto_region 1 with fail
    refine wp_region_still_tail 13 (by kernel_rfl) (by kernel_rfl) ?_
    simp only [List.take_succ_cons, List.take_zero, List.drop_succ_cons, List.drop_zero]
    iterate 5 still_step
    still_call ((CM.out _ H.out.drew).mono fun _ _ h => ⟨h.1, h.2.symm⟩)
    iterate 3 still_step
    still_call ((CO.out _).mono fun _ _ h => ⟨h.1, h.2.symm⟩)
    iterate 3 still_step
    refine wpStill_nil ?_
    change wpList _ _ _ _ _ w.drew
    go_upto_region 2 with fail
    have HM2 := HM.out
    go_wp2
    go_end0
    refine ⟨⟨_, rfl⟩, Lib.hid ?_, Lib.hid ?_⟩
    · refine SLie.drew (SLie.set (SLie.set (SLie.set (SLie.set H.out 5 _ { s with lost := s.lost + q } (by simp)) 5 _ { s with lost := s.lost + q } (by simp)) 2 _ { s with lost := s.lost + q, bts := s.bts <<< o } (by simp)) 1 _ (s.moved n o) ?_)
      have := HQ.out
      simp [Sn.moved, this, h64]
    · exact (((((SPrt.set _ _ _ _ _).trans (SPrt.set _ _ _ _ _)).trans (SPrt.set _ _ _ _ _)).trans (SPrt.set _ _ _ _ _)).trans (SPrt.drew _ _ _))
  · obtain rfl := hko.2 h64
    clear hko
    obtain rfl : j = 0 := by omega
    have wk0 : IntKind.i64.wrap 0 = 0 := rfl
    have sr0 : Op.shift .shr .u64 (u : Int) .i64 0 = pure (.int .u64 (v : Int)) := sr2
    clear sr sr2 wk1 hj2
    go_enter Tryz.func121, Tryz.ntmps121
    go_upto_region 1 with fail
    refine wp_region_still_tail 13 (by kernel_rfl) (by kernel_rfl) ?_
    simp only [List.take_succ_cons, List.take_zero, List.drop_succ_cons, List.drop_zero]
    iterate 5 still_step
    still_call ((CM.out _ H.out.drew).mono fun _ _ h => ⟨h.1, h.2.symm⟩)
    iterate 3 still_step
    still_call ((CO.out _).mono fun _ _ h => ⟨h.1, h.2.symm⟩)
    iterate 3 still_step
    refine wpStill_nil ?_
    change wpList _ _ _ _ _ w.drew
    go_upto_region 2 with fail
    have HM2 := HM.out
    go_wp2
    go_end0
    refine ⟨⟨_, rfl⟩, Lib.hid ?_, Lib.hid ?_⟩
    · refine SLie.drew (SLie.set (SLie.set (SLie.set (SLie.set H.out 5 _ { s with lost := s.lost + q } (by simp)) 5 _ { s with lost := s.lost + q + (k - 64) } (by simp; omega)) 2 _ { s with lost := s.lost + q + (k - 64), bts := s.bts <<< k } (by simp)) 1 _ (s.moved n k) ?_)
      have := HQ.out
      simp [Sn.moved, this]
    · exact (((((SPrt.set _ _ _ _ _).trans (SPrt.set _ _ _ _ _)).trans (SPrt.set _ _ _ _ _)).trans (SPrt.set _ _ _ _ _)).trans (SPrt.drew _ _ _))
set_option maxRecDepth 100000 in
theorem stake_first (b oo : Nat) (s : Sn) (n : Nat) (hs : s.any = false) (w : World) (h : SLie w b oo s) :
    Calls Tryz.prog 98 #[.pointer (some ⟨b, oo, none⟩), .int .u32 n] w fun e w' => e = .returned (.int .i64 0) ∧ Hid (SLie w' b oo ⟨true, n, 1#64, 1, 0, 0⟩) ∧ Hid (Prt b oo 6 w w') := by
  have c0 : w.cell? ⟨b, oo, none⟩ = some (.bool s.any) := h.cell 0
  rw [hs] at c0
  have c1 : w.cell? ⟨b, oo + 1, none⟩ = some (.int .u32 s.top) := h.cell 1
  have c2 : w.cell? ⟨b, oo + 2, none⟩ = some (.int .u64 s.bts.toNat) := h.cell 2
  have c3 : w.cell? ⟨b, oo + 3, none⟩ = some (.int .i64 s.came) := h.cell 3
  have c4 : w.cell? ⟨b, oo + 4, none⟩ = some (.int .i64 s.twice) := h.cell 4
  have c5 : w.cell? ⟨b, oo + 5, none⟩ = some (.int .i64 s.lost) := h.cell 5
  have f0 : w.frozen? ⟨b, oo, none⟩ = false := h.frozen 0
  have f1 := h.frozen 1
  have f2 := h.frozen 2
  have f3 := h.frozen 3
  have f4 := h.frozen 4
  have f5 := h.frozen 5
  have H := Lib.hid h
  clear h
  go_enter Tryz.func98, Tryz.ntmps98
  go_wp2
  go_ret
  refine ⟨rfl, Lib.hid ?_, Lib.hid ?_⟩
  · exact H.out.write ⟨true, n, 1#64, 1, 0, 0⟩
  · exact SPrt.write b oo w ⟨true, n, 1#64, 1, 0, 0⟩
set_option maxRecDepth 100000 in
theorem stake_old (b oo : Nat) (s : Sn) (n : Nat) (hs : s.any = true) (hn : n < 4294967296) (ht : s.top < 4294967296) (ho : beh n s.top ≤ -64) (w : World) (h : SLie w b oo s) :
    Calls Tryz.prog 98 #[.pointer (some ⟨b, oo, none⟩), .int .u32 n] w fun e w' => e = .returned (.int .i64 90) ∧ w = w' := by
  have c0 : w.cell? ⟨b, oo, none⟩ = some (.bool s.any) := h.cell 0
  rw [hs] at c0
  have c1 : w.cell? ⟨b, oo + 1, none⟩ = some (.int .u32 s.top) := h.cell 1
  have H := Lib.hid h
  have CB := Lib.hid (sbehind_any n s.top hn ht)
  have CI := Lib.hid (sbit_any b oo s n hn ht)
  have bi := bit_is (dist s.top n)
  have hd : decide (64 ≤ dist s.top n) = true := by
    have := dist_old hn ht (by omega)
    exact decide_eq_true (by omega)
  rw [hd] at bi
  clear h hd
  generalize (1#64 <<< dist s.top n).toNat = v at *
  generalize beh n s.top = by_ at *
  go_enter Tryz.func98, Tryz.ntmps98
  go_wp2_with (first
    | (go_at_call 120; refine (CB.out _).mono ?_; rintro e w1 ⟨rfl, rfl⟩)
    | (go_at_call 122; refine (CI.out _ H.out).mono ?_; rintro e w2 ⟨rfl, rfl⟩))
  go_ret
  exact ⟨rfl, rfl⟩
set_option maxRecDepth 100000 in
theorem stake_twice (b oo : Nat) (s : Sn) (n : Nat) (hs : s.any = true) (hn : n < 4294967296) (ht : s.top < 4294967296) (ho : -64 < beh n s.top) (hy : beh n s.top ≤ 0) (hb : s.bts.getLsbD (dist s.top n) = true) (hl : s.twice ≤ 1000000) (w : World) (h : SLie w b oo s) :
    Calls Tryz.prog 98 #[.pointer (some ⟨b, oo, none⟩), .int .u32 n] w fun e w' => e = .returned (.int .i64 171) ∧ Hid (SLie w' b oo { s with twice := s.twice + 1 }) ∧ Hid (Prt b oo 6 w w') := by
  have c0 : w.cell? ⟨b, oo, none⟩ = some (.bool s.any) := h.cell 0
  rw [hs] at c0
  have c1 : w.cell? ⟨b, oo + 1, none⟩ = some (.int .u32 s.top) := h.cell 1
  have c2 : w.cell? ⟨b, oo + 2, none⟩ = some (.int .u64 s.bts.toNat) := h.cell 2
  have c4 : w.cell? ⟨b, oo + 4, none⟩ = some (.int .i64 s.twice) := h.cell 4
  have f4 := h.frozen 4
  have H := Lib.hid h
  have CB := Lib.hid (sbehind_any n s.top hn ht)
  have CI := Lib.hid (sbit_any b oo s n hn ht)
  have hd0 : dist s.top n < 64 := by have := dist_old hn ht hy; omega
  have bi := bit_is (dist s.top n)
  have hd : decide (64 ≤ dist s.top n) = false := decide_eq_false (by omega)
  rw [hd] at bi
  have ab := and_bit s.bts (dist s.top n) hd0
  rw [hb] at ab
  clear h hd hd0 hb
  have hy2 : ¬ 0 < beh n s.top := by omega
  generalize (1#64 <<< dist s.top n).toNat = v at *
  generalize beh n s.top = by_ at *
  go_enter Tryz.func98, Tryz.ntmps98
  go_wp2_with (first
    | (go_at_call 120; refine (CB.out _).mono ?_; rintro e w1 ⟨rfl, rfl⟩)
    | (go_at_call 122; refine (CI.out _ H.out).mono ?_; rintro e w2 ⟨rfl, rfl⟩))
  go_ret
  exact ⟨rfl, Lib.hid (SLie.set H.out 4 _ _ (by simp)), Lib.hid (SPrt.set _ _ _ _ _)⟩
set_option maxRecDepth 100000 in
theorem stake_mid (b oo : Nat) (s : Sn) (n : Nat) (hs : s.any = true) (hn : n < 4294967296) (ht : s.top < 4294967296) (ho : -64 < beh n s.top) (hy : beh n s.top ≤ 0) (hb : s.bts.getLsbD (dist s.top n) = false) (hl : s.came ≤ 1000000) (w : World) (h : SLie w b oo s) :
    Calls Tryz.prog 98 #[.pointer (some ⟨b, oo, none⟩), .int .u32 n] w fun e w' => e = .returned (.int .i64 0) ∧ Hid (SLie w' b oo { s with bts := s.bts ||| (1#64 <<< dist s.top n), came := s.came + 1 }) ∧ Hid (Prt b oo 6 w w') := by
  have c0 : w.cell? ⟨b, oo, none⟩ = some (.bool s.any) := h.cell 0
  rw [hs] at c0
  have c1 : w.cell? ⟨b, oo + 1, none⟩ = some (.int .u32 s.top) := h.cell 1
  have c2 : w.cell? ⟨b, oo + 2, none⟩ = some (.int .u64 s.bts.toNat) := h.cell 2
  have c3 : w.cell? ⟨b, oo + 3, none⟩ = some (.int .i64 s.came) := h.cell 3
  have f2 := h.frozen 2
  have f3 := h.frozen 3
  have H := Lib.hid h
  have CB := Lib.hid (sbehind_any n s.top hn ht)
  have CI := Lib.hid (sbit_any b oo s n hn ht)
  have hd0 : dist s.top n < 64 := by have := dist_old hn ht hy; omega
  have bi := bit_is (dist s.top n)
  have hd : decide (64 ≤ dist s.top n) = false := decide_eq_false (by omega)
  rw [hd] at bi
  have ab := and_bit s.bts (dist s.top n) hd0
  rw [hb] at ab
  have ob := orbv s.bts (1#64 <<< dist s.top n)
  clear h hd hd0 hb
  have hy2 : ¬ 0 < beh n s.top := by omega
  have HV : Hid (s.bts ||| (1#64 <<< dist s.top n) = s.bts ||| (1#64 <<< dist s.top n)) := Lib.hid rfl
  generalize hB : s.bts ||| (1#64 <<< dist s.top n) = B at *
  generalize (1#64 <<< dist s.top n).toNat = v at *
  generalize beh n s.top = by_ at *
  clear HV hB
  go_enter Tryz.func98, Tryz.ntmps98
  go_wp2_with (first
    | (go_at_call 120; refine (CB.out _).mono ?_; rintro e w1 ⟨rfl, rfl⟩)
    | (go_at_call 122; refine (CI.out _ H.out).mono ?_; rintro e w2 ⟨rfl, rfl⟩))
  go_ret
  exact ⟨rfl, Lib.hid (SLie.set (SLie.set H.out 2 _ { s with bts := B } (by simp)) 3 _ _ (by simp)), Lib.hid ((SPrt.set _ _ _ _ _).trans (SPrt.set _ _ _ _ _))⟩
set_option maxRecDepth 100000 in
theorem stake_new (b oo : Nat) (s : Sn) (n : Nat) (hs : s.any = true) (hn : n < 4294967296) (ht : s.top < 4294967296) (ho : 0 < beh n s.top) (hl : s.came ≤ 1000000) (hl2 : s.lost ≤ 4294967296 * 1000000) (w : World) (h : SLie w b oo s) :
    Calls Tryz.prog 98 #[.pointer (some ⟨b, oo, none⟩), .int .u32 n] w fun e w' => e = .returned (.int .i64 0) ∧ Hid (SLie w' b oo { s.moved n (beh n s.top).toNat with bts := (s.bts <<< (beh n s.top).toNat) ||| 1#64, came := s.came + 1 }) ∧ Hid (Prt b oo 6 w w') := by
  have c0 : w.cell? ⟨b, oo, none⟩ = some (.bool s.any) := h.cell 0
  rw [hs] at c0
  have c1 : w.cell? ⟨b, oo + 1, none⟩ = some (.int .u32 s.top) := h.cell 1
  have H := Lib.hid h
  have cb := sbehind_any n s.top hn ht
  have hb := beh_lo hn ht
  have hm := top_moved hn ht
  obtain ⟨k, hk⟩ : ∃ k : Nat, beh n s.top = k := ⟨(beh n s.top).toNat, by omega⟩
  rw [hk] at ho hb hm cb
  rw [hk, Int.toNat_natCast]
  have CB := Lib.hid cb
  have CM := Lib.hid (smove_any b oo s n k hs hn ht hl2 (by omega) hm)
  have CI := Lib.hid (sbit_any b oo (s.moved n k) n hn (show n < 4294967296 from hn))
  have CX : Hid (∀ w1, SLie w1 b oo (s.moved n k) → w1.cell? ⟨b, oo + 2, none⟩ = some (.int .u64 (s.bts <<< k).toNat) ∧ w1.cell? ⟨b, oo + 3, none⟩ = some (.int .i64 s.came) ∧ w1.frozen? ⟨b, oo + 2, none⟩ = false ∧ w1.frozen? ⟨b, oo + 3, none⟩ = false) := Lib.hid (fun w1 h1 => ⟨h1.cell 2, h1.cell 3, h1.frozen 2, h1.frozen 3⟩)
  have e1 : (1#64 <<< dist (s.moved n k).top n).toNat = 1 := by
    rw [show dist (s.moved n k).top n = 0 from dist_self n]
    rfl
  rw [e1] at CI
  have ab : (bits .and .u64 ((s.bts <<< k).toNat : Int) 1 != 0) = false := by
    have h0 := and_bit (s.bts <<< k) 0 (by omega)
    rw [show ((1#64 <<< 0).toNat : Int) = 1 from rfl] at h0
    rw [h0, BitVec.getLsbD_shiftLeft]
    have : 0 < k := by omega
    simp [this]
  have ob : bits .or .u64 ((s.bts <<< k).toNat : Int) 1 = ((s.bts <<< k ||| 1#64).toNat : Int) := orbv (s.bts <<< k) 1#64
  clear h cb hm hk e1 hb
  generalize hB : s.bts <<< k ||| 1#64 = B at *
  clear hB
  generalize (s.bts <<< k).toNat = x at *
  go_enter Tryz.func98, Tryz.ntmps98
  go_wp2_with (first
    | (go_at_call 120; refine (CB.out _).mono ?_; rintro e w1 ⟨rfl, rfl⟩)
    | (go_at_call 121; refine (CM.out _ H.out).mono ?_; rintro e w2 ⟨⟨v, rfl⟩, HM, HO⟩; obtain ⟨m2, m3, mf2, mf3⟩ := CX.out _ HM.out)
    | (go_at_call 122; refine (CI.out _ HM.out).mono ?_; rintro e w3 ⟨rfl, rfl⟩))
  go_ret
  exact ⟨rfl, Lib.hid (SLie.set (SLie.set HM.out 2 _ { s.moved n k with bts := B } (by simp)) 3 _ _ (by simp [Sn.moved])), Lib.hid ((HO.out.trans (SPrt.set _ _ _ _ _)).trans (SPrt.set _ _ _ _ _))⟩
set_option maxRecDepth 100000 in
theorem stake_any (b oo : Nat) (s : Sn) (n k : Nat) (hn : n < 4294967296) (hf : s.fit k) (hk : k ≤ 1000000) (w : World) (h : SLie w b oo s) :
    Calls Tryz.prog 98 #[.pointer (some ⟨b, oo, none⟩), .int .u32 n] w fun e w' => e = .returned (.int .i64 (s.take n).2) ∧ Hid (SLie w' b oo (s.take n).1) ∧ Hid (Prt b oo 6 w w') := by
  have ht := hf.top
  have h1 := hf.came
  have h2 := hf.twice
  have h3 := hf.lost
  cases hs : s.any
  · have e : s.take n = (⟨true, n, 1#64, 1, 0, 0⟩, 0) := by unfold Sn.take; rw [hs]; rfl
    rw [e]
    exact stake_first b oo s n hs w h
  · by_cases ho : beh n s.top ≤ -64
    · have e : s.take n = (s, 90) := by unfold Sn.take; simp [hs, ho]
      rw [e]
      refine (stake_old b oo s n hs hn ht ho w h).mono ?_
      rintro e w' ⟨rfl, rfl⟩
      exact ⟨rfl, Lib.hid h, Lib.hid (Prt.refl _ _ _ _)⟩
    · by_cases hy : 0 < beh n s.top
      · have e : s.take n = ({ s.moved n (beh n s.top).toNat with bts := (s.bts <<< (beh n s.top).toNat) ||| 1#64, came := s.came + 1 }, 0) := by unfold Sn.take; simp [hs, ho, hy]
        rw [e]
        exact stake_new b oo s n hs hn ht hy (by omega) (by omega) w h
      · cases hb : s.bts.getLsbD (dist s.top n)
        · have e : s.take n = ({ s with bts := s.bts ||| (1#64 <<< dist s.top n), came := s.came + 1 }, 0) := by unfold Sn.take; simp [hs, ho, hy, hb]
          rw [e]
          exact stake_mid b oo s n hs hn ht (by omega) (by omega) hb (by omega) w h
        · have e : s.take n = ({ s with twice := s.twice + 1 }, 171) := by unfold Sn.take; simp [hs, ho, hy, hb]
          rw [e]
          exact stake_twice b oo s n hs hn ht (by omega) (by omega) hb (by omega) w h
end Go.Proofs.YtldhlknmabpanaaGreat
namespace Go.Proofs.YtldhlknmabpanaaGreat
open Go.RowKit

abbrev Sk.cells (s : Sk) : Array Value := #[.int .i64 s.lo, .int .i64 s.rt, .int .i64 s.va, .int .i64 s.ma, .int .i64 s.tr]
/-- A way's numbers, at any offset within a block. -/
def KLie (w : World) (b o : Nat) (s : Sk) : Prop := Lies w b o s.cells
section
variable {w : World} {b o : Nat} {s : Sk}
theorem KLie.lt (h : KLie w b o s) : b < w.heap.size := Lies.lt h
theorem KLie.cells (h : KLie w b o s) : w.cell? ⟨b, o, none⟩ = some (.int .i64 s.lo) ∧ w.cell? ⟨b, o + 1, none⟩ = some (.int .i64 s.rt) ∧ w.cell? ⟨b, o + 2, none⟩ = some (.int .i64 s.va) ∧ w.cell? ⟨b, o + 3, none⟩ = some (.int .i64 s.ma) ∧ w.cell? ⟨b, o + 4, none⟩ = some (.int .i64 s.tr) :=
  ⟨Lies.cell h 0 (by decide : 0 < 5), Lies.cell h 1 (by decide : 1 < 5), Lies.cell h 2 (by decide : 2 < 5), Lies.cell h 3 (by decide : 3 < 5), Lies.cell h 4 (by decide : 4 < 5)⟩
theorem KLie.frozen (h : KLie w b o s) (i : Nat) : w.frozen? ⟨b, o + i, none⟩ = false := Lies.frozen h (o + i)
theorem KLie.drewN (h : KLie w b o s) (j : Nat) : KLie (w.drewN j) b o s := Lies.drewN h j
theorem KLie.set0 (h : KLie w b o s) (n : Int) : KLie (w.setCell ⟨b, o, none⟩ (.int .i64 n)) b o ⟨n, s.rt, s.va, s.ma, s.tr⟩ := Lies.set0 h _
theorem KLie.set1 (h : KLie w b o s) (n : Int) : KLie (w.setCell ⟨b, o + 1, none⟩ (.int .i64 n)) b o ⟨s.lo, n, s.va, s.ma, s.tr⟩ := Lies.set h 1 _
theorem KLie.set2 (h : KLie w b o s) (n : Int) : KLie (w.setCell ⟨b, o + 2, none⟩ (.int .i64 n)) b o ⟨s.lo, s.rt, n, s.ma, s.tr⟩ := Lies.set h 2 _
theorem KLie.set3 (h : KLie w b o s) (n : Int) : KLie (w.setCell ⟨b, o + 3, none⟩ (.int .i64 n)) b o ⟨s.lo, s.rt, s.va, n, s.tr⟩ := Lies.set h 3 _
theorem KLie.set4 (h : KLie w b o s) (n : Int) : KLie (w.setCell ⟨b, o + 4, none⟩ (.int .i64 n)) b o ⟨s.lo, s.rt, s.va, s.ma, n⟩ := Lies.set h 4 _
end
theorem KPrt.set (b o : Nat) (w : World) (i : Nat) (v : Value) (hi : i < 5 := by decide) : Prt b o 5 w (w.setCell ⟨b, o + i, none⟩ v) := (Prt.refl _ _ _ _).set i hi v
theorem KPrt.set0 (b o : Nat) (w : World) (v : Value) : Prt b o 5 w (w.setCell ⟨b, o, none⟩ v) := (Prt.refl _ _ _ _).set0 (by decide) v
theorem KPrt.drew (b o : Nat) (w : World) : Prt b o 5 w w.drew := (Prt.refl _ _ _ _).drew
set_option maxRecDepth 100000 in
theorem kmark_any (lost : Bool) (b oo i : Nat) (s : Sk) (hf : s.fit i) (hi : i ≤ 1000000000) (w : World) (h : KLie w b oo s) :
    Calls Tryz.prog 100 #[.pointer (some ⟨b, oo, none⟩), .bool lost] w fun e w' => e = .returned (.tuple #[]) ∧ Hid (KLie w' b oo (s.mark lost)) ∧ Hid (Prt b oo 5 w w') := by
  have hm := Sk.mark_fit hf lost
  have l0 := hf.l0
  have l1 := hf.l1
  have m0 := hf.m0
  have m1 := hf.m1
  have hT : s.mark lost = ⟨toward s.lo (if lost = true then 65535 else 0) 16, s.rt, s.va, s.ma + 1, s.tr⟩ := rfl
  have CT := Lib.hid (toward_any s.lo (if lost = true then 65535 else 0) 16 (by omega) (by omega) l0 l1 (by split <;> omega) (by split <;> omega))
  have HF := Lib.hid ((h.set0 (toward s.lo (if lost = true then 65535 else 0) 16)).set3 (s.ma + 1))
  dsimp only at HF
  obtain ⟨c0, c1, c2, c3, c4⟩ := h.cells
  have f0 : w.frozen? ⟨b, oo, none⟩ = false := h.frozen 0
  have f3 := h.frozen 3
  rw [hT]
  clear hf h hm hT l0 l1
  generalize s.rt = rt at *
  generalize s.va = va at *
  generalize s.tr = tr at *
  generalize s.ma = ma at *
  generalize hto : (if lost = true then (65535 : Int) else 0) = to at *
  generalize toward s.lo to 16 = z at *
  generalize s.lo = lo at *
  cases lost
  all_goals
    simp only [Bool.false_eq_true, if_true, if_false] at hto
    subst hto
    go_enter Tryz.func100, Tryz.ntmps100
    go_wp2_with (first
      | (go_at_call 104; (with_reducible refine (CT.out _).mono ?_); rintro e w1 ⟨rfl, rfl⟩)
      | fail)
    all_goals go_end0
    all_goals exact ⟨rfl, HF, Lib.hid ((KPrt.set0 _ _ _ _).trans (KPrt.set _ _ _ 3 _))⟩
set_option maxRecDepth 100000 in
set_option maxHeartbeats 1000000 in
theorem ktrip_any (t : Int) (b oo i : Nat) (s : Sk) (hf : s.fit i) (hi : i ≤ 1000000000) (w : World) (h : KLie w b oo s) :
    Calls Tryz.prog 75 #[.pointer (some ⟨b, oo, none⟩), .int .i64 t] w fun e w' => e = .returned (.tuple #[]) ∧ Hid (KLie w' b oo (s.trip t)) ∧ Hid (Prt b oo 5 w w') := by
  have r0 := hf.r0
  have r1 := hf.r1
  have v0 := hf.v0
  have v1 := hf.v1
  have t0 := hf.t0
  have t1 := hf.t1
  obtain ⟨g0, g1⟩ := trip8_lo t
  have CC := Lib.hid (clamp_any t 0 2000)
  rw [clamp_trip t] at CC
  obtain ⟨q, hq⟩ : ∃ q, q = (if t < 0 then (0 : Int) else if 2000 < t then 2000 else t) := ⟨_, rfl⟩
  have h8 : trip8 t = 8 * q := by rw [hq]; rfl
  rw [← hq] at CC
  have hT : s.trip t = if s.tr = 0 then ⟨s.lo, trip8 t, trip8 t / 2, s.ma, s.tr + 1⟩ else ⟨s.lo, toward s.rt (trip8 t) 8, toward s.va (absI (trip8 t - s.rt)) 4, s.ma, s.tr + 1⟩ := rfl
  rw [h8] at g0 g1 hT
  have q0 : 0 ≤ q := by omega
  have q1 : q ≤ 2000 := by omega
  rw [hT]
  obtain ⟨c0, c1, c2, c3, c4⟩ := h.cells
  have f1 := h.frozen 1
  have f2 := h.frozen 2
  have f4 := h.frozen 4
  clear hT hq h8 hf
  by_cases h0 : s.tr = 0
  · rw [if_pos h0, h0, Int.zero_add]
    have HF := Lib.hid (((h.set1 (8 * q)).set2 (8 * q / 2)).set4 1)
    dsimp only at HF
    have d0 : (8 * q).tdiv 2 = 8 * q / 2 := Int.tdiv_eq_ediv_of_nonneg (by omega)
    clear h r0 r1 v0 v1
    generalize s.rt = rt at *
    generalize s.va = va at *
    generalize s.tr = tr at *
    generalize s.ma = ma at *
    generalize s.lo = lo at *
    go_enter Tryz.func75, Tryz.ntmps75
    go_wp2_with (first
      | (go_at_call 103; (with_reducible refine (CC.out _).mono ?_); rintro e w1 ⟨rfl, rfl⟩)
      | fail)
    all_goals go_end0
    all_goals exact ⟨rfl, HF, Lib.hid (((KPrt.set _ _ _ 1 _).trans (KPrt.set _ _ _ 2 _)).trans (KPrt.set _ _ _ 4 _))⟩
  · rw [if_neg h0]
    have ha := absI_lo g0 g1 r0 r1
    have CA := Lib.hid (fun w => abs_any (8 * q - s.rt) w (by omega) (by omega))
    rw [abs_trip (a := 8 * q - s.rt) (by omega) (by omega)] at CA
    have CV := Lib.hid (toward_any s.va (absI (8 * q - s.rt)) 4 (by omega) (by omega) v0 (by omega) ha.1 (by omega))
    have CR := Lib.hid (toward_any s.rt (8 * q) 8 (by omega) (by omega) r0 (by omega) g0 (by omega))
    have HF := Lib.hid ((((h.drewN 1).set2 (toward s.va (absI (8 * q - s.rt)) 4)).set1 (toward s.rt (8 * q) 8)).set4 (s.tr + 1))
    dsimp only at HF
    have wr : IntKind.i64.wrap (8 * q - s.rt) = 8 * q - s.rt := by rw [IntKind.wrap_i64]; omega
    clear h ha v0 v1
    generalize toward s.va (absI (8 * q - s.rt)) 4 = zv at *
    generalize toward s.rt (8 * q) 8 = zr at *
    generalize absI (8 * q - s.rt) = av at *
    generalize s.rt = rt at *
    generalize s.va = va at *
    generalize s.tr = tr at *
    generalize s.ma = ma at *
    generalize s.lo = lo at *
    go_enter Tryz.func75, Tryz.ntmps75
    go_upto_region 3 with (first
      | (go_at_call 103; (with_reducible refine (CC.out _).mono ?_); rintro e w1 ⟨rfl, rfl⟩)
      | fail)
    refine wp_region_still_tail 15 (by kernel_rfl) (by kernel_rfl) ?_
    simp only [List.take_succ_cons, List.take_zero, List.drop_succ_cons, List.drop_zero]
    iterate 11 still_step
    still_call ((CA.out _).mono fun _ _ h => ⟨h.1, h.2.symm⟩)
    still_call ((CV.out _).mono fun _ _ h => ⟨h.1, h.2.symm⟩)
    iterate 2 still_step
    refine wpStill_nil ?_
    change wpList _ _ _ _ _ w.drew
    go_wp2_with (first
      | (go_at_call 104; (with_reducible refine (CR.out _).mono ?_); rintro e w1 ⟨rfl, rfl⟩)
      | fail)
    all_goals go_end0
    all_goals exact ⟨rfl, HF, Lib.hid ((((KPrt.drew _ _ _).trans (KPrt.set _ _ _ 2 _)).trans (KPrt.set _ _ _ 1 _)).trans (KPrt.set _ _ _ 4 _))⟩
end Go.Proofs.YtldhlknmabpanaaGreat
