/-
  Own text: layer 13's Mark and Trip: at any offset within a block. (Written by gen_spb.py.)
-/
import Derived.Test.YtopnceniihgkpaaStB
import Derived.Test.YtopnceniihgkpaaLiA
namespace Go.Proofs.Ytopnceniihgkpaa
open Go.RowKit

abbrev Sk.cells (s : Sk) : Array Value := #[.int .i64 s.lo, .int .i64 s.rt, .int .i64 s.va, .int .i64 s.ma, .int .i64 s.tr]
/-- A way's numbers, at any offset within a block. -/
def KLie (w : World) (b o : Nat) (s : Sk) : Prop := Lies w b o s.cells
section
variable {w : World} {b o : Nat} {s : Sk}
theorem KLie.lt (h : KLie w b o s) : b < w.heap.size := Lies.lt h
theorem KLie.cells (h : KLie w b o s) : w.cell? ⟨b, o, none⟩ = some (.int .i64 s.lo) ∧ w.cell? ⟨b, o + 1, none⟩ = some (.int .i64 s.rt) ∧ w.cell? ⟨b, o + 2, none⟩ = some (.int .i64 s.va) ∧ w.cell? ⟨b, o + 3, none⟩ = some (.int .i64 s.ma) ∧ w.cell? ⟨b, o + 4, none⟩ = some (.int .i64 s.tr) :=
  ⟨Lies.cell h 0 (by decide : 0 < 5), Lies.cell h 1 (by decide : 1 < 5), Lies.cell h 2 (by decide : 2 < 5), Lies.cell h 3 (by decide : 3 < 5), Lies.cell h 4 (by decide : 4 < 5)⟩
theorem KLie.frozen (h : KLie w b o s) (i : Nat) : w.frozen? ⟨b, o + i, none⟩ = false := Lies.frozen h (o + i)
theorem KLie.drewN (h : KLie w b o s) (j : Nat) : KLie (w.drewN j) b o s := Lies.drewN h j
theorem KLie.set0 (h : KLie w b o s) (n : Int) : KLie (w.setCell ⟨b, o, none⟩ (.int .i64 n)) b o ⟨n, s.rt, s.va, s.ma, s.tr⟩ := Lies.set0 h _
theorem KLie.set1 (h : KLie w b o s) (n : Int) : KLie (w.setCell ⟨b, o + 1, none⟩ (.int .i64 n)) b o ⟨s.lo, n, s.va, s.ma, s.tr⟩ := Lies.set h 1 _
theorem KLie.set2 (h : KLie w b o s) (n : Int) : KLie (w.setCell ⟨b, o + 2, none⟩ (.int .i64 n)) b o ⟨s.lo, s.rt, n, s.ma, s.tr⟩ := Lies.set h 2 _
theorem KLie.set3 (h : KLie w b o s) (n : Int) : KLie (w.setCell ⟨b, o + 3, none⟩ (.int .i64 n)) b o ⟨s.lo, s.rt, s.va, n, s.tr⟩ := Lies.set h 3 _
theorem KLie.set4 (h : KLie w b o s) (n : Int) : KLie (w.setCell ⟨b, o + 4, none⟩ (.int .i64 n)) b o ⟨s.lo, s.rt, s.va, s.ma, n⟩ := Lies.set h 4 _
end
theorem KPrt.set (b o : Nat) (w : World) (i : Nat) (v : Value) (hi : i < 5 := by decide) : Prt b o 5 w (w.setCell ⟨b, o + i, none⟩ v) := (Prt.refl _ _ _ _).set i hi v
theorem KPrt.set0 (b o : Nat) (w : World) (v : Value) : Prt b o 5 w (w.setCell ⟨b, o, none⟩ v) := (Prt.refl _ _ _ _).set0 (by decide) v
theorem KPrt.drew (b o : Nat) (w : World) : Prt b o 5 w w.drew := (Prt.refl _ _ _ _).drew
set_option maxRecDepth 100000 in
theorem kmark_any (lost : Bool) (b oo i : Nat) (s : Sk) (hf : s.fit i) (hi : i ≤ 1000000000) (w : World) (h : KLie w b oo s) :
    Calls Try.prog 25 #[.pointer (some ⟨b, oo, none⟩), .bool lost] w fun e w' => e = .returned (.tuple #[]) ∧ Hid (KLie w' b oo (s.mark lost)) ∧ Hid (Prt b oo 5 w w') := by
  have hm := Sk.mark_fit hf lost
  have l0 := hf.l0
  have l1 := hf.l1
  have m0 := hf.m0
  have m1 := hf.m1
  have hT : s.mark lost = ⟨toward s.lo (if lost = true then 65535 else 0) 16, s.rt, s.va, s.ma + 1, s.tr⟩ := rfl
  have CT := Lib.hid (toward_any s.lo (if lost = true then 65535 else 0) 16 (by omega) (by omega) l0 l1 (by split <;> omega) (by split <;> omega))
  have HF := Lib.hid ((h.set0 (toward s.lo (if lost = true then 65535 else 0) 16)).set3 (s.ma + 1))
  dsimp only at HF
  obtain ⟨c0, c1, c2, c3, c4⟩ := h.cells
  have f0 : w.frozen? ⟨b, oo, none⟩ = false := h.frozen 0
  have f3 := h.frozen 3
  rw [hT]
  clear hf h hm hT l0 l1
  generalize s.rt = rt at *
  generalize s.va = va at *
  generalize s.tr = tr at *
  generalize s.ma = ma at *
  generalize hto : (if lost = true then (65535 : Int) else 0) = to at *
  generalize toward s.lo to 16 = z at *
  generalize s.lo = lo at *
  cases lost
  all_goals
    simp only [Bool.false_eq_true, if_true, if_false] at hto
    subst hto
    go_enter Try.func25, Try.ntmps25
    go_wp2_with (first
      | (go_at_call 30; (with_reducible refine (CT.out _).mono ?_); rintro e w1 ⟨rfl, rfl⟩)
      | fail)
    all_goals go_end0
    all_goals exact ⟨rfl, HF, Lib.hid ((KPrt.set0 _ _ _ _).trans (KPrt.set _ _ _ 3 _))⟩
set_option maxRecDepth 100000 in
set_option maxHeartbeats 1000000 in
theorem ktrip_any (t : Int) (b oo i : Nat) (s : Sk) (hf : s.fit i) (hi : i ≤ 1000000000) (w : World) (h : KLie w b oo s) :
    Calls Try.prog 15 #[.pointer (some ⟨b, oo, none⟩), .int .i64 t] w fun e w' => e = .returned (.tuple #[]) ∧ Hid (KLie w' b oo (s.trip t)) ∧ Hid (Prt b oo 5 w w') := by
  have r0 := hf.r0
  have r1 := hf.r1
  have v0 := hf.v0
  have v1 := hf.v1
  have t0 := hf.t0
  have t1 := hf.t1
  obtain ⟨g0, g1⟩ := trip8_lo t
  have CC := Lib.hid (clamp_any t 0 2000)
  rw [clamp_trip t] at CC
  obtain ⟨q, hq⟩ : ∃ q, q = (if t < 0 then (0 : Int) else if 2000 < t then 2000 else t) := ⟨_, rfl⟩
  have h8 : trip8 t = 8 * q := by rw [hq]; rfl
  rw [← hq] at CC
  have hT : s.trip t = if s.tr = 0 then ⟨s.lo, trip8 t, trip8 t / 2, s.ma, s.tr + 1⟩ else ⟨s.lo, toward s.rt (trip8 t) 8, toward s.va (absI (trip8 t - s.rt)) 4, s.ma, s.tr + 1⟩ := rfl
  rw [h8] at g0 g1 hT
  have q0 : 0 ≤ q := by omega
  have q1 : q ≤ 2000 := by omega
  rw [hT]
  obtain ⟨c0, c1, c2, c3, c4⟩ := h.cells
  have f1 := h.frozen 1
  have f2 := h.frozen 2
  have f4 := h.frozen 4
  clear hT hq h8 hf
  by_cases h0 : s.tr = 0
  · rw [if_pos h0, h0, Int.zero_add]
    have HF := Lib.hid (((h.set1 (8 * q)).set2 (8 * q / 2)).set4 1)
    dsimp only at HF
    have d0 : (8 * q).tdiv 2 = 8 * q / 2 := Int.tdiv_eq_ediv_of_nonneg (by omega)
    clear h r0 r1 v0 v1
    generalize s.rt = rt at *
    generalize s.va = va at *
    generalize s.tr = tr at *
    generalize s.ma = ma at *
    generalize s.lo = lo at *
    go_enter Try.func15, Try.ntmps15
    go_wp2_with (first
      | (go_at_call 29; (with_reducible refine (CC.out _).mono ?_); rintro e w1 ⟨rfl, rfl⟩)
      | fail)
    all_goals go_end0
    all_goals exact ⟨rfl, HF, Lib.hid (((KPrt.set _ _ _ 1 _).trans (KPrt.set _ _ _ 2 _)).trans (KPrt.set _ _ _ 4 _))⟩
  · rw [if_neg h0]
    have ha := absI_lo g0 g1 r0 r1
    have CA := Lib.hid (fun w => abs_any (8 * q - s.rt) w (by omega) (by omega))
    rw [abs_trip (a := 8 * q - s.rt) (by omega) (by omega)] at CA
    have CV := Lib.hid (toward_any s.va (absI (8 * q - s.rt)) 4 (by omega) (by omega) v0 (by omega) ha.1 (by omega))
    have CR := Lib.hid (toward_any s.rt (8 * q) 8 (by omega) (by omega) r0 (by omega) g0 (by omega))
    have HF := Lib.hid ((((h.drewN 1).set2 (toward s.va (absI (8 * q - s.rt)) 4)).set1 (toward s.rt (8 * q) 8)).set4 (s.tr + 1))
    dsimp only at HF
    have wr : IntKind.i64.wrap (8 * q - s.rt) = 8 * q - s.rt := by rw [IntKind.wrap_i64]; omega
    clear h ha v0 v1
    generalize toward s.va (absI (8 * q - s.rt)) 4 = zv at *
    generalize toward s.rt (8 * q) 8 = zr at *
    generalize absI (8 * q - s.rt) = av at *
    generalize s.rt = rt at *
    generalize s.va = va at *
    generalize s.tr = tr at *
    generalize s.ma = ma at *
    generalize s.lo = lo at *
    go_enter Try.func15, Try.ntmps15
    go_upto_region 3 with (first
      | (go_at_call 29; (with_reducible refine (CC.out _).mono ?_); rintro e w1 ⟨rfl, rfl⟩)
      | fail)
    refine wp_region_still_tail 15 (by kernel_rfl) (by kernel_rfl) ?_
    simp only [List.take_succ_cons, List.take_zero, List.drop_succ_cons, List.drop_zero]
    iterate 11 still_step
    still_call ((CA.out _).mono fun _ _ h => ⟨h.1, h.2.symm⟩)
    still_call ((CV.out _).mono fun _ _ h => ⟨h.1, h.2.symm⟩)
    iterate 2 still_step
    refine wpStill_nil ?_
    change wpList _ _ _ _ _ w.drew
    go_wp2_with (first
      | (go_at_call 30; (with_reducible refine (CR.out _).mono ?_); rintro e w1 ⟨rfl, rfl⟩)
      | fail)
    all_goals go_end0
    all_goals exact ⟨rfl, HF, Lib.hid ((((KPrt.drew _ _ _).trans (KPrt.set _ _ _ 2 _)).trans (KPrt.set _ _ _ 1 _)).trans (KPrt.set _ _ _ 4 _))⟩
end Go.Proofs.Ytopnceniihgkpaa
