/-
  Own text: a bucket in its block; the code's calls alone (New, Tick, May, Take, Change), walked. (Written by gen_paa.py out of XPcA, XPcB, XPcC: they hold the document's, too.)
-/
import Derived.Test.YtblnmddphichgaaPcM
import Derived.Test.YtblnmddphichgaaMulC
import Derived.Deep.QuietTactic
import Derived.BigQuiet
import Derived.BigRegion
import Derived.Lib.Hide
namespace Go.Proofs.Ytblnmddphichgaa.Pa
open Go.RowKit

/-- A bucket's block. -/
def KBlk (t : TypeId) (w : World) (b : Nat) (k : Bk) : Prop := w.heap[b]? = some (.cells #[.int .i64 k.ra, .int .i64 k.bu, .int .i64 k.he, .int .i64 k.sp, .int .i64 k.fu] t (0, 0))
/-- A bucket by value. -/
def KV (k : Bk) : Value := .agg #[.int .i64 k.ra, .int .i64 k.bu, .int .i64 k.he, .int .i64 k.sp, .int .i64 k.fu]
section
variable {t : TypeId} {w : World} {b : Nat} {k : Bk}
theorem KBlk.lt (h : KBlk t w b k) : b < w.heap.size := (Array.getElem?_eq_some_iff.1 h).1
theorem KBlk.cells (h : KBlk t w b k) : w.cell? ⟨b, 0, none⟩ = some (.int .i64 k.ra) ∧ w.cell? ⟨b, 1, none⟩ = some (.int .i64 k.bu) ∧ w.cell? ⟨b, 2, none⟩ = some (.int .i64 k.he) ∧ w.cell? ⟨b, 3, none⟩ = some (.int .i64 k.sp) ∧ w.cell? ⟨b, 4, none⟩ = some (.int .i64 k.fu) := by
  unfold KBlk at h
  simp [World.cell?, h]
theorem KBlk.frozen (h : KBlk t w b k) (i : Nat) : w.frozen? ⟨b, i, none⟩ = false := by
  unfold KBlk at h
  simp [World.frozen?, h]
theorem KBlk.keep {w' : World} (h : KBlk t w b k) (e : w'.heap[b]? = w.heap[b]?) : KBlk t w' b k := e.trans h
theorem KBlk.drewN (h : KBlk t w b k) (j : Nat) : KBlk t (w.drewN j) b k := h.keep rfl
theorem KBlk.below {w' : World} {B : Nat} (h : KBlk t w b k) (hb : Below B w w') (hB : b < B) : KBlk t w' b k := h.keep (hb.block b hB)
theorem KBlk.set0 (h : KBlk t w b k) (n : Int) : KBlk t (w.setCell ⟨b, 0, none⟩ (.int .i64 n)) b ⟨n, k.bu, k.he, k.sp, k.fu⟩ := by
  unfold KBlk at *
  simp [World.setCell, Array.getElem?_modify, h]
theorem KBlk.set1 (h : KBlk t w b k) (n : Int) : KBlk t (w.setCell ⟨b, 1, none⟩ (.int .i64 n)) b ⟨k.ra, n, k.he, k.sp, k.fu⟩ := by
  unfold KBlk at *
  simp [World.setCell, Array.getElem?_modify, h]
theorem KBlk.set2 (h : KBlk t w b k) (n : Int) : KBlk t (w.setCell ⟨b, 2, none⟩ (.int .i64 n)) b ⟨k.ra, k.bu, n, k.sp, k.fu⟩ := by
  unfold KBlk at *
  simp [World.setCell, Array.getElem?_modify, h]
theorem KBlk.set3 (h : KBlk t w b k) (n : Int) : KBlk t (w.setCell ⟨b, 3, none⟩ (.int .i64 n)) b ⟨k.ra, k.bu, k.he, n, k.fu⟩ := by
  unfold KBlk at *
  simp [World.setCell, Array.getElem?_modify, h]
theorem KBlk.set4 (h : KBlk t w b k) (n : Int) : KBlk t (w.setCell ⟨b, 4, none⟩ (.int .i64 n)) b ⟨k.ra, k.bu, k.he, k.sp, n⟩ := by
  unfold KBlk at *
  simp [World.setCell, Array.getElem?_modify, h]
theorem KBlk.other (h : KBlk t w b k) {p : Addr} (hp : b ≠ p.block) (u : Value) : KBlk t (w.setCell p u) b k := h.keep (Below.heap_setCell w p u b hp)
theorem KBlk.new (w : World) (k : Bk) (t : TypeId) : KBlk t (w.alloc (.cells #[.int .i64 k.ra, .int .i64 k.bu, .int .i64 k.he, .int .i64 k.sp, .int .i64 k.fu] t)) w.heap.size k := Go.Deep.blk_alloc_new w _
end
/-- What a bucket's call may turn: its block, and what is new. -/
structure Frm (b : Nat) (w w' : World) : Prop where
  os : w'.os = w.os
  tape : w'.tape = w.tape
  output : w'.output = w.output
  size : w.heap.size ≤ w'.heap.size
  block : ∀ k, k < w.heap.size → k ≠ b → w'.heap[k]? = w.heap[k]?
theorem Frm.refl (b : Nat) (w : World) : Frm b w w := ⟨rfl, rfl, rfl, Nat.le_refl _, fun _ _ _ => rfl⟩
theorem Frm.trans {b : Nat} {w w1 w2 : World} (h : Frm b w w1) (k : Frm b w1 w2) : Frm b w w2 :=
  ⟨k.os.trans h.os, k.tape.trans h.tape, k.output.trans h.output, Nat.le_trans h.size k.size, fun i hi h1 => (k.block i (Nat.lt_of_lt_of_le hi h.size) h1).trans (h.block i hi h1)⟩
theorem Frm.drewN {b : Nat} {w w' : World} (h : Frm b w w') (k : Nat) : Frm b w (w'.drewN k) := ⟨h.os, h.tape, h.output, h.size, h.block⟩
theorem Frm.set {b : Nat} {w w' : World} (h : Frm b w w') (i : Nat) (v : Value) : Frm b w (w'.setCell ⟨b, i, none⟩ v) :=
  ⟨h.os, h.tape, h.output, by simpa using h.size, fun k hk h1 => (Below.heap_setCell _ _ _ k h1).trans (h.block k hk h1)⟩
theorem Frm.bel {b B : Nat} {w w' w0 : World} (h : Frm b w w') (h0 : Below B w0 w) (hB : B ≤ w.heap.size) (hb : B ≤ b) : Below B w0 w' :=
  h0.trans ⟨h.os, h.tape, h.output, h.size, fun k hk => h.block k (by omega) (by omega)⟩
theorem Frm.of_below {b : Nat} {w w' : World} (h : Below w.heap.size w w') : Frm b w w' := ⟨h.os, h.tape, h.output, h.size, fun k hk _ => h.block k hk⟩

theorem may_any (n : Int) (b : Nat) (k : Bk) (w : World) (h : KBlk 78 w b k) :
    Calls Try.prog 39 #[.pointer (some ⟨b, 0, none⟩), .int .i64 n] w fun e w' => e = .returned (.bool (k.may n)) ∧ w = w' := by
  obtain ⟨c0, c1, c2, c3, c4⟩ := h.cells
  have hm : k.may n = decide (0 ≤ n ∧ n ≤ k.he) := rfl
  rw [hm]
  clear h hm
  generalize k.he = he at *
  go_enter Try.func39, Try.ntmps39
  go_wp2
  all_goals go_ret
  all_goals exact ⟨ret_bool (by simp [*] <;> omega), rfl⟩
set_option maxRecDepth 100000 in
theorem take_any (n : Int) (b i : Nat) (k : Bk) (hf : k.fit i) (hi : i ≤ 1000000000) (w : World) (h : KBlk 78 w b k) :
    Calls Try.prog 20 #[.pointer (some ⟨b, 0, none⟩), .int .i64 n] w fun e w' => e = .returned (.bool (k.may n)) ∧ Hid (KBlk 78 w' b (k.take n)) ∧ Hid (Frm b w w') := by
  have CM := Lib.hid (may_any n b k w h)
  have HT : k.take n = if k.may n = true then ⟨k.ra, k.bu, k.he - n, k.sp + n, k.fu⟩ else k := rfl
  rw [HT]
  have hm : k.may n = decide (0 ≤ n ∧ n ≤ k.he) := rfl
  obtain ⟨c0, c1, c2, c3, c4⟩ := h.cells
  have f2 := h.frozen 2
  have f3 := h.frozen 3
  have HK := Lib.hid h
  have h1 := hf.h1
  have h2 := hf.h2
  have h3 := hf.b2
  have h4 := hf.s1
  have h5 := hf.s2
  clear h hf HT
  generalize k.may n = m at *
  cases m
  · clear hm h1 h2 h3 h4 h5 hi
    go_enter Try.func20, Try.ntmps20
    go_wp2_with (first
      | (go_at_call 39; (with_reducible refine (CM.out).mono ?_); rintro e w1 ⟨rfl, rfl⟩)
      | fail)
    all_goals go_ret
    all_goals exact ⟨rfl, by simpa using HK, Lib.hid (Frm.refl _ _)⟩
  · have hn : 0 ≤ n ∧ n ≤ k.he := of_decide_eq_true hm.symm
    clear hm
    have w1 : IntKind.i64.wrap (k.he - n) = k.he - n := by rw [IntKind.wrap_i64]; omega
    have w2 : IntKind.i64.wrap (k.sp + n) = k.sp + n := by rw [IntKind.wrap_i64]; omega
    obtain ⟨n1, n2⟩ := hn
    clear h1 h2 h3 h4 h5 hi
    have HF := Lib.hid ((HK.out.set2 (k.he - n)).set3 (k.sp + n))
    dsimp only at HF
    clear HK
    generalize hhe : k.he = he at *
    generalize hsp : k.sp = sp at *
    generalize k.ra = ra at *
    generalize k.bu = bu at *
    generalize k.fu = fu at *
    go_enter Try.func20, Try.ntmps20
    go_wp2_with (first
      | (go_at_call 39; (with_reducible refine (CM.out).mono ?_); rintro e w1 ⟨rfl, rfl⟩)
      | fail)
    all_goals go_ret
    all_goals exact ⟨rfl, by simpa using HF, Lib.hid (((Frm.refl _ _).set _ _).set _ _)⟩
set_option maxRecDepth 100000 in
theorem change_any (r b' : Int) (b : Nat) (k : Bk) (w : World) (h : KBlk 78 w b k) :
    Calls Try.prog 30 #[.pointer (some ⟨b, 0, none⟩), .int .i64 r, .int .i64 b'] w fun e w' => e = .returned (.int .i64 (if okB r b' = true then 0 else 1)) ∧ Hid (KBlk 78 w' b (k.change r b')) ∧ Hid (Frm b w w') := by
  have HT : k.change r b' = if okB r b' = true then ⟨r, b', if b' < k.he then b' else k.he, k.sp, k.fu⟩ else k := rfl
  rw [HT]
  have hm : okB r b' = decide (1 ≤ r ∧ r ≤ 1048576 ∧ 1 ≤ b' ∧ b' ≤ 16777216) := rfl
  obtain ⟨c0, c1, c2, c3, c4⟩ := h.cells
  have f0 := h.frozen 0
  have f1 := h.frozen 1
  have f2 := h.frozen 2
  have HK := Lib.hid h
  have HF := Lib.hid (((h.set0 r).set1 b').set2 (if b' < k.he then b' else k.he))
  dsimp only at HF
  clear h HT
  generalize okB r b' = m at *
  cases m
  · have hn : r < 1 ∨ 1048576 < r ∨ b' < 1 ∨ 16777216 < b' := by
      have := of_decide_eq_false hm.symm
      omega
    clear hm HF
    rcases hn with hn | hn | hn | hn
    all_goals
      go_enter Try.func30, Try.ntmps30
      go_wp2
      all_goals go_ret
      all_goals exact ⟨ret_int (by simp), by simpa using HK, Lib.hid (Frm.refl _ _)⟩
  · have hn := of_decide_eq_true hm.symm
    obtain ⟨n1, n2, n3, n4⟩ := hn
    clear hm HK
    have m1 : ¬ r < 1 := by omega
    have m2 : ¬ 1048576 < r := by omega
    have m3 : ¬ b' < 1 := by omega
    have m4 : ¬ 16777216 < b' := by omega
    generalize hhe : k.he = he at *
    by_cases hmin : b' < he
    all_goals
      have hmin' : (he ≤ b') = decide (¬ b' < he) := by simp [hmin] <;> omega
      go_enter Try.func30, Try.ntmps30
      go_wp2
      all_goals go_ret
      all_goals exact ⟨ret_int (by simp), by first | (simp only [if_pos hmin] at HF ⊢; exact HF) | (rw [if_neg (show ¬ b' < he by omega)] at HF; first | exact HF | (rw [if_neg (show ¬ b' < he by omega)]; exact HF)), Lib.hid ((((Frm.refl _ _).set _ _).set _ _).set _ _)⟩
set_option maxRecDepth 100000 in
theorem new12_yes (r b : Int) (hok : okB r b = true) (w : World) :
    Calls Try.prog 14 #[.int .i64 r, .int .i64 b] w fun e w' => e = .returned (.tuple #[.pointer (some ⟨w.heap.size, 0, none⟩), .int .i64 0]) ∧ Hid (KBlk 78 w' w.heap.size (Bk.new r b)) ∧ Hid (Below w.heap.size w w') := by
  obtain ⟨W1, hW1⟩ : ∃ W1, W1 = w.alloc (.cells #[.int .i64 0, .int .i64 0, .int .i64 b, .int .i64 0, .int .i64 0] 78) := ⟨_, rfl⟩
  have HB1 : Hid (Below w.heap.size w W1) := Lib.hid (by rw [hW1]; exact (Below.refl _ _).alloc (Nat.le_refl _) _)
  have HS : Hid (w.heap.size + 1 = W1.heap.size) := Lib.hid (by rw [hW1]; simp)
  have k1 : KBlk 78 W1 w.heap.size ⟨0, 0, b, 0, 0⟩ := by rw [hW1]; exact KBlk.new w ⟨0, 0, b, 0, 0⟩ _
  have HC : (⟨0, 0, b, 0, 0⟩ : Bk).change r b = Bk.new r b := by
    unfold Bk.change Bk.new
    rw [if_pos hok]
    simp
  have CC := Lib.hid (change_any r b w.heap.size ⟨0, 0, b, 0, 0⟩ W1 k1)
  rw [HC, hok] at CC
  clear k1 HC hok
  go_enter Try.func14, Try.ntmps14
  go_upto_region 2 with fail
  rw [← hW1]
  clear hW1
  go_wp2_with (first
    | (go_at_call 30; (with_reducible refine (CC.out).mono ?_); rintro e w2 ⟨rfl, HK, HF⟩)
    | fail)
  all_goals go_ret2
  all_goals exact ⟨rfl, HK, Lib.hid (HF.out.bel HB1.out (by have := HS.out; omega) (Nat.le_refl _))⟩
set_option maxRecDepth 100000 in
theorem new12_no (r b : Int) (hok : okB r b = false) (w : World) :
    Calls Try.prog 14 #[.int .i64 r, .int .i64 b] w fun e w' => e = .returned (.tuple #[.pointer none, .int .i64 1]) ∧ Hid (Below w.heap.size w w') := by
  obtain ⟨W1, hW1⟩ : ∃ W1, W1 = w.alloc (.cells #[.int .i64 0, .int .i64 0, .int .i64 b, .int .i64 0, .int .i64 0] 78) := ⟨_, rfl⟩
  have HB1 : Hid (Below w.heap.size w W1) := Lib.hid (by rw [hW1]; exact (Below.refl _ _).alloc (Nat.le_refl _) _)
  have HS : Hid (w.heap.size + 1 = W1.heap.size) := Lib.hid (by rw [hW1]; simp)
  have k1 : KBlk 78 W1 w.heap.size ⟨0, 0, b, 0, 0⟩ := by rw [hW1]; exact KBlk.new w ⟨0, 0, b, 0, 0⟩ _
  have CC := Lib.hid (change_any r b w.heap.size ⟨0, 0, b, 0, 0⟩ W1 k1)
  rw [hok] at CC
  clear k1 hok
  go_enter Try.func14, Try.ntmps14
  go_upto_region 2 with fail
  rw [← hW1]
  clear hW1
  go_wp2_with (first
    | (go_at_call 30; (with_reducible refine (CC.out).mono ?_); rintro e w2 ⟨rfl, HK, HF⟩)
    | fail)
  all_goals go_ret2
  all_goals exact ⟨rfl, Lib.hid (HF.out.bel HB1.out (by have := HS.out; omega) (Nat.le_refl _))⟩
set_option maxRecDepth 100000 in
theorem tick12_any (t : Int) (ht : -9223372036854775808 ≤ t) (ht' : t ≤ 9223372036854775807) (b i : Nat) (k : Bk) (hf : k.fit i) (w : World) (h : KBlk 78 w b k) :
    Calls Try.prog 18 #[.pointer (some ⟨b, 0, none⟩), .int .i64 t] w fun e w' => e = .returned (.tuple #[]) ∧ Hid (KBlk 78 w' b (k.tick t)) ∧ Hid (Frm b w w') := by
  have hcl := k.come_lo hf t
  have hkl := k.kept_lo hf t
  have h1 := hf.h1
  have h2 := hf.h2
  have r1 := hf.r1
  have r2 := hf.r2
  have b2 := hf.b2
  have f1 := hf.f1
  have f2 := hf.f2
  obtain ⟨c0, c1, c2, c3, c4⟩ := h.cells
  have z2 := h.frozen 2
  have z4 := h.frozen 4
  have CM : Hid (∀ w', Calls Try.prog 36 #[.int .i64 k.ra, .int .i64 (if t < 0 then 0 else t)] w' fun e w1 => e = .returned (.int .i64 (k.come t)) ∧ w' = w1) := Lib.hid (fun w' => mul_any _ _ w' (by omega) (by omega) (by split <;> omega) (by split <;> omega))
  have hk : k.kept t = if k.bu - k.he < k.come t then k.bu - k.he else k.come t := rfl
  have CA : Hid (∀ w', Calls Try.prog 37 #[.int .i64 k.fu, .int .i64 (k.come t - k.kept t)] w' fun e w1 => e = .returned (.int .i64 (held (k.fu + (k.come t - k.kept t)))) ∧ w' = w1) := Lib.hid (fun w' => add_any _ _ w' (by omega) (by omega) (by omega) (by omega))
  have HT : k.tick t = ⟨k.ra, k.bu, k.he + k.kept t, k.sp, held (k.fu + (k.come t - k.kept t))⟩ := rfl
  rw [HT]
  have HF := Lib.hid (fun j => ((h.drewN j).set2 (k.he + k.kept t)).set4 (held (k.fu + (k.come t - k.kept t))))
  dsimp only at HF
  have e1 : IntKind.i64.wrap (k.bu - k.he) = k.bu - k.he := by rw [IntKind.wrap_i64]; omega
  have e2 : IntKind.i64.wrap (k.he + k.kept t) = k.he + k.kept t := by rw [IntKind.wrap_i64]; omega
  have e3 : IntKind.i64.wrap (k.come t - k.kept t) = k.come t - k.kept t := by rw [IntKind.wrap_i64]; omega
  clear h hf HT f1 f2 r1 r2
  generalize hfu : held (k.fu + (k.come t - k.kept t)) = fu' at *
  clear hfu
  generalize k.kept t = m at *
  generalize k.come t = co at *
  generalize k.ra = ra at *
  generalize k.he = he at *
  generalize k.bu = bu at *
  generalize k.sp = sp at *
  generalize k.fu = fu at *
  by_cases hn : t < 0
  all_goals
    first | rw [if_pos hn] at CM | rw [if_neg hn] at CM
    by_cases hm : bu - he < co
    all_goals
      first | rw [if_pos hm] at hk | rw [if_neg hm] at hk
      subst hk
      (try simp only [Int.sub_self] at CA e3)
      go_enter Try.func18, Try.ntmps18
      go_upto_region 1 with (first
        | (go_at_call 36; (with_reducible refine (CM.out _).mono ?_); rintro e w1 ⟨rfl, rfl⟩)
        | fail)
      go_quiet (fail)
      go_wp2_with (first
        | (go_at_call 37; (with_reducible refine (CA.out _).mono ?_); rintro e w1 ⟨rfl, rfl⟩)
        | fail)
      all_goals go_end0
      all_goals exact ⟨rfl, Lib.hid (HF.out _), Lib.hid ((((Frm.refl _ _).drewN _).set _ _).set _ _)⟩
end Go.Proofs.Ytblnmddphichgaa.Pa
