/-
  Own text: a bucket in its block; the code's calls and the document's, walked.
-/
import Derived.Test.YtbbdkkjbcpkplaaPcM
import Derived.Test.YtbbdkkjbcpkplaaWides
import Derived.BigRegion
namespace Go.Proofs.Ytbbdkkjbcpkplaa
open Go.RowKit

/-- A bucket's block. -/
def KBlk (t : TypeId) (w : World) (b : Nat) (k : Bk) : Prop := w.heap[b]? = some (.cells #[.int .i64 k.ra, .int .i64 k.bu, .int .i64 k.he, .int .i64 k.sp, .int .i64 k.fu] t (0, 0))
/-- A bucket by value. -/
def KV (k : Bk) : Value := .agg #[.int .i64 k.ra, .int .i64 k.bu, .int .i64 k.he, .int .i64 k.sp, .int .i64 k.fu]
section
variable {t : TypeId} {w : World} {b : Nat} {k : Bk}
theorem KBlk.lt (h : KBlk t w b k) : b < w.heap.size := (Array.getElem?_eq_some_iff.1 h).1
theorem KBlk.cells (h : KBlk t w b k) : w.cell? ⟨b, 0, none⟩ = some (.int .i64 k.ra) ∧ w.cell? ⟨b, 1, none⟩ = some (.int .i64 k.bu) ∧ w.cell? ⟨b, 2, none⟩ = some (.int .i64 k.he) ∧ w.cell? ⟨b, 3, none⟩ = some (.int .i64 k.sp) ∧ w.cell? ⟨b, 4, none⟩ = some (.int .i64 k.fu) := by
  unfold KBlk at h
  simp [World.cell?, h]
theorem KBlk.frozen (h : KBlk t w b k) (i : Nat) : w.frozen? ⟨b, i, none⟩ = false := by
  unfold KBlk at h
  simp [World.frozen?, h]
theorem KBlk.keep {w' : World} (h : KBlk t w b k) (e : w'.heap[b]? = w.heap[b]?) : KBlk t w' b k := e.trans h
theorem KBlk.drewN (h : KBlk t w b k) (j : Nat) : KBlk t (w.drewN j) b k := h.keep rfl
theorem KBlk.below {w' : World} {B : Nat} (h : KBlk t w b k) (hb : Below B w w') (hB : b < B) : KBlk t w' b k := h.keep (hb.block b hB)
theorem KBlk.set0 (h : KBlk t w b k) (n : Int) : KBlk t (w.setCell ⟨b, 0, none⟩ (.int .i64 n)) b ⟨n, k.bu, k.he, k.sp, k.fu⟩ := by
  unfold KBlk at *
  simp [World.setCell, Array.getElem?_modify, h]
theorem KBlk.set1 (h : KBlk t w b k) (n : Int) : KBlk t (w.setCell ⟨b, 1, none⟩ (.int .i64 n)) b ⟨k.ra, n, k.he, k.sp, k.fu⟩ := by
  unfold KBlk at *
  simp [World.setCell, Array.getElem?_modify, h]
theorem KBlk.set2 (h : KBlk t w b k) (n : Int) : KBlk t (w.setCell ⟨b, 2, none⟩ (.int .i64 n)) b ⟨k.ra, k.bu, n, k.sp, k.fu⟩ := by
  unfold KBlk at *
  simp [World.setCell, Array.getElem?_modify, h]
theorem KBlk.set3 (h : KBlk t w b k) (n : Int) : KBlk t (w.setCell ⟨b, 3, none⟩ (.int .i64 n)) b ⟨k.ra, k.bu, k.he, n, k.fu⟩ := by
  unfold KBlk at *
  simp [World.setCell, Array.getElem?_modify, h]
theorem KBlk.set4 (h : KBlk t w b k) (n : Int) : KBlk t (w.setCell ⟨b, 4, none⟩ (.int .i64 n)) b ⟨k.ra, k.bu, k.he, k.sp, n⟩ := by
  unfold KBlk at *
  simp [World.setCell, Array.getElem?_modify, h]
theorem KBlk.other (h : KBlk t w b k) {p : Addr} (hp : b ≠ p.block) (u : Value) : KBlk t (w.setCell p u) b k := h.keep (Below.heap_setCell w p u b hp)
theorem KBlk.new (w : World) (k : Bk) (t : TypeId) : KBlk t (w.alloc (.cells #[.int .i64 k.ra, .int .i64 k.bu, .int .i64 k.he, .int .i64 k.sp, .int .i64 k.fu] t)) w.heap.size k := Go.Deep.blk_alloc_new w _
end
/-- What a bucket's call may turn: its block, and what is new. -/
structure Frm (b : Nat) (w w' : World) : Prop where
  os : w'.os = w.os
  tape : w'.tape = w.tape
  output : w'.output = w.output
  size : w.heap.size ≤ w'.heap.size
  block : ∀ k, k < w.heap.size → k ≠ b → w'.heap[k]? = w.heap[k]?
theorem Frm.refl (b : Nat) (w : World) : Frm b w w := ⟨rfl, rfl, rfl, Nat.le_refl _, fun _ _ _ => rfl⟩
theorem Frm.trans {b : Nat} {w w1 w2 : World} (h : Frm b w w1) (k : Frm b w1 w2) : Frm b w w2 :=
  ⟨k.os.trans h.os, k.tape.trans h.tape, k.output.trans h.output, Nat.le_trans h.size k.size, fun i hi h1 => (k.block i (Nat.lt_of_lt_of_le hi h.size) h1).trans (h.block i hi h1)⟩
theorem Frm.drewN {b : Nat} {w w' : World} (h : Frm b w w') (k : Nat) : Frm b w (w'.drewN k) := ⟨h.os, h.tape, h.output, h.size, h.block⟩
theorem Frm.set {b : Nat} {w w' : World} (h : Frm b w w') (i : Nat) (v : Value) : Frm b w (w'.setCell ⟨b, i, none⟩ v) :=
  ⟨h.os, h.tape, h.output, by simpa using h.size, fun k hk h1 => (Below.heap_setCell _ _ _ k h1).trans (h.block k hk h1)⟩
theorem Frm.bel {b B : Nat} {w w' w0 : World} (h : Frm b w w') (h0 : Below B w0 w) (hB : B ≤ w.heap.size) (hb : B ≤ b) : Below B w0 w' :=
  h0.trans ⟨h.os, h.tape, h.output, h.size, fun k hk => h.block k (by omega) (by omega)⟩
theorem Frm.of_below {b : Nat} {w w' : World} (h : Below w.heap.size w w') : Frm b w w' := ⟨h.os, h.tape, h.output, h.size, fun k hk _ => h.block k hk⟩

theorem may_any (n : Int) (b : Nat) (k : Bk) (w : World) (h : KBlk 33 w b k) :
    Calls Try.prog 11 #[.pointer (some ⟨b, 0, none⟩), .int .i64 n] w fun e w' => e = .returned (.bool (k.may n)) ∧ w = w' := by
  obtain ⟨c0, c1, c2, c3, c4⟩ := h.cells
  have hm : k.may n = decide (0 ≤ n ∧ n ≤ k.he) := rfl
  rw [hm]
  clear h hm
  generalize k.he = he at *
  go_enter Try.func11, Try.ntmps11
  go_wp2
  all_goals go_ret
  all_goals exact ⟨ret_bool (by simp [*] <;> omega), rfl⟩
set_option maxRecDepth 100000 in
theorem take_any (n : Int) (b i : Nat) (k : Bk) (hf : k.fit i) (hi : i ≤ 1000) (w : World) (h : KBlk 33 w b k) :
    Calls Try.prog 12 #[.pointer (some ⟨b, 0, none⟩), .int .i64 n] w fun e w' => e = .returned (.bool (k.may n)) ∧ Hid (KBlk 33 w' b (k.take n)) ∧ Hid (Frm b w w') := by
  have CM := Lib.hid (may_any n b k w h)
  have HT : k.take n = if k.may n = true then ⟨k.ra, k.bu, k.he - n, k.sp + n, k.fu⟩ else k := rfl
  rw [HT]
  have hm : k.may n = decide (0 ≤ n ∧ n ≤ k.he) := rfl
  obtain ⟨c0, c1, c2, c3, c4⟩ := h.cells
  have f2 := h.frozen 2
  have f3 := h.frozen 3
  have HK := Lib.hid h
  have h1 := hf.h1
  have h2 := hf.h2
  have h3 := hf.b2
  have h4 := hf.s1
  have h5 := hf.s2
  clear h hf HT
  generalize k.may n = m at *
  cases m
  · clear hm h1 h2 h3 h4 h5 hi
    go_enter Try.func12, Try.ntmps12
    go_wp2_with (first
      | (go_at_call 11; (with_reducible refine (CM.out).mono ?_); rintro e w1 ⟨rfl, rfl⟩)
      | fail)
    all_goals go_ret
    all_goals exact ⟨rfl, by simpa using HK, Lib.hid (Frm.refl _ _)⟩
  · have hn : 0 ≤ n ∧ n ≤ k.he := of_decide_eq_true hm.symm
    clear hm
    have w1 : IntKind.i64.wrap (k.he - n) = k.he - n := by rw [IntKind.wrap_i64]; omega
    have w2 : IntKind.i64.wrap (k.sp + n) = k.sp + n := by rw [IntKind.wrap_i64]; omega
    obtain ⟨n1, n2⟩ := hn
    clear h1 h2 h3 h4 h5 hi
    have HF := Lib.hid ((HK.out.set2 (k.he - n)).set3 (k.sp + n))
    dsimp only at HF
    clear HK
    generalize hhe : k.he = he at *
    generalize hsp : k.sp = sp at *
    generalize k.ra = ra at *
    generalize k.bu = bu at *
    generalize k.fu = fu at *
    go_enter Try.func12, Try.ntmps12
    go_wp2_with (first
      | (go_at_call 11; (with_reducible refine (CM.out).mono ?_); rintro e w1 ⟨rfl, rfl⟩)
      | fail)
    all_goals go_ret
    all_goals exact ⟨rfl, by simpa using HF, Lib.hid (((Frm.refl _ _).set _ _).set _ _)⟩
theorem right_any (r b : Int) (w : World) :
    Calls Try.prog 16 #[.int .i64 r, .int .i64 b] w fun e w' => e = .returned (.bool (okB r b)) ∧ w = w' := by
  go_enter Try.func16, Try.ntmps16
  go_wp2
  all_goals go_ret
  all_goals exact ⟨ret_bool (by unfold okB; simp [*] <;> omega), rfl⟩
set_option maxRecDepth 100000 in
theorem change_any (r b' : Int) (b : Nat) (k : Bk) (w : World) (h : KBlk 33 w b k) :
    Calls Try.prog 18 #[.pointer (some ⟨b, 0, none⟩), .int .i64 r, .int .i64 b'] w fun e w' => e = .returned (.int .i64 (if okB r b' = true then 0 else 1)) ∧ Hid (KBlk 33 w' b (k.change r b')) ∧ Hid (Frm b w w') := by
  have HT : k.change r b' = if okB r b' = true then ⟨r, b', if b' < k.he then b' else k.he, k.sp, k.fu⟩ else k := rfl
  rw [HT]
  have hm : okB r b' = decide (1 ≤ r ∧ r ≤ 1048576 ∧ 1 ≤ b' ∧ b' ≤ 16777216) := rfl
  obtain ⟨c0, c1, c2, c3, c4⟩ := h.cells
  have f0 := h.frozen 0
  have f1 := h.frozen 1
  have f2 := h.frozen 2
  have HK := Lib.hid h
  have HF := Lib.hid (((h.set0 r).set1 b').set2 (if b' < k.he then b' else k.he))
  dsimp only at HF
  clear h HT
  generalize okB r b' = m at *
  cases m
  · have hn : r < 1 ∨ 1048576 < r ∨ b' < 1 ∨ 16777216 < b' := by
      have := of_decide_eq_false hm.symm
      omega
    clear hm HF
    rcases hn with hn | hn | hn | hn
    all_goals
      go_enter Try.func18, Try.ntmps18
      go_wp2
      all_goals go_ret
      all_goals exact ⟨ret_int (by simp), by simpa using HK, Lib.hid (Frm.refl _ _)⟩
  · have hn := of_decide_eq_true hm.symm
    obtain ⟨n1, n2, n3, n4⟩ := hn
    clear hm HK
    have m1 : ¬ r < 1 := by omega
    have m2 : ¬ 1048576 < r := by omega
    have m3 : ¬ b' < 1 := by omega
    have m4 : ¬ 16777216 < b' := by omega
    generalize hhe : k.he = he at *
    by_cases hmin : b' < he
    all_goals
      have hmin' : (he ≤ b') = decide (¬ b' < he) := by simp [hmin] <;> omega
      go_enter Try.func18, Try.ntmps18
      go_wp2
      all_goals go_ret
      all_goals exact ⟨ret_int (by simp), by first | (simp only [if_pos hmin] at HF ⊢; exact HF) | (rw [if_neg (show ¬ b' < he by omega)] at HF; first | exact HF | (rw [if_neg (show ¬ b' < he by omega)]; exact HF)), Lib.hid ((((Frm.refl _ _).set _ _).set _ _).set _ _)⟩
end Go.Proofs.Ytbbdkkjbcpkplaa
