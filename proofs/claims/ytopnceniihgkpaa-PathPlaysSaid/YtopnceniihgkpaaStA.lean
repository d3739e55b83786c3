/-
  Own text: a way's numbers in their block and by value; a share of the way; Mark and Trip, walked.
-/
import Derived.Test.YtopnceniihgkpaaStM
import Derived.Test.YtopnceniihgkpaaWordB
import Derived.StillTailTactics
import Derived.BigRegion
namespace Go.Proofs.Ytopnceniihgkpaa
open Go.RowKit

/-- A way's block. -/
def Blk13 (t : TypeId) (w : World) (b : Nat) (s : Sk) : Prop := w.heap[b]? = some (.cells #[.int .i64 s.lo, .int .i64 s.rt, .int .i64 s.va, .int .i64 s.ma, .int .i64 s.tr] t (0, 0))
/-- A way by value. -/
def SV (s : Sk) : Value := .agg #[.int .i64 s.lo, .int .i64 s.rt, .int .i64 s.va, .int .i64 s.ma, .int .i64 s.tr]
section
variable {t : TypeId} {w : World} {b : Nat} {s : Sk}
theorem Blk13.lt (h : Blk13 t w b s) : b < w.heap.size := (Array.getElem?_eq_some_iff.1 h).1
theorem Blk13.cells (h : Blk13 t w b s) : w.cell? ⟨b, 0, none⟩ = some (.int .i64 s.lo) ∧ w.cell? ⟨b, 1, none⟩ = some (.int .i64 s.rt) ∧ w.cell? ⟨b, 2, none⟩ = some (.int .i64 s.va) ∧ w.cell? ⟨b, 3, none⟩ = some (.int .i64 s.ma) ∧ w.cell? ⟨b, 4, none⟩ = some (.int .i64 s.tr) := by
  unfold Blk13 at h
  simp [World.cell?, h]
theorem Blk13.frozen (h : Blk13 t w b s) (i : Nat) : w.frozen? ⟨b, i, none⟩ = false := by
  unfold Blk13 at h
  simp [World.frozen?, h]
theorem Blk13.keep {w' : World} (h : Blk13 t w b s) (e : w'.heap[b]? = w.heap[b]?) : Blk13 t w' b s := e.trans h
theorem Blk13.drewN (h : Blk13 t w b s) (j : Nat) : Blk13 t (w.drewN j) b s := h.keep rfl
theorem Blk13.below {w' : World} {B : Nat} (h : Blk13 t w b s) (hb : Below B w w') (hB : b < B) : Blk13 t w' b s := h.keep (hb.block b hB)
theorem Blk13.set0 (h : Blk13 t w b s) (n : Int) : Blk13 t (w.setCell ⟨b, 0, none⟩ (.int .i64 n)) b ⟨n, s.rt, s.va, s.ma, s.tr⟩ := by
  unfold Blk13 at *
  simp [World.setCell, Array.getElem?_modify, h]
theorem Blk13.set1 (h : Blk13 t w b s) (n : Int) : Blk13 t (w.setCell ⟨b, 1, none⟩ (.int .i64 n)) b ⟨s.lo, n, s.va, s.ma, s.tr⟩ := by
  unfold Blk13 at *
  simp [World.setCell, Array.getElem?_modify, h]
theorem Blk13.set2 (h : Blk13 t w b s) (n : Int) : Blk13 t (w.setCell ⟨b, 2, none⟩ (.int .i64 n)) b ⟨s.lo, s.rt, n, s.ma, s.tr⟩ := by
  unfold Blk13 at *
  simp [World.setCell, Array.getElem?_modify, h]
theorem Blk13.set3 (h : Blk13 t w b s) (n : Int) : Blk13 t (w.setCell ⟨b, 3, none⟩ (.int .i64 n)) b ⟨s.lo, s.rt, s.va, n, s.tr⟩ := by
  unfold Blk13 at *
  simp [World.setCell, Array.getElem?_modify, h]
theorem Blk13.set4 (h : Blk13 t w b s) (n : Int) : Blk13 t (w.setCell ⟨b, 4, none⟩ (.int .i64 n)) b ⟨s.lo, s.rt, s.va, s.ma, n⟩ := by
  unfold Blk13 at *
  simp [World.setCell, Array.getElem?_modify, h]
theorem Blk13.other (h : Blk13 t w b s) {p : Addr} (hp : b ≠ p.block) (u : Value) : Blk13 t (w.setCell p u) b s := h.keep (Below.heap_setCell w p u b hp)
theorem Blk13.new (w : World) (s : Sk) (t : TypeId) : Blk13 t (w.alloc (.cells #[.int .i64 s.lo, .int .i64 s.rt, .int .i64 s.va, .int .i64 s.ma, .int .i64 s.tr] t)) w.heap.size s := Go.Deep.blk_alloc_new w _
end
/-- What a call by pointer may turn: its block, and what is new. -/
structure Frm13 (b : Nat) (w w' : World) : Prop where
  os : w'.os = w.os
  tape : w'.tape = w.tape
  output : w'.output = w.output
  size : w.heap.size ≤ w'.heap.size
  block : ∀ k, k < w.heap.size → k ≠ b → w'.heap[k]? = w.heap[k]?
theorem Frm13.refl (b : Nat) (w : World) : Frm13 b w w := ⟨rfl, rfl, rfl, Nat.le_refl _, fun _ _ _ => rfl⟩
theorem Frm13.trans {b : Nat} {w w1 w2 : World} (h : Frm13 b w w1) (k : Frm13 b w1 w2) : Frm13 b w w2 :=
  ⟨k.os.trans h.os, k.tape.trans h.tape, k.output.trans h.output, Nat.le_trans h.size k.size, fun i hi h1 => (k.block i (Nat.lt_of_lt_of_le hi h.size) h1).trans (h.block i hi h1)⟩
theorem Frm13.drewN {b : Nat} {w w' : World} (h : Frm13 b w w') (k : Nat) : Frm13 b w (w'.drewN k) := ⟨h.os, h.tape, h.output, h.size, h.block⟩
theorem Frm13.drew {b : Nat} {w w' : World} (h : Frm13 b w w') : Frm13 b w w'.drew := ⟨h.os, h.tape, h.output, h.size, h.block⟩
theorem Frm13.set {b : Nat} {w w' : World} (h : Frm13 b w w') (i : Nat) (v : Value) : Frm13 b w (w'.setCell ⟨b, i, none⟩ v) :=
  ⟨h.os, h.tape, h.output, by simpa using h.size, fun k hk h1 => (Below.heap_setCell _ _ _ k h1).trans (h.block k hk h1)⟩
theorem Frm13.bel {b B : Nat} {w w' w0 : World} (h : Frm13 b w w') (h0 : Below B w0 w) (hB : B ≤ w.heap.size) (hb : B ≤ b) : Below B w0 w' :=
  h0.trans ⟨h.os, h.tape, h.output, h.size, fun k hk => h.block k (by omega) (by omega)⟩

theorem toward_any (n to k : Int) (hk : 0 < k) (hk' : k ≤ 16) (n0 : 0 ≤ n) (n1 : n ≤ 65535) (t0 : 0 ≤ to) (t1 : to ≤ 65535) (w : World) :
    Calls Try.prog 30 #[.int .i64 n, .int .i64 to, .int .i64 k] w fun e w' => e = .returned (.int .i64 (toward n to k)) ∧ w = w' := by
  have hq := floor_div (to - n) k (by omega) (by omega) hk (by omega)
  have hl := toward_in hk n0 n1 t0 t1
  have CF := Lib.hid (floor_any (to - n) k)
  rw [hq] at CF
  unfold toward at hl ⊢
  generalize (to - n) / k = q at *
  clear hq
  go_enter Try.func30, Try.ntmps30
  go_wp2_with (first
    | (go_at_call 44; (with_reducible refine (CF.out _).mono ?_); rintro e w1 ⟨rfl, rfl⟩)
    | fail)
  go_ret
  exact ⟨rfl, rfl⟩
theorem rtoward_any (n to k : Int) (hk : 0 < k) (hk' : k ≤ 16) (n0 : 0 ≤ n) (n1 : n ≤ 65535) (t0 : 0 ≤ to) (t1 : to ≤ 65535) (w : World) :
    Calls Try.prog 32 #[.int .i64 n, .int .i64 to, .int .i64 k] w fun e w' => e = .returned (.int .i64 (toward n to k)) ∧ w = w' := by
  have hq := floor_div (to - n) k (by omega) (by omega) hk (by omega)
  have hl := toward_in hk n0 n1 t0 t1
  have CF := Lib.hid (rfloor_any (to - n) k)
  rw [hq] at CF
  unfold toward at hl ⊢
  generalize (to - n) / k = q at *
  clear hq
  go_enter Try.func32, Try.ntmps32
  go_wp2_with (first
    | (go_at_call 46; (with_reducible refine (CF.out _).mono ?_); rintro e w1 ⟨rfl, rfl⟩)
    | fail)
  go_ret
  exact ⟨rfl, rfl⟩
set_option maxRecDepth 100000 in
theorem mark13_any (lost : Bool) (b i : Nat) (s : Sk) (hf : s.fit i) (hi : i ≤ 1000) (w : World) (h : Blk13 25 w b s) :
    Calls Try.prog 25 #[.pointer (some ⟨b, 0, none⟩), .bool lost] w fun e w' => e = .returned (.tuple #[]) ∧ Hid (Blk13 25 w' b (s.mark lost)) ∧ Hid (Frm13 b w w') := by
  have hm := Sk.mark_fit hf lost
  have l0 := hf.l0
  have l1 := hf.l1
  have m0 := hf.m0
  have m1 := hf.m1
  have hT : s.mark lost = ⟨toward s.lo (if lost = true then 65535 else 0) 16, s.rt, s.va, s.ma + 1, s.tr⟩ := rfl
  have CT := Lib.hid (toward_any s.lo (if lost = true then 65535 else 0) 16 (by omega) (by omega) l0 l1 (by split <;> omega) (by split <;> omega))
  have HF := Lib.hid ((h.set0 (toward s.lo (if lost = true then 65535 else 0) 16)).set3 (s.ma + 1))
  dsimp only at HF
  obtain ⟨c0, c1, c2, c3, c4⟩ := h.cells
  have f0 := h.frozen 0
  have f3 := h.frozen 3
  rw [hT]
  clear hf h hm hT l0 l1
  generalize s.rt = rt at *
  generalize s.va = va at *
  generalize s.tr = tr at *
  generalize s.ma = ma at *
  generalize hto : (if lost = true then (65535 : Int) else 0) = to at *
  generalize toward s.lo to 16 = z at *
  generalize s.lo = lo at *
  cases lost
  all_goals
    simp only [Bool.false_eq_true, if_true, if_false] at hto
    subst hto
    go_enter Try.func25, Try.ntmps25
    go_wp2_with (first
      | (go_at_call 30; (with_reducible refine (CT.out _).mono ?_); rintro e w1 ⟨rfl, rfl⟩)
      | fail)
    all_goals go_end0
    all_goals exact ⟨rfl, HF, Lib.hid (((Frm13.refl _ _).set _ _).set _ _)⟩
end Go.Proofs.Ytopnceniihgkpaa
