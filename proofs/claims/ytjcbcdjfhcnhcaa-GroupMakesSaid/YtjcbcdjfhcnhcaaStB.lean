/-
  Own text: how a way has done, in plain numbers.
  a way's numbers in their block and by value; a share of the way; Mark and Trip, walked.
  Trip, walked.
-/
import Derived.Test.YtjcbcdjfhcnhcaaByteA
import Derived.Test.YtjcbcdjfhcnhcaaWordB
import Derived.WalkKit
import Derived.ProofKit
import Derived.StillTailTactics
import Derived.BigRegion
namespace Go.Proofs.Ytjcbcdjfhcnhcaa
open Go.RowKit

/-- A share of the way. -/
def toward (n to k : Int) : Int := n + (to - n) / k
theorem toward_up {n to k : Int} (hk : 0 < k) (h : n ≤ to) : n ≤ toward n to k ∧ toward n to k ≤ to := by
  unfold toward
  have h1 : 0 ≤ (to - n) / k := Int.ediv_nonneg (by omega) (by omega)
  have h2 : (to - n) / k ≤ to - n := Int.ediv_le_self _ (by omega)
  omega
theorem toward_down {n to k : Int} (hk : 0 < k) (h : to < n) : to ≤ toward n to k ∧ toward n to k < n := by
  unfold toward
  have h1 : (to - n) / k < 0 := Int.ediv_neg_of_neg_of_pos (by omega) hk
  have h2 : to - n ≤ (to - n) / k := Int.le_ediv_of_mul_le hk (by
    have : (to - n) * k ≤ (to - n) * 1 := Int.mul_le_mul_of_nonpos_left (by omega) (by omega)
    omega)
  omega
theorem toward_in {n to k M : Int} (hk : 0 < k) (h0 : 0 ≤ n) (h1 : n ≤ M) (g0 : 0 ≤ to) (g1 : to ≤ M) : 0 ≤ toward n to k ∧ toward n to k ≤ M := by
  by_cases h : n ≤ to
  · have := toward_up hk h; omega
  · have := toward_down hk (show to < n by omega); omega
/-- Its numbers: Loss, Rtt, Var, Marks, Trips. -/
structure Sk where
  lo : Int
  rt : Int
  va : Int
  ma : Int
  tr : Int
def Sk.zero : Sk := ⟨0, 0, 0, 0, 0⟩
/-- What may be, behind so many calls. -/
structure Sk.fit (s : Sk) (i : Nat) : Prop where
  l0 : 0 ≤ s.lo
  l1 : s.lo ≤ 65535
  r0 : 0 ≤ s.rt
  r1 : s.rt ≤ 16000
  v0 : 0 ≤ s.va
  v1 : s.va ≤ 16000
  m0 : 0 ≤ s.ma
  m1 : s.ma ≤ i
  t0 : 0 ≤ s.tr
  t1 : s.tr ≤ i
theorem Sk.zero_fit : Sk.zero.fit 0 := ⟨by decide, by decide, by decide, by decide, by decide, by decide, by decide, by decide, by decide, by decide⟩
theorem Sk.fit.more {s : Sk} {i : Nat} (h : s.fit i) : s.fit (i + 1) := ⟨h.l0, h.l1, h.r0, h.r1, h.v0, h.v1, h.m0, by have := h.m1; push_cast; omega, h.t0, by have := h.t1; push_cast; omega⟩
def Sk.mark (s : Sk) (b : Bool) : Sk := ⟨toward s.lo (if b = true then 65535 else 0) 16, s.rt, s.va, s.ma + 1, s.tr⟩
theorem Sk.mark_fit {s : Sk} {i : Nat} (h : s.fit i) (b : Bool) : (s.mark b).fit (i + 1) := by
  have k := toward_in (k := 16) (M := 65535) (to := if b = true then 65535 else 0) (by omega) h.l0 h.l1 (by split <;> omega) (by split <;> omega)
  have := h.more
  exact ⟨k.1, k.2, h.r0, h.r1, h.v0, h.v1, by have := h.m0; show 0 ≤ s.ma + 1; omega, by have := h.m1; show s.ma + 1 ≤ _; push_cast; omega, h.t0, this.t1⟩
/-- A loss does not let losses fall. -/
theorem Sk.mark_lost {s : Sk} {i : Nat} (h : s.fit i) : s.lo ≤ (s.mark true).lo := (toward_up (by omega) (by have := h.l1; simpa using this)).1
/-- What comes lets them fall, unless there are none. -/
theorem Sk.mark_came {s : Sk} {i : Nat} (h : s.fit i) : (s.mark false).lo < s.lo ∨ (s.lo = 0 ∧ (s.mark false).lo = 0) := by
  have := h.l0
  show toward s.lo 0 16 < s.lo ∨ (s.lo = 0 ∧ toward s.lo 0 16 = 0)
  by_cases e : s.lo = 0
  · exact .inr ⟨e, by rw [e]; decide⟩
  · exact .inl (toward_down (by omega) (by omega)).2
/-- 8 times the ticks, held. -/
def trip8 (t : Int) : Int := 8 * (if t < 0 then 0 else if 2000 < t then 2000 else t)
theorem trip8_lo (t : Int) : 0 ≤ trip8 t ∧ trip8 t ≤ 16000 := by
  unfold trip8
  split
  · omega
  · split <;> omega
def absI (a : Int) : Int := if a < 0 then -a else a
def Sk.trip (s : Sk) (t : Int) : Sk :=
  if s.tr = 0 then ⟨s.lo, trip8 t, trip8 t / 2, s.ma, s.tr + 1⟩
  else ⟨s.lo, toward s.rt (trip8 t) 8, toward s.va (absI (trip8 t - s.rt)) 4, s.ma, s.tr + 1⟩
theorem absI_lo {t r : Int} (h0 : 0 ≤ t) (h1 : t ≤ 16000) (g0 : 0 ≤ r) (g1 : r ≤ 16000) : 0 ≤ absI (t - r) ∧ absI (t - r) ≤ 16000 := by
  unfold absI
  split <;> omega
theorem Sk.trip_fit {s : Sk} {i : Nat} (h : s.fit i) (t : Int) : (s.trip t).fit (i + 1) := by
  have k := trip8_lo t
  have t0 := h.t0
  have t1 := h.t1
  have m := h.more.m1
  unfold Sk.trip
  split
  · exact ⟨h.l0, h.l1, k.1, k.2, by dsimp only; omega, by dsimp only; omega, h.m0, m, by dsimp only; omega, by dsimp only; push_cast; omega⟩
  · have a := absI_lo k.1 k.2 h.r0 h.r1
    have r := toward_in (k := 8) (by omega) h.r0 h.r1 k.1 k.2
    have v := toward_in (k := 4) (by omega) h.v0 h.v1 a.1 a.2
    exact ⟨h.l0, h.l1, r.1, r.2, v.1, v.2, h.m0, m, by dsimp only; omega, by dsimp only; push_cast; omega⟩
/-- One call. -/
def Sk.act (s : Sk) (tp lost : Bool) (t : Int) : Sk := if tp = true then s.trip t else s.mark lost
theorem Sk.act_fit {s : Sk} {i : Nat} (h : s.fit i) (tp lost : Bool) (t : Int) : (s.act tp lost t).fit (i + 1) := by
  unfold Sk.act
  split
  · exact Sk.trip_fit h t
  · exact Sk.mark_fit h lost
def Sk.wait (s : Sk) : Int := if s.tr = 0 then 50 else (if (s.rt + 4 * s.va + 7) / 8 < 2 then 2 else if 200 < (s.rt + 4 * s.va + 7) / 8 then 200 else (s.rt + 4 * s.va + 7) / 8)
def Sk.score (s : Sk) : Int := (65536 - s.lo) * 64 / (64 + s.rt)
/-- With more loss and longer trips a way isn't better. -/
theorem Sk.score_le {a b : Sk} {i j : Nat} (ha : a.fit i) (hb : b.fit j) (h1 : b.lo ≤ a.lo) (h2 : b.rt ≤ a.rt) : a.score ≤ b.score := by
  have a1 := ha.l1
  have b0 := hb.r0
  have b1 := hb.l1
  unfold Sk.score
  have s1 : (65536 - a.lo) * 64 / (64 + a.rt) ≤ (65536 - b.lo) * 64 / (64 + a.rt) := Int.ediv_le_ediv (by omega) (by omega)
  refine Int.le_trans s1 (Int.le_ediv_of_mul_le (by omega) ?_)
  have q0 : 0 ≤ (65536 - b.lo) * 64 / (64 + a.rt) := Int.ediv_nonneg (by omega) (by omega)
  have q1 : (65536 - b.lo) * 64 / (64 + a.rt) * (64 + a.rt) ≤ (65536 - b.lo) * 64 := Int.ediv_mul_le _ (by omega)
  have q2 : (65536 - b.lo) * 64 / (64 + a.rt) * (64 + b.rt) ≤ (65536 - b.lo) * 64 / (64 + a.rt) * (64 + a.rt) := Int.mul_le_mul_of_nonneg_left (by omega) q0
  omega
/-- How many must go, that so many come: rounded up, without a limit. -/
def Sk.many (s : Sk) (c : Int) : Int := (c * 65536 + (65536 - s.lo) - 1) / (65536 - s.lo)
def Sk.need (s : Sk) (c l : Int) : Int := if s.many (if c < 0 then 0 else c) < (if l < 0 then 0 else l) then s.many (if c < 0 then 0 else c) else (if l < 0 then 0 else l)
theorem Sk.many_is {s : Sk} {i : Nat} (h : s.fit i) (c : Int) (hc : 0 ≤ c) : 0 ≤ s.many c ∧ c * 65536 ≤ s.many c * (65536 - s.lo) ∧ (s.many c = 0 ∨ (s.many c - 1) * (65536 - s.lo) < c * 65536) := by
  have l0 := h.l0
  have l1 := h.l1
  unfold Sk.many
  generalize hk : 65536 - s.lo = k
  have k0 : 0 < k := by omega
  have q0 : 0 ≤ (c * 65536 + k - 1) / k := Int.ediv_nonneg (by omega) (by omega)
  have q1 : k * ((c * 65536 + k - 1) / k) ≤ c * 65536 + k - 1 := Int.mul_ediv_self_le (by omega)
  have q2 : c * 65536 + k - 1 < k * ((c * 65536 + k - 1) / k) + k := Int.lt_mul_ediv_self_add k0
  generalize (c * 65536 + k - 1) / k = m at *
  rw [Int.mul_comm m k, Int.sub_mul, Int.one_mul, Int.mul_comm m k]
  exact ⟨q0, by omega, .inr (by omega)⟩
/-- Fewer are not enough. -/
theorem Sk.many_less {s : Sk} {i : Nat} (h : s.fit i) (c : Int) (hc : 0 ≤ c) (n : Int) (hn : n < s.many c) : n * (65536 - s.lo) < c * 65536 := by
  have l1 := h.l1
  obtain ⟨h0, _, h2⟩ := s.many_is h c hc
  rcases h2 with e | h2
  · have n0 : n < 0 := by omega
    have k0 : 0 < 65536 - s.lo := by omega
    have : n * (65536 - s.lo) < 0 := Int.mul_neg_of_neg_of_pos n0 k0
    omega
  · have : n * (65536 - s.lo) ≤ (s.many c - 1) * (65536 - s.lo) := Int.mul_le_mul_of_nonneg_right (by omega) (by omega)
    omega
theorem Sk.many_le {s : Sk} {i : Nat} (h : s.fit i) (c : Int) (hc : 0 ≤ c) : s.many c ≤ c * 65536 := by
  have l1 := h.l1
  have h1 := (s.many_is h c hc).2.2
  by_cases e : s.many c ≤ c * 65536
  · exact e
  · have h2 := s.many_less h c hc (c * 65536) (by omega)
    have : c * 65536 * 1 ≤ c * 65536 * (65536 - s.lo) := Int.mul_le_mul_of_nonneg_left (by omega) (by omega)
    omega
/-- What the document finds by trying: one more as long as it is not enough. -/
theorem Sk.need_try {s : Sk} {i : Nat} (h : s.fit i) (c l n : Int) (hc : 0 ≤ c) (h0 : 0 ≤ n) :
    (n < s.need c l → n < l ∧ n * (65536 - s.lo) < c * 65536) ∧ (n = s.need c l → ¬ (n < l ∧ n * (65536 - s.lo) < c * 65536)) := by
  have hm := s.many_is h c hc
  unfold Sk.need at *
  rw [if_neg (show ¬ c < 0 by omega)] at *
  generalize hl : (if l < 0 then 0 else l) = L at *
  have gl : (l < 0 ∧ L = 0) ∨ (0 ≤ l ∧ L = l) := by split at hl <;> omega
  by_cases hlt : s.many c < L
  · rw [if_pos hlt] at *
    exact ⟨fun hh => ⟨by omega, s.many_less h c hc n hh⟩, fun e hh => by rw [e] at hh; omega⟩
  · rw [if_neg hlt] at *
    refine ⟨fun hh => ⟨by omega, s.many_less h c hc n (by omega)⟩, fun e hh => by omega⟩
theorem Sk.need_lo {s : Sk} {i : Nat} (h : s.fit i) (c l : Int) : 0 ≤ s.need c l ∧ s.need c l ≤ (if l < 0 then 0 else l) := by
  have hm := (s.many_is h (if c < 0 then 0 else c) (by split <;> omega)).1
  unfold Sk.need
  generalize s.many (if c < 0 then 0 else c) = m at *
  split <;> (try split) <;> omega
end Go.Proofs.Ytjcbcdjfhcnhcaa
namespace Go.Proofs.Ytjcbcdjfhcnhcaa
open Go.RowKit

/-- A way's block. -/
def Blk13 (t : TypeId) (w : World) (b : Nat) (s : Sk) : Prop := w.heap[b]? = some (.cells #[.int .i64 s.lo, .int .i64 s.rt, .int .i64 s.va, .int .i64 s.ma, .int .i64 s.tr] t (0, 0))
/-- A way by value. -/
def SV (s : Sk) : Value := .agg #[.int .i64 s.lo, .int .i64 s.rt, .int .i64 s.va, .int .i64 s.ma, .int .i64 s.tr]
section
variable {t : TypeId} {w : World} {b : Nat} {s : Sk}
theorem Blk13.lt (h : Blk13 t w b s) : b < w.heap.size := (Array.getElem?_eq_some_iff.1 h).1
theorem Blk13.cells (h : Blk13 t w b s) : w.cell? ⟨b, 0, none⟩ = some (.int .i64 s.lo) ∧ w.cell? ⟨b, 1, none⟩ = some (.int .i64 s.rt) ∧ w.cell? ⟨b, 2, none⟩ = some (.int .i64 s.va) ∧ w.cell? ⟨b, 3, none⟩ = some (.int .i64 s.ma) ∧ w.cell? ⟨b, 4, none⟩ = some (.int .i64 s.tr) := by
  unfold Blk13 at h
  simp [World.cell?, h]
theorem Blk13.frozen (h : Blk13 t w b s) (i : Nat) : w.frozen? ⟨b, i, none⟩ = false := by
  unfold Blk13 at h
  simp [World.frozen?, h]
theorem Blk13.keep {w' : World} (h : Blk13 t w b s) (e : w'.heap[b]? = w.heap[b]?) : Blk13 t w' b s := e.trans h
theorem Blk13.drewN (h : Blk13 t w b s) (j : Nat) : Blk13 t (w.drewN j) b s := h.keep rfl
theorem Blk13.below {w' : World} {B : Nat} (h : Blk13 t w b s) (hb : Below B w w') (hB : b < B) : Blk13 t w' b s := h.keep (hb.block b hB)
theorem Blk13.set0 (h : Blk13 t w b s) (n : Int) : Blk13 t (w.setCell ⟨b, 0, none⟩ (.int .i64 n)) b ⟨n, s.rt, s.va, s.ma, s.tr⟩ := by
  unfold Blk13 at *
  simp [World.setCell, Array.getElem?_modify, h]
theorem Blk13.set1 (h : Blk13 t w b s) (n : Int) : Blk13 t (w.setCell ⟨b, 1, none⟩ (.int .i64 n)) b ⟨s.lo, n, s.va, s.ma, s.tr⟩ := by
  unfold Blk13 at *
  simp [World.setCell, Array.getElem?_modify, h]
theorem Blk13.set2 (h : Blk13 t w b s) (n : Int) : Blk13 t (w.setCell ⟨b, 2, none⟩ (.int .i64 n)) b ⟨s.lo, s.rt, n, s.ma, s.tr⟩ := by
  unfold Blk13 at *
  simp [World.setCell, Array.getElem?_modify, h]
theorem Blk13.set3 (h : Blk13 t w b s) (n : Int) : Blk13 t (w.setCell ⟨b, 3, none⟩ (.int .i64 n)) b ⟨s.lo, s.rt, s.va, n, s.tr⟩ := by
  unfold Blk13 at *
  simp [World.setCell, Array.getElem?_modify, h]
theorem Blk13.set4 (h : Blk13 t w b s) (n : Int) : Blk13 t (w.setCell ⟨b, 4, none⟩ (.int .i64 n)) b ⟨s.lo, s.rt, s.va, s.ma, n⟩ := by
  unfold Blk13 at *
  simp [World.setCell, Array.getElem?_modify, h]
theorem Blk13.other (h : Blk13 t w b s) {p : Addr} (hp : b ≠ p.block) (u : Value) : Blk13 t (w.setCell p u) b s := h.keep (Below.heap_setCell w p u b hp)
theorem Blk13.new (w : World) (s : Sk) (t : TypeId) : Blk13 t (w.alloc (.cells #[.int .i64 s.lo, .int .i64 s.rt, .int .i64 s.va, .int .i64 s.ma, .int .i64 s.tr] t)) w.heap.size s := Go.Deep.blk_alloc_new w _
end
/-- What a call by pointer may turn: its block, and what is new. -/
structure Frm13 (b : Nat) (w w' : World) : Prop where
  os : w'.os = w.os
  tape : w'.tape = w.tape
  output : w'.output = w.output
  size : w.heap.size ≤ w'.heap.size
  block : ∀ k, k < w.heap.size → k ≠ b → w'.heap[k]? = w.heap[k]?
theorem Frm13.refl (b : Nat) (w : World) : Frm13 b w w := ⟨rfl, rfl, rfl, Nat.le_refl _, fun _ _ _ => rfl⟩
theorem Frm13.trans {b : Nat} {w w1 w2 : World} (h : Frm13 b w w1) (k : Frm13 b w1 w2) : Frm13 b w w2 :=
  ⟨k.os.trans h.os, k.tape.trans h.tape, k.output.trans h.output, Nat.le_trans h.size k.size, fun i hi h1 => (k.block i (Nat.lt_of_lt_of_le hi h.size) h1).trans (h.block i hi h1)⟩
theorem Frm13.drewN {b : Nat} {w w' : World} (h : Frm13 b w w') (k : Nat) : Frm13 b w (w'.drewN k) := ⟨h.os, h.tape, h.output, h.size, h.block⟩
theorem Frm13.drew {b : Nat} {w w' : World} (h : Frm13 b w w') : Frm13 b w w'.drew := ⟨h.os, h.tape, h.output, h.size, h.block⟩
theorem Frm13.set {b : Nat} {w w' : World} (h : Frm13 b w w') (i : Nat) (v : Value) : Frm13 b w (w'.setCell ⟨b, i, none⟩ v) :=
  ⟨h.os, h.tape, h.output, by simpa using h.size, fun k hk h1 => (Below.heap_setCell _ _ _ k h1).trans (h.block k hk h1)⟩
theorem Frm13.bel {b B : Nat} {w w' w0 : World} (h : Frm13 b w w') (h0 : Below B w0 w) (hB : B ≤ w.heap.size) (hb : B ≤ b) : Below B w0 w' :=
  h0.trans ⟨h.os, h.tape, h.output, h.size, fun k hk => h.block k (by omega) (by omega)⟩

end Go.Proofs.Ytjcbcdjfhcnhcaa
namespace Go.Proofs.Ytjcbcdjfhcnhcaa
open Go.RowKit

theorem clamp_trip (t : Int) : clampZ t 0 2000 = (if t < 0 then 0 else if 2000 < t then 2000 else t) := by
  unfold clampZ
  split <;> split <;> (try split) <;> omega
theorem abs_trip {a : Int} (h0 : -16000 ≤ a) (h1 : a ≤ 16000) : absZ a = absI a := by
  unfold absZ absI held
  split <;> omega
end Go.Proofs.Ytjcbcdjfhcnhcaa
