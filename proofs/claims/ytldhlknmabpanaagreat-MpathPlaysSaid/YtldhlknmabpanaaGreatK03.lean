/-
  Own text: how a way has done, in plain numbers.
    a way's numbers in their block and by value; a share of the way; Mark and Trip, walked.
    Trip, walked.
  Own text: layer 14 in plain numbers: a way, and what its calls make of it.
  Own text: a struct's cells that lie within a block, at any offset; what a call on them may turn.
-/
import Derived.Test.YtldhlknmabpanaaGreatK01
import Derived.Test.YtldhlknmabpanaaGreatK02
import Derived.WalkKit
import Derived.ProofKit
import Derived.StillTailTactics
import Derived.BigRegion
import Derived.Below
import Derived.Deep.MidRow
namespace Go.Proofs.YtldhlknmabpanaaGreat
open Go.RowKit

/-- A share of the way. -/
def toward (n to k : Int) : Int := n + (to - n) / k
theorem toward_up {n to k : Int} (hk : 0 < k) (h : n ≤ to) : n ≤ toward n to k ∧ toward n to k ≤ to := by
  unfold toward
  have h1 : 0 ≤ (to - n) / k := Int.ediv_nonneg (by omega) (by omega)
  have h2 : (to - n) / k ≤ to - n := Int.ediv_le_self _ (by omega)
  omega
theorem toward_down {n to k : Int} (hk : 0 < k) (h : to < n) : to ≤ toward n to k ∧ toward n to k < n := by
  unfold toward
  have h1 : (to - n) / k < 0 := Int.ediv_neg_of_neg_of_pos (by omega) hk
  have h2 : to - n ≤ (to - n) / k := Int.le_ediv_of_mul_le hk (by
    have : (to - n) * k ≤ (to - n) * 1 := Int.mul_le_mul_of_nonpos_left (by omega) (by omega)
    omega)
  omega
theorem toward_in {n to k M : Int} (hk : 0 < k) (h0 : 0 ≤ n) (h1 : n ≤ M) (g0 : 0 ≤ to) (g1 : to ≤ M) : 0 ≤ toward n to k ∧ toward n to k ≤ M := by
  by_cases h : n ≤ to
  · have := toward_up hk h; omega
  · have := toward_down hk (show to < n by omega); omega
/-- Its numbers: Loss, Rtt, Var, Marks, Trips. -/
structure Sk where
  lo : Int
  rt : Int
  va : Int
  ma : Int
  tr : Int
def Sk.zero : Sk := ⟨0, 0, 0, 0, 0⟩
/-- What may be, behind so many calls. -/
structure Sk.fit (s : Sk) (i : Nat) : Prop where
  l0 : 0 ≤ s.lo
  l1 : s.lo ≤ 65535
  r0 : 0 ≤ s.rt
  r1 : s.rt ≤ 16000
  v0 : 0 ≤ s.va
  v1 : s.va ≤ 16000
  m0 : 0 ≤ s.ma
  m1 : s.ma ≤ i
  t0 : 0 ≤ s.tr
  t1 : s.tr ≤ i
theorem Sk.zero_fit : Sk.zero.fit 0 := ⟨by decide, by decide, by decide, by decide, by decide, by decide, by decide, by decide, by decide, by decide⟩
theorem Sk.fit.more {s : Sk} {i : Nat} (h : s.fit i) : s.fit (i + 1) := ⟨h.l0, h.l1, h.r0, h.r1, h.v0, h.v1, h.m0, by have := h.m1; push_cast; omega, h.t0, by have := h.t1; push_cast; omega⟩
def Sk.mark (s : Sk) (b : Bool) : Sk := ⟨toward s.lo (if b = true then 65535 else 0) 16, s.rt, s.va, s.ma + 1, s.tr⟩
theorem Sk.mark_fit {s : Sk} {i : Nat} (h : s.fit i) (b : Bool) : (s.mark b).fit (i + 1) := by
  have k := toward_in (k := 16) (M := 65535) (to := if b = true then 65535 else 0) (by omega) h.l0 h.l1 (by split <;> omega) (by split <;> omega)
  have := h.more
  exact ⟨k.1, k.2, h.r0, h.r1, h.v0, h.v1, by have := h.m0; show 0 ≤ s.ma + 1; omega, by have := h.m1; show s.ma + 1 ≤ _; push_cast; omega, h.t0, this.t1⟩
/-- 8 times the ticks, held. -/
def trip8 (t : Int) : Int := 8 * (if t < 0 then 0 else if 2000 < t then 2000 else t)
theorem trip8_lo (t : Int) : 0 ≤ trip8 t ∧ trip8 t ≤ 16000 := by
  unfold trip8
  split
  · omega
  · split <;> omega
def absI (a : Int) : Int := if a < 0 then -a else a
def Sk.trip (s : Sk) (t : Int) : Sk :=
  if s.tr = 0 then ⟨s.lo, trip8 t, trip8 t / 2, s.ma, s.tr + 1⟩
  else ⟨s.lo, toward s.rt (trip8 t) 8, toward s.va (absI (trip8 t - s.rt)) 4, s.ma, s.tr + 1⟩
theorem absI_lo {t r : Int} (h0 : 0 ≤ t) (h1 : t ≤ 16000) (g0 : 0 ≤ r) (g1 : r ≤ 16000) : 0 ≤ absI (t - r) ∧ absI (t - r) ≤ 16000 := by
  unfold absI
  split <;> omega
theorem Sk.trip_fit {s : Sk} {i : Nat} (h : s.fit i) (t : Int) : (s.trip t).fit (i + 1) := by
  have k := trip8_lo t
  have t0 := h.t0
  have t1 := h.t1
  have m := h.more.m1
  unfold Sk.trip
  split
  · exact ⟨h.l0, h.l1, k.1, k.2, by dsimp only; omega, by dsimp only; omega, h.m0, m, by dsimp only; omega, by dsimp only; push_cast; omega⟩
  · have a := absI_lo k.1 k.2 h.r0 h.r1
    have r := toward_in (k := 8) (by omega) h.r0 h.r1 k.1 k.2
    have v := toward_in (k := 4) (by omega) h.v0 h.v1 a.1 a.2
    exact ⟨h.l0, h.l1, r.1, r.2, v.1, v.2, h.m0, m, by dsimp only; omega, by dsimp only; push_cast; omega⟩
/-- One call. -/
def Sk.act (s : Sk) (tp lost : Bool) (t : Int) : Sk := if tp = true then s.trip t else s.mark lost
def Sk.wait (s : Sk) : Int := if s.tr = 0 then 50 else (if (s.rt + 4 * s.va + 7) / 8 < 2 then 2 else if 200 < (s.rt + 4 * s.va + 7) / 8 then 200 else (s.rt + 4 * s.va + 7) / 8)
def Sk.score (s : Sk) : Int := (65536 - s.lo) * 64 / (64 + s.rt)
/-- How many must go, that so many come: rounded up, without a limit. -/
def Sk.many (s : Sk) (c : Int) : Int := (c * 65536 + (65536 - s.lo) - 1) / (65536 - s.lo)
def Sk.need (s : Sk) (c l : Int) : Int := if s.many (if c < 0 then 0 else c) < (if l < 0 then 0 else l) then s.many (if c < 0 then 0 else c) else (if l < 0 then 0 else l)
end Go.Proofs.YtldhlknmabpanaaGreat
namespace Go.Proofs.YtldhlknmabpanaaGreat
open Go.RowKit

/-- A way's block. -/
def Blk13 (t : TypeId) (w : World) (b : Nat) (s : Sk) : Prop := w.heap[b]? = some (.cells #[.int .i64 s.lo, .int .i64 s.rt, .int .i64 s.va, .int .i64 s.ma, .int .i64 s.tr] t (0, 0))
/-- A way by value. -/
def SV (s : Sk) : Value := .agg #[.int .i64 s.lo, .int .i64 s.rt, .int .i64 s.va, .int .i64 s.ma, .int .i64 s.tr]
section
variable {t : TypeId} {w : World} {b : Nat} {s : Sk}
theorem Blk13.lt (h : Blk13 t w b s) : b < w.heap.size := (Array.getElem?_eq_some_iff.1 h).1
theorem Blk13.cells (h : Blk13 t w b s) : w.cell? ⟨b, 0, none⟩ = some (.int .i64 s.lo) ∧ w.cell? ⟨b, 1, none⟩ = some (.int .i64 s.rt) ∧ w.cell? ⟨b, 2, none⟩ = some (.int .i64 s.va) ∧ w.cell? ⟨b, 3, none⟩ = some (.int .i64 s.ma) ∧ w.cell? ⟨b, 4, none⟩ = some (.int .i64 s.tr) := by
  unfold Blk13 at h
  simp [World.cell?, h]
theorem Blk13.frozen (h : Blk13 t w b s) (i : Nat) : w.frozen? ⟨b, i, none⟩ = false := by
  unfold Blk13 at h
  simp [World.frozen?, h]
theorem Blk13.keep {w' : World} (h : Blk13 t w b s) (e : w'.heap[b]? = w.heap[b]?) : Blk13 t w' b s := e.trans h
theorem Blk13.drewN (h : Blk13 t w b s) (j : Nat) : Blk13 t (w.drewN j) b s := h.keep rfl
theorem Blk13.below {w' : World} {B : Nat} (h : Blk13 t w b s) (hb : Below B w w') (hB : b < B) : Blk13 t w' b s := h.keep (hb.block b hB)
theorem Blk13.set0 (h : Blk13 t w b s) (n : Int) : Blk13 t (w.setCell ⟨b, 0, none⟩ (.int .i64 n)) b ⟨n, s.rt, s.va, s.ma, s.tr⟩ := by
  unfold Blk13 at *
  simp [World.setCell, Array.getElem?_modify, h]
theorem Blk13.set1 (h : Blk13 t w b s) (n : Int) : Blk13 t (w.setCell ⟨b, 1, none⟩ (.int .i64 n)) b ⟨s.lo, n, s.va, s.ma, s.tr⟩ := by
  unfold Blk13 at *
  simp [World.setCell, Array.getElem?_modify, h]
theorem Blk13.set2 (h : Blk13 t w b s) (n : Int) : Blk13 t (w.setCell ⟨b, 2, none⟩ (.int .i64 n)) b ⟨s.lo, s.rt, n, s.ma, s.tr⟩ := by
  unfold Blk13 at *
  simp [World.setCell, Array.getElem?_modify, h]
theorem Blk13.set3 (h : Blk13 t w b s) (n : Int) : Blk13 t (w.setCell ⟨b, 3, none⟩ (.int .i64 n)) b ⟨s.lo, s.rt, s.va, n, s.tr⟩ := by
  unfold Blk13 at *
  simp [World.setCell, Array.getElem?_modify, h]
theorem Blk13.set4 (h : Blk13 t w b s) (n : Int) : Blk13 t (w.setCell ⟨b, 4, none⟩ (.int .i64 n)) b ⟨s.lo, s.rt, s.va, s.ma, n⟩ := by
  unfold Blk13 at *
  simp [World.setCell, Array.getElem?_modify, h]
theorem Blk13.other (h : Blk13 t w b s) {p : Addr} (hp : b ≠ p.block) (u : Value) : Blk13 t (w.setCell p u) b s := h.keep (Below.heap_setCell w p u b hp)
theorem Blk13.new (w : World) (s : Sk) (t : TypeId) : Blk13 t (w.alloc (.cells #[.int .i64 s.lo, .int .i64 s.rt, .int .i64 s.va, .int .i64 s.ma, .int .i64 s.tr] t)) w.heap.size s := Go.Deep.blk_alloc_new w _
end
/-- What a call by pointer may turn: its block, and what is new. -/
structure Frm13 (b : Nat) (w w' : World) : Prop where
  os : w'.os = w.os
  tape : w'.tape = w.tape
  output : w'.output = w.output
  size : w.heap.size ≤ w'.heap.size
  block : ∀ k, k < w.heap.size → k ≠ b → w'.heap[k]? = w.heap[k]?
theorem Frm13.refl (b : Nat) (w : World) : Frm13 b w w := ⟨rfl, rfl, rfl, Nat.le_refl _, fun _ _ _ => rfl⟩
theorem Frm13.trans {b : Nat} {w w1 w2 : World} (h : Frm13 b w w1) (k : Frm13 b w1 w2) : Frm13 b w w2 :=
  ⟨k.os.trans h.os, k.tape.trans h.tape, k.output.trans h.output, Nat.le_trans h.size k.size, fun i hi h1 => (k.block i (Nat.lt_of_lt_of_le hi h.size) h1).trans (h.block i hi h1)⟩
theorem Frm13.drewN {b : Nat} {w w' : World} (h : Frm13 b w w') (k : Nat) : Frm13 b w (w'.drewN k) := ⟨h.os, h.tape, h.output, h.size, h.block⟩
theorem Frm13.drew {b : Nat} {w w' : World} (h : Frm13 b w w') : Frm13 b w w'.drew := ⟨h.os, h.tape, h.output, h.size, h.block⟩
theorem Frm13.set {b : Nat} {w w' : World} (h : Frm13 b w w') (i : Nat) (v : Value) : Frm13 b w (w'.setCell ⟨b, i, none⟩ v) :=
  ⟨h.os, h.tape, h.output, by simpa using h.size, fun k hk h1 => (Below.heap_setCell _ _ _ k h1).trans (h.block k hk h1)⟩
theorem Frm13.bel {b B : Nat} {w w' w0 : World} (h : Frm13 b w w') (h0 : Below B w0 w) (hB : B ≤ w.heap.size) (hb : B ≤ b) : Below B w0 w' :=
  h0.trans ⟨h.os, h.tape, h.output, h.size, fun k hk => h.block k (by omega) (by omega)⟩

theorem toward_any (n to k : Int) (hk : 0 < k) (hk' : k ≤ 16) (n0 : 0 ≤ n) (n1 : n ≤ 65535) (t0 : 0 ≤ to) (t1 : to ≤ 65535) (w : World) :
    Calls Tryz.prog 104 #[.int .i64 n, .int .i64 to, .int .i64 k] w fun e w' => e = .returned (.int .i64 (toward n to k)) ∧ w = w' := by
  have hq := floor_div (to - n) k (by omega) (by omega) hk (by omega)
  have hl := toward_in hk n0 n1 t0 t1
  have CF := Lib.hid (floor_any (to - n) k)
  rw [hq] at CF
  unfold toward at hl ⊢
  generalize (to - n) / k = q at *
  clear hq
  go_enter Tryz.func104, Tryz.ntmps104
  go_wp2_with (first
    | (go_at_call 124; (with_reducible refine (CF.out _).mono ?_); rintro e w1 ⟨rfl, rfl⟩)
    | fail)
  go_ret
  exact ⟨rfl, rfl⟩
theorem rtoward_any (n to k : Int) (hk : 0 < k) (hk' : k ≤ 16) (n0 : 0 ≤ n) (n1 : n ≤ 65535) (t0 : 0 ≤ to) (t1 : to ≤ 65535) (w : World) :
    Calls Tryz.prog 102 #[.int .i64 n, .int .i64 to, .int .i64 k] w fun e w' => e = .returned (.int .i64 (toward n to k)) ∧ w = w' := by
  have hq := floor_div (to - n) k (by omega) (by omega) hk (by omega)
  have hl := toward_in hk n0 n1 t0 t1
  have CF := Lib.hid (rfloor_any (to - n) k)
  rw [hq] at CF
  unfold toward at hl ⊢
  generalize (to - n) / k = q at *
  clear hq
  go_enter Tryz.func102, Tryz.ntmps102
  go_wp2_with (first
    | (go_at_call 123; (with_reducible refine (CF.out _).mono ?_); rintro e w1 ⟨rfl, rfl⟩)
    | fail)
  go_ret
  exact ⟨rfl, rfl⟩
end Go.Proofs.YtldhlknmabpanaaGreat
namespace Go.Proofs.YtldhlknmabpanaaGreat
open Go.RowKit

theorem clamp_trip (t : Int) : clampZ t 0 2000 = (if t < 0 then 0 else if 2000 < t then 2000 else t) := by
  unfold clampZ
  split <;> split <;> (try split) <;> omega
theorem abs_trip {a : Int} (h0 : -16000 ≤ a) (h1 : a ≤ 16000) : absZ a = absI a := by
  unfold absZ absI held
  split <;> omega
end Go.Proofs.YtldhlknmabpanaaGreat
namespace Go.Proofs.YtldhlknmabpanaaGreat

/-- A way: how it has done, what came by it, Quiet, Probe, Gap, Next. -/
structure Pn where
  st : Sk
  sn : Sn
  q : Int
  pr : Int
  ga : Int
  nx : Nat
def Pn.zero : Pn := ⟨Sk.zero, Sn.zero, 0, 0, 0, 0⟩
abbrev Pn.cells (p : Pn) : Array Value := #[.int .i64 p.st.lo, .int .i64 p.st.rt, .int .i64 p.st.va, .int .i64 p.st.ma, .int .i64 p.st.tr, .bool p.sn.any, .int .u32 p.sn.top, .int .u64 p.sn.bts.toNat, .int .i64 p.sn.came, .int .i64 p.sn.twice, .int .i64 p.sn.lost, .int .i64 p.q, .int .i64 p.pr, .int .i64 p.ga, .int .u32 p.nx]
/-- Quiet, Probe and Gap are what they may be. -/
structure Pn.ok (p : Pn) : Prop where
  q0 : 0 ≤ p.q
  q1 : p.q ≤ 1073741824
  pg : (p.ga = 0 ∧ p.pr = 0) ∨ (5 ≤ p.ga ∧ p.ga ≤ 80 ∧ 1 ≤ p.pr ∧ p.pr ≤ 80)
/-- What may be, behind so many calls. -/
structure Pn.fit (p : Pn) (k : Nat) : Prop where
  st : p.st.fit (65 * k)
  sn : p.sn.fit k
  ok : p.ok
  nx : p.nx < 4294967296
theorem Pn.zero_fit : Pn.zero.fit 0 := ⟨Sk.zero_fit, ⟨by decide, by decide, by decide, by decide, fun _ => rfl⟩, ⟨by decide, by decide, .inl ⟨rfl, rfl⟩⟩, by decide⟩
theorem Sk.fit.upto {s : Sk} {i j : Nat} (h : s.fit i) (hij : i ≤ j) : s.fit j := ⟨h.l0, h.l1, h.r0, h.r1, h.v0, h.v1, h.m0, by have := h.m1; omega, h.t0, by have := h.t1; omega⟩
theorem Sn.fit.upto {s : Sn} {i j : Nat} (h : s.fit i) (hij : i ≤ j) : s.fit j := ⟨h.top, by have := h.came; omega, by have := h.twice; omega, by have := h.lost; omega, h.no⟩
theorem Pn.fit.upto {p : Pn} {i j : Nat} (h : p.fit i) (hij : i ≤ j) : p.fit j := ⟨h.st.upto (by omega), h.sn.upto hij, h.ok, h.nx⟩
/-- How it is. -/
def stateOf (q : Int) : Int := if 60 ≤ q then 2 else if 20 ≤ q then 1 else 0
def Pn.state (p : Pn) : Int := stateOf p.q
/-- One more quiet tick. -/
def more30 (q : Int) : Int := if q < 1073741824 then q + 1 else 1073741824
theorem more30_lo {q : Int} (h0 : 0 ≤ q) : 1 ≤ more30 q ∧ more30 q ≤ 1073741824 := by
  unfold more30
  split <;> omega
/-- A tick: the way then. -/
def Pn.tick (p : Pn) : Pn :=
  if more30 p.q < 20 then ⟨p.st, p.sn, more30 p.q, 0, 0, p.nx⟩
  else if p.ga = 0 then ⟨p.st, p.sn, more30 p.q, 5, 10, p.nx⟩
  else if 1 < p.pr then ⟨p.st, p.sn, more30 p.q, p.pr - 1, p.ga, p.nx⟩
  else ⟨p.st, p.sn, more30 p.q, p.ga, if 40 < p.ga then 80 else 2 * p.ga, p.nx⟩
/-- Is it tried? -/
def Pn.fires (p : Pn) : Bool := if more30 p.q < 20 then false else if p.ga = 0 then true else if 1 < p.pr then false else true
theorem Pn.tick_ok {p : Pn} (h : p.ok) : p.tick.ok := by
  have m := more30_lo h.q0
  have hg := h.pg
  unfold Pn.tick
  split
  · exact ⟨by dsimp only; omega, by dsimp only; omega, .inl ⟨rfl, rfl⟩⟩
  · split
    · exact ⟨by dsimp only; omega, by dsimp only; omega, .inr (by dsimp only; omega)⟩
    · split
      · exact ⟨by dsimp only; omega, by dsimp only; omega, .inr (by dsimp only; omega)⟩
      · exact ⟨by dsimp only; omega, by dsimp only; omega, .inr (by dsimp only; split <;> omega)⟩
theorem Pn.tick_st (p : Pn) : p.tick.st = p.st := by
  unfold Pn.tick
  split
  · rfl
  · split
    · rfl
    · split <;> rfl
theorem Pn.tick_sn (p : Pn) : p.tick.sn = p.sn := by
  unfold Pn.tick
  split
  · rfl
  · split
    · rfl
    · split <;> rfl
theorem Pn.tick_nx (p : Pn) : p.tick.nx = p.nx := by
  unfold Pn.tick
  split
  · rfl
  · split
    · rfl
    · split <;> rfl
theorem Pn.tick_q (p : Pn) : p.tick.q = more30 p.q := by
  unfold Pn.tick
  split
  · rfl
  · split
    · rfl
    · split <;> rfl
theorem Pn.tick_fit {p : Pn} {k : Nat} (h : p.fit k) : p.tick.fit k :=
  ⟨by rw [Pn.tick_st]; exact h.st, by rw [Pn.tick_sn]; exact h.sn, Pn.tick_ok h.ok, by rw [Pn.tick_nx]; exact h.nx⟩
/-- So many were lost. -/
def Sk.marks (s : Sk) : Nat → Sk
  | 0 => s
  | n + 1 => (s.marks n).mark true
theorem Sk.marks_fit {s : Sk} {i : Nat} (h : s.fit i) : ∀ n, (s.marks n).fit (i + n)
  | 0 => h
  | n + 1 => Sk.mark_fit (Sk.marks_fit h n) true
/-- How many of them are told of. -/
def Pn.lostBy (p : Pn) (n : Nat) : Nat := if p.sn.any = true then min ((p.sn.take n).1.lost - p.sn.lost) 64 else 0
/-- A datagram is heard: the way then, the error's number. -/
def Pn.heard (p : Pn) (n : Nat) : Pn :=
  if (p.sn.take n).2 = 0 then ⟨(p.st.marks (p.lostBy n)).mark false, (p.sn.take n).1, 0, 0, 0, p.nx⟩
  else ⟨p.st, (p.sn.take n).1, 0, 0, 0, p.nx⟩
theorem Pn.heard_fit {p : Pn} {n k : Nat} (hn : n < 4294967296) (h : p.fit k) : (p.heard n).fit (k + 1) := by
  have h1 := Sn.take_fit hn h.sn
  have hl : p.lostBy n ≤ 64 := by unfold Pn.lostBy; split <;> omega
  have h2 := Sk.mark_fit (Sk.marks_fit h.st (p.lostBy n)) false
  unfold Pn.heard
  split
  · exact ⟨h2.upto (by omega), h1, ⟨Int.le_refl 0, (by decide : (0 : Int) ≤ 1073741824), .inl ⟨rfl, rfl⟩⟩, h.nx⟩
  · exact ⟨h.st.upto (by omega), h1, ⟨Int.le_refl 0, (by decide : (0 : Int) ≤ 1073741824), .inl ⟨rfl, rfl⟩⟩, h.nx⟩
/-- What was lost doesn't become fewer, once something came. -/
theorem Sn.take_lost (s : Sn) (n : Nat) (hs : s.any = true) : s.lost ≤ (s.take n).1.lost := by
  unfold Sn.take
  rw [if_neg (by rw [hs]; decide)]
  split
  · exact Nat.le_refl _
  · split
    · show s.lost ≤ s.lost + _ + _
      omega
    · split <;> exact Nat.le_refl _
/-- A round trip. -/
def Pn.trip (p : Pn) (t : Int) : Pn := ⟨p.st.trip t, p.sn, p.q, p.pr, p.ga, p.nx⟩
theorem Pn.trip_fit {p : Pn} {k : Nat} (h : p.fit k) (t : Int) : (p.trip t).fit (k + 1) := ⟨(Sk.trip_fit h.st t).upto (by omega), h.sn.upto (by omega), ⟨h.ok.q0, h.ok.q1, h.ok.pg⟩, h.nx⟩
/-- A datagram goes. -/
def Pn.number (p : Pn) : Pn := ⟨p.st, p.sn, p.q, p.pr, p.ga, (p.nx + 1) % 4294967296⟩
theorem Pn.number_fit {p : Pn} {k : Nat} (h : p.fit k) : p.number.fit (k + 1) := ⟨h.st.upto (by omega), h.sn.upto (by omega), ⟨h.ok.q0, h.ok.q1, h.ok.pg⟩, Nat.mod_lt _ (by decide)⟩
/-- So many ticks. -/
def Pn.ticks (p : Pn) : Nat → Pn
  | 0 => p
  | n + 1 => (p.ticks n).tick
end Go.Proofs.YtldhlknmabpanaaGreat
namespace Go.Proofs.YtldhlknmabpanaaGreat
open Go.RowKit

/-- These cells lie in block b from offset o on, and may be written. -/
def Lies (w : World) (b o : Nat) (cs : Array Value) : Prop :=
  ∃ C t, w.heap[b]? = some (.cells C t (0, 0)) ∧ o + cs.size ≤ C.size ∧ ∀ j, j < cs.size → C[o + j]? = cs[j]?
section
variable {w : World} {b o : Nat} {cs : Array Value}
theorem Lies.lt (h : Lies w b o cs) : b < w.heap.size := by
  obtain ⟨C, t, h, _, _⟩ := h
  exact (Array.getElem?_eq_some_iff.1 h).1
theorem Lies.cell (h : Lies w b o cs) (i : Nat) (hi : i < cs.size) : w.cell? ⟨b, o + i, none⟩ = cs[i]? := by
  obtain ⟨C, t, h, _, hc⟩ := h
  rw [← hc i hi]
  simp [World.cell?, h]
theorem Lies.frozen (h : Lies w b o cs) (i : Nat) : w.frozen? ⟨b, i, none⟩ = false := by
  obtain ⟨C, t, h, _, _⟩ := h
  simp [World.frozen?, h]
theorem Lies.keep {w' : World} (h : Lies w b o cs) (e : w'.heap[b]? = w.heap[b]?) : Lies w' b o cs := by
  obtain ⟨C, t, h, hs, hc⟩ := h
  exact ⟨C, t, e.trans h, hs, hc⟩
theorem Lies.below {w' : World} {B : Nat} (h : Lies w b o cs) (hb : Below B w w') (hB : b < B) : Lies w' b o cs := h.keep (hb.block b hB)
theorem Lies.drew (h : Lies w b o cs) : Lies w.drew b o cs := h
theorem Lies.drewN (h : Lies w b o cs) (n : Nat) : Lies (w.drewN n) b o cs := h.keep rfl
/-- One of them is written. -/
theorem Lies.set (h : Lies w b o cs) (i : Nat) (v : Value) : Lies (w.setCell ⟨b, o + i, none⟩ v) b o (cs.setIfInBounds i v) := by
  obtain ⟨C, t, h, hs, hc⟩ := h
  refine ⟨C.setIfInBounds (o + i) v, t, by simp [World.setCell, Array.getElem?_modify, h], by simpa using hs, fun j hj => ?_⟩
  rw [Array.size_setIfInBounds] at hj
  rw [Array.getElem?_setIfInBounds, Array.getElem?_setIfInBounds]
  by_cases e : i = j
  · subst e
    rw [if_pos rfl, if_pos rfl, if_pos (by omega), if_pos hj]
  · rw [if_neg (by omega), if_neg e, hc j hj]
theorem Lies.set0 (h : Lies w b o cs) (v : Value) : Lies (w.setCell ⟨b, o, none⟩ v) b o (cs.setIfInBounds 0 v) := h.set 0 v
theorem Lies.other (h : Lies w b o cs) {p : Addr} (hp : b ≠ p.block) (v : Value) : Lies (w.setCell p v) b o cs := h.keep (Below.heap_setCell w p v b hp)
/-- Some of them. -/
theorem Lies.sub (h : Lies w b o cs) (k : Nat) (ds : Array Value) (hk : k + ds.size ≤ cs.size) (hd : ∀ j, j < ds.size → ds[j]? = cs[k + j]?) : Lies w b (o + k) ds := by
  obtain ⟨C, t, h, hs, hc⟩ := h
  refine ⟨C, t, h, by omega, fun j hj => ?_⟩
  rw [hd j hj, ← hc (k + j) (by omega), Nat.add_assoc]
theorem Lies.range (h : Lies w b o cs) : w.rangeAt b o cs.toList := fun j v hv => by
  have hj : j < cs.size := by simpa using (List.getElem?_eq_some_iff.1 hv).1
  rw [h.cell j hj, ← hv]
  simp
theorem Lies.there (h : Lies w b o cs) : w.there b o cs.size := fun j hj => ⟨by rw [h.cell j hj]; simp [hj], h.frozen _⟩
theorem Lies.eq {ds : Array Value} (h : Lies w b o cs) (e : cs = ds) : Lies w b o ds := e ▸ h
/-- A block that is new. -/
theorem Lies.new (w : World) (cs : Array Value) (t : TypeId) {w' : World} (h : Below (w.alloc (.cells cs t)).heap.size (w.alloc (.cells cs t)) w') : Lies w' w.heap.size 0 cs :=
  ⟨cs, t, by
    rw [h.block _ (by simp)]
    show (w.heap.push _)[w.heap.size]? = _
    simp, by omega, fun j _ => by rw [Nat.zero_add]⟩
end
/-- What a call on such cells may turn: these cells, and what is new. -/
structure Prt (b o n : Nat) (w w' : World) : Prop where
  os : w'.os = w.os
  tape : w'.tape = w.tape
  output : w'.output = w.output
  size : w.heap.size ≤ w'.heap.size
  block : ∀ k, k < w.heap.size → k ≠ b → w'.heap[k]? = w.heap[k]?
  part : ∀ C t, w.heap[b]? = some (.cells C t (0, 0)) → ∃ C', w'.heap[b]? = some (.cells C' t (0, 0)) ∧ C'.size = C.size ∧ ∀ j, (j < o ∨ o + n ≤ j) → C'[j]? = C[j]?
section
variable {b o n : Nat} {w w' w'' : World}
theorem Prt.refl (b o n : Nat) (w : World) : Prt b o n w w := ⟨rfl, rfl, rfl, Nat.le_refl _, fun _ _ _ => rfl, fun C _ h => ⟨C, h, rfl, fun _ _ => rfl⟩⟩
theorem Prt.trans (h : Prt b o n w w') (k : Prt b o n w' w'') : Prt b o n w w'' :=
  ⟨k.os.trans h.os, k.tape.trans h.tape, k.output.trans h.output, Nat.le_trans h.size k.size, fun i hi h1 => (k.block i (Nat.lt_of_lt_of_le hi h.size) h1).trans (h.block i hi h1), fun C t e => by
    obtain ⟨C', e', s', c'⟩ := h.part C t e
    obtain ⟨C'', e'', s'', c''⟩ := k.part C' t e'
    exact ⟨C'', e'', s''.trans s', fun j hj => (c'' j hj).trans (c' j hj)⟩⟩
/-- A wider part. -/
theorem Prt.wide (h : Prt b o n w w') {o' n' : Nat} (h1 : o' ≤ o) (h2 : o + n ≤ o' + n') : Prt b o' n' w w' :=
  ⟨h.os, h.tape, h.output, h.size, h.block, fun C t e => by
    obtain ⟨C', e', s', c'⟩ := h.part C t e
    exact ⟨C', e', s', fun j hj => c' j (by omega)⟩⟩
theorem Prt.drew (h : Prt b o n w w') : Prt b o n w w'.drew := ⟨h.os, h.tape, h.output, h.size, h.block, h.part⟩
theorem Prt.drewN (h : Prt b o n w w') (k : Nat) : Prt b o n w (w'.drewN k) := ⟨h.os, h.tape, h.output, h.size, h.block, h.part⟩
theorem Prt.set (h : Prt b o n w w') (i : Nat) (hi : i < n) (v : Value) : Prt b o n w (w'.setCell ⟨b, o + i, none⟩ v) :=
  h.trans ⟨rfl, rfl, rfl, by simp [World.setCell], fun k _ h1 => Below.heap_setCell _ _ _ k h1, fun C t e => by
    refine ⟨C.setIfInBounds (o + i) v, by simp [World.setCell, Array.getElem?_modify, e], by simp, fun j hj => ?_⟩
    rw [Array.getElem?_setIfInBounds, if_neg (by omega)]⟩
theorem Prt.set0 (h : Prt b o n w w') (hn : 0 < n) (v : Value) : Prt b o n w (w'.setCell ⟨b, o, none⟩ v) := h.set 0 hn v
/-- What is new may be whatever. -/
theorem Prt.below (h : Prt b o n w w') (hb : b < w'.heap.size) (k : Below w'.heap.size w' w'') : Prt b o n w w'' :=
  h.trans ⟨k.os, k.tape, k.output, k.size, fun i hi _ => k.block i hi, fun C _ e => ⟨C, (k.block b hb).trans e, rfl, fun _ _ => rfl⟩⟩
theorem Prt.bel (h : Prt b o n w w') {B : Nat} {w0 : World} (h0 : Below B w0 w) (hB : B ≤ w.heap.size) (hb : B ≤ b) : Below B w0 w' :=
  h0.trans ⟨h.os, h.tape, h.output, h.size, fun k hk => h.block k (by omega) (by omega)⟩
/-- A part of a struct is turned: what the whole is then. -/
theorem Lies.patch {o k m : Nat} {cs ds cs' : Array Value} (h : Lies w b o cs) (hp : Prt b (o + k) m w w') (hd : Lies w' b (o + k) ds) (hm : ds.size = m) (hs : cs'.size = cs.size)
    (hc : ∀ j, j < cs.size → cs'[j]? = if k ≤ j ∧ j < k + m then ds[j - k]? else cs[j]?) : Lies w' b o cs' := by
  obtain ⟨C, t, hb, hsz, hcc⟩ := h
  obtain ⟨C', e', s', c'⟩ := hp.part C t hb
  obtain ⟨D, t2, hb2, hs2, hd2⟩ := hd
  rw [e'] at hb2
  obtain ⟨rfl, rfl⟩ : C' = D ∧ t = t2 := by
    have := Option.some.inj hb2
    injection this with h1 h2 h3
    exact ⟨h1, h2⟩
  refine ⟨C', t, e', by omega, fun j hj => ?_⟩
  rw [hs] at hj
  rw [hc j hj]
  by_cases hk : k ≤ j ∧ j < k + m
  · rw [if_pos hk, ← hd2 (j - k) (by omega)]
    congr 1
    omega
  · rw [if_neg hk, c' (o + j) (by omega), hcc j hj]
/-- What lies beside it is as it was. -/
theorem Lies.beside {o' : Nat} {cs : Array Value} (h : Lies w b o' cs) (hp : Prt b o n w w') (ha : o' + cs.size ≤ o ∨ o + n ≤ o') : Lies w' b o' cs := by
  obtain ⟨C, t, hb, hsz, hcc⟩ := h
  obtain ⟨C', e', s', c'⟩ := hp.part C t hb
  exact ⟨C', t, e', by omega, fun j hj => by rw [c' (o' + j) (by omega), hcc j hj]⟩
theorem Lies.apart {b' o' : Nat} {cs : Array Value} (h : Lies w b' o' cs) (hp : Prt b o n w w') (ha : b' ≠ b) : Lies w' b' o' cs := h.keep (hp.block b' h.lt ha)
end
end Go.Proofs.YtldhlknmabpanaaGreat
