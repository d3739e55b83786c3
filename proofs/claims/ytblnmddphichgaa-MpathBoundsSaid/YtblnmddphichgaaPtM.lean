/-
  Own text: layer 14 in plain numbers: a way, and what its calls make of it.
-/
import Derived.Test.YtblnmddphichgaaSqD
import Derived.Test.YtblnmddphichgaaStB
namespace Go.Proofs.Ytblnmddphichgaa

/-- A way: how it has done, what came by it, Quiet, Probe, Gap, Next. -/
structure Pn where
  st : Sk
  sn : Sn
  q : Int
  pr : Int
  ga : Int
  nx : Nat
def Pn.zero : Pn := ⟨Sk.zero, Sn.zero, 0, 0, 0, 0⟩
abbrev Pn.cells (p : Pn) : Array Value := #[.int .i64 p.st.lo, .int .i64 p.st.rt, .int .i64 p.st.va, .int .i64 p.st.ma, .int .i64 p.st.tr, .bool p.sn.any, .int .u32 p.sn.top, .int .u64 p.sn.bts.toNat, .int .i64 p.sn.came, .int .i64 p.sn.twice, .int .i64 p.sn.lost, .int .i64 p.q, .int .i64 p.pr, .int .i64 p.ga, .int .u32 p.nx]
/-- Quiet, Probe and Gap are what they may be. -/
structure Pn.ok (p : Pn) : Prop where
  q0 : 0 ≤ p.q
  q1 : p.q ≤ 1073741824
  pg : (p.ga = 0 ∧ p.pr = 0) ∨ (5 ≤ p.ga ∧ p.ga ≤ 80 ∧ 1 ≤ p.pr ∧ p.pr ≤ 80)
/-- What may be, behind so many calls. -/
structure Pn.fit (p : Pn) (k : Nat) : Prop where
  st : p.st.fit (65 * k)
  sn : p.sn.fit k
  ok : p.ok
  nx : p.nx < 4294967296
theorem Pn.zero_fit : Pn.zero.fit 0 := ⟨Sk.zero_fit, ⟨by decide, by decide, by decide, by decide, fun _ => rfl⟩, ⟨by decide, by decide, .inl ⟨rfl, rfl⟩⟩, by decide⟩
theorem Sk.fit.upto {s : Sk} {i j : Nat} (h : s.fit i) (hij : i ≤ j) : s.fit j := ⟨h.l0, h.l1, h.r0, h.r1, h.v0, h.v1, h.m0, by have := h.m1; omega, h.t0, by have := h.t1; omega⟩
theorem Sn.fit.upto {s : Sn} {i j : Nat} (h : s.fit i) (hij : i ≤ j) : s.fit j := ⟨h.top, by have := h.came; omega, by have := h.twice; omega, by have := h.lost; omega, h.no⟩
theorem Pn.fit.upto {p : Pn} {i j : Nat} (h : p.fit i) (hij : i ≤ j) : p.fit j := ⟨h.st.upto (by omega), h.sn.upto hij, h.ok, h.nx⟩
/-- How it is. -/
def stateOf (q : Int) : Int := if 60 ≤ q then 2 else if 20 ≤ q then 1 else 0
def Pn.state (p : Pn) : Int := stateOf p.q
/-- One more quiet tick. -/
def more30 (q : Int) : Int := if q < 1073741824 then q + 1 else 1073741824
theorem more30_lo {q : Int} (h0 : 0 ≤ q) : 1 ≤ more30 q ∧ more30 q ≤ 1073741824 := by
  unfold more30
  split <;> omega
/-- A tick: the way then. -/
def Pn.tick (p : Pn) : Pn :=
  if more30 p.q < 20 then ⟨p.st, p.sn, more30 p.q, 0, 0, p.nx⟩
  else if p.ga = 0 then ⟨p.st, p.sn, more30 p.q, 5, 10, p.nx⟩
  else if 1 < p.pr then ⟨p.st, p.sn, more30 p.q, p.pr - 1, p.ga, p.nx⟩
  else ⟨p.st, p.sn, more30 p.q, p.ga, if 40 < p.ga then 80 else 2 * p.ga, p.nx⟩
/-- Is it tried? -/
def Pn.fires (p : Pn) : Bool := if more30 p.q < 20 then false else if p.ga = 0 then true else if 1 < p.pr then false else true
theorem Pn.tick_ok {p : Pn} (h : p.ok) : p.tick.ok := by
  have m := more30_lo h.q0
  have hg := h.pg
  unfold Pn.tick
  split
  · exact ⟨by dsimp only; omega, by dsimp only; omega, .inl ⟨rfl, rfl⟩⟩
  · split
    · exact ⟨by dsimp only; omega, by dsimp only; omega, .inr (by dsimp only; omega)⟩
    · split
      · exact ⟨by dsimp only; omega, by dsimp only; omega, .inr (by dsimp only; omega)⟩
      · exact ⟨by dsimp only; omega, by dsimp only; omega, .inr (by dsimp only; split <;> omega)⟩
theorem Pn.tick_st (p : Pn) : p.tick.st = p.st := by
  unfold Pn.tick
  split
  · rfl
  · split
    · rfl
    · split <;> rfl
theorem Pn.tick_sn (p : Pn) : p.tick.sn = p.sn := by
  unfold Pn.tick
  split
  · rfl
  · split
    · rfl
    · split <;> rfl
theorem Pn.tick_nx (p : Pn) : p.tick.nx = p.nx := by
  unfold Pn.tick
  split
  · rfl
  · split
    · rfl
    · split <;> rfl
theorem Pn.tick_q (p : Pn) : p.tick.q = more30 p.q := by
  unfold Pn.tick
  split
  · rfl
  · split
    · rfl
    · split <;> rfl
theorem Pn.tick_fit {p : Pn} {k : Nat} (h : p.fit k) : p.tick.fit k :=
  ⟨by rw [Pn.tick_st]; exact h.st, by rw [Pn.tick_sn]; exact h.sn, Pn.tick_ok h.ok, by rw [Pn.tick_nx]; exact h.nx⟩
/-- So many were lost. -/
def Sk.marks (s : Sk) : Nat → Sk
  | 0 => s
  | n + 1 => (s.marks n).mark true
theorem Sk.marks_fit {s : Sk} {i : Nat} (h : s.fit i) : ∀ n, (s.marks n).fit (i + n)
  | 0 => h
  | n + 1 => Sk.mark_fit (Sk.marks_fit h n) true
/-- How many of them are told of. -/
def Pn.lostBy (p : Pn) (n : Nat) : Nat := if p.sn.any = true then min ((p.sn.take n).1.lost - p.sn.lost) 64 else 0
/-- A datagram is heard: the way then, the error's number. -/
def Pn.heard (p : Pn) (n : Nat) : Pn :=
  if (p.sn.take n).2 = 0 then ⟨(p.st.marks (p.lostBy n)).mark false, (p.sn.take n).1, 0, 0, 0, p.nx⟩
  else ⟨p.st, (p.sn.take n).1, 0, 0, 0, p.nx⟩
theorem Pn.heard_fit {p : Pn} {n k : Nat} (hn : n < 4294967296) (h : p.fit k) : (p.heard n).fit (k + 1) := by
  have h1 := Sn.take_fit hn h.sn
  have hl : p.lostBy n ≤ 64 := by unfold Pn.lostBy; split <;> omega
  have h2 := Sk.mark_fit (Sk.marks_fit h.st (p.lostBy n)) false
  unfold Pn.heard
  split
  · exact ⟨h2.upto (by omega), h1, ⟨Int.le_refl 0, (by decide : (0 : Int) ≤ 1073741824), .inl ⟨rfl, rfl⟩⟩, h.nx⟩
  · exact ⟨h.st.upto (by omega), h1, ⟨Int.le_refl 0, (by decide : (0 : Int) ≤ 1073741824), .inl ⟨rfl, rfl⟩⟩, h.nx⟩
/-- What was lost doesn't become fewer, once something came. -/
theorem Sn.take_lost (s : Sn) (n : Nat) (hs : s.any = true) : s.lost ≤ (s.take n).1.lost := by
  unfold Sn.take
  rw [if_neg (by rw [hs]; decide)]
  split
  · exact Nat.le_refl _
  · split
    · show s.lost ≤ s.lost + _ + _
      omega
    · split <;> exact Nat.le_refl _
/-- A round trip. -/
def Pn.trip (p : Pn) (t : Int) : Pn := ⟨p.st.trip t, p.sn, p.q, p.pr, p.ga, p.nx⟩
theorem Pn.trip_fit {p : Pn} {k : Nat} (h : p.fit k) (t : Int) : (p.trip t).fit (k + 1) := ⟨(Sk.trip_fit h.st t).upto (by omega), h.sn.upto (by omega), ⟨h.ok.q0, h.ok.q1, h.ok.pg⟩, h.nx⟩
/-- A datagram goes. -/
def Pn.number (p : Pn) : Pn := ⟨p.st, p.sn, p.q, p.pr, p.ga, (p.nx + 1) % 4294967296⟩
theorem Pn.number_fit {p : Pn} {k : Nat} (h : p.fit k) : p.number.fit (k + 1) := ⟨h.st.upto (by omega), h.sn.upto (by omega), ⟨h.ok.q0, h.ok.q1, h.ok.pg⟩, Nat.mod_lt _ (by decide)⟩
/-- So many ticks. -/
def Pn.ticks (p : Pn) : Nat → Pn
  | 0 => p
  | n + 1 => (p.ticks n).tick
theorem Pn.ticks_fit {p : Pn} {k : Nat} (h : p.fit k) : ∀ n, (p.ticks n).fit k
  | 0 => h
  | n + 1 => Pn.tick_fit (Pn.ticks_fit h n)
end Go.Proofs.Ytblnmddphichgaa
