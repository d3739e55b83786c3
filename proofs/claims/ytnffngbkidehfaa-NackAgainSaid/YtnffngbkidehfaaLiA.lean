/-
  Own text: a struct's cells that lie within a block, at any offset; what a call on them may turn.
-/
import Derived.Test.YtnffngbkidehfaaByteA
import Derived.Below
import Derived.Deep.MidRow
namespace Go.Proofs.Ytnffngbkidehfaa
open Go.RowKit

/-- These cells lie in block b from offset o on, and may be written. -/
def Lies (w : World) (b o : Nat) (cs : Array Value) : Prop :=
  ∃ C t, w.heap[b]? = some (.cells C t (0, 0)) ∧ o + cs.size ≤ C.size ∧ ∀ j, j < cs.size → C[o + j]? = cs[j]?
section
variable {w : World} {b o : Nat} {cs : Array Value}
theorem Lies.lt (h : Lies w b o cs) : b < w.heap.size := by
  obtain ⟨C, t, h, _, _⟩ := h
  exact (Array.getElem?_eq_some_iff.1 h).1
theorem Lies.cell (h : Lies w b o cs) (i : Nat) (hi : i < cs.size) : w.cell? ⟨b, o + i, none⟩ = cs[i]? := by
  obtain ⟨C, t, h, _, hc⟩ := h
  rw [← hc i hi]
  simp [World.cell?, h]
theorem Lies.frozen (h : Lies w b o cs) (i : Nat) : w.frozen? ⟨b, i, none⟩ = false := by
  obtain ⟨C, t, h, _, _⟩ := h
  simp [World.frozen?, h]
theorem Lies.keep {w' : World} (h : Lies w b o cs) (e : w'.heap[b]? = w.heap[b]?) : Lies w' b o cs := by
  obtain ⟨C, t, h, hs, hc⟩ := h
  exact ⟨C, t, e.trans h, hs, hc⟩
theorem Lies.below {w' : World} {B : Nat} (h : Lies w b o cs) (hb : Below B w w') (hB : b < B) : Lies w' b o cs := h.keep (hb.block b hB)
theorem Lies.drew (h : Lies w b o cs) : Lies w.drew b o cs := h
theorem Lies.drewN (h : Lies w b o cs) (n : Nat) : Lies (w.drewN n) b o cs := h.keep rfl
/-- One of them is written. -/
theorem Lies.set (h : Lies w b o cs) (i : Nat) (v : Value) : Lies (w.setCell ⟨b, o + i, none⟩ v) b o (cs.setIfInBounds i v) := by
  obtain ⟨C, t, h, hs, hc⟩ := h
  refine ⟨C.setIfInBounds (o + i) v, t, by simp [World.setCell, Array.getElem?_modify, h], by simpa using hs, fun j hj => ?_⟩
  rw [Array.size_setIfInBounds] at hj
  rw [Array.getElem?_setIfInBounds, Array.getElem?_setIfInBounds]
  by_cases e : i = j
  · subst e
    rw [if_pos rfl, if_pos rfl, if_pos (by omega), if_pos hj]
  · rw [if_neg (by omega), if_neg e, hc j hj]
theorem Lies.set0 (h : Lies w b o cs) (v : Value) : Lies (w.setCell ⟨b, o, none⟩ v) b o (cs.setIfInBounds 0 v) := h.set 0 v
theorem Lies.other (h : Lies w b o cs) {p : Addr} (hp : b ≠ p.block) (v : Value) : Lies (w.setCell p v) b o cs := h.keep (Below.heap_setCell w p v b hp)
/-- Some of them. -/
theorem Lies.sub (h : Lies w b o cs) (k : Nat) (ds : Array Value) (hk : k + ds.size ≤ cs.size) (hd : ∀ j, j < ds.size → ds[j]? = cs[k + j]?) : Lies w b (o + k) ds := by
  obtain ⟨C, t, h, hs, hc⟩ := h
  refine ⟨C, t, h, by omega, fun j hj => ?_⟩
  rw [hd j hj, ← hc (k + j) (by omega), Nat.add_assoc]
theorem Lies.range (h : Lies w b o cs) : w.rangeAt b o cs.toList := fun j v hv => by
  have hj : j < cs.size := by simpa using (List.getElem?_eq_some_iff.1 hv).1
  rw [h.cell j hj, ← hv]
  simp
theorem Lies.there (h : Lies w b o cs) : w.there b o cs.size := fun j hj => ⟨by rw [h.cell j hj]; simp [hj], h.frozen _⟩
theorem Lies.eq {ds : Array Value} (h : Lies w b o cs) (e : cs = ds) : Lies w b o ds := e ▸ h
/-- A block that is new. -/
theorem Lies.new (w : World) (cs : Array Value) (t : TypeId) {w' : World} (h : Below (w.alloc (.cells cs t)).heap.size (w.alloc (.cells cs t)) w') : Lies w' w.heap.size 0 cs :=
  ⟨cs, t, by
    rw [h.block _ (by simp)]
    show (w.heap.push _)[w.heap.size]? = _
    simp, by omega, fun j _ => by rw [Nat.zero_add]⟩
end
/-- What a call on such cells may turn: these cells, and what is new. -/
structure Prt (b o n : Nat) (w w' : World) : Prop where
  os : w'.os = w.os
  tape : w'.tape = w.tape
  output : w'.output = w.output
  size : w.heap.size ≤ w'.heap.size
  block : ∀ k, k < w.heap.size → k ≠ b → w'.heap[k]? = w.heap[k]?
  part : ∀ C t, w.heap[b]? = some (.cells C t (0, 0)) → ∃ C', w'.heap[b]? = some (.cells C' t (0, 0)) ∧ C'.size = C.size ∧ ∀ j, (j < o ∨ o + n ≤ j) → C'[j]? = C[j]?
section
variable {b o n : Nat} {w w' w'' : World}
theorem Prt.refl (b o n : Nat) (w : World) : Prt b o n w w := ⟨rfl, rfl, rfl, Nat.le_refl _, fun _ _ _ => rfl, fun C _ h => ⟨C, h, rfl, fun _ _ => rfl⟩⟩
theorem Prt.trans (h : Prt b o n w w') (k : Prt b o n w' w'') : Prt b o n w w'' :=
  ⟨k.os.trans h.os, k.tape.trans h.tape, k.output.trans h.output, Nat.le_trans h.size k.size, fun i hi h1 => (k.block i (Nat.lt_of_lt_of_le hi h.size) h1).trans (h.block i hi h1), fun C t e => by
    obtain ⟨C', e', s', c'⟩ := h.part C t e
    obtain ⟨C'', e'', s'', c''⟩ := k.part C' t e'
    exact ⟨C'', e'', s''.trans s', fun j hj => (c'' j hj).trans (c' j hj)⟩⟩
/-- A wider part. -/
theorem Prt.wide (h : Prt b o n w w') {o' n' : Nat} (h1 : o' ≤ o) (h2 : o + n ≤ o' + n') : Prt b o' n' w w' :=
  ⟨h.os, h.tape, h.output, h.size, h.block, fun C t e => by
    obtain ⟨C', e', s', c'⟩ := h.part C t e
    exact ⟨C', e', s', fun j hj => c' j (by omega)⟩⟩
theorem Prt.drew (h : Prt b o n w w') : Prt b o n w w'.drew := ⟨h.os, h.tape, h.output, h.size, h.block, h.part⟩
theorem Prt.drewN (h : Prt b o n w w') (k : Nat) : Prt b o n w (w'.drewN k) := ⟨h.os, h.tape, h.output, h.size, h.block, h.part⟩
theorem Prt.set (h : Prt b o n w w') (i : Nat) (hi : i < n) (v : Value) : Prt b o n w (w'.setCell ⟨b, o + i, none⟩ v) :=
  h.trans ⟨rfl, rfl, rfl, by simp [World.setCell], fun k _ h1 => Below.heap_setCell _ _ _ k h1, fun C t e => by
    refine ⟨C.setIfInBounds (o + i) v, by simp [World.setCell, Array.getElem?_modify, e], by simp, fun j hj => ?_⟩
    rw [Array.getElem?_setIfInBounds, if_neg (by omega)]⟩
theorem Prt.set0 (h : Prt b o n w w') (hn : 0 < n) (v : Value) : Prt b o n w (w'.setCell ⟨b, o, none⟩ v) := h.set 0 hn v
/-- What is new may be whatever. -/
theorem Prt.below (h : Prt b o n w w') (hb : b < w'.heap.size) (k : Below w'.heap.size w' w'') : Prt b o n w w'' :=
  h.trans ⟨k.os, k.tape, k.output, k.size, fun i hi _ => k.block i hi, fun C _ e => ⟨C, (k.block b hb).trans e, rfl, fun _ _ => rfl⟩⟩
theorem Prt.bel (h : Prt b o n w w') {B : Nat} {w0 : World} (h0 : Below B w0 w) (hB : B ≤ w.heap.size) (hb : B ≤ b) : Below B w0 w' :=
  h0.trans ⟨h.os, h.tape, h.output, h.size, fun k hk => h.block k (by omega) (by omega)⟩
/-- A part of a struct is turned: what the whole is then. -/
theorem Lies.patch {o k m : Nat} {cs ds cs' : Array Value} (h : Lies w b o cs) (hp : Prt b (o + k) m w w') (hd : Lies w' b (o + k) ds) (hm : ds.size = m) (hs : cs'.size = cs.size)
    (hc : ∀ j, j < cs.size → cs'[j]? = if k ≤ j ∧ j < k + m then ds[j - k]? else cs[j]?) : Lies w' b o cs' := by
  obtain ⟨C, t, hb, hsz, hcc⟩ := h
  obtain ⟨C', e', s', c'⟩ := hp.part C t hb
  obtain ⟨D, t2, hb2, hs2, hd2⟩ := hd
  rw [e'] at hb2
  obtain ⟨rfl, rfl⟩ : C' = D ∧ t = t2 := by
    have := Option.some.inj hb2
    injection this with h1 h2 h3
    exact ⟨h1, h2⟩
  refine ⟨C', t, e', by omega, fun j hj => ?_⟩
  rw [hs] at hj
  rw [hc j hj]
  by_cases hk : k ≤ j ∧ j < k + m
  · rw [if_pos hk, ← hd2 (j - k) (by omega)]
    congr 1
    omega
  · rw [if_neg hk, c' (o + j) (by omega), hcc j hj]
/-- What lies beside it is as it was. -/
theorem Lies.beside {o' : Nat} {cs : Array Value} (h : Lies w b o' cs) (hp : Prt b o n w w') (ha : o' + cs.size ≤ o ∨ o + n ≤ o') : Lies w' b o' cs := by
  obtain ⟨C, t, hb, hsz, hcc⟩ := h
  obtain ⟨C', e', s', c'⟩ := hp.part C t hb
  exact ⟨C', t, e', by omega, fun j hj => by rw [c' (o' + j) (by omega), hcc j hj]⟩
theorem Lies.apart {b' o' : Nat} {cs : Array Value} (h : Lies w b' o' cs) (hp : Prt b o n w w') (ha : b' ≠ b) : Lies w' b' o' cs := h.keep (hp.block b' h.lt ha)
end
end Go.Proofs.Ytnffngbkidehfaa
