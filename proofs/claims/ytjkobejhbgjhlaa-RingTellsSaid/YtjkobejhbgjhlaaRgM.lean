/-
  Own text: a ring in plain numbers, in its block; its small calls, walked.
-/
import Derived.Test.YtjkobejhbgjhlaaOwnN
import Derived.BigQuiet
namespace Go.Proofs.Ytjkobejhbgjhlaa
open Go.RowKit

/-- A ring in plain numbers. -/
structure Rn where
  room : Nat
  first : Nat
  l : List Int
def Rn.next (R : Rn) : Nat := R.first + R.l.length
/-- The numbers fit, behind k steps. -/
structure Rn.fit (R : Rn) (k : Nat) : Prop where
  lo : 1 ≤ R.room
  hi : R.room ≤ 4096
  len : R.l.length ≤ R.room
  next : R.next ≤ 1099511627776 + k
/-- How many entries lie below a number. -/
def Rn.pos (R : Rn) (n : Int) : Nat := (min (max n (R.first : Int)) (R.next : Int) - (R.first : Int)).toNat
theorem Rn.pos_le (R : Rn) (n : Int) : R.pos n ≤ R.l.length := by unfold Rn.pos Rn.next; omega
theorem Rn.held (R : Rn) (n : Int) : min (max n (R.first : Int)) (R.next : Int) = ((R.first + R.pos n : Nat) : Int) := by unfold Rn.pos Rn.next; omega
def Rn.put (R : Rn) (v : Int) : Rn := if R.l.length = R.room then ⟨R.room, R.first + 1, R.l.drop 1 ++ [v]⟩ else ⟨R.room, R.first, R.l ++ [v]⟩
def Rn.drop (R : Rn) (n : Int) : Rn := ⟨R.room, R.first + R.pos n, R.l.drop (R.pos n)⟩
def Rn.cut (R : Rn) (n : Int) : Rn := ⟨R.room, R.first, R.l.take (R.pos n)⟩
/-- The error's number. -/
def Rn.kept (R : Rn) (n : Int) : Int := if n < (R.first : Int) then 90 else if (R.next : Int) ≤ n then 91 else 0
def Rn.at_ (R : Rn) (n : Int) : Int := if R.kept n = 0 then R.l.getD (n - R.first).toNat 0 else 0
def Rn.set (R : Rn) (n v : Int) : Rn := if R.kept n = 0 then ⟨R.room, R.first, R.l.set (n - R.first).toNat v⟩ else R
theorem Rn.kept_zero {R : Rn} {n : Int} (h : R.kept n = 0) : ∃ i : Nat, n = ((R.first + i : Nat) : Int) ∧ i < R.l.length ∧ (n - R.first).toNat = i := by
  unfold Rn.kept at h
  split at h
  · omega
  · split at h
    · omega
    · unfold Rn.next at *
      exact ⟨(n - R.first).toNat, by omega, by omega, rfl⟩
theorem Rn.drop_next (R : Rn) (n : Int) : (R.drop n).next = R.next := by
  have := R.pos_le n
  unfold Rn.next Rn.drop
  simp only [List.length_drop]
  omega
theorem Rn.cut_next (R : Rn) (n : Int) : (R.cut n).next = R.first + R.pos n := by
  have := R.pos_le n
  unfold Rn.next Rn.cut
  simp only [List.length_take]
  omega
theorem Rn.put_next (R : Rn) (v : Int) (h : 1 ≤ R.room) : (R.put v).next = R.next + 1 := by
  unfold Rn.put
  split
  · unfold Rn.next; simp only [List.length_append, List.length_drop, List.length_singleton]; omega
  · unfold Rn.next; simp only [List.length_append, List.length_singleton]; omega
theorem Rn.drop_fit {R : Rn} {k : Nat} (h : R.fit k) (n : Int) : (R.drop n).fit k :=
  ⟨h.lo, h.hi, by show (R.l.drop _).length ≤ R.room; have := h.len; rw [List.length_drop]; omega, by rw [R.drop_next n]; exact h.next⟩
theorem Rn.cut_fit {R : Rn} {k : Nat} (h : R.fit k) (n : Int) : (R.cut n).fit k :=
  ⟨h.lo, h.hi, by show (R.l.take _).length ≤ R.room; have := h.len; rw [List.length_take]; omega, by rw [R.cut_next n]; have := h.next; have := R.pos_le n; unfold Rn.next at *; omega⟩
theorem Rn.set_fit {R : Rn} {k : Nat} (h : R.fit k) (n v : Int) : (R.set n v).fit k := by
  unfold Rn.set
  split
  · exact ⟨h.lo, h.hi, by show (R.l.set _ _).length ≤ R.room; rw [List.length_set]; exact h.len, by unfold Rn.next; rw [List.length_set]; exact h.next⟩
  · exact h
theorem Rn.put_fit {R : Rn} {k : Nat} (h : R.fit k) (v : Int) : (R.put v).fit (k + 1) := by
  have h1 := h.lo
  have h2 := h.len
  have h3 := R.put_next v h1
  have h4 := h.next
  refine ⟨?_, ?_, ?_, by omega⟩
  · unfold Rn.put; split <;> exact h1
  · unfold Rn.put; split <;> exact h.hi
  · unfold Rn.put; split
    · show (R.l.drop 1 ++ [v]).length ≤ R.room
      simp only [List.length_append, List.length_drop, List.length_singleton]; omega
    · show (R.l ++ [v]).length ≤ R.room
      simp only [List.length_append, List.length_singleton]; omega
theorem Rn.fit_more {R : Rn} {k j : Nat} (h : R.fit k) (hk : k ≤ j) : R.fit j := ⟨h.lo, h.hi, h.len, by have := h.next; omega⟩
/-- A ring's block. -/
def RBlk (w : World) (b room first next : Nat) (s : Value) : Prop := w.heap[b]? = some (.cells #[.int .i64 (room : Int), .int .i64 (first : Int), .int .i64 (next : Int), s] 63 (0, 0))
section
variable {w : World} {b room first next : Nat} {s : Value}
theorem RBlk.lt (h : RBlk w b room first next s) : b < w.heap.size := (Array.getElem?_eq_some_iff.1 h).1
theorem RBlk.cells (h : RBlk w b room first next s) : w.cell? ⟨b, 0, none⟩ = some (.int .i64 (room : Int)) ∧ w.cell? ⟨b, 1, none⟩ = some (.int .i64 (first : Int)) ∧ w.cell? ⟨b, 2, none⟩ = some (.int .i64 (next : Int)) ∧ w.cell? ⟨b, 3, none⟩ = some s := by
  unfold RBlk at h
  simp [World.cell?, h]
theorem RBlk.frozen (h : RBlk w b room first next s) (i : Nat) : w.frozen? ⟨b, i, none⟩ = false := by
  unfold RBlk at h
  simp [World.frozen?, h]
theorem RBlk.keep {w' : World} (h : RBlk w b room first next s) (e : w'.heap[b]? = w.heap[b]?) : RBlk w' b room first next s := e.trans h
theorem RBlk.below {w' : World} {B : Nat} (h : RBlk w b room first next s) (hb : Below B w w') (hB : b < B) : RBlk w' b room first next s := h.keep (hb.block b hB)
theorem RBlk.setFirst (h : RBlk w b room first next s) (n : Nat) : RBlk (w.setCell ⟨b, 1, none⟩ (.int .i64 (n : Int))) b room n next s := by
  unfold RBlk at *
  simp [World.setCell, Array.getElem?_modify, h]
theorem RBlk.setNext (h : RBlk w b room first next s) (n : Nat) : RBlk (w.setCell ⟨b, 2, none⟩ (.int .i64 (n : Int))) b room first n s := by
  unfold RBlk at *
  simp [World.setCell, Array.getElem?_modify, h]
theorem RBlk.setSlots (h : RBlk w b room first next s) (v : Value) : RBlk (w.setCell ⟨b, 3, none⟩ v) b room first next v := by
  unfold RBlk at *
  simp [World.setCell, Array.getElem?_modify, h]
theorem RBlk.other (h : RBlk w b room first next s) {p : Addr} (hp : b ≠ p.block) (u : Value) : RBlk (w.setCell p u) b room first next s := h.keep (Below.heap_setCell w p u b hp)
end
/-- A ring: its block, its slots, and what they hold. -/
structure RB (w : World) (b : Nat) (R : Rn) (A : Option Addr) (C : Nat) (xs : List Int) : Prop where
  blk : RBlk w b R.room R.first R.next (.slice A xs.length C)
  own : OwnI w 0 (.slice A xs.length C) xs.length xs
  le : xs.length ≤ R.room
  spot : ∀ i, i < R.l.length → xs[(R.first + i) % R.room]? = R.l[i]?
theorem RB.inRow {w : World} {b C : Nat} {R : Rn} {A : Option Addr} {xs : List Int} (h : RB w b R A C xs) (i : Nat) (hi : i < R.l.length) : (R.first + i) % R.room < xs.length ∧ xs.getD ((R.first + i) % R.room) 0 = R.l.getD i 0 := by
  have e := h.spot i hi
  rw [List.getElem?_eq_getElem hi] at e
  obtain ⟨h1, h2⟩ := List.getElem?_eq_some_iff.1 e
  refine ⟨h1, ?_⟩
  rw [List.getD_eq_getElem?_getD, List.getD_eq_getElem?_getD, e, List.getElem?_eq_getElem hi]
theorem RB.apart {w : World} {b C : Nat} {R : Rn} {A : Option Addr} {xs : List Int} (h : RB w b R A C xs) (g : Nat) (hg : (Value.slice A xs.length C).ownBlock = some g) : g ≠ b := by
  rcases h.own.2 with ⟨e, _⟩ | ⟨g', cap, cur, e, _, hg', _⟩
  · rw [e] at hg; simp [Value.ownBlock] at hg
  · rw [e] at hg
    simp [Value.ownBlock] at hg
    subst hg
    intro hb
    subst hb
    have := h.blk
    unfold RBlk at this
    rw [hg'] at this
    simp at this
theorem RB.keep {w w' : World} {b C : Nat} {R : Rn} {A : Option Addr} {xs : List Int} (h : RB w b R A C xs) (e : w'.heap[b]? = w.heap[b]?) (hg : ∀ g, (Value.slice A xs.length C).ownBlock = some g → w'.heap[g]? = w.heap[g]?) : RB w' b R A C xs :=
  ⟨h.blk.keep e, h.own.keep hg, h.le, h.spot⟩
theorem RB.below {w w' : World} {b C B : Nat} {R : Rn} {A : Option Addr} {xs : List Int} (h : RB w b R A C xs) (hb : Below B w w') (hB : w.heap.size ≤ B) : RB w' b R A C xs :=
  h.keep (hb.block b (Nat.lt_of_lt_of_le h.blk.lt hB)) (fun g hg => hb.block g (Nat.lt_of_lt_of_le (h.own.lt g hg).2 hB))
theorem RB.drewN {w : World} {b C : Nat} {R : Rn} {A : Option Addr} {xs : List Int} (h : RB w b R A C xs) (k : Nat) : RB (w.drewN k) b R A C xs := h.keep rfl (fun _ _ => rfl)
/-- What a ring's call may turn: its block, its slots, what is new. -/
structure Frm (b : Nat) (s : Option Nat) (w w' : World) : Prop where
  os : w'.os = w.os
  tape : w'.tape = w.tape
  output : w'.output = w.output
  size : w.heap.size ≤ w'.heap.size
  block : ∀ k, k < w.heap.size → k ≠ b → some k ≠ s → w'.heap[k]? = w.heap[k]?
theorem Frm.refl (b : Nat) (s : Option Nat) (w : World) : Frm b s w w := ⟨rfl, rfl, rfl, Nat.le_refl _, fun _ _ _ _ => rfl⟩
theorem Frm.trans {b : Nat} {s : Option Nat} {w w1 w2 : World} (h : Frm b s w w1) (k : Frm b s w1 w2) : Frm b s w w2 :=
  ⟨k.os.trans h.os, k.tape.trans h.tape, k.output.trans h.output, Nat.le_trans h.size k.size, fun i hi h1 h2 => (k.block i (Nat.lt_of_lt_of_le hi h.size) h1 h2).trans (h.block i hi h1 h2)⟩
/-- The slots lie where they lay, or are new. -/
def Moved (w : World) (s s' : Option Nat) : Prop := s' = s ∨ ∀ k, s' = some k → w.heap.size ≤ k
theorem Frm.then_ {b : Nat} {s s' : Option Nat} {w w1 w2 : World} (h : Frm b s w w1) (hm : Moved w s s') (k : Frm b s' w1 w2) : Frm b s w w2 :=
  ⟨k.os.trans h.os, k.tape.trans h.tape, k.output.trans h.output, Nat.le_trans h.size k.size, fun i hi h1 h2 => (k.block i (Nat.lt_of_lt_of_le hi h.size) h1 (by
    rcases hm with e | e
    · rw [e]; exact h2
    · intro e2; have := e i e2.symm; omega)).trans (h.block i hi h1 h2)⟩
theorem Frm.drewN {b : Nat} {s : Option Nat} {w w' : World} (h : Frm b s w w') (k : Nat) : Frm b s w (w'.drewN k) := ⟨h.os, h.tape, h.output, h.size, h.block⟩
theorem Frm.grown {b : Nat} {s : Option Nat} {w w' : World} (h : w.grownBy w' s) : Frm b s w w' := ⟨h.os, h.tape, h.output, h.size, fun k hk _ h2 => h.block k hk h2⟩
theorem Frm.setIn (b i : Nat) (s : Option Nat) (w : World) (v : Value) : Frm b s w (w.setCell ⟨b, i, none⟩ v) :=
  ⟨rfl, rfl, rfl, by simp, fun k _ h1 _ => Below.heap_setCell _ _ _ k h1⟩
theorem Frm.setSlot (b g i : Nat) (w : World) (v : Value) : Frm b (some g) w (w.setCell ⟨g, i, none⟩ v) :=
  ⟨rfl, rfl, rfl, by simp, fun k _ _ h2 => Below.heap_setCell _ _ _ k (fun e => h2 (by rw [e]))⟩
theorem Frm.bel {b : Nat} {s : Option Nat} {w w' w0 : World} {B : Nat} (h : Frm b s w w') (h0 : Below B w0 w) (hB : B ≤ w.heap.size) (hb : B ≤ b) (hs : ∀ k, s = some k → B ≤ k) : Below B w0 w' :=
  h0.trans ⟨h.os, h.tape, h.output, h.size, fun k hk => h.block k (by omega) (by omega) (fun e => by have := hs k e.symm; omega)⟩
theorem Frm.of_below {b : Nat} {s : Option Nat} {w w' : World} (h : Below w.heap.size w w') : Frm b s w w' := ⟨h.os, h.tape, h.output, h.size, fun k hk _ _ => h.block k hk⟩
section
variable {w : World} {b room first next : Nat} {s : Value}
theorem room_any (w : World) (h : RBlk w b room first next s) :
    Calls Try.prog 38 #[.pointer (some ⟨b, 0, none⟩)] w fun e w' => e = .returned (.int .i64 (room : Int)) ∧ w = w' := by
  obtain ⟨c0, c1, c2, c3⟩ := h.cells
  clear h
  go_enter Try.func38, Try.ntmps38
  go_wp2
  go_ret
  exact ⟨rfl, rfl⟩
theorem first_any (w : World) (h : RBlk w b room first next s) :
    Calls Try.prog 20 #[.pointer (some ⟨b, 0, none⟩)] w fun e w' => e = .returned (.int .i64 (first : Int)) ∧ w = w' := by
  obtain ⟨c0, c1, c2, c3⟩ := h.cells
  clear h
  go_enter Try.func20, Try.ntmps20
  go_wp2
  go_ret
  exact ⟨rfl, rfl⟩
theorem next_any (w : World) (h : RBlk w b room first next s) :
    Calls Try.prog 16 #[.pointer (some ⟨b, 0, none⟩)] w fun e w' => e = .returned (.int .i64 (next : Int)) ∧ w = w' := by
  obtain ⟨c0, c1, c2, c3⟩ := h.cells
  clear h
  go_enter Try.func16, Try.ntmps16
  go_wp2
  go_ret
  exact ⟨rfl, rfl⟩
set_option maxRecDepth 100000 in
theorem len_any (len : Nat) (hn : next = first + len) (hb : next ≤ 1099512627776) (w : World) (h : RBlk w b room first next s) :
    Calls Try.prog 18 #[.pointer (some ⟨b, 0, none⟩)] w fun e w' => e = .returned (.int .i64 (len : Int)) ∧ ∃ k, w' = w.drewN k := by
  obtain ⟨c0, c1, c2, c3⟩ := h.cells
  clear h
  have e : (next : Int) - first = len := by omega
  have HN := Lib.hid hn
  clear hn
  go_enter Try.func18, Try.ntmps18
  go_upto_region 1 with fail
  go_quiet (fail)
  go_wp2
  go_ret
  exact ⟨rfl, _, rfl⟩
theorem kept_any (n : Int) (w : World) (h : RBlk w b room first next s) :
    Calls Try.prog 32 #[.pointer (some ⟨b, 0, none⟩), .int .i64 n] w fun e w' => e = .returned (.int .i64 (if n < (first : Int) then 90 else if (next : Int) ≤ n then 91 else 0)) ∧ w = w' := by
  obtain ⟨c0, c1, c2, c3⟩ := h.cells
  clear h
  go_enter Try.func32, Try.ntmps32
  by_cases h1 : n < (first : Int)
  · rw [if_pos h1]
    go_wp2
    go_ret
    exact ⟨rfl, rfl⟩
  · rw [if_neg h1]
    by_cases h2 : (next : Int) ≤ n
    · rw [if_pos h2]
      go_wp2
      go_ret
      exact ⟨rfl, rfl⟩
    · rw [if_neg h2]
      go_wp2
      go_ret
      exact ⟨rfl, rfl⟩
end
end Go.Proofs.Ytjkobejhbgjhlaa
