/-
  Own text: a queue in plain numbers, in its block; its small calls, walked.
-/
import Derived.Test.YtnffngbkidehfaaNkD
import Derived.Test.YtnffngbkidehfaaNkP
namespace Go.Proofs.Ytnffngbkidehfaa.Nk
open Go.RowKit

/-- A queue's block. -/
def QBlk (w : World) (b room : Nat) (now : Int) (s : Value) : Prop := w.heap[b]? = some (.cells #[.int .i64 (room : Int), .int .i64 now, s] 164 (0, 0))
section
variable {w : World} {b room : Nat} {now : Int} {s : Value}
theorem QBlk.lt (h : QBlk w b room now s) : b < w.heap.size := (Array.getElem?_eq_some_iff.1 h).1
theorem QBlk.cells (h : QBlk w b room now s) : w.cell? ⟨b, 0, none⟩ = some (.int .i64 (room : Int)) ∧ w.cell? ⟨b, 1, none⟩ = some (.int .i64 now) ∧ w.cell? ⟨b, 2, none⟩ = some s := by
  unfold QBlk at h
  simp [World.cell?, h]
theorem QBlk.frozen (h : QBlk w b room now s) (i : Nat) : w.frozen? ⟨b, i, none⟩ = false := by
  unfold QBlk at h
  simp [World.frozen?, h]
theorem QBlk.keep {w' : World} (h : QBlk w b room now s) (e : w'.heap[b]? = w.heap[b]?) : QBlk w' b room now s := e.trans h
theorem QBlk.below {w' : World} {B : Nat} (h : QBlk w b room now s) (hb : Below B w w') (hB : b < B) : QBlk w' b room now s := h.keep (hb.block b hB)
theorem QBlk.setNow (h : QBlk w b room now s) (n : Int) : QBlk (w.setCell ⟨b, 1, none⟩ (.int .i64 n)) b room n s := by
  unfold QBlk at *
  simp [World.setCell, Array.getElem?_modify, h]
theorem QBlk.setItems (h : QBlk w b room now s) (v : Value) : QBlk (w.setCell ⟨b, 2, none⟩ v) b room now v := by
  unfold QBlk at *
  simp [World.setCell, Array.getElem?_modify, h]
theorem QBlk.other (h : QBlk w b room now s) {p : Addr} (hp : b ≠ p.block) (u : Value) : QBlk (w.setCell p u) b room now s := h.keep (Below.heap_setCell w p u b hp)
end
/-- A set: its block, and its runs. -/
structure QB (w : World) (b : Nat) (Q : Qn) (A : Option Addr) (C : Nat) : Prop where
  blk : QBlk w b Q.room Q.now (.slice A Q.l.length C)
  own : OwnT w 0 (.slice A Q.l.length C) Q.l.length Q.l
theorem QB.apart {w : World} {b C : Nat} {Q : Qn} {A : Option Addr} (h : QB w b Q A C) (g : Nat) (hg : A.map Addr.block = some g) : g ≠ b := by
  rcases h.own.form with ⟨e, _⟩ | ⟨g', R, e, _, _, hg', _⟩
  · rw [e] at hg; simp at hg
  · rw [e] at hg
    simp at hg
    subst hg
    intro hb
    subst hb
    have := h.blk
    unfold QBlk at this
    unfold TBlk at hg'
    rw [hg'] at this
    simp at this
theorem QB.keep {w w' : World} {b C : Nat} {Q : Qn} {A : Option Addr} (h : QB w b Q A C) (e : w'.heap[b]? = w.heap[b]?) (hg : ∀ g, A.map Addr.block = some g → w'.heap[g]? = w.heap[g]?) : QB w' b Q A C :=
  ⟨h.blk.keep e, h.own.keep (fun g hg' => hg g (by rw [own_block] at hg'; exact hg'))⟩
theorem QB.lt {w : World} {b C : Nat} {Q : Qn} {A : Option Addr} (h : QB w b Q A C) : ∀ g, A.map Addr.block = some g → g < w.heap.size := fun g hg => (h.own.lt g (by rw [own_block]; exact hg)).2
theorem QB.below {w w' : World} {b C B : Nat} {Q : Qn} {A : Option Addr} (h : QB w b Q A C) (hb : Below B w w') (hB : w.heap.size ≤ B) : QB w' b Q A C :=
  h.keep (hb.block b (Nat.lt_of_lt_of_le h.blk.lt hB)) (fun g hg => hb.block g (Nat.lt_of_lt_of_le (h.lt g hg) hB))
theorem QB.drewN {w : World} {b C : Nat} {Q : Qn} {A : Option Addr} (h : QB w b Q A C) (k : Nat) : QB (w.drewN k) b Q A C := h.keep rfl (fun _ _ => rfl)
/-- What a set's call may turn: its block, its runs, what is new. -/
structure Frm (b : Nat) (s : Option Nat) (w w' : World) : Prop where
  os : w'.os = w.os
  tape : w'.tape = w.tape
  output : w'.output = w.output
  size : w.heap.size ≤ w'.heap.size
  block : ∀ k, k < w.heap.size → k ≠ b → some k ≠ s → w'.heap[k]? = w.heap[k]?
theorem Frm.refl (b : Nat) (s : Option Nat) (w : World) : Frm b s w w := ⟨rfl, rfl, rfl, Nat.le_refl _, fun _ _ _ _ => rfl⟩
theorem Frm.trans {b : Nat} {s : Option Nat} {w w1 w2 : World} (h : Frm b s w w1) (k : Frm b s w1 w2) : Frm b s w w2 :=
  ⟨k.os.trans h.os, k.tape.trans h.tape, k.output.trans h.output, Nat.le_trans h.size k.size, fun i hi h1 h2 => (k.block i (Nat.lt_of_lt_of_le hi h.size) h1 h2).trans (h.block i hi h1 h2)⟩
/-- The items lie where they lay, or are new. -/
def Moved (w : World) (s s' : Option Nat) : Prop := s' = s ∨ ∀ k, s' = some k → w.heap.size ≤ k
theorem Moved.trans {w w1 : World} {s s1 s2 : Option Nat} (h : Moved w s s1) (hs : w.heap.size ≤ w1.heap.size) (k : Moved w1 s1 s2) : Moved w s s2 := by
  rcases k with e | e
  · rw [e]; exact h
  · exact .inr (fun i hi => Nat.le_trans hs (e i hi))
theorem Frm.then_ {b : Nat} {s s' : Option Nat} {w w1 w2 : World} (h : Frm b s w w1) (hm : Moved w s s') (k : Frm b s' w1 w2) : Frm b s w w2 :=
  ⟨k.os.trans h.os, k.tape.trans h.tape, k.output.trans h.output, Nat.le_trans h.size k.size, fun i hi h1 h2 => (k.block i (Nat.lt_of_lt_of_le hi h.size) h1 (by
    rcases hm with e | e
    · rw [e]; exact h2
    · intro e2; have := e i e2.symm; omega)).trans (h.block i hi h1 h2)⟩
theorem Frm.drewN {b : Nat} {s : Option Nat} {w w' : World} (h : Frm b s w w') (k : Nat) : Frm b s w (w'.drewN k) := ⟨h.os, h.tape, h.output, h.size, h.block⟩
theorem Frm.grown {b : Nat} {s : Option Nat} {w w' : World} (h : w.grownBy w' s) : Frm b s w w' := ⟨h.os, h.tape, h.output, h.size, fun k hk _ h2 => h.block k hk h2⟩
theorem Frm.setIn (b i : Nat) (s : Option Nat) (w : World) (v : Value) : Frm b s w (w.setCell ⟨b, i, none⟩ v) :=
  ⟨rfl, rfl, rfl, by simp, fun k _ h1 _ => Below.heap_setCell _ _ _ k h1⟩
theorem Frm.bel {b : Nat} {s : Option Nat} {w w' w0 : World} {B : Nat} (h : Frm b s w w') (h0 : Below B w0 w) (hB : B ≤ w.heap.size) (hb : B ≤ b) (hs : ∀ k, s = some k → B ≤ k) : Below B w0 w' :=
  h0.trans ⟨h.os, h.tape, h.output, h.size, fun k hk => h.block k (by omega) (by omega) (fun e => by have := hs k e.symm; omega)⟩
theorem Frm.of_below {b : Nat} {s : Option Nat} {w w' : World} (h : Below w.heap.size w w') : Frm b s w w' := ⟨h.os, h.tape, h.output, h.size, fun k hk _ _ => h.block k hk⟩
theorem Frm.setNew {b c : Nat} {s : Option Nat} {w w' : World} (h : Frm b s w w') (hc : w.heap.size ≤ c) (i : Nat) (v : Value) : Frm b s w (w'.setCell ⟨c, i, none⟩ v) :=
  ⟨h.os, h.tape, h.output, by simpa using h.size, fun k hk h1 h2 => (Below.heap_setCell w' ⟨c, i, none⟩ v k (by show k ≠ c; omega)).trans (h.block k hk h1 h2)⟩
section
variable {w : World} {b room : Nat} {now : Int} {s : Value}
end
set_option maxRecDepth 100000 in
theorem new_any (room : Nat) (h1 : 1 ≤ room) (h2 : room ≤ 256) (w : World) :
    Calls Try.prog 80 #[.int .i64 (room : Int)] w fun e w' => e = .returned (.tuple #[.pointer (some ⟨w.heap.size, 0, none⟩), .int .i64 0]) ∧ Hid (QB w' w.heap.size ⟨room, 0, []⟩ none 0) ∧ Hid (Below w.heap.size w w') := by
  have n0 : ¬ (room : Int) < 1 := by omega
  have n1 : ¬ (256 : Int) < (room : Int) := by omega
  have n2 : (1 : Int) ≤ (room : Int) := by omega
  have n3 : (room : Int) ≤ 256 := by omega
  clear h1 h2
  go_enter Try.func80, Try.ntmps80
  go_wp2
  go_ret2
  refine ⟨rfl, Lib.hid ⟨?_, OwnT.none _ _⟩, Lib.hid ((Below.refl w.heap.size w).alloc (Nat.le_refl _) _)⟩
  exact Go.Deep.blk_alloc_new w _
/-- The place of a key. -/
theorem find_any (k : Int) (b : Nat) (Q : Qn) (A : Option Addr) (C : Nat) (hn : Q.l.length ≤ 1000) (w : World) (h : QB w b Q A C) :
    Calls Try.prog 91 #[.pointer (some ⟨b, 0, none⟩), .int .u32 k] w fun e w' => e = .returned (.int .i64 (fAt k Q.l)) ∧ Below w.heap.size w w' := by
  obtain ⟨W1, hW1⟩ : ∃ W1, W1 = w.alloc (.cells #[.int .u32 k] 28) := ⟨_, rfl⟩
  have hb1 : Below w.heap.size w W1 := by rw [hW1]; exact (Below.refl _ _).alloc (Nat.le_refl _) _
  have hk1 : W1.cell? ⟨w.heap.size, 0, none⟩ = some (.int .u32 k) := by rw [hW1]; simp [go_sem]
  have hq1 : QB W1 b Q A C := h.below hb1 (Nat.le_refl _)
  obtain ⟨c0, c1, c2⟩ := hq1.blk.cells
  have CI := Lib.hid (index_any k A Q.l.length C w.heap.size Q.l hn W1 hq1.own hk1)
  generalize fAt k Q.l = z at *
  have HB1 := Lib.hid hb1
  have HW1 := Lib.hid hW1
  clear h hn hb1 hq1 hW1
  go_enter Try.func91, Try.ntmps91
  go_upto_region 1 with fail
  rw [← HW1.out]
  go_wp2_with (first
    | (go_at_call 110; (with_reducible refine (CI.out).mono ?_); rintro e w2 ⟨rfl, hb⟩; have HB2 := Lib.hid hb; clear hb)
    | fail)
  go_ret
  exact ⟨rfl, HB1.out.trans (HB2.out.mono HB1.out.size)⟩
/-- How many are due by a time. -/
theorem until_any (d : Int) (h0 : 0 ≤ d) (h1 : d ≤ 1099511627776000) (b : Nat) (Q : Qn) (A : Option Addr) (C : Nat) (hn : Q.l.length ≤ 1000) (hs : Q.l.Pairwise (fun a b => a.due ≤ b.due)) (w : World) (h : QB w b Q A C) :
    Calls Try.prog 88 #[.pointer (some ⟨b, 0, none⟩), .int .i64 d] w fun e w' => e = .returned (.int .i64 (dpos d Q.l : Int)) ∧ Below w.heap.size w w' := by
  obtain ⟨c0, c1, c2⟩ := h.blk.cells
  have CS := Lib.hid (search_any (d + 1) (dpos d Q.l) A Q.l.length C Q.l (dpos_place hs) hn w h.own)
  generalize dpos d Q.l = P at *
  clear h hn hs
  go_enter Try.func88, Try.ntmps88
  go_wp2_with (first
    | (go_at_call 107; (with_reducible refine (CS.out).mono ?_); rintro e w2 ⟨⟨b2, rfl⟩, hb⟩; have HB2 := Lib.hid hb; clear hb)
    | fail)
  go_ret
  exact ⟨rfl, HB2.out⟩
end Go.Proofs.Ytnffngbkidehfaa.Nk
