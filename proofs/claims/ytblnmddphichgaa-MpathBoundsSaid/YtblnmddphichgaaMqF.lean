/-
  Own text: an item that bears a datagram is pushed: the numbers. (Written by gen_mqf.py.)
-/
import Derived.Test.YtblnmddphichgaaMqI
namespace Go.Proofs.Ytblnmddphichgaa.Mq
open Go.RowKit

/-- One comes ahead of another one. -/
def It.ahead (a b : It) : Prop := a.rank < b.rank ∨ (a.rank = b.rank ∧ a.num < b.num)
/-- How many come ahead of a new one of that rank. -/
def pos (r : Int) (l : List It) : Nat := (l.takeWhile (fun x => decide (x.rank ≤ r))).length
def Qn.ins (Q : Qn) (r : Int) (v : Dg) : List It := Q.l.take (pos r Q.l) ++ ⟨r, (Q.pushed : Int), v⟩ :: Q.l.drop (pos r Q.l)
def Qn.push (Q : Qn) (r : Int) (v : Dg) : Qn := ⟨Q.room, Q.pushed + 1, if Q.l.length < Q.room then Q.ins r v else (Q.ins r v).dropLast⟩
def Qn.gone (Q : Qn) (r : Int) (v : Dg) : Dg := if Q.l.length < Q.room then nil else ((Q.ins r v).getLastD ⟨0, 0, nil⟩).v
/-- The numbers fit, behind k pushes. -/
structure Qn.fit (Q : Qn) (k : Nat) : Prop where
  lo : 1 ≤ Q.room
  hi : Q.room ≤ 256
  len : Q.l.length ≤ Q.room
  pushed : Q.pushed ≤ k
  num : ∀ x ∈ Q.l, 0 ≤ x.num ∧ x.num < (Q.pushed : Int)
  sorted : Q.l.Pairwise It.ahead
  apart : Q.l.Pairwise (fun a b => a.num ≠ b.num)
theorem pos_le (r : Int) (l : List It) : pos r l ≤ l.length := by
  unfold pos
  exact List.IsPrefix.length_le (List.takeWhile_prefix _)
theorem pos_take (r : Int) (l : List It) : ∀ t y, t < pos r l → l[t]? = some y → y.rank ≤ r := by
  intro t y ht hy
  unfold pos at ht
  have hp : (l.takeWhile (fun x => decide (x.rank ≤ r))) <+: l := List.takeWhile_prefix _
  have h2 : (l.takeWhile (fun x => decide (x.rank ≤ r)))[t]? = some y := by
    rw [← hy]
    obtain ⟨s, hs⟩ := hp
    rw [← hs, List.getElem?_append_left]
    rw [hs]; exact ht
  have hm := List.mem_of_getElem? h2
  have := List.all_takeWhile (l := l) (p := fun x => decide (x.rank ≤ r))
  rw [List.all_eq_true] at this
  simpa using this y hm
theorem pos_next (r : Int) (l : List It) (y : It) (h : l[pos r l]? = some y) : r < y.rank := by
  induction l with
  | nil => simp at h
  | cons x l ih =>
    unfold pos at *
    rw [List.takeWhile_cons] at h
    split at h
    · simp only [List.length_cons, List.getElem?_cons_succ] at h
      exact ih h
    · rename_i hx
      simp at h hx
      subst h
      omega
theorem pos_drop {r : Int} {l : List It} (hs : l.Pairwise It.ahead) : ∀ t y, pos r l ≤ t → l[t]? = some y → r < y.rank := by
  intro t y ht hy
  have hlt := (List.getElem?_eq_some_iff.1 hy).1
  have hp : l[pos r l]? = some (l[pos r l]'(by omega)) := List.getElem?_eq_getElem (by omega)
  have h1 := pos_next r l _ hp
  rcases Nat.eq_or_lt_of_le ht with e | e
  · subst e
    rw [hp] at hy
    cases hy
    exact h1
  · have := List.pairwise_iff_getElem.1 hs (pos r l) t (by omega) hlt e
    have e2 : l[t] = y := (List.getElem?_eq_some_iff.1 hy).2
    rw [e2] at this
    rcases this with h | h
    · omega
    · omega
theorem cmp_neg (a b : It) : cmpT a b < 0 ↔ a.ahead b := by
  unfold cmpT orI cmpI It.ahead
  by_cases h1 : a.rank < b.rank
  · simp [h1]
  · by_cases h2 : b.rank < a.rank
    · rw [if_neg h1, if_pos h2]
      constructor
      · intro h; simp at h
      · intro h; omega
    · have e : a.rank = b.rank := by omega
      rw [if_neg h1, if_neg h2, if_pos rfl]
      by_cases h3 : a.num < b.num
      · simp [h3, e]
      · rw [if_neg h3]
        constructor
        · intro h; split at h <;> omega
        · intro h; omega
theorem Qn.fit.place {Q : Qn} {k : Nat} (h : Q.fit k) (r : Int) (v : Dg) : Place Q.l ⟨r, (Q.pushed : Int), v⟩ (pos r Q.l) := by
  refine ⟨pos_le _ _, fun t y ht hy => ?_, fun t y ht hy => ?_⟩
  · rw [cmp_neg]
    have h1 := pos_take r Q.l t y ht hy
    have h2 := (h.num y (List.mem_of_getElem? hy)).2
    unfold It.ahead
    show y.rank < r ∨ (y.rank = r ∧ y.num < (Q.pushed : Int))
    omega
  · rw [cmp_neg]
    have h1 := pos_drop h.sorted t y ht hy
    unfold It.ahead
    show ¬ (y.rank < r ∨ (y.rank = r ∧ y.num < (Q.pushed : Int)))
    omega
theorem Qn.ins_length (Q : Qn) (r : Int) (v : Dg) : (Q.ins r v).length = Q.l.length + 1 := by
  have := pos_le r Q.l
  unfold Qn.ins
  simp only [List.length_append, List.length_cons, List.length_take, List.length_drop]
  omega
theorem Qn.ins_mem (Q : Qn) (r : Int) (v : Dg) (x : It) (h : x ∈ Q.ins r v) : x ∈ Q.l ∨ x = ⟨r, (Q.pushed : Int), v⟩ := by
  unfold Qn.ins at h
  rw [List.mem_append, List.mem_cons] at h
  rcases h with h | h | h
  · exact .inl (List.mem_of_mem_take h)
  · exact .inr h
  · exact .inl (List.mem_of_mem_drop h)
theorem Qn.ins_sorted {Q : Qn} {k : Nat} (h : Q.fit k) (r : Int) (v : Dg) : (Q.ins r v).Pairwise It.ahead := by
  have hP := h.place r v
  have hs := h.sorted
  rw [← List.take_append_drop (pos r Q.l) Q.l, List.pairwise_append] at hs
  unfold Qn.ins
  rw [List.pairwise_append, List.pairwise_cons]
  refine ⟨hs.1, ⟨fun y hy => ?_, hs.2.1⟩, fun a ha b hb => ?_⟩
  · obtain ⟨t, ht, e⟩ := List.getElem_of_mem hy
    have : Q.l[pos r Q.l + t]? = some y := by
      rw [← e, List.getElem_drop, List.getElem?_eq_getElem]
    have := pos_drop h.sorted _ _ (Nat.le_add_right _ t) this
    exact .inl this
  · rw [List.mem_cons] at hb
    rcases hb with rfl | hb
    · obtain ⟨t, ht, e⟩ := List.getElem_of_mem ha
      rw [List.length_take] at ht
      have h2 : Q.l[t]? = some a := by
        rw [← e, List.getElem_take, List.getElem?_eq_getElem]
      exact (cmp_neg _ _).1 (hP.lo t a (by omega) h2)
    · exact hs.2.2 a ha b hb
theorem Qn.ins_apart {Q : Qn} {k : Nat} (h : Q.fit k) (r : Int) (v : Dg) : (Q.ins r v).Pairwise (fun a b => a.num ≠ b.num) := by
  have hs := h.apart
  rw [← List.take_append_drop (pos r Q.l) Q.l, List.pairwise_append] at hs
  unfold Qn.ins
  rw [List.pairwise_append, List.pairwise_cons]
  refine ⟨hs.1, ⟨fun y hy => ?_, hs.2.1⟩, fun a ha b hb => ?_⟩
  · have := (h.num y (List.mem_of_mem_drop hy)).2
    show (Q.pushed : Int) ≠ y.num
    omega
  · rw [List.mem_cons] at hb
    rcases hb with rfl | hb
    · have := (h.num a (List.mem_of_mem_take ha)).2
      show a.num ≠ (Q.pushed : Int)
      omega
    · exact hs.2.2 a ha b hb
theorem Qn.push_fit {Q : Qn} {k : Nat} (h : Q.fit k) (r : Int) (v : Dg) : (Q.push r v).fit (k + 1) := by
  have hl := Q.ins_length r v
  have hn : ∀ x ∈ Q.ins r v, 0 ≤ x.num ∧ x.num < ((Q.pushed + 1 : Nat) : Int) := fun x hx => by
    rcases Q.ins_mem r v x hx with h1 | rfl
    · have := h.num x h1; omega
    · show 0 ≤ (Q.pushed : Int) ∧ (Q.pushed : Int) < _; omega
  unfold Qn.push
  by_cases hr : Q.l.length < Q.room
  · rw [if_pos hr]
    exact ⟨h.lo, h.hi, by show (Q.ins r v).length ≤ Q.room; omega, Nat.succ_le_succ h.pushed, hn, Qn.ins_sorted h r v, Qn.ins_apart h r v⟩
  · rw [if_neg hr]
    refine ⟨h.lo, h.hi, ?_, Nat.succ_le_succ h.pushed, fun x hx => hn x (List.dropLast_subset _ hx), List.Pairwise.sublist (List.dropLast_sublist _) (Qn.ins_sorted h r v), List.Pairwise.sublist (List.dropLast_sublist _) (Qn.ins_apart h r v)⟩
    show (Q.ins r v).dropLast.length ≤ Q.room
    have := h.len
    rw [List.length_dropLast]
    omega
theorem Qn.tail_fit {Q : Qn} {k : Nat} {x : It} {t : List It} (h : Q.fit k) (hQ : Q.l = x :: t) : (⟨Q.room, Q.pushed, t⟩ : Qn).fit k := by
  refine ⟨h.lo, h.hi, ?_, h.pushed, fun y hy => h.num y (by rw [hQ]; exact List.mem_cons_of_mem _ hy), ?_, ?_⟩
  · have := h.len; rw [hQ] at this; simp at this; show t.length ≤ Q.room; omega
  · have := h.sorted; rw [hQ] at this; exact this.of_cons
  · have := h.apart; rw [hQ] at this; exact this.of_cons
theorem Qn.fit_more {Q : Qn} {k j : Nat} (h : Q.fit k) (hk : k ≤ j) : Q.fit j := ⟨h.lo, h.hi, h.len, by have := h.pushed; omega, h.num, h.sorted, h.apart⟩
/-- What a call leaves that moves the items on. -/
def QTo (w : World) (b : Nat) (A : Option Addr) (Q : Qn) (w' : World) : Prop := ∃ A' C', QB w' b Q A' C' ∧ Moved w (A.map Addr.block) (A'.map Addr.block) ∧ Frm b (A.map Addr.block) w w'
end Go.Proofs.Ytblnmddphichgaa.Mq
