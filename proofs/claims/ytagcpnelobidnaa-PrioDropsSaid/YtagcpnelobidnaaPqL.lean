/-
  Own text: the items that a set names go: slices.DeleteFunc, walked.
-/
import Derived.Test.YtagcpnelobidnaaPqK
namespace Go.Proofs.Ytagcpnelobidnaa
open Go.RowKit

theorem TBlk.set1 {w : World} {g : Nat} {L : List Value} (h : TBlk w g L) (j : Nat) (u : Value) : TBlk (w.setCell ⟨g, j, none⟩ u) g (L.set j u) := by
  unfold TBlk at *
  simp [World.setCell, Array.getElem?_modify, h]
theorem icells_set (d : List It) (R : List Value) (i : Nat) (hi : i < d.length) (x : It) : (((icells d ++ R).set (i * 3) (.int .i64 x.rank)).set (i * 3 + 1) (.int .i64 x.num)).set (i * 3 + 2) (.int .i64 x.v) = icells (d.set i x) ++ R := by
  induction d generalizing i with
  | nil => simp at hi
  | cons y d ih =>
    cases i with
    | zero => simp [icells]
    | succ i =>
      have := ih i (by simpa using hi)
      rw [show (i + 1) * 3 = i * 3 + 3 by omega]
      simpa [icells] using this
theorem TBlk.setItem {w : World} {g : Nat} {d : List It} {R : List Value} (h : TBlk w g (icells d ++ R)) (i : Nat) (hi : i < d.length) (x : It) :
    TBlk (((w.setCell ⟨g, i * 3, none⟩ (.int .i64 x.rank)).setCell ⟨g, i * 3 + 1, none⟩ (.int .i64 x.num)).setCell ⟨g, i * 3 + 2, none⟩ (.int .i64 x.v)) g (icells (d.set i x) ++ R) := by
  rw [← icells_set d R i hi x]
  exact ((h.set1 _ _).set1 _ _).set1 _ _
theorem grown_set {w : World} (g i : Nat) (v : Value) : w.grownBy (w.setCell ⟨g, i, none⟩ v) (some g) := ⟨rfl, rfl, rfl, by simp, fun k _ hk => Below.heap_setCell w ⟨g, i, none⟩ v k (fun e => hk (by rw [e]))⟩
theorem grown_below {w w' : World} {s : Option Nat} (h : Below w.heap.size w w') : w.grownBy w' s := ⟨h.os, h.tape, h.output, h.size, fun k hk _ => h.block k hk⟩
/-- Which stay. -/
def stay (S : Int → Bool) (l : List It) : List It := l.filter (fun x => !S x.num)
/-- How far the items are moved up. -/
structure Upto (S : Int → Bool) (l d : List It) (p q : Nat) : Prop where
  len : d.length = l.length
  pq : p < q
  front : d.take p = stay S (l.take q)
  back : d.drop q = l.drop q
theorem stay_all {S : Int → Bool} {l : List It} (h : NoHits S l) : stay S l = l := by
  unfold stay
  rw [List.filter_eq_self]
  intro x hx
  obtain ⟨t, ht, e⟩ := List.getElem_of_mem hx
  rw [h t x (by rw [← e, List.getElem?_eq_getElem ht])]
  rfl
theorem stay_step (S : Int → Bool) (l : List It) (q : Nat) (y : It) (h : l[q]? = some y) : stay S (l.take (q + 1)) = if S y.num then stay S (l.take q) else stay S (l.take q) ++ [y] := by
  unfold stay
  rw [List.take_add_one, h, List.filter_append]
  cases hs : S y.num <;> simp [hs]
theorem Upto.start {S : Int → Bool} {l : List It} {i : Nat} (h : Hits S l i) : Upto S l l i (i + 1) := by
  obtain ⟨h1, y, h2, h3⟩ := h
  refine ⟨rfl, Nat.lt_succ_self _, ?_, rfl⟩
  rw [stay_step S l i y h2, h3, if_pos rfl, stay_all]
  intro t z hz
  have ht := (List.getElem?_eq_some_iff.1 hz).1
  rw [List.length_take] at ht
  rw [List.getElem?_take, if_pos (by omega)] at hz
  exact h1 t z (by omega) hz
theorem Upto.skip {S : Int → Bool} {l d : List It} {p q : Nat} {y : It} (h : Upto S l d p q) (hy : l[q]? = some y) (hs : S y.num = true) : Upto S l d p (q + 1) := by
  refine ⟨h.len, Nat.lt_succ_of_lt h.pq, ?_, ?_⟩
  · rw [stay_step S l q y hy, hs, if_pos rfl]; exact h.front
  · rw [← List.drop_drop, h.back, List.drop_drop]
theorem Upto.take {S : Int → Bool} {l d : List It} {p q : Nat} {y : It} (h : Upto S l d p q) (hy : l[q]? = some y) (hs : S y.num = false) : Upto S l (d.set p y) (p + 1) (q + 1) := by
  have hq := (List.getElem?_eq_some_iff.1 hy).1
  have hl := h.len
  have hp := h.pq
  refine ⟨by rw [List.length_set]; exact hl, Nat.succ_lt_succ hp, ?_, ?_⟩
  · rw [stay_step S l q y hy, hs]
    simp only [Bool.false_eq_true, if_false]
    rw [List.take_add_one, List.take_set_of_le (by omega), h.front, List.getElem?_set_self (by omega)]
    rfl
  · rw [List.drop_set_of_lt (by omega), ← List.drop_drop, h.back, List.drop_drop]
theorem Upto.at_ {S : Int → Bool} {l d : List It} {p q : Nat} {y : It} (h : Upto S l d p q) (hy : l[q]? = some y) : d[q]? = some y := by
  have e : (d.drop q)[0]? = (l.drop q)[0]? := by rw [h.back]
  rw [List.getElem?_drop, List.getElem?_drop, Nat.add_zero] at e
  rw [e, hy]
end Go.Proofs.Ytagcpnelobidnaa
