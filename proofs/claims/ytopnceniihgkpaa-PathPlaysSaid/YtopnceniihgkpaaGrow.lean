/-
  Own text: regions that draw their order: all but the last operation keep the world within a class and yield one value in each world of it (calls that only make memory of their own, too); the last one is walked behind them.
-/
import Derived.Test.YtopnceniihgkpaaRound
import Derived.ControlIn
namespace Go.Proofs.Ytopnceniihgkpaa
open Go

theorem wpIn_grow_last {F : Fence} {n : Nat} {P : Program} {id : Nat} {Q : Exit → Act → World → Prop} {a : Act} {w : World} (C : World → Prop) (hC : C w.drew) (l : List Oper) (last : Oper) (hm : P.follows .mixedOrders = true) (hA : aheadB .any l last = true) (hB : Region.lexB .any l.toArray = true)
    (h : wpQuietIn F n P l.toArray C (fun a' => ∀ w', C w' → wpListIn F n P (l ++ [last]).toArray Q [last] a' w') l a) : (Code.region id (l ++ [last]).toArray true).wpIn F n P Q a w := by
  have H := ahead_of hA
  simp only [Region.lexB, Bool.and_eq_true] at hB
  refine wpIn_region_any hm ?_
  have h1 := wpAnyQIn_lex (F := F) (n := n) (P := P) (C := C) (md := .any) hB.1 l 0 (Array.replicate l.length false) a (by simp) (by simpa using hB.2) h
  have h2 := any_round (Q' := Q) H (fun a w' hw hq => by
    have h3 := hq w' hw
    unfold wpListIn at h3
    have hwant : Region.wanted last (yielded (l ++ [last]).toArray a.tmps) = true := by simp [Region.wanted, H.plainLast]
    rw [if_pos hwant] at h3
    exact h3) l.length (Array.replicate l.length false) a { w with drawn := w.drawn + 1 } (by simp) (fun i o _ h => by
      have hi : i < l.length := (List.getElem?_eq_some_iff.1 ‹_›).1
      simp [hi] at h) hC h1
  have e : Array.replicate (l ++ [last]).toArray.size false = (Array.replicate l.length false).push false := by simp [Array.replicate_succ]
  rw [e]
  simpa using h2
/-- The same at a list that is written out. -/
theorem wpIn_grow_take {F : Fence} {n : Nat} {P : Program} {id : Nat} {Q : Exit → Act → World → Prop} {a : Act} {w : World} {ops : List Oper} (C : World → Prop) (hC : C w.drew) (k : Nat) {last : Oper} (hl : ops.drop k = [last]) (hm : P.follows .mixedOrders = true) (hA : aheadB .any (ops.take k) last = true) (hB : Region.lexB .any (ops.take k).toArray = true)
    (h : wpQuietIn F n P (ops.take k).toArray C (fun a' => ∀ w', C w' → wpListIn F n P ops.toArray Q (ops.drop k) a' w') (ops.take k) a) : (Code.region id ops.toArray true).wpIn F n P Q a w := by
  have e : ops = ops.take k ++ [last] := by rw [← hl]; exact (List.take_append_drop k ops).symm
  rw [hl] at h
  have h2 := wpIn_grow_last (F := F) (n := n) (id := id) (Q := Q) (a := a) (w := w) C hC (ops.take k) last hm hA hB (by rw [← e]; exact h)
  rwa [← e] at h2
/-- An operation that yields this value in every world of the class: taken as it stands, unguarded. -/
theorem wpQuietIn_read {F : Fence} {n : Nat} {P : Program} {ops : Array Oper} {C : World → Prop} {Q : Act → Prop} {a : Act} {o : Oper} {rest : List Oper} (v : Value) (ha : o.askedIn F P a C) (hg : o.guard = none) (hv : ∀ w, C w → o.quietAtIn F n P a C w v) (h : wpQuietIn F n P ops C Q rest (a.put o.dst v)) : wpQuietIn F n P ops C Q (o :: rest) a :=
  ⟨ha, by rw [if_pos (by simp [Region.wanted, hg])]; exact ⟨v, hv, h⟩⟩
end Go.Proofs.Ytopnceniihgkpaa
