/-
  Own text: a region that draws its order, inside a round of a loop over a function: all its operations only read; guards are borne.
-/
import Derived.Test.YtnffngbkidehfaaGrow
namespace Go.Proofs.Ytnffngbkidehfaa
open Go

section
variable {F : Fence} {n : Nat} {P : Program} {md : Region.Mode} {C : World → Prop} {ops : Array Oper} {Q' : Exit → Act → World → Prop}

theorem op_here {i : Nat} (hnd : ∀ (j : Nat) (o : Oper), ops[j]? = some o → ∀ c, o.op ≠ .defer c) {K : Act → Prop} {K' : Act → World → Prop} {a : Act} {w : World} (hC : C w) (h : ∀ a w', C w' → K a → K' a w')
    (hh : qOpIn F n P ops C i K a) : wpOpIn F n P ops Q' i K' a w := by
  unfold qOpIn at hh
  unfold wpOpIn
  cases ho : ops[i]? with
  | none =>
    rw [ho] at hh
    exact h _ _ hC hh
  | some o =>
    rw [ho] at hh
    obtain ⟨h1, h2⟩ := hh
    by_cases hw : Region.wanted o (yielded ops a.tmps) = true
    · rw [if_pos hw] at h2
      simp only [hw, if_true]
      exact op_round (hnd i o ho) hC h h1 h2
    · rw [if_neg hw] at h2
      simp only [hw]
      exact ⟨h1 w hC, h _ _ hC h2⟩
theorem any_here (hnd : ∀ (j : Nat) (o : Oper), ops[j]? = some o → ∀ c, o.op ≠ .defer c) {Q : Act → Prop} (hQ : ∀ a w, C w → Q a → Q' .normal a w) : ∀ (fuel : Nat) (listed : Array Bool) (a : Act) (w : World), C w →
    wpAnyQIn F n P md ops C Q fuel listed a → wpAnyIn F n P md ops Q' fuel listed a w
  | 0, _, _, _, hw, h => ⟨h.1, hQ _ _ hw h.2⟩
  | fuel + 1, _, _, _, hw, h => ⟨fun h0 => hQ _ _ hw (h.1 h0), fun i hi => op_here hnd hw (fun _ _ hw' => any_here hnd hQ fuel _ _ _ hw') (h.2 i hi)⟩
def plainB (l : List Oper) : Bool := l.all (fun o => match o.op with | .defer _ => false | _ => true)
/-- In a round: a region whose operations only read. -/
theorem wpIn_round_all {id : Nat} {Q : Exit → Act → World → Prop} {a : Act} {w : World} {l : List Oper} (hm : P.follows .mixedOrders = true) (hA : plainB l = true) (hB : Region.lexB .any l.toArray = true)
    (h : wpQuietIn F n P l.toArray (fun w' => ∃ n, w' = w.drewN n) (fun a' => ∀ w', (∃ n, w' = w.drewN n) → Q .normal a' w') l a) : (Code.region id l.toArray true).wpIn F n P Q a w := by
  have hnd : ∀ (j : Nat) (o : Oper), l.toArray[j]? = some o → ∀ c, o.op ≠ .defer c := fun j o ho c e => by
    unfold plainB at hA
    rw [List.all_eq_true] at hA
    have := hA o (by simpa using List.mem_of_getElem? (by simpa using ho))
    rw [e] at this
    simp at this
  simp only [Region.lexB, Bool.and_eq_true] at hB
  refine wpIn_region_any hm (any_here (Q := fun a' => ∀ w', (∃ n, w' = w.drewN n) → Q .normal a' w') hnd (fun _ w' hw' h => h w' hw') _ _ _ _ ⟨1, rfl⟩ ?_)
  have := wpAnyQIn_lex (F := F) (n := n) (P := P) (C := fun w' => ∃ n, w' = w.drewN n) (md := .any) hB.1 l 0 (Array.replicate l.length false) a (by simp) (by simpa using hB.2) h
  simpa using this
end
end Go.Proofs.Ytnffngbkidehfaa
