/-
  Own text: a range over a function that hands over so many things, in order; the body goes on each time and keeps what the function reads; what else it changes is told by an invariant.
-/
import Derived.RangeFuncNested
import Derived.RangeFuncBox
import Derived.RangeFuncBound
import Derived.RangeFuncCalls
import Derived.RangeFuncLeaves
import Derived.OwnWalkIn
namespace Go.Proofs.Ytnffngbkidehfaa
open Go.RowKit

/-- Handing over: N things, the i-th made of enc i; between two of them what C says stands. -/
def YieldsJ (F : Fence) (n : Nat) (P : Program) (g : Nat) (lb : Array Value) (N : Nat) (enc : Nat → Array Value) (C : World → Prop) : Prop :=
  ∀ (l : Nat) (J : Nat → World → Prop) (W : World), C W → (∀ i A B, J i A → Below A.heap.size A B → J i B) →
    (∀ i A, i < N → J i A → C A → YieldAt F (n - 1) P l (enc i) A fun e B => e = .returned (.bool true) ∧ J (i + 1) B ∧ C B) →
    J 0 W → CallsIn F n P g (#[.func (.yield l) #[] #[]] ++ lb) W fun e B => (∃ v, e = .returned v) ∧ J N B
/-- All but two blocks, the records of a loop, are as they were. -/
structure Aside (D : Nat) (A B : World) : Prop where
  os : B.os = A.os
  tape : B.tape = A.tape
  output : B.output = A.output
  size : A.heap.size ≤ B.heap.size
  block : ∀ k, k < A.heap.size → k ≠ D → k ≠ D + 1 → B.heap[k]? = A.heap[k]?
theorem Aside.of_below {D : Nat} {A B : World} (h : Below A.heap.size A B) : Aside D A B := ⟨h.os, h.tape, h.output, h.size, fun k hk _ _ => h.block k hk⟩
theorem Aside.trans {D : Nat} {A B E : World} (h : Aside D A B) (k : Aside D B E) : Aside D A E :=
  ⟨k.os.trans h.os, k.tape.trans h.tape, k.output.trans h.output, Nat.le_trans h.size k.size, fun i hi h1 h2 => (k.block i (Nat.lt_of_lt_of_le hi h.size) h1 h2).trans (h.block i hi h1 h2)⟩
theorem Aside.put {D : Nat} (A : World) (o : Obj) : Aside D A (A.putObj (D + 1) o) := ⟨rfl, rfl, rfl, by rw [World.putObj_size]; exact Nat.le_refl _, fun _ _ _ h2 => World.putObj_heap_other h2⟩
theorem Aside.put0 {D : Nat} (A : World) (o : Obj) : Aside D A (A.putObj D o) := ⟨rfl, rfl, rfl, by rw [World.putObj_size]; exact Nat.le_refl _, fun _ _ h1 _ => World.putObj_heap_other h1⟩
theorem Aside.bel {D B : Nat} {w0 A E : World} (h : Below B w0 A) (k : Aside D A E) (hB : B ≤ D) (hs : B ≤ A.heap.size) : Below B w0 E :=
  h.trans ⟨k.os, k.tape, k.output, k.size, fun i hi => k.block i (by omega) (by omega) (by omega)⟩
/-- How a round's body ends. -/
def WentJ (D : Nat) (I : Nat → World → Prop) (C : World → Prop) (i : Nat) (A : World) : Exit → Act → World → Prop
  | .normal, _, B => I (i + 1) B ∧ C B ∧ A.heap.size ≤ B.heap.size ∧ B.heap[D]? = A.heap[D]? ∧ B.heap[D + 1]? = A.heap[D + 1]?
  | _, _, _ => False
variable {F : Fence} {n : Nat} {P : Program}
theorem wpIn_range_j {g : Operand} {ps : Array Tmp} {assign body : Code} {Q : Exit → Act → World → Prop} {a : Act} {w : World}
    (hro : F.round = none) (h1 : 1 ≤ n) {gf : Nat} {lb : Array Value} (hg : a.eval g = .func (.func gf) #[] lb) (hFg : F.fn gf) (eg : ∀ args w, (callFunc gf args).run P w = .ok (.enter gf args) w)
    {N : Nat} {enc : Nat → Array Value} {C : World → Prop} (hseq : YieldsJ F (n - 1) P gf lb N enc C) (hps : ∀ i, (enc i).size = ps.size)
    (hCb : ∀ A B, C A → Below A.heap.size A B → C B) (hCo : ∀ A l r o, C A → A.heap[l]? = some (.loop r) → C (A.putObj l o))
    (I : Nat → World → Prop) (hI : ∀ i A B, I i A → Aside w.heap.size A B → I i B) (h0 : I 0 w) (hC0 : C w) (a₁ : Nat → Act)
    (hassign : ∀ (l i : Nat) (A : World) (K : Act → World → Prop), K (a₁ i) A →
      assign.wpIn (F.inRound l) (n - 1 - 1) P (Exit.then K (fun _ _ _ => False)) { tmps := (ps.zip (enc i)).foldl (fun t (p, v) => t.setIfInBounds p v) a.tmps, defers := [] } A)
    (hbody : ∀ (l i : Nat) (A : World), i < N → I i A → C A → w.heap.size + 2 ≤ A.heap.size → (∃ r, A.heap[w.heap.size]? = some (.deferred r)) → (∃ r, A.heap[w.heap.size + 1]? = some (.loop r)) → body.wpIn (F.inRound l) (n - 1 - 1) P (WentJ w.heap.size I C i A) (a₁ i) A)
    (hdone : ∀ (B : World), I N B → w.heap.size + 2 ≤ B.heap.size → B.heap[w.heap.size]? = some (.deferred (some [])) → Q .normal { a with defers := { target := .collected w.heap.size, args := #[] } :: a.defers } B) :
    (Code.rangeFunc g ps assign body).wpIn F n P Q a w := by
  refine wpIn_rangeFunc (fun fn hfn => ?_)
  rw [hro]
  let rc : LoopState → Loop := fun s => { state := s, pending := none, fn, tmps := a.tmps, params := ps, assign, body, defers := w.heap.size }
  let W1 := (w.alloc (.deferred (some []))).alloc (.loop (rc .ready))
  have e1 : W1.heap[w.heap.size + 1]? = some (.loop (rc .ready)) := by
    have h := World.alloc_heap_new (w.alloc (.deferred (some []))) (.loop (rc .ready))
    rwa [World.size_alloc] at h
  have e2 : W1.heap[w.heap.size]? = some (.deferred (some [])) := (Below.heap_alloc _ _ _ (by simp)).trans (World.alloc_heap_new w _)
  have e3 : Below w.heap.size w W1 := ((Below.refl _ w).alloc (Nat.le_refl _) _).alloc (by simp) _
  refine ⟨w.heap.size + 1, [{ target := .collected w.heap.size, args := #[] }], W1, { target := .fn (.func gf) lb, args := #[.func (.yield (w.heap.size + 1)) #[] #[]] }, W1, gf,
    #[.func (.yield (w.heap.size + 1)) #[] #[]] ++ lb, W1, run_enterLoop_outer _ _ _ _ _, ?_, ?_, ?_, fun _ => h1, ?_⟩
  · simp only [resolve, hg]
    simp [go_sem]
  · intro f' hf'
    simp [Target.leads] at hf'
    subst hf'
    exact hFg
  · simp [invoke, go_sem, eg]
  refine (hseq (w.heap.size + 1) (fun i A => I i A ∧ A.heap[w.heap.size + 1]? = some (.loop (rc .ready)) ∧ A.heap[w.heap.size]? = some (.deferred (some []))) W1 (hCb _ _ hC0 e3) ?_ ?_ ⟨hI _ _ _ h0 (Aside.of_below e3), e1, e2⟩).mono ?_
  · rintro i A B ⟨f1, f2, f3⟩ hAB
    have hlt := (Array.getElem?_eq_some_iff.1 f2).1
    exact ⟨hI _ _ _ f1 (Aside.of_below hAB), (hAB.block _ hlt).trans f2, (hAB.block _ (by omega)).trans f3⟩
  · rintro i A hi ⟨f1, f2, f3⟩ hCA
    have hlt := (Array.getElem?_eq_some_iff.1 f2).1
    refine ⟨fn, _, assign, body, run_yield f2 (hps i), roundIn_of_wpIn hfn (hassign _ i A _ ⟨_, run_beginRound f2 rfl, ?_⟩)⟩
    have g2 := World.putObj_heap_same (o := .loop { rc .ready with state := .busy }) hlt
    have g3 : (A.putObj (w.heap.size + 1) (.loop { rc .ready with state := .busy })).heap[w.heap.size]? = some (.deferred (some [])) := (World.putObj_heap_other (by omega)).trans f3
    refine wpIn_mono (hbody _ i _ hi (hI _ _ _ f1 (Aside.put A _)) (hCo _ _ _ _ hCA f2) (by rw [World.putObj_size]; omega) ⟨_, g3⟩ ⟨_, g2⟩) ?_
    rintro e a3 B hB
    cases e with
    | normal =>
      obtain ⟨k1, k2, k3, k4, k5⟩ := hB
      have m2 := k5.trans g2
      have m3 := k4.trans g3
      exact ⟨_, _, run_endRound none m2, rfl, ⟨hI _ _ _ k1 (Aside.put B _), World.putObj_heap_same (Array.getElem?_eq_some_iff.1 m2).1, (World.putObj_heap_other (by omega)).trans m3⟩, hCo _ _ _ _ k2 m2⟩
    | _ => exact hB.elim
  · rintro e B ⟨⟨v, rfl⟩, f1, f2, f3⟩
    have hlt := (Array.getElem?_eq_some_iff.1 f2).1
    exact ⟨none, _, run_endLoop f2 (by simp [rc]), hdone _ (hI _ _ _ f1 (Aside.put B _)) (by rw [World.putObj_size]; omega) ((World.putObj_heap_other (by omega)).trans f3)⟩
end Go.Proofs.Ytnffngbkidehfaa
