/-
  Own text: a range over a function that hands over so many things, each with memory that it made for it; the body goes on each time and changes one thing that is told by a row of worlds.
-/
import Derived.RangeFuncNested
import Derived.RangeFuncBox
import Derived.RangeFuncBound
import Derived.RangeFuncCalls
import Derived.RangeFuncLeaves
import Derived.OwnWalkIn
namespace Go.Proofs.Ytjcbcdjfhcnhcaa
open Go.RowKit

/-- Handing over: N things, the i-th an x with M i x, made into arguments by enc. -/
def Yields {α : Type} (F : Fence) (n : Nat) (P : Program) (g : Nat) (lb : Array Value) (N : Nat) (enc : Nat → α → Array Value) (M : Nat → α → World → Prop) (w : World) : Prop :=
  ∀ (l : Nat) (J : Nat → World → Prop) (W : World), Below w.heap.size w W → (∀ i A B, J i A → Below A.heap.size A B → J i B) →
    (∀ i x A, i < N → J i A → Below w.heap.size w A → M i x A → YieldAt F (n - 1) P l (enc i x) A fun e B => e = .returned (.bool true) ∧ J (i + 1) B ∧ Below w.heap.size w B) →
    J 0 W → CallsIn F n P g (#[.func (.yield l) #[] #[]] ++ lb) W fun e B => (∃ v, e = .returned v) ∧ J N B
/-- How a round's body ends. -/
def Went (b : Nat) (V : Nat → World) (i : Nat) (A : World) : Exit → Act → World → Prop
  | .normal, _, B => Below b (V (i + 1)) B ∧ ∀ k, b ≤ k → k < A.heap.size → B.heap[k]? = A.heap[k]?
  | _, _, _ => False
theorem below_rec {b : Nat} {v A : World} {l : Nat} (h : Below b v A) (hl : b ≤ l) (o : Obj) : Below b v (A.putObj l o) :=
  ⟨h.os, h.tape, h.output, by rw [World.putObj_size]; exact h.size, fun k hk => (World.putObj_heap_other (by omega)).trans (h.block k hk)⟩
variable {F : Fence} {n : Nat} {P : Program}
theorem wpIn_range_yields {α : Type} {g : Operand} {ps : Array Tmp} {assign body : Code} {Q : Exit → Act → World → Prop} {a : Act} {w : World}
    (hro : F.round = none) (h1 : 1 ≤ n) {gf : Nat} {lb : Array Value} (hg : a.eval g = .func (.func gf) #[] lb) (hFg : F.fn gf) (eg : ∀ args w, (callFunc gf args).run P w = .ok (.enter gf args) w)
    {N : Nat} {enc : Nat → α → Array Value} {M : Nat → α → World → Prop} {w0 : World} (hseq : Yields F (n - 1) P gf lb N enc M w0) (hps : ∀ i x, (enc i x).size = ps.size)
    (hM : ∀ i x A l r o, M i x A → A.heap[l]? = some (.loop r) → M i x (A.putObj l o))
    (V : Nat → World) (hV : ∀ i, Below w0.heap.size w0 (V i)) (hVb : w0.heap.size ≤ w.heap.size) (h0 : Below w.heap.size (V 0) w) (a₁ : Nat → α → Act)
    (hassign : ∀ (l i : Nat) (x : α) (A : World) (K : Act → World → Prop), K (a₁ i x) A →
      assign.wpIn (F.inRound l) (n - 1 - 1) P (Exit.then K (fun _ _ _ => False)) { tmps := (ps.zip (enc i x)).foldl (fun t (p, v) => t.setIfInBounds p v) a.tmps, defers := [] } A)
    (hbody : ∀ (l i : Nat) (x : α) (A : World), i < N → Below w.heap.size (V i) A → w.heap.size ≤ A.heap.size → M i x A → body.wpIn (F.inRound l) (n - 1 - 1) P (Went w.heap.size V i A) (a₁ i x) A)
    (hdone : ∀ (D : Nat) (B : World), Below w.heap.size (V N) B → B.heap[D]? = some (.deferred (some [])) → Q .normal { a with defers := { target := .collected D, args := #[] } :: a.defers } B) :
    (Code.rangeFunc g ps assign body).wpIn F n P Q a w := by
  have hb := fun (i : Nat) (A : World) (h : Below w.heap.size (V i) A) => (hV i).trans (h.mono hVb)
  refine wpIn_rangeFunc (fun fn hfn => ?_)
  rw [hro]
  let rc : LoopState → Loop := fun s => { state := s, pending := none, fn, tmps := a.tmps, params := ps, assign, body, defers := w.heap.size }
  let W1 := (w.alloc (.deferred (some []))).alloc (.loop (rc .ready))
  have e1 : W1.heap[w.heap.size + 1]? = some (.loop (rc .ready)) := by
    have h := World.alloc_heap_new (w.alloc (.deferred (some []))) (.loop (rc .ready))
    rwa [World.size_alloc] at h
  have e2 : W1.heap[w.heap.size]? = some (.deferred (some [])) := (Below.heap_alloc _ _ _ (by simp)).trans (World.alloc_heap_new w _)
  have e3 : Below w.heap.size (V 0) W1 := h0.trans (((Below.refl _ w).alloc (Nat.le_refl _) _).alloc (by simp) _)
  refine ⟨w.heap.size + 1, [{ target := .collected w.heap.size, args := #[] }], W1, { target := .fn (.func gf) lb, args := #[.func (.yield (w.heap.size + 1)) #[] #[]] }, W1, gf,
    #[.func (.yield (w.heap.size + 1)) #[] #[]] ++ lb, W1, run_enterLoop_outer _ _ _ _ _, ?_, ?_, ?_, fun _ => h1, ?_⟩
  · simp only [resolve, hg]
    simp [go_sem]
  · intro f' hf'
    simp [Target.leads] at hf'
    subst hf'
    exact hFg
  · simp [invoke, go_sem, eg]
  refine (hseq (w.heap.size + 1) (fun i A => Below w.heap.size (V i) A ∧ A.heap[w.heap.size + 1]? = some (.loop (rc .ready)) ∧ A.heap[w.heap.size]? = some (.deferred (some []))) W1 (hb 0 _ e3) ?_ ?_ ⟨e3, e1, e2⟩).mono ?_
  · rintro i A B ⟨f1, f2, f3⟩ hAB
    have hlt := (Array.getElem?_eq_some_iff.1 f2).1
    exact ⟨f1.trans (hAB.mono (by omega)), (hAB.block _ hlt).trans f2, (hAB.block _ (by omega)).trans f3⟩
  · rintro i x A hi ⟨f1, f2, f3⟩ hA hMx
    have hlt := (Array.getElem?_eq_some_iff.1 f2).1
    refine ⟨fn, _, assign, body, run_yield f2 (hps i x), roundIn_of_wpIn hfn (hassign _ i x A _ ⟨_, run_beginRound f2 rfl, ?_⟩)⟩
    have g2 := World.putObj_heap_same (o := .loop { rc .ready with state := .busy }) hlt
    have g3 : (A.putObj (w.heap.size + 1) (.loop { rc .ready with state := .busy })).heap[w.heap.size]? = some (.deferred (some [])) := (World.putObj_heap_other (by omega)).trans f3
    refine wpIn_mono (hbody _ i x _ hi (below_rec f1 (Nat.le_succ _) _) (by rw [World.putObj_size]; omega) (hM i x A _ _ _ hMx f2)) ?_
    rintro e a3 B hB
    cases e with
    | normal =>
      obtain ⟨k1, k2⟩ := hB
      have m2 := (k2 _ (Nat.le_succ _) (by rw [World.putObj_size]; exact hlt)).trans g2
      have m3 := (k2 _ (Nat.le_refl _) (by rw [World.putObj_size]; omega)).trans g3
      exact ⟨_, _, run_endRound none m2, rfl, ⟨below_rec k1 (Nat.le_succ _) _, World.putObj_heap_same (Array.getElem?_eq_some_iff.1 m2).1, (World.putObj_heap_other (by omega)).trans m3⟩, hb _ _ (below_rec k1 (Nat.le_succ _) _)⟩
    | _ => exact hB.elim
  · rintro e B ⟨⟨v, rfl⟩, f1, f2, f3⟩
    exact ⟨none, _, run_endLoop f2 (by simp [rc]), hdone _ _ (below_rec f1 (Nat.le_succ _) _) ((World.putObj_heap_other (by omega)).trans f3)⟩
end Go.Proofs.Ytjcbcdjfhcnhcaa
