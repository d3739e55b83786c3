/-
  Own text: regions that draw their order, inside a round of a loop over a function: all but the last operation only read.
  regions that draw their order: all but the last operation keep the world within a class and yield one value in each world of it (calls that only make memory of their own, too); the last one is walked behind them.
  a region that draws its order, at a class of worlds: guarded operations, loads and calls that make memory, one walk in the written order.
  regions that draw their order: the first operations keep the world within a class and yield one value in each world of it (calls that only make memory of their own, too); behind them come several more, each bound to the one ahead of it: they are walked as they stand.
-/
import Derived.Test.YtnffngbkidehfaaRows
import Derived.WalkKit
import Derived.Sort.QuietIn
import Derived.OwnWalkIn
import Derived.ControlIn
namespace Go.Proofs.Ytnffngbkidehfaa
open Go

section
variable {F : Fence} {n : Nat} {P : Program} {md : Region.Mode} {C : World → Prop}

theorem op_round {o : Oper} {a : Act} {K : Act → Prop} {K' : Act → World → Prop} {Q' : Exit → Act → World → Prop} {w : World} (hnd : ∀ c, o.op ≠ .defer c) (hw : C w) (h : ∀ a w', C w' → K a → K' a w')
    (ha : o.askedIn F P a C) (hh : o.quietIn F n P a C K) : o.wpIn F n P a w K' Q' := by
  obtain ⟨v, h1, h2⟩ := hh
  refine ⟨ha w hw, ?_⟩
  rw [Oper.semAt_eq _ _ _ hnd]
  have h3 : Oper.quietUponIn F n P C w v ((execOp a.eval o).run P w) := h1 w hw
  cases hr : (execOp a.eval o).run P w with
  | halt x w' => rw [hr] at h3; exact h3.elim
  | ok x w' =>
    rw [hr] at h3
    cases x with
    | value u => obtain ⟨rfl, rfl⟩ := h3; exact h _ _ hw h2
    | skip => obtain ⟨rfl, rfl⟩ := h3; exact h _ _ hw h2
    | enter f args => obtain ⟨rfl, hd, hc⟩ := h3; exact ⟨hd, hc.mono fun e w'' ⟨he, hw''⟩ => by subst he; exact h _ _ hw'' h2⟩
    | _ => exact h3.elim

/-- What is asked of the operations ahead of the last one. -/
structure Ahead (md : Region.Mode) (l : List Oper) (last : Oper) : Prop where
  nodefer : ∀ o, o ∈ l → ∀ c, o.op ≠ .defer c
  plain : ∀ o, o ∈ l → o.guard = none
  plainLast : last.guard = none
  back : ∀ (i : Nat) (o : Oper), l[i]? = some o → ∀ e ∈ o.after, e.on < i
  backLast : ∀ e ∈ last.after, e.on < l.length
  used : ∀ j : Nat, j < l.length → ∃ (i : Nat) (o : Oper), j < i ∧ (l ++ [last])[i]? = some o ∧ ∃ e ∈ o.after, Region.binds md e = true ∧ e.on = j
/-- What has come up came up behind what it waits for. -/
def Closed (md : Region.Mode) (l : List Oper) (listed : Array Bool) : Prop :=
  ∀ (i : Nat) (o : Oper), l[i]? = some o → listed.getD i true = true → ∀ e ∈ o.after, Region.binds md e = true → listed.getD e.on false = true
theorem push_lt {A : Array Bool} {i : Nat} (h : i < A.size) (b d : Bool) : (A.push b).getD i d = A.getD i d := by
  simp [Array.getElem?_push, Nat.ne_of_lt h]
theorem getD_in {A : Array Bool} {i : Nat} (h : i < A.size) (d d' : Bool) : A.getD i d = A.getD i d' := by simp [h]
variable {l : List Oper} {last : Oper}
theorem pre_op {i : Nat} (h : i < l.length) : (l ++ [last]).toArray[i]? = l[i]? := by simp [List.getElem?_append, h]
theorem last_op : (l ++ [last]).toArray[l.length]? = some last := by simp
theorem ready_pre (H : Ahead md l last) {listed : Array Bool} (hs : listed.size = l.length) {i : Nat} (hi : i < l.length) :
    i ∈ Region.ready md (l ++ [last]).toArray (listed.push false) ↔ i ∈ Region.ready md l.toArray listed := by
  rw [mem_ready, mem_ready, pre_op hi, push_lt (by omega)]
  have e : l.toArray[i]? = l[i]? := by simp
  rw [e]
  refine and_congr Iff.rfl ⟨?_, ?_⟩
  · rintro ⟨o, ho, h⟩
    refine ⟨o, ho, fun d hd hb => ?_⟩
    have := H.back i o ho d hd
    rw [← push_lt (A := listed) (b := false) (by omega)]; exact h d hd hb
  · rintro ⟨o, ho, h⟩
    refine ⟨o, ho, fun d hd hb => ?_⟩
    have := H.back i o ho d hd
    rw [push_lt (by omega)]; exact h d hd hb
theorem ready_lt {ops : Array Oper} {listed : Array Bool} {i : Nat} (h : i ∈ Region.ready md ops listed) : i < ops.size := by
  obtain ⟨_, o, ho, _⟩ := mem_ready.1 h
  exact (Array.getElem?_eq_some_iff.1 ho).1
/-- Nothing is ready: all has come. -/
theorem all_came (H : Ahead md l last) {listed : Array Bool} (hs : listed.size = l.length) (h : Region.ready md l.toArray listed = []) : ∀ i, i < l.length → listed.getD i true = true := by
  intro i
  induction i using Nat.strongRecOn with
  | ind i ih =>
    intro hi
    refine Classical.byContradiction fun hn => ?_
    have hmem : i ∈ Region.ready md l.toArray listed := by
      refine mem_ready.2 ⟨by simpa using hn, l[i], by simp [hi], fun e he _ => ?_⟩
      have hb := H.back i _ (List.getElem?_eq_getElem hi) e he
      rw [getD_in (by omega) false true]
      exact ih e.on hb (by omega)
    rw [h] at hmem
    cases hmem
/-- The last one is ready: all else has come. -/
theorem last_came (H : Ahead md l last) {listed : Array Bool} (hs : listed.size = l.length) (hc : Closed md l listed) (h : l.length ∈ Region.ready md (l ++ [last]).toArray (listed.push false)) : ∀ i, i < l.length → listed.getD i true = true := by
  obtain ⟨_, o, ho, hall⟩ := mem_ready.1 h
  rw [last_op] at ho
  obtain rfl : last = o := by simpa using ho
  have key : ∀ d i, i < l.length → l.length - i ≤ d → listed.getD i true = true := by
    intro d
    induction d with
    | zero => intro i hi hd; omega
    | succ d ih =>
      intro i hi hd
      obtain ⟨j, o, hij, hj, e, he, hb, hon⟩ := H.used i hi
      subst hon
      rcases Nat.lt_trichotomy j l.length with g | g | g
      · rw [List.getElem?_append_left g] at hj
        have h1 := ih j g (by omega)
        have h2 := hc j o hj h1 e he hb
        rwa [getD_in (by omega) false true] at h2
      · subst g
        simp at hj
        subst hj
        have h2 := hall e he hb
        rw [push_lt (by omega)] at h2
        rwa [getD_in (by omega) false true] at h2
      · rw [List.getElem?_eq_none (by simp; omega)] at hj; cases hj
  exact fun i hi => key _ i hi (Nat.le_refl _)
theorem set_push {A : Array Bool} {i : Nat} (h : i < A.size) : (A.push false).setIfInBounds i true = (A.setIfInBounds i true).push false := by
  apply Array.ext_getElem?
  intro j
  simp only [Array.getElem?_setIfInBounds, Array.getElem?_push, Array.size_push, Array.size_setIfInBounds]
  by_cases e : i = j
  · subst e; simp [h, Nat.lt_succ_of_lt h, Nat.ne_of_lt h]
  · simp [e]
theorem closed_set {listed : Array Bool} (hc : Closed md l listed) {i : Nat} (hr : i ∈ Region.ready md l.toArray listed) : Closed md l (listed.setIfInBounds i true) := by
  intro j o ho hj e he hb
  have grow : listed.getD e.on false = true → (listed.setIfInBounds i true).getD e.on false = true := fun h => by
    simp only [Array.getD_eq_getD_getElem?, Array.getElem?_setIfInBounds] at h ⊢
    by_cases g : i = e.on
    · rw [if_pos g]
      by_cases g2 : i < listed.size
      · rw [if_pos g2]; rfl
      · rw [← g, Array.getElem?_eq_none (Nat.le_of_not_lt g2)] at h; cases h
    · rw [if_neg g]; exact h
  by_cases g : i = j
  · subst g
    obtain ⟨_, o', ho', hall⟩ := mem_ready.1 hr
    have e2 : l.toArray[i]? = l[i]? := by simp
    rw [e2, ho] at ho'
    obtain rfl : o = o' := by simpa using ho'
    exact grow (hall e he hb)
  · refine grow (hc j o ho ?_ e he hb)
    simp only [Array.getD_eq_getD_getElem?, Array.getElem?_setIfInBounds, g, if_false] at hj ⊢
    exact hj
variable {Q : Act → Prop} {Q' : Exit → Act → World → Prop}
theorem last_step (H : Ahead md l last) (hQ : ∀ a w, C w → Q a → last.wpIn F n P a w (fun a w => Q' .normal a w) Q') {listed : Array Bool} (hs : listed.size = l.length) (hall : ∀ i, i < l.length → listed.getD i true = true) (fuel : Nat) {a : Act} {w : World} (hw : C w) (h : Q a) :
    wpAnyIn F n P md (l ++ [last]).toArray Q' (fuel + 1) (listed.push false) a w := by
  have rest : Region.ready md (l ++ [last]).toArray ((listed.push false).setIfInBounds l.length true) = [] := by
    refine List.eq_nil_iff_forall_not_mem.2 fun i hi => ?_
    have hlt := ready_lt hi
    obtain ⟨h0, _⟩ := mem_ready.1 hi
    simp at hlt
    simp only [Array.getD_eq_getD_getElem?, Array.getElem?_setIfInBounds, Array.size_push] at h0
    by_cases g : l.length = i
    · rw [if_pos g, if_pos (by omega)] at h0; cases h0
    · rw [if_neg g] at h0
      have := hall i (by omega)
      rw [← push_lt (A := listed) (b := false) (by omega)] at this
      simp only [Array.getD_eq_getD_getElem?] at this
      rw [this] at h0; cases h0
  have only : ∀ i ∈ Region.ready md (l ++ [last]).toArray (listed.push false), i = l.length := fun i hi => by
    have hlt := ready_lt hi
    obtain ⟨h0, _⟩ := mem_ready.1 hi
    simp at hlt
    refine Classical.byContradiction fun g => ?_
    rw [push_lt (by omega), hall i (by omega)] at h0
    cases h0
  have isR : l.length ∈ Region.ready md (l ++ [last]).toArray (listed.push false) := by
    refine mem_ready.2 ⟨by rw [← hs]; simp, last, last_op, fun e he _ => ?_⟩
    have hb := H.backLast e he
    rw [push_lt (by omega), getD_in (by omega) false true]
    exact hall _ hb
  have fin : ∀ fuel, ∀ a w, Q' .normal a w → wpAnyIn F n P md (l ++ [last]).toArray Q' fuel ((listed.push false).setIfInBounds l.length true) a w := by
    intro fuel a w hq
    cases fuel with
    | zero => exact ⟨rest, hq⟩
    | succ fuel => exact ⟨fun _ => hq, fun i hi => by rw [rest] at hi; cases hi⟩
  refine ⟨fun h0 => (by rw [h0] at isR; cases isR), fun i hi => ?_⟩
  obtain rfl := only i hi
  unfold wpOpIn
  rw [last_op]
  have hwant : Region.wanted last (yielded (l ++ [last]).toArray a.tmps) = true := by simp [Region.wanted, H.plainLast]
  simp only [hwant, if_true]
  exact Oper.wpIn_mono (fun a w hq => fin _ a w hq) (hQ a w hw h)
theorem pre_step (H : Ahead md l last) {i : Nat} (hi : i < l.length) {K : Act → Prop} {K' : Act → World → Prop} {a : Act} {w : World} (hw : C w) (h : ∀ a w', C w' → K a → K' a w') (hh : qOpIn F n P l.toArray C i K a) : wpOpIn F n P (l ++ [last]).toArray Q' i K' a w := by
  have e : l.toArray[i]? = some l[i] := by simp [hi]
  unfold qOpIn at hh
  rw [e] at hh
  unfold wpOpIn
  rw [pre_op hi, List.getElem?_eq_getElem hi]
  have hm : l[i] ∈ l := List.getElem_mem hi
  have w1 : ∀ y, Region.wanted l[i] y = true := fun y => by simp [Region.wanted, H.plain _ hm]
  simp only [w1, if_true] at hh ⊢
  exact op_round (H.nodefer _ hm) hw h hh.1 hh.2
theorem any_round (H : Ahead md l last) (hQ : ∀ a w, C w → Q a → last.wpIn F n P a w (fun a w => Q' .normal a w) Q') : ∀ (fuel : Nat) (listed : Array Bool) (a : Act) (w : World), listed.size = l.length → Closed md l listed → C w →
    wpAnyQIn F n P md l.toArray C Q fuel listed a → wpAnyIn F n P md (l ++ [last]).toArray Q' (fuel + 1) (listed.push false) a w
  | 0, listed, a, w, hs, _, hw, h => last_step H hQ hs (all_came H hs h.1) 0 hw h.2
  | fuel + 1, listed, a, w, hs, hc, hw, h => by
    by_cases h0 : Region.ready md l.toArray listed = []
    · exact last_step H hQ hs (all_came H hs h0) (fuel + 1) hw (h.1 h0)
    · refine ⟨fun g => ?_, fun i hi => ?_⟩
      · refine absurd (List.eq_nil_iff_forall_not_mem.2 fun i hi => ?_) h0
        have hlt := ready_lt hi
        have := (ready_pre H hs (by simpa using hlt)).2 hi
        rw [g] at this; cases this
      · have hlt := ready_lt hi
        simp at hlt
        by_cases g : i = l.length
        · subst g
          have hall := last_came H hs hc hi
          refine absurd (List.eq_nil_iff_forall_not_mem.2 fun j hj => ?_) h0
          have hl := ready_lt hj
          obtain ⟨h1, _⟩ := mem_ready.1 hj
          rw [hall j (by simpa using hl)] at h1; cases h1
        · have hi' := (ready_pre H hs (by omega)).1 hi
          refine pre_step H (by omega) hw (fun a' w' hw' hk => ?_) (h.2 i hi')
          rw [set_push (by omega)]
          exact any_round H hQ fuel _ a' w' (by simp [hs]) (closed_set hc hi') hw' hk
/-- The check, by reckoning. -/
def aheadB (md : Region.Mode) (l : List Oper) (last : Oper) : Bool :=
  l.all (fun o => (match o.op with | .defer _ => false | _ => true) && o.guard.isNone) && last.guard.isNone &&
  (List.range l.length).all (fun i => ((l[i]?).map (fun o => o.after.toList.all fun e => decide (e.on < i))).getD true) &&
  last.after.toList.all (fun e => decide (e.on < l.length)) &&
  (List.range l.length).all (fun j => (List.range (l.length + 1)).any fun i => decide (j < i) && (((l ++ [last])[i]?).map (fun o => o.after.toList.any fun e => Region.binds md e && e.on == j)).getD false)
theorem ahead_of {md : Region.Mode} {l : List Oper} {last : Oper} (h : aheadB md l last = true) : Ahead md l last := by
  unfold aheadB at h
  simp only [Bool.and_eq_true] at h
  obtain ⟨⟨⟨⟨h1, h2⟩, h3⟩, h4⟩, h5⟩ := h
  rw [List.all_eq_true] at h1 h3 h4 h5
  refine ⟨fun o ho c e => ?_, fun o ho => ?_, by simpa using h2, fun i o ho e he => ?_, fun e he => by simpa using h4 e (by simpa using he), fun j hj => ?_⟩
  · have := h1 o ho
    rw [e] at this; simp at this
  · have := h1 o ho
    simp only [Bool.and_eq_true] at this
    simpa using this.2
  · have hi : i < l.length := (List.getElem?_eq_some_iff.1 ho).1
    have := h3 i (by simpa using hi)
    rw [ho] at this
    simp only [Option.map_some, Option.getD_some, List.all_eq_true] at this
    simpa using this e (by simpa using he)
  · have := h5 j (by simpa using hj)
    obtain ⟨i, _, hi⟩ := List.any_eq_true.1 this
    simp only [Bool.and_eq_true, decide_eq_true_eq] at hi
    obtain ⟨hji, h6⟩ := hi
    cases ho : (l ++ [last])[i]? with
    | none => rw [ho] at h6; simp at h6
    | some o =>
      rw [ho] at h6
      simp only [Option.map_some, Option.getD_some, List.any_eq_true, Bool.and_eq_true, beq_iff_eq] at h6
      obtain ⟨e, he, hb, hon⟩ := h6
      exact ⟨i, o, hji, ho, e, by simpa using he, hb, hon⟩
end
/-- In a round: all but the last operation only read; the last one is walked behind them. -/
theorem wpIn_round_last {F : Fence} {n : Nat} {P : Program} {id : Nat} {Q : Exit → Act → World → Prop} {a : Act} {w : World} (l : List Oper) (last : Oper) (hm : P.follows .mixedOrders = true) (hA : aheadB .any l last = true) (hB : Region.lexB .any l.toArray = true)
    (h : wpQuietIn F n P l.toArray (fun w' => ∃ n, w' = w.drewN n) (fun a' => ∀ w', (∃ n, w' = w.drewN n) → wpListIn F n P (l ++ [last]).toArray Q [last] a' w') l a) : (Code.region id (l ++ [last]).toArray true).wpIn F n P Q a w := by
  have H := ahead_of hA
  simp only [Region.lexB, Bool.and_eq_true] at hB
  refine wpIn_region_any hm ?_
  have h1 := wpAnyQIn_lex (F := F) (n := n) (P := P) (C := fun w' => ∃ n, w' = w.drewN n) (md := .any) hB.1 l 0 (Array.replicate l.length false) a (by simp) (by simpa using hB.2) h
  have h2 := any_round (Q' := Q) H (fun a w' hw hq => by
    have h3 := hq w' hw
    unfold wpListIn at h3
    have hwant : Region.wanted last (yielded (l ++ [last]).toArray a.tmps) = true := by simp [Region.wanted, H.plainLast]
    rw [if_pos hwant] at h3
    exact h3) l.length (Array.replicate l.length false) a { w with drawn := w.drawn + 1 } (by simp) (fun i o _ h => by
      have hi : i < l.length := (List.getElem?_eq_some_iff.1 ‹_›).1
      simp [hi] at h) ⟨1, rfl⟩ h1
  have e : Array.replicate (l ++ [last]).toArray.size false = (Array.replicate l.length false).push false := by simp [Array.replicate_succ]
  rw [e]
  simpa using h2
/-- The same at a list that is written out: the first k only read; behind them comes one more. -/
theorem wpIn_round_take {F : Fence} {n : Nat} {P : Program} {id : Nat} {Q : Exit → Act → World → Prop} {a : Act} {w : World} {ops : List Oper} (k : Nat) {last : Oper} (hl : ops.drop k = [last]) (hm : P.follows .mixedOrders = true) (hA : aheadB .any (ops.take k) last = true) (hB : Region.lexB .any (ops.take k).toArray = true)
    (h : wpQuietIn F n P (ops.take k).toArray (fun w' => ∃ n, w' = w.drewN n) (fun a' => ∀ w', (∃ n, w' = w.drewN n) → wpListIn F n P ops.toArray Q (ops.drop k) a' w') (ops.take k) a) : (Code.region id ops.toArray true).wpIn F n P Q a w := by
  have e : ops = ops.take k ++ [last] := by rw [← hl]; exact (List.take_append_drop k ops).symm
  rw [hl] at h
  have h2 := wpIn_round_last (F := F) (n := n) (id := id) (Q := Q) (a := a) (w := w) (ops.take k) last hm hA hB (by rw [← e]; exact h)
  rwa [← e] at h2
end Go.Proofs.Ytnffngbkidehfaa
namespace Go.Proofs.Ytnffngbkidehfaa
open Go

theorem wpIn_grow_last {F : Fence} {n : Nat} {P : Program} {id : Nat} {Q : Exit → Act → World → Prop} {a : Act} {w : World} (C : World → Prop) (hC : C w.drew) (l : List Oper) (last : Oper) (hm : P.follows .mixedOrders = true) (hA : aheadB .any l last = true) (hB : Region.lexB .any l.toArray = true)
    (h : wpQuietIn F n P l.toArray C (fun a' => ∀ w', C w' → wpListIn F n P (l ++ [last]).toArray Q [last] a' w') l a) : (Code.region id (l ++ [last]).toArray true).wpIn F n P Q a w := by
  have H := ahead_of hA
  simp only [Region.lexB, Bool.and_eq_true] at hB
  refine wpIn_region_any hm ?_
  have h1 := wpAnyQIn_lex (F := F) (n := n) (P := P) (C := C) (md := .any) hB.1 l 0 (Array.replicate l.length false) a (by simp) (by simpa using hB.2) h
  have h2 := any_round (Q' := Q) H (fun a w' hw hq => by
    have h3 := hq w' hw
    unfold wpListIn at h3
    have hwant : Region.wanted last (yielded (l ++ [last]).toArray a.tmps) = true := by simp [Region.wanted, H.plainLast]
    rw [if_pos hwant] at h3
    exact h3) l.length (Array.replicate l.length false) a { w with drawn := w.drawn + 1 } (by simp) (fun i o _ h => by
      have hi : i < l.length := (List.getElem?_eq_some_iff.1 ‹_›).1
      simp [hi] at h) hC h1
  have e : Array.replicate (l ++ [last]).toArray.size false = (Array.replicate l.length false).push false := by simp [Array.replicate_succ]
  rw [e]
  simpa using h2
/-- The same at a list that is written out. -/
theorem wpIn_grow_take {F : Fence} {n : Nat} {P : Program} {id : Nat} {Q : Exit → Act → World → Prop} {a : Act} {w : World} {ops : List Oper} (C : World → Prop) (hC : C w.drew) (k : Nat) {last : Oper} (hl : ops.drop k = [last]) (hm : P.follows .mixedOrders = true) (hA : aheadB .any (ops.take k) last = true) (hB : Region.lexB .any (ops.take k).toArray = true)
    (h : wpQuietIn F n P (ops.take k).toArray C (fun a' => ∀ w', C w' → wpListIn F n P ops.toArray Q (ops.drop k) a' w') (ops.take k) a) : (Code.region id ops.toArray true).wpIn F n P Q a w := by
  have e : ops = ops.take k ++ [last] := by rw [← hl]; exact (List.take_append_drop k ops).symm
  rw [hl] at h
  have h2 := wpIn_grow_last (F := F) (n := n) (id := id) (Q := Q) (a := a) (w := w) C hC (ops.take k) last hm hA hB (by rw [← e]; exact h)
  rwa [← e] at h2
/-- An operation that yields this value in every world of the class: taken as it stands, unguarded. -/
theorem wpQuietIn_read {F : Fence} {n : Nat} {P : Program} {ops : Array Oper} {C : World → Prop} {Q : Act → Prop} {a : Act} {o : Oper} {rest : List Oper} (v : Value) (ha : o.askedIn F P a C) (hg : o.guard = none) (hv : ∀ w, C w → o.quietAtIn F n P a C w v) (h : wpQuietIn F n P ops C Q rest (a.put o.dst v)) : wpQuietIn F n P ops C Q (o :: rest) a :=
  ⟨ha, by rw [if_pos (by simp [Region.wanted, hg])]; exact ⟨v, hv, h⟩⟩
end Go.Proofs.Ytnffngbkidehfaa
namespace Go.Proofs.Ytnffngbkidehfaa
open Go

theorem wpIn_class {F : Fence} {n : Nat} {P : Program} {id : Nat} {Q : Exit → Act → World → Prop} {a : Act} {w : World} {l : List Oper} (C : World → Prop) (hC : C w.drew) (hro : F.round = none) (hm : P.follows .mixedOrders = true) (hB : Region.lexB .any l.toArray = true)
    (h : wpQuietIn F n P l.toArray C (fun a' => ∀ w', C w' → Q .normal a' w') l a) : (Code.region id l.toArray true).wpIn F n P Q a w :=
  wpIn_region_quiet (C := C) hro hm hB hC (by simpa using h)
/-- A guarded operation, whose guard is decided, that yields this value in every world of the class. -/
theorem wpQ_readw {F : Fence} {n : Nat} {P : Program} {ops : Array Oper} {C : World → Prop} {Q : Act → Prop} {a : Act} {o : Oper} {rest : List Oper} (v : Value) (ha : o.askedIn F P a C) (hg : Region.wanted o (yielded ops a.tmps) = true) (hv : ∀ w, C w → o.quietAtIn F n P a C w v) (h : wpQuietIn F n P ops C Q rest (a.put o.dst v)) : wpQuietIn F n P ops C Q (o :: rest) a :=
  ⟨ha, by rw [if_pos hg]; exact ⟨v, hv, h⟩⟩
/-- A guarded operation whose guard isn't met. -/
theorem wpQ_skip {F : Fence} {n : Nat} {P : Program} {ops : Array Oper} {C : World → Prop} {Q : Act → Prop} {a : Act} {o : Oper} {rest : List Oper} (ha : o.askedIn F P a C) (hg : Region.wanted o (yielded ops a.tmps) = false) (h : wpQuietIn F n P ops C Q rest (a.put o.dst undef)) : wpQuietIn F n P ops C Q (o :: rest) a :=
  ⟨ha, by rw [if_neg (by rw [hg]; decide)]; exact h⟩
end Go.Proofs.Ytnffngbkidehfaa
namespace Go.Proofs.Ytnffngbkidehfaa
open Go

/-- The first j have come. -/
def flags (j n : Nat) : Array Bool := Array.replicate j true ++ Array.replicate (n - j) false
theorem flags_size {j n : Nat} (h : j ≤ n) : (flags j n).size = n := by unfold flags; simp; omega
theorem flags_get {j n : Nat} (h : j ≤ n) (i : Nat) : (flags j n)[i]? = if i < j then some true else if i < n then some false else none := by
  unfold flags
  rw [Array.getElem?_append]
  simp only [Array.size_replicate, Array.getElem?_replicate]
  by_cases h1 : i < j
  · rw [if_pos h1, if_pos h1, if_pos h1]
  · rw [if_neg h1, if_neg h1]
    by_cases h2 : i < n
    · rw [if_pos (by omega), if_pos h2]
    · rw [if_neg (by omega), if_neg h2]
theorem flags_set {j n : Nat} (h : j < n) : (flags j n).setIfInBounds j true = flags (j + 1) n := by
  apply Array.ext_getElem?
  intro i
  rw [Array.getElem?_setIfInBounds, flags_get (by omega), flags_get (by omega), flags_size (by omega)]
  by_cases e : j = i
  · subst e
    rw [if_pos rfl, if_pos h, if_pos (by omega)]
  · rw [if_neg e]
    by_cases h1 : i < j
    · rw [if_pos h1, if_pos (by omega)]
    · rw [if_neg h1, if_neg (show ¬ i < j + 1 by omega)]
section
variable {F : Fence} {n : Nat} {P : Program} {md : Region.Mode} {C : World → Prop} {Q' : Exit → Act → World → Prop}
/-- One behind the other. -/
theorem wpAnyIn_seq {ops : List Oper} (hend : Region.ready md ops.toArray (flags ops.length ops.length) = []) : ∀ (rest : List Oper) (j : Nat) (fuel : Nat) (a : Act) (w : World), ops.drop j = rest → j ≤ ops.length → rest.length ≤ fuel →
    (∀ i, j ≤ i → i < ops.length → Region.ready md ops.toArray (flags i ops.length) = [i]) → wpListIn F n P ops.toArray Q' rest a w → wpAnyIn F n P md ops.toArray Q' fuel (flags j ops.length) a w
  | [], j, fuel, a, w, hd, hj, _, _, h => by
    have e : j = ops.length := by
      have := congrArg List.length hd
      simp at this
      omega
    subst e
    cases fuel with
    | zero => exact ⟨hend, h⟩
    | succ f => exact ⟨fun _ => h, fun i hi => by rw [hend] at hi; cases hi⟩
  | o :: r, j, 0, a, w, _, _, hf, _, _ => by simp at hf
  | o :: r, j, f + 1, a, w, hd, hj, hf, hr, h => by
    have hlt : j < ops.length := by
      have := congrArg List.length hd
      simp at this
      omega
    have ho : ops[j]? = some o := by
      have : (ops.drop j)[0]? = some o := by rw [hd]; rfl
      simpa using this
    have hd2 : ops.drop (j + 1) = r := by
      rw [← List.drop_drop, hd]
      rfl
    have ih : ∀ a w, wpListIn F n P ops.toArray Q' r a w → wpAnyIn F n P md ops.toArray Q' f (flags (j + 1) ops.length) a w := fun a w h =>
      wpAnyIn_seq hend r (j + 1) f a w hd2 (by omega) (by simpa using hf) (fun i h1 h2 => hr i (by omega) h2) h
    have hrj := hr j (Nat.le_refl _) hlt
    refine ⟨fun g => (by rw [hrj] at g; cases g), fun i hi => ?_⟩
    rw [hrj] at hi
    obtain rfl : i = j := by simpa using hi
    rw [flags_set hlt]
    unfold wpOpIn
    have ho2 : ops.toArray[i]? = some o := by simpa using ho
    rw [ho2]
    unfold wpListIn at h
    by_cases hw : Region.wanted o (yielded ops.toArray a.tmps) = true
    · simp only [hw, if_true] at h ⊢
      exact Oper.wpIn_mono (fun a w hq => ih a w hq) h
    · simp only [hw] at h ⊢
      exact ⟨h.1, ih _ _ h.2⟩
/-- What is asked of the operations behind: each is bound to the one ahead of it. -/
def Chain (md : Region.Mode) (k : Nat) (T : List Oper) : Prop := ∀ (i : Nat) (o : Oper), T[i]? = some o → ∃ e ∈ o.after, Region.binds md e = true ∧ e.on = k + i
variable {l T : List Oper} {t : Oper}
theorem getD_app {A : Array Bool} {i : Nat} (h : i < A.size) (m : Nat) (d : Bool) : (A ++ Array.replicate m false).getD i d = A.getD i d := by
  simp [Array.getElem?_append, h]
theorem getD_app' {A : Array Bool} {i m : Nat} (h : A.size ≤ i) (h2 : i < A.size + m) (d : Bool) : (A ++ Array.replicate m false).getD i d = false := by
  have h3 : ¬ i < A.size := by omega
  have h4 : i - A.size < m := by omega
  simp [Array.getElem?_append, h3, h4]
theorem pre_opT {i : Nat} (h : i < l.length) : (l ++ t :: T).toArray[i]? = l[i]? := by simp [List.getElem?_append, h]
theorem first_opT : (l ++ t :: T).toArray[l.length]? = some t := by simp
theorem ready_preT (H : Ahead md l t) {listed : Array Bool} (hs : listed.size = l.length) {i : Nat} (hi : i < l.length) :
    i ∈ Region.ready md (l ++ t :: T).toArray (listed ++ Array.replicate (T.length + 1) false) ↔ i ∈ Region.ready md l.toArray listed := by
  rw [mem_ready, mem_ready, pre_opT hi, getD_app (by omega)]
  have e : l.toArray[i]? = l[i]? := by simp
  rw [e]
  refine and_congr Iff.rfl ⟨?_, ?_⟩
  · rintro ⟨o, ho, h⟩
    refine ⟨o, ho, fun d hd hb => ?_⟩
    have := H.back i o ho d hd
    rw [← getD_app (A := listed) (m := T.length + 1) (by omega)]; exact h d hd hb
  · rintro ⟨o, ho, h⟩
    refine ⟨o, ho, fun d hd hb => ?_⟩
    have := H.back i o ho d hd
    rw [getD_app (by omega)]; exact h d hd hb
/-- None of those behind the first one behind is ready. -/
theorem no_later (HT : Chain md l.length T) {listed : Array Bool} (hs : listed.size = l.length) {j : Nat} (hj : l.length < j) (h : j ∈ Region.ready md (l ++ t :: T).toArray (listed ++ Array.replicate (T.length + 1) false)) : False := by
  have hlt := ready_lt h
  obtain ⟨_, o, ho, hall⟩ := mem_ready.1 h
  have ho2 : T[j - l.length - 1]? = some o := by
    rw [← ho]
    have e : (l ++ t :: T).toArray[j]? = (l ++ t :: T)[j]? := by simp
    rw [e, List.getElem?_append_right (by omega), show j - l.length = (j - l.length - 1) + 1 by omega]
    rfl
  obtain ⟨e, he, hb, hon⟩ := HT _ _ ho2
  have h2 := hall e he hb
  simp at hlt
  rw [hon, getD_app' (by omega) (by omega)] at h2
  cases h2
theorem first_came (H : Ahead md l t) {listed : Array Bool} (hs : listed.size = l.length) (hc : Closed md l listed) (h : l.length ∈ Region.ready md (l ++ t :: T).toArray (listed ++ Array.replicate (T.length + 1) false)) : ∀ i, i < l.length → listed.getD i true = true := by
  refine last_came H hs hc ?_
  obtain ⟨_, o, ho, hall⟩ := mem_ready.1 h
  rw [first_opT] at ho
  obtain rfl : t = o := by simpa using ho
  refine mem_ready.2 ⟨by rw [← hs]; simp, t, last_op, fun e he hb => ?_⟩
  have h2 := hall e he hb
  have h3 := H.backLast e he
  rw [getD_app (by omega)] at h2
  rw [push_lt (by omega)]
  exact h2
theorem set_app {A : Array Bool} {i m : Nat} (h : i < A.size) : (A ++ Array.replicate m false).setIfInBounds i true = A.setIfInBounds i true ++ Array.replicate m false := by
  apply Array.ext_getElem?
  intro j
  simp only [Array.getElem?_setIfInBounds, Array.getElem?_append, Array.size_append, Array.size_setIfInBounds, Array.size_replicate]
  by_cases e : i = j
  · subst e
    rw [if_pos rfl, if_pos (by omega), if_pos h, if_pos rfl, if_pos h]
  · rw [if_neg e]
    by_cases g : j < A.size
    · rw [if_pos g, if_pos g, if_neg e]
    · rw [if_neg g, if_neg g]
theorem pre_stepT (H : Ahead md l t) {i : Nat} (hi : i < l.length) {K : Act → Prop} {K' : Act → World → Prop} {a : Act} {w : World} (hw : C w) (h : ∀ a w', C w' → K a → K' a w') (hh : qOpIn F n P l.toArray C i K a) : wpOpIn F n P (l ++ t :: T).toArray Q' i K' a w := by
  have e : l.toArray[i]? = some l[i] := by simp [hi]
  unfold qOpIn at hh
  rw [e] at hh
  unfold wpOpIn
  rw [pre_opT hi, List.getElem?_eq_getElem hi]
  have hm : l[i] ∈ l := List.getElem_mem hi
  have w1 : ∀ y, Region.wanted l[i] y = true := fun y => by simp [Region.wanted, H.plain _ hm]
  simp only [w1, if_true] at hh ⊢
  exact op_round (H.nodefer _ hm) hw h hh.1 hh.2
theorem all_flags {listed : Array Bool} (hs : listed.size = l.length) (h : ∀ i, i < l.length → listed.getD i true = true) : listed ++ Array.replicate (T.length + 1) false = flags l.length (l ++ t :: T).length := by
  have e : listed = Array.replicate l.length true := by
    apply Array.ext (by simpa using hs)
    intro i h1 h2
    have := h i (by omega)
    simp [h1] at this
    simpa using this
  rw [e]
  unfold flags
  congr 2
  simp
variable {Q : Act → Prop}
theorem any_tail (H : Ahead md l t) (HT : Chain md l.length T) (hQ : ∀ f a w, T.length + 1 ≤ f → C w → Q a → wpAnyIn F n P md (l ++ t :: T).toArray Q' f (flags l.length (l ++ t :: T).length) a w) : ∀ (fuel : Nat) (listed : Array Bool) (a : Act) (w : World), listed.size = l.length → Closed md l listed → C w →
    wpAnyQIn F n P md l.toArray C Q fuel listed a → wpAnyIn F n P md (l ++ t :: T).toArray Q' (fuel + (T.length + 1)) (listed ++ Array.replicate (T.length + 1) false) a w
  | 0, listed, a, w, hs, _, hw, h => by
    rw [all_flags (t := t) hs (all_came H hs h.1)]
    exact hQ _ a w (by omega) hw h.2
  | fuel + 1, listed, a, w, hs, hc, hw, h => by
    by_cases h0 : Region.ready md l.toArray listed = []
    · rw [all_flags (t := t) hs (all_came H hs h0)]
      exact hQ _ a w (by omega) hw (h.1 h0)
    · rw [show fuel + 1 + (T.length + 1) = (fuel + (T.length + 1)) + 1 by omega]
      refine ⟨fun g => ?_, fun i hi => ?_⟩
      · refine absurd (List.eq_nil_iff_forall_not_mem.2 fun i hi => ?_) h0
        have hlt := ready_lt hi
        have := (ready_preT (T := T) H hs (by simpa using hlt)).2 hi
        rw [g] at this; cases this
      · by_cases g : i < l.length
        · have hi' := (ready_preT H hs g).1 hi
          refine pre_stepT H g hw (fun a' w' hw' hk => ?_) (h.2 i hi')
          rw [set_app (by omega)]
          exact any_tail H HT hQ fuel _ a' w' (by simp [hs]) (closed_set hc hi') hw' hk
        · by_cases g2 : i = l.length
          · subst g2
            have hall := first_came H hs hc hi
            refine absurd (List.eq_nil_iff_forall_not_mem.2 fun j hj => ?_) h0
            have hl := ready_lt hj
            obtain ⟨h1, _⟩ := mem_ready.1 hj
            rw [hall j (by simpa using hl)] at h1; cases h1
          · exact (no_later HT hs (by omega) hi).elim
/-- The check, by reckoning. -/
def tailB (md : Region.Mode) (ops : List Oper) (k : Nat) : Bool :=
  match ops.drop k with
  | [] => false
  | t :: T => aheadB md (ops.take k) t && (List.range T.length).all (fun i => ((T[i]?).map (fun o => o.after.toList.any fun e => Region.binds md e && e.on == k + i)).getD false) &&
    (List.range ops.length).all (fun i => decide (i < k) || Region.ready md ops.toArray (flags i ops.length) == [i]) && (Region.ready md ops.toArray (flags ops.length ops.length) == []) && decide (k < ops.length)
end
/-- The first k keep the class, those behind are walked as they stand. -/
theorem wpIn_grow_tail {F : Fence} {n : Nat} {P : Program} {id : Nat} {Q : Exit → Act → World → Prop} {a : Act} {w : World} {ops : List Oper} (C : World → Prop) (hC : C w.drew) (k : Nat) (hm : P.follows .mixedOrders = true) (hT : tailB .any ops k = true) (hB : Region.lexB .any (ops.take k).toArray = true)
    (h : wpQuietIn F n P (ops.take k).toArray C (fun a' => ∀ w', C w' → wpListIn F n P ops.toArray Q (ops.drop k) a' w') (ops.take k) a) : (Code.region id ops.toArray true).wpIn F n P Q a w := by
  unfold tailB at hT
  cases hd : ops.drop k with
  | nil => rw [hd] at hT; cases hT
  | cons t T =>
    rw [hd] at hT h
    simp only [Bool.and_eq_true] at hT
    obtain ⟨⟨⟨⟨h1, h2⟩, h3⟩, h4⟩, h5⟩ := hT
    have hk : k < ops.length := by simpa using h5
    have H := ahead_of h1
    have e : ops = ops.take k ++ t :: T := by rw [← hd]; exact (List.take_append_drop k ops).symm
    have hl : (ops.take k).length = k := by simp; omega
    have HT : Chain .any (ops.take k).length T := by
      intro i o ho
      have hi : i < T.length := (List.getElem?_eq_some_iff.1 ho).1
      have := List.all_eq_true.1 h2 i (by simpa using hi)
      rw [ho] at this
      simp only [Option.map_some, Option.getD_some, List.any_eq_true, Bool.and_eq_true, beq_iff_eq] at this
      obtain ⟨e, he, hb, hon⟩ := this
      exact ⟨e, by simpa using he, hb, by rw [hl]; exact hon⟩
    have hend : Region.ready .any ops.toArray (flags ops.length ops.length) = [] := by simpa using h4
    have hone : ∀ i, k ≤ i → i < ops.length → Region.ready .any ops.toArray (flags i ops.length) = [i] := fun i g1 g2 => by
      have := List.all_eq_true.1 h3 i (by simpa using g2)
      simp only [Bool.or_eq_true, decide_eq_true_eq, beq_iff_eq] at this
      exact this.resolve_left (by omega)
    have hQ : ∀ f a w, T.length + 1 ≤ f → C w → (∀ w', C w' → wpListIn F n P ops.toArray Q (t :: T) a w') → wpAnyIn F n P .any ops.toArray Q f (flags (ops.take k).length ops.length) a w := fun f a w hf hw hq => by
      rw [hl]
      exact wpAnyIn_seq hend (t :: T) k f a w hd (by omega) (by simpa using hf) hone (hq w hw)
    simp only [Region.lexB, Bool.and_eq_true] at hB
    refine wpIn_region_any hm ?_
    have q1 := wpAnyQIn_lex (F := F) (n := n) (P := P) (C := C) (md := .any) hB.1 (ops.take k) 0 (Array.replicate (ops.take k).length false) a (by simp) (by simpa using hB.2) h
    have hQ2 : ∀ f a w, T.length + 1 ≤ f → C w → (∀ w', C w' → wpListIn F n P ops.toArray Q (t :: T) a w') → wpAnyIn F n P .any (ops.take k ++ t :: T).toArray Q f (flags (ops.take k).length (ops.take k ++ t :: T).length) a w := by
      rw [← e]
      exact hQ
    have q2 := any_tail (Q' := Q) H HT hQ2 (ops.take k).length (Array.replicate (ops.take k).length false) a { w with drawn := w.drawn + 1 } (by simp) (fun i o _ h => by
      have hi : i < (ops.take k).length := (List.getElem?_eq_some_iff.1 ‹_›).1
      exact absurd h (by rw [Array.getD_eq_getD_getElem?, Array.getElem?_replicate, if_pos hi]; simp)) hC q1
    rw [← e] at q2
    have e1 : ops.toArray.size = (ops.take k).length + (T.length + 1) := by
      have := congrArg List.length e
      simp only [List.length_append, List.length_cons] at this
      simpa using this
    rw [e1]
    have e2 : Array.replicate ((ops.take k).length + (T.length + 1)) false = Array.replicate (ops.take k).length false ++ Array.replicate (T.length + 1) false := by
      apply Array.ext_getElem?
      intro i
      simp only [Array.getElem?_append, Array.getElem?_replicate, Array.size_replicate]
      by_cases g : i < (ops.take k).length
      · rw [if_pos g, if_pos (by omega), if_pos g]
      · rw [if_neg g]
        by_cases g2 : i < (ops.take k).length + (T.length + 1)
        · rw [if_pos g2, if_pos (by omega)]
        · rw [if_neg g2, if_neg (by omega)]
    rw [e2]
    exact q2
end Go.Proofs.Ytnffngbkidehfaa
