/-
  Own text: regions that draw their order, inside a round of a loop over a function: all but the last operation only read.
-/
import Derived.Test.YtopnceniihgkpaaRows
import Derived.WalkKit
import Derived.Sort.QuietIn
import Derived.OwnWalkIn
namespace Go.Proofs.Ytopnceniihgkpaa
open Go

section
variable {F : Fence} {n : Nat} {P : Program} {md : Region.Mode} {C : World → Prop}

theorem op_round {o : Oper} {a : Act} {K : Act → Prop} {K' : Act → World → Prop} {Q' : Exit → Act → World → Prop} {w : World} (hnd : ∀ c, o.op ≠ .defer c) (hw : C w) (h : ∀ a w', C w' → K a → K' a w')
    (ha : o.askedIn F P a C) (hh : o.quietIn F n P a C K) : o.wpIn F n P a w K' Q' := by
  obtain ⟨v, h1, h2⟩ := hh
  refine ⟨ha w hw, ?_⟩
  rw [Oper.semAt_eq _ _ _ hnd]
  have h3 : Oper.quietUponIn F n P C w v ((execOp a.eval o).run P w) := h1 w hw
  cases hr : (execOp a.eval o).run P w with
  | halt x w' => rw [hr] at h3; exact h3.elim
  | ok x w' =>
    rw [hr] at h3
    cases x with
    | value u => obtain ⟨rfl, rfl⟩ := h3; exact h _ _ hw h2
    | skip => obtain ⟨rfl, rfl⟩ := h3; exact h _ _ hw h2
    | enter f args => obtain ⟨rfl, hd, hc⟩ := h3; exact ⟨hd, hc.mono fun e w'' ⟨he, hw''⟩ => by subst he; exact h _ _ hw'' h2⟩
    | _ => exact h3.elim

/-- What is asked of the operations ahead of the last one. -/
structure Ahead (md : Region.Mode) (l : List Oper) (last : Oper) : Prop where
  nodefer : ∀ o, o ∈ l → ∀ c, o.op ≠ .defer c
  plain : ∀ o, o ∈ l → o.guard = none
  plainLast : last.guard = none
  back : ∀ (i : Nat) (o : Oper), l[i]? = some o → ∀ e ∈ o.after, e.on < i
  backLast : ∀ e ∈ last.after, e.on < l.length
  used : ∀ j : Nat, j < l.length → ∃ (i : Nat) (o : Oper), j < i ∧ (l ++ [last])[i]? = some o ∧ ∃ e ∈ o.after, Region.binds md e = true ∧ e.on = j
/-- What has come up came up behind what it waits for. -/
def Closed (md : Region.Mode) (l : List Oper) (listed : Array Bool) : Prop :=
  ∀ (i : Nat) (o : Oper), l[i]? = some o → listed.getD i true = true → ∀ e ∈ o.after, Region.binds md e = true → listed.getD e.on false = true
theorem push_lt {A : Array Bool} {i : Nat} (h : i < A.size) (b d : Bool) : (A.push b).getD i d = A.getD i d := by
  simp [Array.getElem?_push, Nat.ne_of_lt h]
theorem getD_in {A : Array Bool} {i : Nat} (h : i < A.size) (d d' : Bool) : A.getD i d = A.getD i d' := by simp [h]
variable {l : List Oper} {last : Oper}
theorem pre_op {i : Nat} (h : i < l.length) : (l ++ [last]).toArray[i]? = l[i]? := by simp [List.getElem?_append, h]
theorem last_op : (l ++ [last]).toArray[l.length]? = some last := by simp
theorem ready_pre (H : Ahead md l last) {listed : Array Bool} (hs : listed.size = l.length) {i : Nat} (hi : i < l.length) :
    i ∈ Region.ready md (l ++ [last]).toArray (listed.push false) ↔ i ∈ Region.ready md l.toArray listed := by
  rw [mem_ready, mem_ready, pre_op hi, push_lt (by omega)]
  have e : l.toArray[i]? = l[i]? := by simp
  rw [e]
  refine and_congr Iff.rfl ⟨?_, ?_⟩
  · rintro ⟨o, ho, h⟩
    refine ⟨o, ho, fun d hd hb => ?_⟩
    have := H.back i o ho d hd
    rw [← push_lt (A := listed) (b := false) (by omega)]; exact h d hd hb
  · rintro ⟨o, ho, h⟩
    refine ⟨o, ho, fun d hd hb => ?_⟩
    have := H.back i o ho d hd
    rw [push_lt (by omega)]; exact h d hd hb
theorem ready_lt {ops : Array Oper} {listed : Array Bool} {i : Nat} (h : i ∈ Region.ready md ops listed) : i < ops.size := by
  obtain ⟨_, o, ho, _⟩ := mem_ready.1 h
  exact (Array.getElem?_eq_some_iff.1 ho).1
/-- Nothing is ready: all has come. -/
theorem all_came (H : Ahead md l last) {listed : Array Bool} (hs : listed.size = l.length) (h : Region.ready md l.toArray listed = []) : ∀ i, i < l.length → listed.getD i true = true := by
  intro i
  induction i using Nat.strongRecOn with
  | ind i ih =>
    intro hi
    refine Classical.byContradiction fun hn => ?_
    have hmem : i ∈ Region.ready md l.toArray listed := by
      refine mem_ready.2 ⟨by simpa using hn, l[i], by simp [hi], fun e he _ => ?_⟩
      have hb := H.back i _ (List.getElem?_eq_getElem hi) e he
      rw [getD_in (by omega) false true]
      exact ih e.on hb (by omega)
    rw [h] at hmem
    cases hmem
/-- The last one is ready: all else has come. -/
theorem last_came (H : Ahead md l last) {listed : Array Bool} (hs : listed.size = l.length) (hc : Closed md l listed) (h : l.length ∈ Region.ready md (l ++ [last]).toArray (listed.push false)) : ∀ i, i < l.length → listed.getD i true = true := by
  obtain ⟨_, o, ho, hall⟩ := mem_ready.1 h
  rw [last_op] at ho
  obtain rfl : last = o := by simpa using ho
  have key : ∀ d i, i < l.length → l.length - i ≤ d → listed.getD i true = true := by
    intro d
    induction d with
    | zero => intro i hi hd; omega
    | succ d ih =>
      intro i hi hd
      obtain ⟨j, o, hij, hj, e, he, hb, hon⟩ := H.used i hi
      subst hon
      rcases Nat.lt_trichotomy j l.length with g | g | g
      · rw [List.getElem?_append_left g] at hj
        have h1 := ih j g (by omega)
        have h2 := hc j o hj h1 e he hb
        rwa [getD_in (by omega) false true] at h2
      · subst g
        simp at hj
        subst hj
        have h2 := hall e he hb
        rw [push_lt (by omega)] at h2
        rwa [getD_in (by omega) false true] at h2
      · rw [List.getElem?_eq_none (by simp; omega)] at hj; cases hj
  exact fun i hi => key _ i hi (Nat.le_refl _)
theorem set_push {A : Array Bool} {i : Nat} (h : i < A.size) : (A.push false).setIfInBounds i true = (A.setIfInBounds i true).push false := by
  apply Array.ext_getElem?
  intro j
  simp only [Array.getElem?_setIfInBounds, Array.getElem?_push, Array.size_push, Array.size_setIfInBounds]
  by_cases e : i = j
  · subst e; simp [h, Nat.lt_succ_of_lt h, Nat.ne_of_lt h]
  · simp [e]
theorem closed_set {listed : Array Bool} (hc : Closed md l listed) {i : Nat} (hr : i ∈ Region.ready md l.toArray listed) : Closed md l (listed.setIfInBounds i true) := by
  intro j o ho hj e he hb
  have grow : listed.getD e.on false = true → (listed.setIfInBounds i true).getD e.on false = true := fun h => by
    simp only [Array.getD_eq_getD_getElem?, Array.getElem?_setIfInBounds] at h ⊢
    by_cases g : i = e.on
    · rw [if_pos g]
      by_cases g2 : i < listed.size
      · rw [if_pos g2]; rfl
      · rw [← g, Array.getElem?_eq_none (Nat.le_of_not_lt g2)] at h; cases h
    · rw [if_neg g]; exact h
  by_cases g : i = j
  · subst g
    obtain ⟨_, o', ho', hall⟩ := mem_ready.1 hr
    have e2 : l.toArray[i]? = l[i]? := by simp
    rw [e2, ho] at ho'
    obtain rfl : o = o' := by simpa using ho'
    exact grow (hall e he hb)
  · refine grow (hc j o ho ?_ e he hb)
    simp only [Array.getD_eq_getD_getElem?, Array.getElem?_setIfInBounds, g, if_false] at hj ⊢
    exact hj
variable {Q : Act → Prop} {Q' : Exit → Act → World → Prop}
theorem last_step (H : Ahead md l last) (hQ : ∀ a w, C w → Q a → last.wpIn F n P a w (fun a w => Q' .normal a w) Q') {listed : Array Bool} (hs : listed.size = l.length) (hall : ∀ i, i < l.length → listed.getD i true = true) (fuel : Nat) {a : Act} {w : World} (hw : C w) (h : Q a) :
    wpAnyIn F n P md (l ++ [last]).toArray Q' (fuel + 1) (listed.push false) a w := by
  have rest : Region.ready md (l ++ [last]).toArray ((listed.push false).setIfInBounds l.length true) = [] := by
    refine List.eq_nil_iff_forall_not_mem.2 fun i hi => ?_
    have hlt := ready_lt hi
    obtain ⟨h0, _⟩ := mem_ready.1 hi
    simp at hlt
    simp only [Array.getD_eq_getD_getElem?, Array.getElem?_setIfInBounds, Array.size_push] at h0
    by_cases g : l.length = i
    · rw [if_pos g, if_pos (by omega)] at h0; cases h0
    · rw [if_neg g] at h0
      have := hall i (by omega)
      rw [← push_lt (A := listed) (b := false) (by omega)] at this
      simp only [Array.getD_eq_getD_getElem?] at this
      rw [this] at h0; cases h0
  have only : ∀ i ∈ Region.ready md (l ++ [last]).toArray (listed.push false), i = l.length := fun i hi => by
    have hlt := ready_lt hi
    obtain ⟨h0, _⟩ := mem_ready.1 hi
    simp at hlt
    refine Classical.byContradiction fun g => ?_
    rw [push_lt (by omega), hall i (by omega)] at h0
    cases h0
  have isR : l.length ∈ Region.ready md (l ++ [last]).toArray (listed.push false) := by
    refine mem_ready.2 ⟨by rw [← hs]; simp, last, last_op, fun e he _ => ?_⟩
    have hb := H.backLast e he
    rw [push_lt (by omega), getD_in (by omega) false true]
    exact hall _ hb
  have fin : ∀ fuel, ∀ a w, Q' .normal a w → wpAnyIn F n P md (l ++ [last]).toArray Q' fuel ((listed.push false).setIfInBounds l.length true) a w := by
    intro fuel a w hq
    cases fuel with
    | zero => exact ⟨rest, hq⟩
    | succ fuel => exact ⟨fun _ => hq, fun i hi => by rw [rest] at hi; cases hi⟩
  refine ⟨fun h0 => (by rw [h0] at isR; cases isR), fun i hi => ?_⟩
  obtain rfl := only i hi
  unfold wpOpIn
  rw [last_op]
  have hwant : Region.wanted last (yielded (l ++ [last]).toArray a.tmps) = true := by simp [Region.wanted, H.plainLast]
  simp only [hwant, if_true]
  exact Oper.wpIn_mono (fun a w hq => fin _ a w hq) (hQ a w hw h)
theorem pre_step (H : Ahead md l last) {i : Nat} (hi : i < l.length) {K : Act → Prop} {K' : Act → World → Prop} {a : Act} {w : World} (hw : C w) (h : ∀ a w', C w' → K a → K' a w') (hh : qOpIn F n P l.toArray C i K a) : wpOpIn F n P (l ++ [last]).toArray Q' i K' a w := by
  have e : l.toArray[i]? = some l[i] := by simp [hi]
  unfold qOpIn at hh
  rw [e] at hh
  unfold wpOpIn
  rw [pre_op hi, List.getElem?_eq_getElem hi]
  have hm : l[i] ∈ l := List.getElem_mem hi
  have w1 : ∀ y, Region.wanted l[i] y = true := fun y => by simp [Region.wanted, H.plain _ hm]
  simp only [w1, if_true] at hh ⊢
  exact op_round (H.nodefer _ hm) hw h hh.1 hh.2
theorem any_round (H : Ahead md l last) (hQ : ∀ a w, C w → Q a → last.wpIn F n P a w (fun a w => Q' .normal a w) Q') : ∀ (fuel : Nat) (listed : Array Bool) (a : Act) (w : World), listed.size = l.length → Closed md l listed → C w →
    wpAnyQIn F n P md l.toArray C Q fuel listed a → wpAnyIn F n P md (l ++ [last]).toArray Q' (fuel + 1) (listed.push false) a w
  | 0, listed, a, w, hs, _, hw, h => last_step H hQ hs (all_came H hs h.1) 0 hw h.2
  | fuel + 1, listed, a, w, hs, hc, hw, h => by
    by_cases h0 : Region.ready md l.toArray listed = []
    · exact last_step H hQ hs (all_came H hs h0) (fuel + 1) hw (h.1 h0)
    · refine ⟨fun g => ?_, fun i hi => ?_⟩
      · refine absurd (List.eq_nil_iff_forall_not_mem.2 fun i hi => ?_) h0
        have hlt := ready_lt hi
        have := (ready_pre H hs (by simpa using hlt)).2 hi
        rw [g] at this; cases this
      · have hlt := ready_lt hi
        simp at hlt
        by_cases g : i = l.length
        · subst g
          have hall := last_came H hs hc hi
          refine absurd (List.eq_nil_iff_forall_not_mem.2 fun j hj => ?_) h0
          have hl := ready_lt hj
          obtain ⟨h1, _⟩ := mem_ready.1 hj
          rw [hall j (by simpa using hl)] at h1; cases h1
        · have hi' := (ready_pre H hs (by omega)).1 hi
          refine pre_step H (by omega) hw (fun a' w' hw' hk => ?_) (h.2 i hi')
          rw [set_push (by omega)]
          exact any_round H hQ fuel _ a' w' (by simp [hs]) (closed_set hc hi') hw' hk
/-- The check, by reckoning. -/
def aheadB (md : Region.Mode) (l : List Oper) (last : Oper) : Bool :=
  l.all (fun o => (match o.op with | .defer _ => false | _ => true) && o.guard.isNone) && last.guard.isNone &&
  (List.range l.length).all (fun i => ((l[i]?).map (fun o => o.after.toList.all fun e => decide (e.on < i))).getD true) &&
  last.after.toList.all (fun e => decide (e.on < l.length)) &&
  (List.range l.length).all (fun j => (List.range (l.length + 1)).any fun i => decide (j < i) && (((l ++ [last])[i]?).map (fun o => o.after.toList.any fun e => Region.binds md e && e.on == j)).getD false)
theorem ahead_of {md : Region.Mode} {l : List Oper} {last : Oper} (h : aheadB md l last = true) : Ahead md l last := by
  unfold aheadB at h
  simp only [Bool.and_eq_true] at h
  obtain ⟨⟨⟨⟨h1, h2⟩, h3⟩, h4⟩, h5⟩ := h
  rw [List.all_eq_true] at h1 h3 h4 h5
  refine ⟨fun o ho c e => ?_, fun o ho => ?_, by simpa using h2, fun i o ho e he => ?_, fun e he => by simpa using h4 e (by simpa using he), fun j hj => ?_⟩
  · have := h1 o ho
    rw [e] at this; simp at this
  · have := h1 o ho
    simp only [Bool.and_eq_true] at this
    simpa using this.2
  · have hi : i < l.length := (List.getElem?_eq_some_iff.1 ho).1
    have := h3 i (by simpa using hi)
    rw [ho] at this
    simp only [Option.map_some, Option.getD_some, List.all_eq_true] at this
    simpa using this e (by simpa using he)
  · have := h5 j (by simpa using hj)
    obtain ⟨i, _, hi⟩ := List.any_eq_true.1 this
    simp only [Bool.and_eq_true, decide_eq_true_eq] at hi
    obtain ⟨hji, h6⟩ := hi
    cases ho : (l ++ [last])[i]? with
    | none => rw [ho] at h6; simp at h6
    | some o =>
      rw [ho] at h6
      simp only [Option.map_some, Option.getD_some, List.any_eq_true, Bool.and_eq_true, beq_iff_eq] at h6
      obtain ⟨e, he, hb, hon⟩ := h6
      exact ⟨i, o, hji, ho, e, by simpa using he, hb, hon⟩
end
/-- In a round: all but the last operation only read; the last one is walked behind them. -/
theorem wpIn_round_last {F : Fence} {n : Nat} {P : Program} {id : Nat} {Q : Exit → Act → World → Prop} {a : Act} {w : World} (l : List Oper) (last : Oper) (hm : P.follows .mixedOrders = true) (hA : aheadB .any l last = true) (hB : Region.lexB .any l.toArray = true)
    (h : wpQuietIn F n P l.toArray (fun w' => ∃ n, w' = w.drewN n) (fun a' => ∀ w', (∃ n, w' = w.drewN n) → wpListIn F n P (l ++ [last]).toArray Q [last] a' w') l a) : (Code.region id (l ++ [last]).toArray true).wpIn F n P Q a w := by
  have H := ahead_of hA
  simp only [Region.lexB, Bool.and_eq_true] at hB
  refine wpIn_region_any hm ?_
  have h1 := wpAnyQIn_lex (F := F) (n := n) (P := P) (C := fun w' => ∃ n, w' = w.drewN n) (md := .any) hB.1 l 0 (Array.replicate l.length false) a (by simp) (by simpa using hB.2) h
  have h2 := any_round (Q' := Q) H (fun a w' hw hq => by
    have h3 := hq w' hw
    unfold wpListIn at h3
    have hwant : Region.wanted last (yielded (l ++ [last]).toArray a.tmps) = true := by simp [Region.wanted, H.plainLast]
    rw [if_pos hwant] at h3
    exact h3) l.length (Array.replicate l.length false) a { w with drawn := w.drawn + 1 } (by simp) (fun i o _ h => by
      have hi : i < l.length := (List.getElem?_eq_some_iff.1 ‹_›).1
      simp [hi] at h) ⟨1, rfl⟩ h1
  have e : Array.replicate (l ++ [last]).toArray.size false = (Array.replicate l.length false).push false := by simp [Array.replicate_succ]
  rw [e]
  simpa using h2
/-- The same at a list that is written out: the first k only read; behind them comes one more. -/
theorem wpIn_round_take {F : Fence} {n : Nat} {P : Program} {id : Nat} {Q : Exit → Act → World → Prop} {a : Act} {w : World} {ops : List Oper} (k : Nat) {last : Oper} (hl : ops.drop k = [last]) (hm : P.follows .mixedOrders = true) (hA : aheadB .any (ops.take k) last = true) (hB : Region.lexB .any (ops.take k).toArray = true)
    (h : wpQuietIn F n P (ops.take k).toArray (fun w' => ∃ n, w' = w.drewN n) (fun a' => ∀ w', (∃ n, w' = w.drewN n) → wpListIn F n P ops.toArray Q (ops.drop k) a' w') (ops.take k) a) : (Code.region id ops.toArray true).wpIn F n P Q a w := by
  have e : ops = ops.take k ++ [last] := by rw [← hl]; exact (List.take_append_drop k ops).symm
  rw [hl] at h
  have h2 := wpIn_round_last (F := F) (n := n) (id := id) (Q := Q) (a := a) (w := w) (ops.take k) last hm hA hB (by rw [← e]; exact h)
  rwa [← e] at h2
end Go.Proofs.Ytopnceniihgkpaa
