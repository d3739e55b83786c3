/-
  Own text: regions that draw their order, inside a round of a loop over a function: all but the last operation only read.
    regions that draw their order: all but the last operation keep the world within a class and yield one value in each world of it (calls that only make memory of their own, too); the last one is walked behind them.
    a region that draws its order, at a class of worlds: guarded operations, loads and calls that make memory, one walk in the written order.
    regions that draw their order: the first operations keep the world within a class and yield one value in each world of it (calls that only make memory of their own, too); behind them come several more, each bound to the one ahead of it: they are walked as they stand.
  Own text: the code's product of two numbers (Mul64, Wide, Mul), walked; without the document's.
  Own text: Wait, Score, Better, walked.
    Better, Need, walked.
    Need, walked.
    the document's Mark and Trip, walked.
-/
import Derived.Test.YtldhlknmabpanaaGreatRows
import Derived.Test.YtldhlknmabpanaaGreatK01
import Derived.Test.YtldhlknmabpanaaGreatK03
import Derived.WalkKit
import Derived.Sort.QuietIn
import Derived.OwnWalkIn
import Derived.ControlIn
import Derived.Laws.MathBits
namespace Go.Proofs.YtldhlknmabpanaaGreat
open Go

section
variable {F : Fence} {n : Nat} {P : Program} {md : Region.Mode} {C : World → Prop}

theorem op_round {o : Oper} {a : Act} {K : Act → Prop} {K' : Act → World → Prop} {Q' : Exit → Act → World → Prop} {w : World} (hnd : ∀ c, o.op ≠ .defer c) (hw : C w) (h : ∀ a w', C w' → K a → K' a w')
    (ha : o.askedIn F P a C) (hh : o.quietIn F n P a C K) : o.wpIn F n P a w K' Q' := by
  obtain ⟨v, h1, h2⟩ := hh
  refine ⟨ha w hw, ?_⟩
  rw [Oper.semAt_eq _ _ _ hnd]
  have h3 : Oper.quietUponIn F n P C w v ((execOp a.eval o).run P w) := h1 w hw
  cases hr : (execOp a.eval o).run P w with
  | halt x w' => rw [hr] at h3; exact h3.elim
  | ok x w' =>
    rw [hr] at h3
    cases x with
    | value u => obtain ⟨rfl, rfl⟩ := h3; exact h _ _ hw h2
    | skip => obtain ⟨rfl, rfl⟩ := h3; exact h _ _ hw h2
    | enter f args => obtain ⟨rfl, hd, hc⟩ := h3; exact ⟨hd, hc.mono fun e w'' ⟨he, hw''⟩ => by subst he; exact h _ _ hw'' h2⟩
    | _ => exact h3.elim

/-- What is asked of the operations ahead of the last one. -/
structure Ahead (md : Region.Mode) (l : List Oper) (last : Oper) : Prop where
  nodefer : ∀ o, o ∈ l → ∀ c, o.op ≠ .defer c
  plain : ∀ o, o ∈ l → o.guard = none
  plainLast : last.guard = none
  back : ∀ (i : Nat) (o : Oper), l[i]? = some o → ∀ e ∈ o.after, e.on < i
  backLast : ∀ e ∈ last.after, e.on < l.length
  used : ∀ j : Nat, j < l.length → ∃ (i : Nat) (o : Oper), j < i ∧ (l ++ [last])[i]? = some o ∧ ∃ e ∈ o.after, Region.binds md e = true ∧ e.on = j
/-- What has come up came up behind what it waits for. -/
def Closed (md : Region.Mode) (l : List Oper) (listed : Array Bool) : Prop :=
  ∀ (i : Nat) (o : Oper), l[i]? = some o → listed.getD i true = true → ∀ e ∈ o.after, Region.binds md e = true → listed.getD e.on false = true
theorem push_lt {A : Array Bool} {i : Nat} (h : i < A.size) (b d : Bool) : (A.push b).getD i d = A.getD i d := by
  simp [Array.getElem?_push, Nat.ne_of_lt h]
theorem getD_in {A : Array Bool} {i : Nat} (h : i < A.size) (d d' : Bool) : A.getD i d = A.getD i d' := by simp [h]
variable {l : List Oper} {last : Oper}
theorem last_op : (l ++ [last]).toArray[l.length]? = some last := by simp
theorem ready_lt {ops : Array Oper} {listed : Array Bool} {i : Nat} (h : i ∈ Region.ready md ops listed) : i < ops.size := by
  obtain ⟨_, o, ho, _⟩ := mem_ready.1 h
  exact (Array.getElem?_eq_some_iff.1 ho).1
/-- Nothing is ready: all has come. -/
theorem all_came (H : Ahead md l last) {listed : Array Bool} (hs : listed.size = l.length) (h : Region.ready md l.toArray listed = []) : ∀ i, i < l.length → listed.getD i true = true := by
  intro i
  induction i using Nat.strongRecOn with
  | ind i ih =>
    intro hi
    refine Classical.byContradiction fun hn => ?_
    have hmem : i ∈ Region.ready md l.toArray listed := by
      refine mem_ready.2 ⟨by simpa using hn, l[i], by simp [hi], fun e he _ => ?_⟩
      have hb := H.back i _ (List.getElem?_eq_getElem hi) e he
      rw [getD_in (by omega) false true]
      exact ih e.on hb (by omega)
    rw [h] at hmem
    cases hmem
/-- The last one is ready: all else has come. -/
theorem last_came (H : Ahead md l last) {listed : Array Bool} (hs : listed.size = l.length) (hc : Closed md l listed) (h : l.length ∈ Region.ready md (l ++ [last]).toArray (listed.push false)) : ∀ i, i < l.length → listed.getD i true = true := by
  obtain ⟨_, o, ho, hall⟩ := mem_ready.1 h
  rw [last_op] at ho
  obtain rfl : last = o := by simpa using ho
  have key : ∀ d i, i < l.length → l.length - i ≤ d → listed.getD i true = true := by
    intro d
    induction d with
    | zero => intro i hi hd; omega
    | succ d ih =>
      intro i hi hd
      obtain ⟨j, o, hij, hj, e, he, hb, hon⟩ := H.used i hi
      subst hon
      rcases Nat.lt_trichotomy j l.length with g | g | g
      · rw [List.getElem?_append_left g] at hj
        have h1 := ih j g (by omega)
        have h2 := hc j o hj h1 e he hb
        rwa [getD_in (by omega) false true] at h2
      · subst g
        simp at hj
        subst hj
        have h2 := hall e he hb
        rw [push_lt (by omega)] at h2
        rwa [getD_in (by omega) false true] at h2
      · rw [List.getElem?_eq_none (by simp; omega)] at hj; cases hj
  exact fun i hi => key _ i hi (Nat.le_refl _)
theorem closed_set {listed : Array Bool} (hc : Closed md l listed) {i : Nat} (hr : i ∈ Region.ready md l.toArray listed) : Closed md l (listed.setIfInBounds i true) := by
  intro j o ho hj e he hb
  have grow : listed.getD e.on false = true → (listed.setIfInBounds i true).getD e.on false = true := fun h => by
    simp only [Array.getD_eq_getD_getElem?, Array.getElem?_setIfInBounds] at h ⊢
    by_cases g : i = e.on
    · rw [if_pos g]
      by_cases g2 : i < listed.size
      · rw [if_pos g2]; rfl
      · rw [← g, Array.getElem?_eq_none (Nat.le_of_not_lt g2)] at h; cases h
    · rw [if_neg g]; exact h
  by_cases g : i = j
  · subst g
    obtain ⟨_, o', ho', hall⟩ := mem_ready.1 hr
    have e2 : l.toArray[i]? = l[i]? := by simp
    rw [e2, ho] at ho'
    obtain rfl : o = o' := by simpa using ho'
    exact grow (hall e he hb)
  · refine grow (hc j o ho ?_ e he hb)
    simp only [Array.getD_eq_getD_getElem?, Array.getElem?_setIfInBounds, g, if_false] at hj ⊢
    exact hj
variable {Q : Act → Prop} {Q' : Exit → Act → World → Prop}
/-- The check, by reckoning. -/
def aheadB (md : Region.Mode) (l : List Oper) (last : Oper) : Bool :=
  l.all (fun o => (match o.op with | .defer _ => false | _ => true) && o.guard.isNone) && last.guard.isNone &&
  (List.range l.length).all (fun i => ((l[i]?).map (fun o => o.after.toList.all fun e => decide (e.on < i))).getD true) &&
  last.after.toList.all (fun e => decide (e.on < l.length)) &&
  (List.range l.length).all (fun j => (List.range (l.length + 1)).any fun i => decide (j < i) && (((l ++ [last])[i]?).map (fun o => o.after.toList.any fun e => Region.binds md e && e.on == j)).getD false)
theorem ahead_of {md : Region.Mode} {l : List Oper} {last : Oper} (h : aheadB md l last = true) : Ahead md l last := by
  unfold aheadB at h
  simp only [Bool.and_eq_true] at h
  obtain ⟨⟨⟨⟨h1, h2⟩, h3⟩, h4⟩, h5⟩ := h
  rw [List.all_eq_true] at h1 h3 h4 h5
  refine ⟨fun o ho c e => ?_, fun o ho => ?_, by simpa using h2, fun i o ho e he => ?_, fun e he => by simpa using h4 e (by simpa using he), fun j hj => ?_⟩
  · have := h1 o ho
    rw [e] at this; simp at this
  · have := h1 o ho
    simp only [Bool.and_eq_true] at this
    simpa using this.2
  · have hi : i < l.length := (List.getElem?_eq_some_iff.1 ho).1
    have := h3 i (by simpa using hi)
    rw [ho] at this
    simp only [Option.map_some, Option.getD_some, List.all_eq_true] at this
    simpa using this e (by simpa using he)
  · have := h5 j (by simpa using hj)
    obtain ⟨i, _, hi⟩ := List.any_eq_true.1 this
    simp only [Bool.and_eq_true, decide_eq_true_eq] at hi
    obtain ⟨hji, h6⟩ := hi
    cases ho : (l ++ [last])[i]? with
    | none => rw [ho] at h6; simp at h6
    | some o =>
      rw [ho] at h6
      simp only [Option.map_some, Option.getD_some, List.any_eq_true, Bool.and_eq_true, beq_iff_eq] at h6
      obtain ⟨e, he, hb, hon⟩ := h6
      exact ⟨i, o, hji, ho, e, by simpa using he, hb, hon⟩
end
end Go.Proofs.YtldhlknmabpanaaGreat
namespace Go.Proofs.YtldhlknmabpanaaGreat
open Go

end Go.Proofs.YtldhlknmabpanaaGreat
namespace Go.Proofs.YtldhlknmabpanaaGreat
open Go

theorem wpIn_class {F : Fence} {n : Nat} {P : Program} {id : Nat} {Q : Exit → Act → World → Prop} {a : Act} {w : World} {l : List Oper} (C : World → Prop) (hC : C w.drew) (hro : F.round = none) (hm : P.follows .mixedOrders = true) (hB : Region.lexB .any l.toArray = true)
    (h : wpQuietIn F n P l.toArray C (fun a' => ∀ w', C w' → Q .normal a' w') l a) : (Code.region id l.toArray true).wpIn F n P Q a w :=
  wpIn_region_quiet (C := C) hro hm hB hC (by simpa using h)
/-- A guarded operation, whose guard is decided, that yields this value in every world of the class. -/
theorem wpQ_readw {F : Fence} {n : Nat} {P : Program} {ops : Array Oper} {C : World → Prop} {Q : Act → Prop} {a : Act} {o : Oper} {rest : List Oper} (v : Value) (ha : o.askedIn F P a C) (hg : Region.wanted o (yielded ops a.tmps) = true) (hv : ∀ w, C w → o.quietAtIn F n P a C w v) (h : wpQuietIn F n P ops C Q rest (a.put o.dst v)) : wpQuietIn F n P ops C Q (o :: rest) a :=
  ⟨ha, by rw [if_pos hg]; exact ⟨v, hv, h⟩⟩
/-- A guarded operation whose guard isn't met. -/
theorem wpQ_skip {F : Fence} {n : Nat} {P : Program} {ops : Array Oper} {C : World → Prop} {Q : Act → Prop} {a : Act} {o : Oper} {rest : List Oper} (ha : o.askedIn F P a C) (hg : Region.wanted o (yielded ops a.tmps) = false) (h : wpQuietIn F n P ops C Q rest (a.put o.dst undef)) : wpQuietIn F n P ops C Q (o :: rest) a :=
  ⟨ha, by rw [if_neg (by rw [hg]; decide)]; exact h⟩
end Go.Proofs.YtldhlknmabpanaaGreat
namespace Go.Proofs.YtldhlknmabpanaaGreat
open Go

/-- The first j have come. -/
def flags (j n : Nat) : Array Bool := Array.replicate j true ++ Array.replicate (n - j) false
theorem flags_size {j n : Nat} (h : j ≤ n) : (flags j n).size = n := by unfold flags; simp; omega
theorem flags_get {j n : Nat} (h : j ≤ n) (i : Nat) : (flags j n)[i]? = if i < j then some true else if i < n then some false else none := by
  unfold flags
  rw [Array.getElem?_append]
  simp only [Array.size_replicate, Array.getElem?_replicate]
  by_cases h1 : i < j
  · rw [if_pos h1, if_pos h1, if_pos h1]
  · rw [if_neg h1, if_neg h1]
    by_cases h2 : i < n
    · rw [if_pos (by omega), if_pos h2]
    · rw [if_neg (by omega), if_neg h2]
theorem flags_set {j n : Nat} (h : j < n) : (flags j n).setIfInBounds j true = flags (j + 1) n := by
  apply Array.ext_getElem?
  intro i
  rw [Array.getElem?_setIfInBounds, flags_get (by omega), flags_get (by omega), flags_size (by omega)]
  by_cases e : j = i
  · subst e
    rw [if_pos rfl, if_pos h, if_pos (by omega)]
  · rw [if_neg e]
    by_cases h1 : i < j
    · rw [if_pos h1, if_pos (by omega)]
    · rw [if_neg h1, if_neg (show ¬ i < j + 1 by omega)]
section
variable {F : Fence} {n : Nat} {P : Program} {md : Region.Mode} {C : World → Prop} {Q' : Exit → Act → World → Prop}
/-- One behind the other. -/
theorem wpAnyIn_seq {ops : List Oper} (hend : Region.ready md ops.toArray (flags ops.length ops.length) = []) : ∀ (rest : List Oper) (j : Nat) (fuel : Nat) (a : Act) (w : World), ops.drop j = rest → j ≤ ops.length → rest.length ≤ fuel →
    (∀ i, j ≤ i → i < ops.length → Region.ready md ops.toArray (flags i ops.length) = [i]) → wpListIn F n P ops.toArray Q' rest a w → wpAnyIn F n P md ops.toArray Q' fuel (flags j ops.length) a w
  | [], j, fuel, a, w, hd, hj, _, _, h => by
    have e : j = ops.length := by
      have := congrArg List.length hd
      simp at this
      omega
    subst e
    cases fuel with
    | zero => exact ⟨hend, h⟩
    | succ f => exact ⟨fun _ => h, fun i hi => by rw [hend] at hi; cases hi⟩
  | o :: r, j, 0, a, w, _, _, hf, _, _ => by simp at hf
  | o :: r, j, f + 1, a, w, hd, hj, hf, hr, h => by
    have hlt : j < ops.length := by
      have := congrArg List.length hd
      simp at this
      omega
    have ho : ops[j]? = some o := by
      have : (ops.drop j)[0]? = some o := by rw [hd]; rfl
      simpa using this
    have hd2 : ops.drop (j + 1) = r := by
      rw [← List.drop_drop, hd]
      rfl
    have ih : ∀ a w, wpListIn F n P ops.toArray Q' r a w → wpAnyIn F n P md ops.toArray Q' f (flags (j + 1) ops.length) a w := fun a w h =>
      wpAnyIn_seq hend r (j + 1) f a w hd2 (by omega) (by simpa using hf) (fun i h1 h2 => hr i (by omega) h2) h
    have hrj := hr j (Nat.le_refl _) hlt
    refine ⟨fun g => (by rw [hrj] at g; cases g), fun i hi => ?_⟩
    rw [hrj] at hi
    obtain rfl : i = j := by simpa using hi
    rw [flags_set hlt]
    unfold wpOpIn
    have ho2 : ops.toArray[i]? = some o := by simpa using ho
    rw [ho2]
    unfold wpListIn at h
    by_cases hw : Region.wanted o (yielded ops.toArray a.tmps) = true
    · simp only [hw, if_true] at h ⊢
      exact Oper.wpIn_mono (fun a w hq => ih a w hq) h
    · simp only [hw] at h ⊢
      exact ⟨h.1, ih _ _ h.2⟩
/-- What is asked of the operations behind: each is bound to the one ahead of it. -/
def Chain (md : Region.Mode) (k : Nat) (T : List Oper) : Prop := ∀ (i : Nat) (o : Oper), T[i]? = some o → ∃ e ∈ o.after, Region.binds md e = true ∧ e.on = k + i
variable {l T : List Oper} {t : Oper}
theorem getD_app {A : Array Bool} {i : Nat} (h : i < A.size) (m : Nat) (d : Bool) : (A ++ Array.replicate m false).getD i d = A.getD i d := by
  simp [Array.getElem?_append, h]
theorem getD_app' {A : Array Bool} {i m : Nat} (h : A.size ≤ i) (h2 : i < A.size + m) (d : Bool) : (A ++ Array.replicate m false).getD i d = false := by
  have h3 : ¬ i < A.size := by omega
  have h4 : i - A.size < m := by omega
  simp [Array.getElem?_append, h3, h4]
theorem pre_opT {i : Nat} (h : i < l.length) : (l ++ t :: T).toArray[i]? = l[i]? := by simp [List.getElem?_append, h]
theorem first_opT : (l ++ t :: T).toArray[l.length]? = some t := by simp
theorem ready_preT (H : Ahead md l t) {listed : Array Bool} (hs : listed.size = l.length) {i : Nat} (hi : i < l.length) :
    i ∈ Region.ready md (l ++ t :: T).toArray (listed ++ Array.replicate (T.length + 1) false) ↔ i ∈ Region.ready md l.toArray listed := by
  rw [mem_ready, mem_ready, pre_opT hi, getD_app (by omega)]
  have e : l.toArray[i]? = l[i]? := by simp
  rw [e]
  refine and_congr Iff.rfl ⟨?_, ?_⟩
  · rintro ⟨o, ho, h⟩
    refine ⟨o, ho, fun d hd hb => ?_⟩
    have := H.back i o ho d hd
    rw [← getD_app (A := listed) (m := T.length + 1) (by omega)]; exact h d hd hb
  · rintro ⟨o, ho, h⟩
    refine ⟨o, ho, fun d hd hb => ?_⟩
    have := H.back i o ho d hd
    rw [getD_app (by omega)]; exact h d hd hb
/-- None of those behind the first one behind is ready. -/
theorem no_later (HT : Chain md l.length T) {listed : Array Bool} (hs : listed.size = l.length) {j : Nat} (hj : l.length < j) (h : j ∈ Region.ready md (l ++ t :: T).toArray (listed ++ Array.replicate (T.length + 1) false)) : False := by
  have hlt := ready_lt h
  obtain ⟨_, o, ho, hall⟩ := mem_ready.1 h
  have ho2 : T[j - l.length - 1]? = some o := by
    rw [← ho]
    have e : (l ++ t :: T).toArray[j]? = (l ++ t :: T)[j]? := by simp
    rw [e, List.getElem?_append_right (by omega), show j - l.length = (j - l.length - 1) + 1 by omega]
    rfl
  obtain ⟨e, he, hb, hon⟩ := HT _ _ ho2
  have h2 := hall e he hb
  simp at hlt
  rw [hon, getD_app' (by omega) (by omega)] at h2
  cases h2
theorem first_came (H : Ahead md l t) {listed : Array Bool} (hs : listed.size = l.length) (hc : Closed md l listed) (h : l.length ∈ Region.ready md (l ++ t :: T).toArray (listed ++ Array.replicate (T.length + 1) false)) : ∀ i, i < l.length → listed.getD i true = true := by
  refine last_came H hs hc ?_
  obtain ⟨_, o, ho, hall⟩ := mem_ready.1 h
  rw [first_opT] at ho
  obtain rfl : t = o := by simpa using ho
  refine mem_ready.2 ⟨by rw [← hs]; simp, t, last_op, fun e he hb => ?_⟩
  have h2 := hall e he hb
  have h3 := H.backLast e he
  rw [getD_app (by omega)] at h2
  rw [push_lt (by omega)]
  exact h2
theorem set_app {A : Array Bool} {i m : Nat} (h : i < A.size) : (A ++ Array.replicate m false).setIfInBounds i true = A.setIfInBounds i true ++ Array.replicate m false := by
  apply Array.ext_getElem?
  intro j
  simp only [Array.getElem?_setIfInBounds, Array.getElem?_append, Array.size_append, Array.size_setIfInBounds, Array.size_replicate]
  by_cases e : i = j
  · subst e
    rw [if_pos rfl, if_pos (by omega), if_pos h, if_pos rfl, if_pos h]
  · rw [if_neg e]
    by_cases g : j < A.size
    · rw [if_pos g, if_pos g, if_neg e]
    · rw [if_neg g, if_neg g]
theorem pre_stepT (H : Ahead md l t) {i : Nat} (hi : i < l.length) {K : Act → Prop} {K' : Act → World → Prop} {a : Act} {w : World} (hw : C w) (h : ∀ a w', C w' → K a → K' a w') (hh : qOpIn F n P l.toArray C i K a) : wpOpIn F n P (l ++ t :: T).toArray Q' i K' a w := by
  have e : l.toArray[i]? = some l[i] := by simp [hi]
  unfold qOpIn at hh
  rw [e] at hh
  unfold wpOpIn
  rw [pre_opT hi, List.getElem?_eq_getElem hi]
  have hm : l[i] ∈ l := List.getElem_mem hi
  have w1 : ∀ y, Region.wanted l[i] y = true := fun y => by simp [Region.wanted, H.plain _ hm]
  simp only [w1, if_true] at hh ⊢
  exact op_round (H.nodefer _ hm) hw h hh.1 hh.2
theorem all_flags {listed : Array Bool} (hs : listed.size = l.length) (h : ∀ i, i < l.length → listed.getD i true = true) : listed ++ Array.replicate (T.length + 1) false = flags l.length (l ++ t :: T).length := by
  have e : listed = Array.replicate l.length true := by
    apply Array.ext (by simpa using hs)
    intro i h1 h2
    have := h i (by omega)
    simp [h1] at this
    simpa using this
  rw [e]
  unfold flags
  congr 2
  simp
variable {Q : Act → Prop}
theorem any_tail (H : Ahead md l t) (HT : Chain md l.length T) (hQ : ∀ f a w, T.length + 1 ≤ f → C w → Q a → wpAnyIn F n P md (l ++ t :: T).toArray Q' f (flags l.length (l ++ t :: T).length) a w) : ∀ (fuel : Nat) (listed : Array Bool) (a : Act) (w : World), listed.size = l.length → Closed md l listed → C w →
    wpAnyQIn F n P md l.toArray C Q fuel listed a → wpAnyIn F n P md (l ++ t :: T).toArray Q' (fuel + (T.length + 1)) (listed ++ Array.replicate (T.length + 1) false) a w
  | 0, listed, a, w, hs, _, hw, h => by
    rw [all_flags (t := t) hs (all_came H hs h.1)]
    exact hQ _ a w (by omega) hw h.2
  | fuel + 1, listed, a, w, hs, hc, hw, h => by
    by_cases h0 : Region.ready md l.toArray listed = []
    · rw [all_flags (t := t) hs (all_came H hs h0)]
      exact hQ _ a w (by omega) hw (h.1 h0)
    · rw [show fuel + 1 + (T.length + 1) = (fuel + (T.length + 1)) + 1 by omega]
      refine ⟨fun g => ?_, fun i hi => ?_⟩
      · refine absurd (List.eq_nil_iff_forall_not_mem.2 fun i hi => ?_) h0
        have hlt := ready_lt hi
        have := (ready_preT (T := T) H hs (by simpa using hlt)).2 hi
        rw [g] at this; cases this
      · by_cases g : i < l.length
        · have hi' := (ready_preT H hs g).1 hi
          refine pre_stepT H g hw (fun a' w' hw' hk => ?_) (h.2 i hi')
          rw [set_app (by omega)]
          exact any_tail H HT hQ fuel _ a' w' (by simp [hs]) (closed_set hc hi') hw' hk
        · by_cases g2 : i = l.length
          · subst g2
            have hall := first_came H hs hc hi
            refine absurd (List.eq_nil_iff_forall_not_mem.2 fun j hj => ?_) h0
            have hl := ready_lt hj
            obtain ⟨h1, _⟩ := mem_ready.1 hj
            rw [hall j (by simpa using hl)] at h1; cases h1
          · exact (no_later HT hs (by omega) hi).elim
/-- The check, by reckoning. -/
def tailB (md : Region.Mode) (ops : List Oper) (k : Nat) : Bool :=
  match ops.drop k with
  | [] => false
  | t :: T => aheadB md (ops.take k) t && (List.range T.length).all (fun i => ((T[i]?).map (fun o => o.after.toList.any fun e => Region.binds md e && e.on == k + i)).getD false) &&
    (List.range ops.length).all (fun i => decide (i < k) || Region.ready md ops.toArray (flags i ops.length) == [i]) && (Region.ready md ops.toArray (flags ops.length ops.length) == []) && decide (k < ops.length)
end
/-- The first k keep the class, those behind are walked as they stand. -/
theorem wpIn_grow_tail {F : Fence} {n : Nat} {P : Program} {id : Nat} {Q : Exit → Act → World → Prop} {a : Act} {w : World} {ops : List Oper} (C : World → Prop) (hC : C w.drew) (k : Nat) (hm : P.follows .mixedOrders = true) (hT : tailB .any ops k = true) (hB : Region.lexB .any (ops.take k).toArray = true)
    (h : wpQuietIn F n P (ops.take k).toArray C (fun a' => ∀ w', C w' → wpListIn F n P ops.toArray Q (ops.drop k) a' w') (ops.take k) a) : (Code.region id ops.toArray true).wpIn F n P Q a w := by
  unfold tailB at hT
  cases hd : ops.drop k with
  | nil => rw [hd] at hT; cases hT
  | cons t T =>
    rw [hd] at hT h
    simp only [Bool.and_eq_true] at hT
    obtain ⟨⟨⟨⟨h1, h2⟩, h3⟩, h4⟩, h5⟩ := hT
    have hk : k < ops.length := by simpa using h5
    have H := ahead_of h1
    have e : ops = ops.take k ++ t :: T := by rw [← hd]; exact (List.take_append_drop k ops).symm
    have hl : (ops.take k).length = k := by simp; omega
    have HT : Chain .any (ops.take k).length T := by
      intro i o ho
      have hi : i < T.length := (List.getElem?_eq_some_iff.1 ho).1
      have := List.all_eq_true.1 h2 i (by simpa using hi)
      rw [ho] at this
      simp only [Option.map_some, Option.getD_some, List.any_eq_true, Bool.and_eq_true, beq_iff_eq] at this
      obtain ⟨e, he, hb, hon⟩ := this
      exact ⟨e, by simpa using he, hb, by rw [hl]; exact hon⟩
    have hend : Region.ready .any ops.toArray (flags ops.length ops.length) = [] := by simpa using h4
    have hone : ∀ i, k ≤ i → i < ops.length → Region.ready .any ops.toArray (flags i ops.length) = [i] := fun i g1 g2 => by
      have := List.all_eq_true.1 h3 i (by simpa using g2)
      simp only [Bool.or_eq_true, decide_eq_true_eq, beq_iff_eq] at this
      exact this.resolve_left (by omega)
    have hQ : ∀ f a w, T.length + 1 ≤ f → C w → (∀ w', C w' → wpListIn F n P ops.toArray Q (t :: T) a w') → wpAnyIn F n P .any ops.toArray Q f (flags (ops.take k).length ops.length) a w := fun f a w hf hw hq => by
      rw [hl]
      exact wpAnyIn_seq hend (t :: T) k f a w hd (by omega) (by simpa using hf) hone (hq w hw)
    simp only [Region.lexB, Bool.and_eq_true] at hB
    refine wpIn_region_any hm ?_
    have q1 := wpAnyQIn_lex (F := F) (n := n) (P := P) (C := C) (md := .any) hB.1 (ops.take k) 0 (Array.replicate (ops.take k).length false) a (by simp) (by simpa using hB.2) h
    have hQ2 : ∀ f a w, T.length + 1 ≤ f → C w → (∀ w', C w' → wpListIn F n P ops.toArray Q (t :: T) a w') → wpAnyIn F n P .any (ops.take k ++ t :: T).toArray Q f (flags (ops.take k).length (ops.take k ++ t :: T).length) a w := by
      rw [← e]
      exact hQ
    have q2 := any_tail (Q' := Q) H HT hQ2 (ops.take k).length (Array.replicate (ops.take k).length false) a { w with drawn := w.drawn + 1 } (by simp) (fun i o _ h => by
      have hi : i < (ops.take k).length := (List.getElem?_eq_some_iff.1 ‹_›).1
      exact absurd h (by rw [Array.getD_eq_getD_getElem?, Array.getElem?_replicate, if_pos hi]; simp)) hC q1
    rw [← e] at q2
    have e1 : ops.toArray.size = (ops.take k).length + (T.length + 1) := by
      have := congrArg List.length e
      simp only [List.length_append, List.length_cons] at this
      simpa using this
    rw [e1]
    have e2 : Array.replicate ((ops.take k).length + (T.length + 1)) false = Array.replicate (ops.take k).length false ++ Array.replicate (T.length + 1) false := by
      apply Array.ext_getElem?
      intro i
      simp only [Array.getElem?_append, Array.getElem?_replicate, Array.size_replicate]
      by_cases g : i < (ops.take k).length
      · rw [if_pos g, if_pos (by omega), if_pos g]
      · rw [if_neg g]
        by_cases g2 : i < (ops.take k).length + (T.length + 1)
        · rw [if_pos g2, if_pos (by omega)]
        · rw [if_neg g2, if_neg (by omega)]
    rw [e2]
    exact q2
end Go.Proofs.YtldhlknmabpanaaGreat
namespace Go.Proofs.YtldhlknmabpanaaGreat
open Go.RowKit

theorem ret_two {k k' : IntKind} {a b c d : Int} (h : a = b) (h' : c = d) : Ending.returned (.tuple #[.int k a, .int k' c]) = .returned (.tuple #[.int k b, .int k' d]) := by rw [h, h']
theorem and_low (x : Int) (h0 : 0 ≤ x) (h1 : x ≤ 18446744073709551615) : bits .and .u64 x 4294967295 = x % 4294967296 := by
  obtain ⟨X, rfl⟩ : ∃ X : Nat, x = X := ⟨x.toNat, by omega⟩
  have m1 : ((X : Int) % ((2 ^ IntKind.u64.bits : Nat) : Int)).toNat = X := by
    show ((X : Int) % 18446744073709551616).toNat = X
    omega
  have m2 : ((4294967295 : Int) % ((2 ^ IntKind.u64.bits : Nat) : Int)).toNat = 2 ^ 32 - 1 := by decide
  simp only [bits, BitVec.toNat_and, BitVec.toNat_ofInt, m1, m2, Nat.and_two_pow_sub_one_eq_mod]
  rw [IntKind.wrap_u64]
  omega
theorem wrap_lo (n : Int) : 0 ≤ IntKind.u64.wrap n ∧ IntKind.u64.wrap n ≤ 18446744073709551615 := by rw [IntKind.wrap_u64]; omega

theorem mul64_any (x y : Int) (w : World) (hx0 : 0 ≤ x) (hx : x ≤ 18446744073709551615) (hy0 : 0 ≤ y) (hy : y ≤ 18446744073709551615) :
    Calls Tryz.prog 135 #[.int .u64 x, .int .u64 y] w fun e w' => e = .returned (.tuple #[.int .u64 (x * y / 18446744073709551616), .int .u64 (x * y % 18446744073709551616)]) ∧ w = w' := by
  go_enter Tryz.func135, Tryz.ntmps135
  go_wp2
  go_ret2
  refine ⟨ret_two ?_ (by rw [IntKind.wrap_u64]), rfl⟩
  rw [and_low x hx0 hx, and_low y hy0 hy, and_low _ (wrap_lo _).1 (wrap_lo _).2]
  simp only [IntKind.wrap_u64]
  exact mul64_arith x y hx0 (by omega) hy0 (by omega)

/-- A product's two halves. -/
def hiZ (z : Int) : Int := z / 18446744073709551616
def loZ (z : Int) : Int := z % 18446744073709551616
theorem halves (z : Int) : z = hiZ z * 18446744073709551616 + loZ z ∧ 0 ≤ loZ z ∧ loZ z ≤ 18446744073709551615 := by unfold hiZ loZ; omega

theorem hi_lo (a b : Int) (ha : -9223372036854775808 ≤ a) (ha' : a ≤ 9223372036854775807) (hb : -9223372036854775808 ≤ b) (hb' : b ≤ 9223372036854775807) : -4611686018427387904 ≤ hiZ (a * b) ∧ hiZ (a * b) ≤ 4611686018427387904 := by
  have h : (a * b).natAbs ≤ 9223372036854775808 * 9223372036854775808 := by
    rw [Int.natAbs_mul]; exact Nat.mul_le_mul (by omega) (by omega)
  unfold hiZ
  generalize a * b = z at *
  omega

theorem wide_any (a b : Int) (w : World) (ha : -9223372036854775808 ≤ a) (ha' : a ≤ 9223372036854775807) (hb : -9223372036854775808 ≤ b) (hb' : b ≤ 9223372036854775807) :
    Calls Tryz.prog 118 #[.int .i64 a, .int .i64 b] w fun e w' => e = .returned (.tuple #[.int .i64 (hiZ (a * b)), .int .u64 (loZ (a * b))]) ∧ w = w' := by
  have c := fun w => mul64_any (IntKind.u64.wrap a) (IntKind.u64.wrap b) w (wrap_lo a).1 (wrap_lo a).2 (wrap_lo b).1 (wrap_lo b).2
  obtain ⟨k1, k2⟩ := hi_lo a b ha ha' hb hb'
  by_cases h1 : a < 0
  · by_cases h2 : b < 0
    · have ea : IntKind.u64.wrap a = a + 18446744073709551616 := by rw [IntKind.wrap_u64]; omega
      have eb : IntKind.u64.wrap b = b + 18446744073709551616 := by rw [IntKind.wrap_u64]; omega
      have em : (a + 18446744073709551616) * (b + 18446744073709551616) = a * b + 18446744073709551616 * (a + b + 18446744073709551616) := by grind
      have hP : (a + 18446744073709551616) * (b + 18446744073709551616) / 18446744073709551616 = hiZ (a * b) + (a + b + 18446744073709551616) := by rw [em]; unfold hiZ; generalize a * b = z; omega
      have hQ : (a + 18446744073709551616) * (b + 18446744073709551616) % 18446744073709551616 = loZ (a * b) := by rw [em]; unfold loZ; generalize a * b = z; omega
      rw [ea, eb, hP, hQ] at c
      generalize hiZ (a * b) = H at *
      generalize loZ (a * b) = L at *
      clear em hP hQ
      go_enter Tryz.func118, Tryz.ntmps118
      go_wp2_with (go_at_call 135; refine (c _).mono ?_; clear c; rintro e w' ⟨rfl, rfl⟩)
      go_ret2
      exact ⟨ret_two (by first | rfl | (simp only [wrap64, IntKind.wrap_u64]; omega)) rfl, rfl⟩
    · have ea : IntKind.u64.wrap a = a + 18446744073709551616 := by rw [IntKind.wrap_u64]; omega
      have eb : IntKind.u64.wrap b = b := by rw [IntKind.wrap_u64]; omega
      have em : (a + 18446744073709551616) * (b) = a * b + 18446744073709551616 * b := by grind
      have hP : (a + 18446744073709551616) * (b) / 18446744073709551616 = hiZ (a * b) + b := by rw [em]; unfold hiZ; generalize a * b = z; omega
      have hQ : (a + 18446744073709551616) * (b) % 18446744073709551616 = loZ (a * b) := by rw [em]; unfold loZ; generalize a * b = z; omega
      rw [ea, eb, hP, hQ] at c
      generalize hiZ (a * b) = H at *
      generalize loZ (a * b) = L at *
      clear em hP hQ
      go_enter Tryz.func118, Tryz.ntmps118
      go_wp2_with (go_at_call 135; refine (c _).mono ?_; clear c; rintro e w' ⟨rfl, rfl⟩)
      go_ret2
      exact ⟨ret_two (by first | rfl | (simp only [wrap64, IntKind.wrap_u64]; omega)) rfl, rfl⟩
  · by_cases h2 : b < 0
    · have ea : IntKind.u64.wrap a = a := by rw [IntKind.wrap_u64]; omega
      have eb : IntKind.u64.wrap b = b + 18446744073709551616 := by rw [IntKind.wrap_u64]; omega
      have em : (a) * (b + 18446744073709551616) = a * b + 18446744073709551616 * a := by grind
      have hP : (a) * (b + 18446744073709551616) / 18446744073709551616 = hiZ (a * b) + a := by rw [em]; unfold hiZ; generalize a * b = z; omega
      have hQ : (a) * (b + 18446744073709551616) % 18446744073709551616 = loZ (a * b) := by rw [em]; unfold loZ; generalize a * b = z; omega
      rw [ea, eb, hP, hQ] at c
      generalize hiZ (a * b) = H at *
      generalize loZ (a * b) = L at *
      clear em hP hQ
      go_enter Tryz.func118, Tryz.ntmps118
      go_wp2_with (go_at_call 135; refine (c _).mono ?_; clear c; rintro e w' ⟨rfl, rfl⟩)
      go_ret2
      exact ⟨ret_two (by first | rfl | (simp only [wrap64, IntKind.wrap_u64]; omega)) rfl, rfl⟩
    · have ea : IntKind.u64.wrap a = a := by rw [IntKind.wrap_u64]; omega
      have eb : IntKind.u64.wrap b = b := by rw [IntKind.wrap_u64]; omega
      have em : (a) * (b) = a * b + 18446744073709551616 * 0 := by grind
      have hP : (a) * (b) / 18446744073709551616 = hiZ (a * b) + 0 := by rw [em]; unfold hiZ; generalize a * b = z; omega
      have hQ : (a) * (b) % 18446744073709551616 = loZ (a * b) := by rw [em]; unfold loZ; generalize a * b = z; omega
      rw [ea, eb, hP, hQ] at c
      generalize hiZ (a * b) = H at *
      generalize loZ (a * b) = L at *
      clear em hP hQ
      go_enter Tryz.func118, Tryz.ntmps118
      go_wp2_with (go_at_call 135; refine (c _).mono ?_; clear c; rintro e w' ⟨rfl, rfl⟩)
      go_ret2
      exact ⟨ret_two (by first | rfl | (simp only [wrap64, IntKind.wrap_u64]; omega)) rfl, rfl⟩
theorem mul_any (a b : Int) (w : World) (ha : -9223372036854775808 ≤ a) (ha' : a ≤ 9223372036854775807) (hb : -9223372036854775808 ≤ b) (hb' : b ≤ 9223372036854775807) :
    Calls Tryz.prog 95 #[.int .i64 a, .int .i64 b] w fun e w' => e = .returned (.int .i64 (held (a * b))) ∧ w = w' := by
  have c := fun w => wide_any a b w ha ha' hb hb'
  obtain ⟨hv, l0, l1⟩ := halves (a * b)
  obtain ⟨k1, k2⟩ := hi_lo a b ha ha' hb hb'
  generalize hiZ (a * b) = H at *
  generalize loZ (a * b) = L at *
  generalize a * b = z at *
  have HV := Lib.hid hv
  clear hv
  by_cases hl : L ≤ 9223372036854775807
  · have e1 : IntKind.i64.wrap L = L := by rw [IntKind.wrap_i64]; omega
    have e2 : L / 9223372036854775808 = 0 := by omega
    cases hH : (H == 0)
    all_goals
      go_enter Tryz.func95, Tryz.ntmps95
      go_wp2_with (go_at_call 118; refine (c _).mono ?_; clear c; rintro e w' ⟨rfl, rfl⟩)
      all_goals go_ret
      all_goals exact ⟨ret_int (by have := HV.out; simp only [beq_iff_eq, beq_eq_false_iff_ne, ne_eq] at hH; unfold held; omega), rfl⟩
  · have e1 : IntKind.i64.wrap L = L - 18446744073709551616 := by rw [IntKind.wrap_i64]; omega
    have e2 : (L - 18446744073709551616) / 9223372036854775808 = -1 := by omega
    cases hH : (H == -1)
    all_goals
      go_enter Tryz.func95, Tryz.ntmps95
      go_wp2_with (go_at_call 118; refine (c _).mono ?_; clear c; rintro e w' ⟨rfl, rfl⟩)
      all_goals go_ret
      all_goals exact ⟨ret_int (by have := HV.out; simp only [beq_iff_eq, beq_eq_false_iff_ne, ne_eq] at hH; unfold held; omega), rfl⟩
end Go.Proofs.YtldhlknmabpanaaGreat
namespace Go.Proofs.YtldhlknmabpanaaGreat
open Go.RowKit

/-- A box that is new. -/
theorem Blk13.box (w : World) (s : Sk) (t : TypeId) {W : World} (hW : W = w.alloc (.cells #[.int .i64 s.lo, .int .i64 s.rt, .int .i64 s.va, .int .i64 s.ma, .int .i64 s.tr] t)) :
    Below w.heap.size w W ∧ ∀ w', Below W.heap.size W w' → Blk13 t w' w.heap.size s := by
  have hk : Blk13 t W w.heap.size s := by rw [hW]; exact Blk13.new w s t
  exact ⟨by rw [hW]; exact (Below.refl _ _).alloc (Nat.le_refl _) _, fun w' h => hk.below h hk.lt⟩
theorem comes_any (s : Sk) (i : Nat) (hf : s.fit i) (w : World) :
    Calls Tryz.prog 131 #[SV s] w fun e w' => e = .returned (.int .i64 (65536 - s.lo)) ∧ Below w.heap.size w w' := by
  obtain ⟨W, hW⟩ : ∃ W, W = w.alloc (.cells #[.int .i64 s.lo, .int .i64 s.rt, .int .i64 s.va, .int .i64 s.ma, .int .i64 s.tr] 66) := ⟨_, rfl⟩
  obtain ⟨hb, hx⟩ := Blk13.box w s _ hW
  obtain ⟨c0, c1, c2, c3, c4⟩ := (hx W (Below.refl _ _)).cells
  have HB := Lib.hid hb
  have l0 := hf.l0
  have l1 := hf.l1
  unfold SV
  clear hb hx hf
  go_enter Tryz.func131, Tryz.ntmps131
  go_upto_region 1 with fail
  rw [← hW]
  clear hW
  go_wp2
  go_ret
  exact ⟨rfl, HB.out⟩
theorem Sk.score_lo {s : Sk} {i : Nat} (h : s.fit i) : 0 ≤ s.score ∧ s.score ≤ 65536 := by
  have l0 := h.l0
  have l1 := h.l1
  have r0 := h.r0
  unfold Sk.score
  refine ⟨Int.ediv_nonneg (by omega) (by omega), ?_⟩
  exact Int.ediv_le_of_le_mul (by omega) (by omega)
set_option maxRecDepth 100000 in
theorem score13_any (s : Sk) (i : Nat) (hf : s.fit i) (w : World) :
    Calls Tryz.prog 113 #[SV s] w fun e w' => e = .returned (.int .i64 s.score) ∧ Below w.heap.size w w' := by
  obtain ⟨W, hW⟩ : ∃ W, W = w.alloc (.cells #[.int .i64 s.lo, .int .i64 s.rt, .int .i64 s.va, .int .i64 s.ma, .int .i64 s.tr] 66) := ⟨_, rfl⟩
  obtain ⟨hb, hx⟩ := Blk13.box w s _ hW
  have HB := Lib.hid hb
  have HX := Lib.hid hx
  have l0 := hf.l0
  have l1 := hf.l1
  have r0 := hf.r0
  have r1 := hf.r1
  have CC : Hid (∀ w', Below W.heap.size W w' → Calls Tryz.prog 131 #[SV s] w' fun e w1 => e = .returned (.int .i64 (65536 - s.lo)) ∧ Below W.heap.size W w1) := Lib.hid (fun w' h => (comes_any s i hf w').mono fun _ _ hh => ⟨hh.1, h.trans (hh.2.mono h.size)⟩)
  have hq : floorZ (64 * (65536 - s.lo)) (64 + s.rt) = s.score := by
    rw [floor_div _ _ (by omega) (by omega) (by omega) (by omega), Int.mul_comm]
    rfl
  have CF : Hid (∀ w', Below W.heap.size W w' → Calls Tryz.prog 124 #[.int .i64 (64 * (65536 - s.lo)), .int .i64 (64 + s.rt)] w' fun e w1 => e = .returned (.int .i64 s.score) ∧ Below W.heap.size W w1) := Lib.hid (fun w' h => (floor_any _ _ w').mono fun _ _ hh => ⟨by rw [hh.1, hq], by rw [← hh.2]; exact h⟩)
  have w1 : IntKind.i64.wrap (64 * (65536 - s.lo)) = 64 * (65536 - s.lo) := by rw [IntKind.wrap_i64]; omega
  have w2 : IntKind.i64.wrap (64 + s.rt) = 64 + s.rt := by rw [IntKind.wrap_i64]; omega
  unfold SV at CC ⊢
  clear hb hx hq hf
  generalize s.score = sc at *
  go_enter Tryz.func113, Tryz.ntmps113
  go_upto_region 1 with fail
  rw [← hW]
  clear hW
  refine (wpIn_wide (n := 3)).1 ?_
  refine wpIn_class (fun w' => Below W.heap.size W w') (Below.refl _ _).drew rfl (by kernel_rfl) (by kernel_rfl) ?_
  refine wpQ_readw (.agg #[.int .i64 s.lo, .int .i64 s.rt, .int .i64 s.va, .int .i64 s.ma, .int .i64 s.tr]) (fun _ _ _ _ => trivial) rfl (fun w' hw => ?_) ?_
  · obtain ⟨c0, c1, c2, c3, c4⟩ := (HX.out w' hw).cells
    unfold Oper.quietAtIn
    go_simp
  simp only [Act.put, List.setIfInBounds_toArray, List.set_cons_zero, List.set_cons_succ]
  refine wpQuietIn_step (fun _ _ _ _ => trivial) (fun K hK => ?_)
  go_simp
  refine ⟨.int .i64 (65536 - s.lo), fun w' hw => callsIn_wide.2 (CC.out w' hw), hK _ ?_⟩
  clear hK K
  iterate 2 (refine wpQuietIn_step (fun _ _ _ _ => trivial) (fun K hK => ?_); go_simp; refine ⟨_, fun _ _ => rfl, hK _ ?_⟩; clear hK K)
  refine wpQ_readw (.int .i64 s.rt) (fun _ _ _ _ => trivial) rfl (fun w' hw => ?_) ?_
  · obtain ⟨c0, c1, c2, c3, c4⟩ := (HX.out w' hw).cells
    unfold Oper.quietAtIn
    go_simp
  simp only [Act.put, List.setIfInBounds_toArray, List.set_cons_zero, List.set_cons_succ]
  refine wpQuietIn_step (fun _ _ _ _ => trivial) (fun K hK => ?_)
  go_simp
  refine ⟨_, fun _ _ => rfl, hK _ ?_⟩
  clear hK K
  refine wpQuietIn_step (fun _ _ _ _ => trivial) (fun K hK => ?_)
  go_simp
  refine ⟨.int .i64 sc, fun w' hw => callsIn_wide.2 (CF.out w' hw), hK _ ?_⟩
  clear hK K
  refine wpQuietIn_step (fun _ _ _ _ => trivial) (fun K hK => ?_)
  go_simp
  refine ⟨_, fun _ _ => rfl, hK _ ?_⟩
  clear hK K
  refine wpQuietIn_nil ?_
  rintro w' hw
  have HW := Lib.hid (HB.out.trans (hw.mono HB.out.size))
  clear hw
  go_wp2
  go_ret
  exact ⟨rfl, HW.out⟩
end Go.Proofs.YtldhlknmabpanaaGreat
namespace Go.Proofs.YtldhlknmabpanaaGreat
open Go.RowKit

/-- Two boxes that are new. -/
theorem Blk13.two (w : World) (s s' : Sk) (t t' : TypeId) {W : World} (hW : W = (w.alloc (.cells #[.int .i64 s.lo, .int .i64 s.rt, .int .i64 s.va, .int .i64 s.ma, .int .i64 s.tr] t)).alloc (.cells #[.int .i64 s'.lo, .int .i64 s'.rt, .int .i64 s'.va, .int .i64 s'.ma, .int .i64 s'.tr] t')) :
    Below w.heap.size w W ∧ ∀ w', Below W.heap.size W w' → Blk13 t w' w.heap.size s ∧ Blk13 t' w' (w.heap.size + 1) s' := by
  obtain ⟨hb, hx⟩ := Blk13.box w s t rfl
  obtain ⟨hb', hx'⟩ := Blk13.box _ s' t' hW
  have hz : w.heap.size + 1 = (w.alloc (.cells #[.int .i64 s.lo, .int .i64 s.rt, .int .i64 s.va, .int .i64 s.ma, .int .i64 s.tr] t)).heap.size := by simp
  have h0 := hx _ hb'
  rw [hz]
  exact ⟨hb.trans (hb'.mono hb.size), fun w' h => ⟨h0.below h (Nat.lt_of_lt_of_le (by omega) hb'.size), hx' w' h⟩⟩
end Go.Proofs.YtldhlknmabpanaaGreat
namespace Go.Proofs.YtldhlknmabpanaaGreat
open Go.RowKit

end Go.Proofs.YtldhlknmabpanaaGreat
namespace Go.Proofs.YtldhlknmabpanaaGreat
open Go.RowKit

theorem set5_13 {B c : Nat} {a w : World} (h : Below B a w) (hc : B ≤ c) (v0 v1 v2 v3 v4 : Value) : Below B a (((((w.setCell ⟨c, 0, none⟩ v0).setCell ⟨c, 1, none⟩ v1).setCell ⟨c, 2, none⟩ v2).setCell ⟨c, 3, none⟩ v3).setCell ⟨c, 4, none⟩ v4) :=
  ((((h.setCell (p := ⟨c, 0, none⟩) hc _).setCell (p := ⟨c, 1, none⟩) hc _).setCell (p := ⟨c, 2, none⟩) hc _).setCell (p := ⟨c, 3, none⟩) hc _).setCell (p := ⟨c, 4, none⟩) hc _
set_option maxRecDepth 100000 in
set_option maxHeartbeats 1000000 in
theorem rmark_any (lost : Bool) (i : Nat) (s : Sk) (hf : s.fit i) (hi : i ≤ 1000000000) (w : World) :
    Calls Tryz.prog 74 #[SV s, .bool lost] w fun e w' => e = .returned (SV (s.mark lost)) ∧ Below w.heap.size w w' := by
  obtain ⟨W, hW⟩ : ∃ W, W = (w.alloc (.cells #[.int .i64 s.lo, .int .i64 s.rt, .int .i64 s.va, .int .i64 s.ma, .int .i64 s.tr] 28)).alloc (.cells #[.int .i64 0, .int .i64 0, .int .i64 0, .int .i64 0, .int .i64 0] 28) := ⟨_, rfl⟩
  obtain ⟨hb, hx⟩ := Blk13.two w s Sk.zero _ _ hW
  obtain ⟨hx0, hz0⟩ := hx W (Below.refl _ _)
  have l0 := hf.l0
  have l1 := hf.l1
  have m0 := hf.m0
  have m1 := hf.m1
  have hT : s.mark lost = ⟨toward s.lo (if lost = true then 65535 else 0) 16, s.rt, s.va, s.ma + 1, s.tr⟩ := rfl
  have CT := Lib.hid (rtoward_any s.lo (if lost = true then 65535 else 0) 16 (by omega) (by omega) l0 l1 (by split <;> omega) (by split <;> omega))
  have HX := Lib.hid ((hx0.set3 (s.ma + 1)).set0 (toward s.lo (if lost = true then 65535 else 0) 16))
  have HZ := Lib.hid ((hz0.other (p := ⟨w.heap.size, 3, none⟩) (show w.heap.size + 1 ≠ w.heap.size by omega) (.int .i64 (s.ma + 1))).other (p := ⟨w.heap.size, 0, none⟩) (show w.heap.size + 1 ≠ w.heap.size by omega) (.int .i64 (toward s.lo (if lost = true then 65535 else 0) 16)))
  have HB := Lib.hid ((hb.setCell (p := ⟨w.heap.size, 3, none⟩) (Nat.le_refl _) (.int .i64 (s.ma + 1))).setCell (p := ⟨w.heap.size, 0, none⟩) (Nat.le_refl _) (.int .i64 (toward s.lo (if lost = true then 65535 else 0) 16)))
  dsimp only at HX
  obtain ⟨c0, c1, c2, c3, c4⟩ := hx0.cells
  have f0 := hx0.frozen 0
  have f3 := hx0.frozen 3
  rw [hT]
  unfold SV
  clear hf hT hb hx hx0 hz0 l0 l1
  generalize hto : (if lost = true then (65535 : Int) else 0) = to at *
  generalize toward s.lo to 16 = z at *
  generalize s.lo = lo at *
  generalize s.rt = rt at *
  generalize s.va = va at *
  generalize s.tr = tr at *
  generalize s.ma = ma at *
  cases lost
  all_goals
    simp only [Bool.false_eq_true, if_true, if_false] at hto
    subst hto
    go_enter Tryz.func74, Tryz.ntmps74
    go_upto_region 1 with fail
    rw [← hW]
    clear hW
    go_upto_region 5 with (first
      | (go_at_call 102; (with_reducible refine (CT.out _).mono ?_); rintro e w1 ⟨rfl, rfl⟩)
      | fail)
    clear c0 c1 c2 c3 c4 f0 f3
    generalize (W.setCell ⟨w.heap.size, 3, none⟩ (.int .i64 (ma + 1))).setCell ⟨w.heap.size, 0, none⟩ (.int .i64 z) = w2 at *
    obtain ⟨d0, d1, d2, d3, d4⟩ := HX.out.cells
    obtain ⟨z0, z1, z2, z3, z4⟩ := HZ.out.cells
    have g0 := HZ.out.frozen 0
    have g1 := HZ.out.frozen 1
    have g2 := HZ.out.frozen 2
    have g3 := HZ.out.frozen 3
    have g4 := HZ.out.frozen 4
    unfold Sk.zero at z0 z1 z2 z3 z4
    dsimp only at d0 d1 d2 d3 d4 z0 z1 z2 z3 z4
    go_wp2
    refine bodyPost_ret (v := .agg #[.int .i64 z, .int .i64 rt, .int .i64 va, .int .i64 (ma + 1), .int .i64 tr]) (by simp [results, Tryz.results74, go_sem, z0, z1, z2, z3, z4]) rfl ?_
    exact ⟨rfl, set5_13 HB.out (by omega) _ _ _ _ _⟩
end Go.Proofs.YtldhlknmabpanaaGreat
