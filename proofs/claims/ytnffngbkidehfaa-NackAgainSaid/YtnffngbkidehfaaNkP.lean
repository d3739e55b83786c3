/-
  Own text: a set of runs in plain numbers: what starting, stopping and ticking make of it.
-/
import Derived.Test.YtnffngbkidehfaaNkB
namespace Go.Proofs.Ytnffngbkidehfaa.Nk

/-- A set in plain numbers. -/
structure Qn where
  room : Nat
  now : Int
  l : List It
/-- How many are due by a time. -/
def dpos (d : Int) (l : List It) : Nat := (l.takeWhile (fun x => decide (x.due ≤ d))).length
/-- A run put among others. -/
def ins (x : It) (l : List It) : List It := l.take (dpos x.due l) ++ x :: l.drop (dpos x.due l)
/-- All but that key. -/
def cutK (k : Int) (l : List It) : List It := l.take (fidx k l) ++ l.drop (fidx k l + 1)
def hasK (k : Int) (l : List It) : Bool := decide (fidx k l < l.length)
/-- The time then. -/
def adv (now t : Int) : Int := if t ≤ 0 then now else if 1099511627776 - now < t then 1099511627776 else now + t
def Qn.stop (Q : Qn) (k : Int) : Qn := ⟨Q.room, Q.now, cutK k Q.l⟩
/-- What Start answers. -/
def Qn.code (Q : Qn) (k t : Int) : Int := if t < 1 ∨ 1099511627776 < t then 1 else if hasK k Q.l = false ∧ Q.l.length = Q.room then 2 else 0
def Qn.start (Q : Qn) (k t : Int) : Qn := if Q.code k t = 0 then ⟨Q.room, Q.now, ins ⟨k, Q.now + t⟩ (cutK k Q.l)⟩ else Q
def Qn.tick (Q : Qn) (t : Int) : Qn := ⟨Q.room, adv Q.now t, Q.l.drop (dpos (adv Q.now t) Q.l)⟩
def Qn.came (Q : Qn) (t : Int) : List Int := (Q.l.take (dpos (adv Q.now t) Q.l)).map (fun x => x.key)
def Qn.clear (Q : Qn) : Qn := ⟨Q.room, Q.now, []⟩
/-- The numbers fit. -/
structure Qn.fit (Q : Qn) : Prop where
  lo : 1 ≤ Q.room
  hi : Q.room ≤ 256
  len : Q.l.length ≤ Q.room
  now0 : 0 ≤ Q.now
  now1 : Q.now ≤ 1099511627776
  due : ∀ x ∈ Q.l, 0 ≤ x.due ∧ x.due ≤ 2199023255552
  sorted : Q.l.Pairwise (fun a b => a.due ≤ b.due)
  apart : Q.l.Pairwise (fun a b => a.key ≠ b.key)
theorem adv_in {now t : Int} (_ : 0 ≤ now) (h1 : now ≤ 1099511627776) : now ≤ adv now t ∧ adv now t ≤ 1099511627776 := by
  unfold adv
  split
  · exact ⟨Int.le_refl _, h1⟩
  · split
    · exact ⟨h1, Int.le_refl _⟩
    · exact ⟨by omega, by omega⟩
theorem dpos_le (d : Int) (l : List It) : dpos d l ≤ l.length := List.IsPrefix.length_le (List.takeWhile_prefix _)
theorem dpos_take (d : Int) (l : List It) : ∀ t y, t < dpos d l → l[t]? = some y → y.due ≤ d := by
  intro t y ht hy
  unfold dpos at ht
  have hp : (l.takeWhile (fun x => decide (x.due ≤ d))) <+: l := List.takeWhile_prefix _
  have h2 : (l.takeWhile (fun x => decide (x.due ≤ d)))[t]? = some y := by
    rw [← hy]
    obtain ⟨s, hs⟩ := hp
    rw [← hs, List.getElem?_append_left]
    rw [hs]; exact ht
  have hm := List.mem_of_getElem? h2
  have := List.all_takeWhile (l := l) (p := fun x => decide (x.due ≤ d))
  rw [List.all_eq_true] at this
  simpa using this y hm
theorem dpos_next (d : Int) (l : List It) (y : It) (h : l[dpos d l]? = some y) : d < y.due := by
  induction l with
  | nil => simp at h
  | cons x l ih =>
    unfold dpos at *
    rw [List.takeWhile_cons] at h
    split at h
    · simp only [List.length_cons, List.getElem?_cons_succ] at h
      exact ih h
    · rename_i hx
      simp at h hx
      subst h
      omega
theorem dpos_drop {d : Int} {l : List It} (hs : l.Pairwise (fun a b => a.due ≤ b.due)) : ∀ t y, dpos d l ≤ t → l[t]? = some y → d < y.due := by
  intro t y ht hy
  have hlt := (List.getElem?_eq_some_iff.1 hy).1
  have hp : l[dpos d l]? = some (l[dpos d l]'(by omega)) := List.getElem?_eq_getElem (by omega)
  have h1 := dpos_next d l _ hp
  rcases Nat.eq_or_lt_of_le ht with e | e
  · subst e
    rw [hp] at hy
    cases hy
    exact h1
  · have h2 := List.pairwise_iff_getElem.1 hs (dpos d l) t (by omega) hlt e
    have h3 : l[t] = y := by rw [List.getElem?_eq_getElem hlt] at hy; exact Option.some.inj hy
    rw [h3] at h2
    omega
theorem dpos_place {d : Int} {l : List It} (hs : l.Pairwise (fun a b => a.due ≤ b.due)) : Place l (d + 1) (dpos d l) :=
  ⟨dpos_le d l, fun t y h1 h2 => by have := dpos_take d l t y h1 h2; omega, fun t y h1 h2 => by have := dpos_drop hs t y h1 h2; omega⟩
theorem ins_length (x : It) (l : List It) : (ins x l).length = l.length + 1 := by
  have := dpos_le x.due l
  unfold ins
  simp only [List.length_append, List.length_cons, List.length_take, List.length_drop]
  omega
theorem ins_lo (x : It) (l : List It) (k : Nat) (h : k < dpos x.due l) : (ins x l)[k]? = l[k]? := by
  have := dpos_le x.due l
  unfold ins
  rw [List.getElem?_append_left (by rw [List.length_take]; omega), List.getElem?_take, if_pos h]
theorem ins_at (x : It) (l : List It) : (ins x l)[dpos x.due l]? = some x := by
  have := dpos_le x.due l
  unfold ins
  rw [List.getElem?_append_right (by rw [List.length_take]; omega), List.length_take, Nat.min_eq_left this, Nat.sub_self]
  rfl
theorem ins_hi (x : It) (l : List It) (k : Nat) (h : dpos x.due l ≤ k) : (ins x l)[k + 1]? = l[k]? := by
  have := dpos_le x.due l
  unfold ins
  rw [List.getElem?_append_right (by rw [List.length_take]; omega), List.length_take, Nat.min_eq_left this, show k + 1 - dpos x.due l = (k - dpos x.due l) + 1 by omega, List.getElem?_cons_succ, List.getElem?_drop]
  congr 1
  omega
theorem ins_mem {x y : It} {l : List It} (h : y ∈ ins x l) : y = x ∨ y ∈ l := by
  unfold ins at h
  rcases List.mem_append.1 h with h | h
  · exact .inr (List.mem_of_mem_take h)
  · rcases List.mem_cons.1 h with h | h
    · exact .inl h
    · exact .inr (List.mem_of_mem_drop h)
theorem mem_ins (x : It) {y : It} {l : List It} (h : y = x ∨ y ∈ l) : y ∈ ins x l := by
  unfold ins
  rcases h with rfl | h
  · exact List.mem_append.2 (.inr (List.mem_cons_self ..))
  · rw [← List.take_append_drop (dpos x.due l) l] at h
    rcases List.mem_append.1 h with h | h
    · exact List.mem_append.2 (.inl h)
    · exact List.mem_append.2 (.inr (List.mem_cons_of_mem _ h))
theorem take_more (l : List It) (m : Nat) (x : It) (h : l[m]? = some x) : l.take m ++ [x] = l.take (m + 1) := by
  rw [List.take_add_one, h]
  rfl
theorem take_mem {l : List It} {n : Nat} {y : It} (h : y ∈ l.take n) : ∃ t, t < n ∧ l[t]? = some y := by
  obtain ⟨t, ht, e⟩ := List.getElem_of_mem h
  rw [List.length_take] at ht
  exact ⟨t, by omega, by rw [List.getElem_take] at e; rw [List.getElem?_eq_getElem (by omega), e]⟩
theorem drop_mem {l : List It} {n : Nat} {y : It} (h : y ∈ l.drop n) : ∃ t, n ≤ t ∧ l[t]? = some y := by
  obtain ⟨t, ht, e⟩ := List.getElem_of_mem h
  rw [List.length_drop] at ht
  exact ⟨n + t, by omega, by rw [List.getElem_drop] at e; rw [List.getElem?_eq_getElem (by omega), e]⟩
theorem ins_sorted {x : It} {l : List It} (hs : l.Pairwise (fun a b => a.due ≤ b.due)) : (ins x l).Pairwise (fun a b => a.due ≤ b.due) := by
  unfold ins
  rw [List.pairwise_append]
  refine ⟨hs.sublist (List.take_sublist _ _), ?_, ?_⟩
  · rw [List.pairwise_cons]
    refine ⟨fun y hy => ?_, hs.sublist (List.drop_sublist _ _)⟩
    obtain ⟨t, h1, h2⟩ := drop_mem hy
    have := dpos_drop hs t y h1 h2
    omega
  · intro a ha b hb
    obtain ⟨t, h1, h2⟩ := take_mem ha
    have e1 := dpos_take _ _ t a h1 h2
    rcases List.mem_cons.1 hb with rfl | hb
    · exact e1
    · obtain ⟨t', h3, h4⟩ := drop_mem hb
      have := dpos_drop hs t' b h3 h4
      omega
theorem cutK_sub (k : Int) (l : List It) : (cutK k l).Sublist l := by
  unfold cutK
  have h1 : (l.take (fidx k l) ++ l.drop (fidx k l + 1)).Sublist (l.take (fidx k l) ++ l.drop (fidx k l)) := by
    refine List.Sublist.append (List.Sublist.refl _) ?_
    rw [← List.drop_drop]
    exact List.drop_sublist _ _
  rwa [List.take_append_drop] at h1
theorem cutK_filter {k : Int} {l : List It} (h : l.Pairwise (fun a b => a.key ≠ b.key)) : cutK k l = l.filter (fun x => !decide (x.key = k)) := by
  induction l with
  | nil => rfl
  | cons x l ih =>
    obtain ⟨h1, h2⟩ := List.pairwise_cons.1 h
    by_cases hx : x.key = k
    · have e : fidx k (x :: l) = 0 := by unfold fidx; rw [List.takeWhile_cons]; simp [hx]
      unfold cutK
      rw [e, List.filter_cons]
      simp only [hx, decide_true, Bool.not_true, Bool.false_eq_true, if_false, List.take_zero, List.nil_append, Nat.zero_add, List.drop_succ_cons, List.drop_zero]
      refine (List.filter_eq_self.2 (fun y hy => ?_)).symm
      have := h1 y hy
      simp
      intro e
      exact this (hx.trans e.symm)
    · have e : fidx k (x :: l) = fidx k l + 1 := by unfold fidx; rw [List.takeWhile_cons]; simp [hx]
      have := ih h2
      unfold cutK at this ⊢
      rw [e, List.filter_cons]
      simp only [hx, decide_false, Bool.not_false, if_true, List.take_succ_cons, List.drop_succ_cons, List.cons_append]
      rw [this]
theorem cutK_no {k : Int} {l : List It} (h : ¬ fidx k l < l.length) : cutK k l = l := by
  unfold cutK
  rw [List.take_of_length_le (by omega), List.drop_eq_nil_of_le (by omega), List.append_nil]
theorem cutK_length (k : Int) (l : List It) : (cutK k l).length = if fidx k l < l.length then l.length - 1 else l.length := by
  have := fidx_le k l
  split
  · unfold cutK
    rw [List.length_append, List.length_take, List.length_drop]
    omega
  · rename_i h
    rw [cutK_no h]
/-- A key that runs. -/
theorem hasK_iff (k : Int) (l : List It) : hasK k l = true ↔ ∃ x ∈ l, x.key = k := by
  unfold hasK
  rw [decide_eq_true_iff]
  constructor
  · intro h
    obtain ⟨y, hy⟩ : ∃ y, l[fidx k l]? = some y := ⟨_, List.getElem?_eq_getElem h⟩
    exact ⟨y, List.mem_of_getElem? hy, fidx_at k l y hy⟩
  · rintro ⟨x, hx, e⟩
    have hle := fidx_le k l
    obtain ⟨t, ht, e2⟩ := List.getElem_of_mem hx
    rcases Nat.lt_or_ge (fidx k l) l.length with h | h
    · exact h
    · exact absurd e (fidx_lo k l t x (by omega) (by rw [List.getElem?_eq_getElem ht, e2]))
theorem cutK_gone {k : Int} {l : List It} (h : l.Pairwise (fun a b => a.key ≠ b.key)) : ∀ x ∈ cutK k l, x.key ≠ k := by
  intro x hx
  rw [cutK_filter h] at hx
  have := (List.mem_filter.1 hx).2
  simpa using this
theorem Qn.stop_fit {Q : Qn} (h : Q.fit) (k : Int) : (Q.stop k).fit :=
  ⟨h.lo, h.hi, Nat.le_trans (cutK_sub k Q.l).length_le h.len, h.now0, h.now1, fun x hx => h.due x ((cutK_sub k Q.l).subset hx), h.sorted.sublist (cutK_sub k Q.l), h.apart.sublist (cutK_sub k Q.l)⟩
theorem Qn.code_ok {Q : Qn} {k t : Int} (h : Q.code k t = 0) : 1 ≤ t ∧ t ≤ 1099511627776 ∧ ¬ (hasK k Q.l = false ∧ Q.l.length = Q.room) := by
  unfold Qn.code at h
  split at h
  · omega
  · split at h
    · omega
    · rename_i h1 h2
      exact ⟨by omega, by omega, h2⟩
theorem Qn.start_fit {Q : Qn} (h : Q.fit) (k t : Int) : (Q.start k t).fit := by
  unfold Qn.start
  split
  · rename_i hc
    obtain ⟨h1, h2, h3⟩ := Qn.code_ok hc
    refine ⟨h.lo, h.hi, ?_, h.now0, h.now1, fun x hx => ?_, ins_sorted (h.sorted.sublist (cutK_sub k Q.l)), ?_⟩
    · show (ins _ (cutK k Q.l)).length ≤ Q.room
      rw [ins_length, cutK_length]
      have := h.len
      split
      · omega
      · rename_i h4
        have : hasK k Q.l = false := by unfold hasK; exact decide_eq_false h4
        have : ¬ Q.l.length = Q.room := fun e => h3 ⟨this, e⟩
        omega
    · rcases ins_mem hx with rfl | hx
      · have := h.now0
        have := h.now1
        dsimp only
        omega
      · exact h.due x ((cutK_sub k Q.l).subset hx)
    · show (ins ⟨k, Q.now + t⟩ (cutK k Q.l)).Pairwise _
      have hg := cutK_gone (k := k) h.apart
      have ha := h.apart.sublist (cutK_sub k Q.l)
      generalize cutK k Q.l = l at *
      unfold ins
      rw [List.pairwise_append]
      refine ⟨ha.sublist (List.take_sublist _ _), ?_, ?_⟩
      · rw [List.pairwise_cons]
        exact ⟨fun y hy => fun e => hg y (List.mem_of_mem_drop hy) e.symm, ha.sublist (List.drop_sublist _ _)⟩
      · intro a ha' b hb
        rcases List.mem_cons.1 hb with rfl | hb
        · exact hg a (List.mem_of_mem_take ha')
        · have h5 := ha
          rw [← List.take_append_drop (dpos (⟨k, Q.now + t⟩ : It).due l) l, List.pairwise_append] at h5
          exact h5.2.2 a ha' b hb
  · exact h
theorem Qn.tick_fit {Q : Qn} (h : Q.fit) (t : Int) : (Q.tick t).fit := by
  have := adv_in (t := t) h.now0 h.now1
  have := h.now0
  have := h.len
  refine ⟨h.lo, h.hi, ?_, by show 0 ≤ adv Q.now t; omega, by show adv Q.now t ≤ _; omega, fun x hx => h.due x (List.mem_of_mem_drop hx), h.sorted.sublist (List.drop_sublist _ _), h.apart.sublist (List.drop_sublist _ _)⟩
  show (Q.l.drop _).length ≤ Q.room
  rw [List.length_drop]
  omega
theorem Qn.clear_fit {Q : Qn} (h : Q.fit) : Q.clear.fit := ⟨h.lo, h.hi, Nat.zero_le _, h.now0, h.now1, fun x hx => by simp [Qn.clear] at hx, List.Pairwise.nil, List.Pairwise.nil⟩
theorem Qn.new_fit (room : Nat) (h1 : 1 ≤ room) (h2 : room ≤ 256) : (⟨room, 0, []⟩ : Qn).fit := ⟨h1, h2, Nat.zero_le _, Int.le_refl _, by show (0 : Int) ≤ 1099511627776; omega, fun x hx => by simp at hx, List.Pairwise.nil, List.Pairwise.nil⟩
/-- The first ones are just those that are due. -/
theorem due_take {d : Int} {l : List It} (hs : l.Pairwise (fun a b => a.due ≤ b.due)) : l.filter (fun x => decide (x.due ≤ d)) = l.take (dpos d l) ∧ l.filter (fun x => !decide (x.due ≤ d)) = l.drop (dpos d l) := by
  have e := List.take_append_drop (dpos d l) l
  have h1 : ∀ y ∈ l.take (dpos d l), y.due ≤ d := fun y hy => by obtain ⟨t, a, b⟩ := take_mem hy; exact dpos_take d l t y a b
  have h2 : ∀ y ∈ l.drop (dpos d l), ¬ y.due ≤ d := fun y hy => by obtain ⟨t, a, b⟩ := drop_mem hy; have := dpos_drop hs t y a b; omega
  constructor
  · conv => lhs; rw [← e]
    rw [List.filter_append, List.filter_eq_self.2 (fun y hy => by simpa using h1 y hy), List.filter_eq_nil_iff.2 (fun y hy => by simpa using h2 y hy), List.append_nil]
  · conv => lhs; rw [← e]
    rw [List.filter_append, List.filter_eq_nil_iff.2 (fun y hy => by simpa using h1 y hy), List.filter_eq_self.2 (fun y hy => by simpa using h2 y hy), List.nil_append]
end Go.Proofs.Ytnffngbkidehfaa.Nk
