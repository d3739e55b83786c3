/-
  Own text: groups that are waited for, in plain numbers: the code's list and the document's, and that both go on alike.
-/
import Derived.Test.YtnffngbkidehfaaNkP
namespace Go.Proofs.Ytnffngbkidehfaa.Nk

/-- Ticks, held. -/
def hd (t : Int) : Int := if t < 1 then 1 else if 4096 < t then 4096 else t
theorem hd_in (t : Int) : 1 ≤ hd t ∧ hd t ≤ 4096 := by
  unfold hd
  split
  · omega
  · split <;> omega
/-- For how many ticks is waited behind so many askings. -/
def agn (h : Int) (n : Nat) : Int := min (h * 2 ^ n) (max h 100)
theorem two_pow_in : ∀ n : Nat, n ≤ 5 → (1 : Int) ≤ 2 ^ n ∧ (2 : Int) ^ n ≤ 32
  | 0, _ => by decide
  | 1, _ => by decide
  | 2, _ => by decide
  | 3, _ => by decide
  | 4, _ => by decide
  | 5, _ => by decide
  | n + 6, h => by omega
theorem agn_in {h : Int} {n : Nat} (h1 : 1 ≤ h) (h2 : h ≤ 4096) (hn : n ≤ 5) : 1 ≤ agn h n ∧ agn h n ≤ 131072 ∧ h ≤ agn h n := by
  obtain ⟨a, b⟩ := two_pow_in n hn
  have c : h * 1 ≤ h * 2 ^ n := Int.mul_le_mul_of_nonneg_left a (by omega)
  have d : h * 2 ^ n ≤ 4096 * 32 := Int.mul_le_mul h2 b (by omega) (by omega)
  unfold agn
  omega
/-- As the document says it. -/
theorem agn_ref {h : Int} {n : Nat} (h1 : 1 ≤ h) (hn : n ≤ 5) : max h (min (h * 2 ^ n) 100) = agn h n := by
  obtain ⟨a, b⟩ := two_pow_in n hn
  have c : h * 1 ≤ h * 2 ^ n := Int.mul_le_mul_of_nonneg_left a (by omega)
  unfold agn
  omega
/-- A group, as the document has it. -/
structure DI where
  no : Int
  left : Int
  tries : Nat
/-- Groups that are waited for: those that run, how often each was asked for, and what was counted. -/
structure Nl where
  q : Qn
  t : Int → Nat
  asked : Nat
  full : Nat
def put (t : Int → Nat) (k : Int) (n : Nat) : Int → Nat := fun z => if z = k then n else t z
def Nl.has (N : Nl) (k : Int) : Bool := hasK k N.q.l
def Nl.wait (N : Nl) (k t : Int) : Nl :=
  if N.has k = true then N else if N.q.l.length = N.q.room then ⟨N.q, N.t, N.asked, N.full + 1⟩ else ⟨N.q.start k (hd t), put N.t k 0, N.asked, N.full⟩
def Nl.stop (N : Nl) (k : Int) : Nl := ⟨N.q.stop k, N.t, N.asked, N.full⟩
/-- One of those that came is waited for again. -/
def Nl.one (h : Int) (N : Nl) (k : Int) : Nl := ⟨N.q.start k (agn h (min (N.t k + 1) 5)), put N.t k (min (N.t k + 1) 5), N.asked, N.full⟩
def Nl.again (h : Int) (N : Nl) (ks : List Int) : Nl := ks.foldl (Nl.one h) N
def Nl.tick (N : Nl) (t : Int) : Nl :=
  let M := Nl.again (hd t) ⟨N.q.tick 1, N.t, N.asked, N.full⟩ (N.q.came 1)
  ⟨M.q, M.t, M.asked + (N.q.came 1).length, M.full⟩
/-- Those of which a question holds go. -/
def Nl.strike (N : Nl) (p : Int → Bool) : Nl := ⟨⟨N.q.room, N.q.now, N.q.l.filter (fun x => !p x.key)⟩, N.t, N.asked, N.full⟩
/-- The numbers fit, behind so many calls. -/
structure Nl.fit (N : Nl) (k : Nat) : Prop where
  q : N.q.fit
  room : N.q.room ≤ 64
  now : N.q.now ≤ k
  ahead : ∀ x ∈ N.q.l, N.q.now < x.due ∧ x.due ≤ N.q.now + 131072
  key : ∀ x ∈ N.q.l, 0 ≤ x.key ∧ x.key ≤ 4294967295
  tries : ∀ z, N.t z ≤ 5
  asked : N.asked ≤ k * 64
  full : N.full ≤ k
/-- As the document has it. -/
def It.ref (now : Int) (t : Int → Nat) (x : It) : DI := ⟨x.key, x.due - now, t x.key⟩
def Nl.ref (N : Nl) : List DI := N.q.l.map (It.ref N.q.now N.t)
theorem Nl.ref_length (N : Nl) : N.ref.length = N.q.l.length := by unfold Nl.ref; rw [List.length_map]
theorem put_same (t : Int → Nat) (k : Int) (n : Nat) : put t k n k = n := by unfold put; rw [if_pos rfl]
theorem put_other (t : Int → Nat) {k z : Int} (n : Nat) (h : z ≠ k) : put t k n z = t z := by unfold put; rw [if_neg h]
theorem ref_put {now : Int} {t : Int → Nat} {k : Int} {n : Nat} {l : List It} (h : ∀ x ∈ l, x.key ≠ k) : l.map (It.ref now (put t k n)) = l.map (It.ref now t) := by
  apply List.map_congr_left
  intro x hx
  unfold It.ref
  rw [put_other t n (h x hx)]
/-- Put among others, as the document does. -/
def dput (x : DI) : List DI → List DI
  | [] => [x]
  | y :: l => if x.left < y.left then x :: y :: l else y :: dput x l
theorem dput_length (x : DI) : ∀ l : List DI, (dput x l).length = l.length + 1
  | [] => rfl
  | y :: l => by
    unfold dput
    split
    · rfl
    · rw [List.length_cons, dput_length x l]; rfl
theorem dput_ref {now : Int} {t : Int → Nat} {x : It} : ∀ l : List It, (ins x l).map (It.ref now t) = dput (It.ref now t x) (l.map (It.ref now t))
  | [] => rfl
  | y :: l => by
    have ih := dput_ref (now := now) (t := t) (x := x) l
    by_cases h : y.due ≤ x.due
    · have e : ins x (y :: l) = y :: ins x l := by unfold ins dpos; rw [List.takeWhile_cons]; simp [h]
      rw [e, List.map_cons, List.map_cons, ih]
      have h2 : ¬ (It.ref now t x).left < (It.ref now t y).left := by show ¬ x.due - now < y.due - now; omega
      conv => rhs; unfold dput
      rw [if_neg h2]
    · have e : ins x (y :: l) = x :: y :: l := by unfold ins dpos; rw [List.takeWhile_cons]; simp [h]
      rw [e, List.map_cons, List.map_cons]
      have h2 : (It.ref now t x).left < (It.ref now t y).left := by show x.due - now < y.due - now; omega
      conv => rhs; unfold dput
      rw [if_pos h2]
theorem no_has {k : Int} {l : List It} (h : hasK k l = false) : ∀ x ∈ l, x.key ≠ k := fun x hx e => by
  have := (hasK_iff k l).2 ⟨x, hx, e⟩
  rw [h] at this
  cases this
theorem has_no {k : Int} {l : List It} (h : ∀ x ∈ l, x.key ≠ k) : hasK k l = false := by
  cases hh : hasK k l with
  | false => rfl
  | true =>
    obtain ⟨x, hx, e⟩ := (hasK_iff k l).1 hh
    exact absurd e (h x hx)
theorem no_cut {k : Int} {l : List It} (h : hasK k l = false) : cutK k l = l := cutK_no (by unfold hasK at h; simpa using h)
/-- A new one is put among those that run. -/
theorem start_new {Q : Qn} {k t : Int} (h : hasK k Q.l = false) (hr : Q.l.length < Q.room) (h1 : 1 ≤ t) (h2 : t ≤ 131072) : Q.code k t = 0 ∧ Q.start k t = ⟨Q.room, Q.now, ins ⟨k, Q.now + t⟩ Q.l⟩ := by
  have hc : Q.code k t = 0 := by
    unfold Qn.code
    rw [if_neg (by omega), if_neg (by rintro ⟨_, e⟩; omega)]
  refine ⟨hc, ?_⟩
  unfold Qn.start
  rw [if_pos hc, no_cut h]
/-- What a new one makes of both lists. -/
theorem Nl.wait_new {N : Nl} {k t : Int} {n : Nat} (h : N.has k = false) (hr : N.q.l.length < N.q.room) (h1 : 1 ≤ t) (h2 : t ≤ 131072) :
    (⟨N.q.start k t, put N.t k n, N.asked, N.full⟩ : Nl).ref = dput ⟨k, t, n⟩ N.ref := by
  unfold Nl.has at h
  unfold Nl.ref
  rw [(start_new h hr h1 h2).2]
  dsimp only
  rw [dput_ref, ref_put (no_has h)]
  congr 1
  unfold It.ref
  dsimp only
  rw [put_same]
  congr 1
  omega
theorem Nl.start_fits {N : Nl} {k t : Int} {n j : Nat} (hf : N.fit j) (hk : 0 ≤ k ∧ k ≤ 4294967295) (h : N.has k = false) (hr : N.q.l.length < N.q.room) (h1 : 1 ≤ t) (h2 : t ≤ 131072) (hn : n ≤ 5) :
    (⟨N.q.start k t, put N.t k n, N.asked, N.full⟩ : Nl).fit j := by
  have e := (start_new h hr h1 h2).2
  refine ⟨Qn.start_fit hf.q k t, ?_, ?_, ?_, ?_, ?_, hf.asked, hf.full⟩
  · show (N.q.start k t).room ≤ 64
    rw [e]; exact hf.room
  · show (N.q.start k t).now ≤ j
    rw [e]; exact hf.now
  · show ∀ x ∈ (N.q.start k t).l, (N.q.start k t).now < x.due ∧ x.due ≤ (N.q.start k t).now + 131072
    rw [e]
    intro x hx
    rcases ins_mem hx with rfl | hx
    · dsimp only; omega
    · exact hf.ahead x hx
  · show ∀ x ∈ (N.q.start k t).l, _
    rw [e]
    intro x hx
    rcases ins_mem hx with rfl | hx
    · exact hk
    · exact hf.key x hx
  · intro z
    show put N.t k n z ≤ 5
    unfold put
    split
    · exact hn
    · exact hf.tries z
theorem Nl.fit.more {N : Nl} {j k : Nat} (h : N.fit j) (hk : j ≤ k) : N.fit k :=
  ⟨h.q, h.room, by have := h.now; omega, h.ahead, h.key, h.tries, by have := h.asked; omega, by have := h.full; omega⟩
theorem Nl.wait_fit {N : Nl} {k t : Int} {j : Nat} (hf : N.fit j) (hk : 0 ≤ k ∧ k ≤ 4294967295) : (N.wait k t).fit (j + 1) := by
  have ht := hd_in t
  unfold Nl.wait
  split
  · exact hf.more (by omega)
  · rename_i h
    split
    · exact ⟨hf.q, hf.room, by have := hf.now; show N.q.now ≤ ((j + 1 : Nat) : Int); omega, hf.ahead, hf.key, hf.tries, by have := hf.asked; show N.asked ≤ _; omega, by have := hf.full; show N.full + 1 ≤ _; omega⟩
    · rename_i h2
      exact (Nl.start_fits hf hk (by simpa using h) (by have := hf.q.len; omega) (by omega) (by omega) (Nat.zero_le _)).more (by omega)
/-- Wait, as the document has it. -/
theorem Nl.wait_ref {N : Nl} {k t : Int} {j : Nat} (hf : N.fit j) : (N.wait k t).ref = if N.has k = true then N.ref else if N.ref.length < N.q.room then dput ⟨k, hd t, 0⟩ N.ref else N.ref := by
  have ht := hd_in t
  have hl := hf.q.len
  unfold Nl.wait
  rw [Nl.ref_length]
  split
  · rfl
  · rename_i h
    split
    · rw [if_neg (by omega)]; rfl
    · rename_i h2
      rw [if_pos (by omega)]
      exact Nl.wait_new (by simpa using h) (by omega) (by omega) (by omega)
theorem Nl.strike_fit {N : Nl} {j : Nat} (hf : N.fit j) (p : Int → Bool) : (N.strike p).fit j := by
  have hs : (N.q.l.filter (fun x => !p x.key)).Sublist N.q.l := List.filter_sublist
  refine ⟨⟨hf.q.lo, hf.q.hi, Nat.le_trans hs.length_le hf.q.len, hf.q.now0, hf.q.now1, fun x hx => hf.q.due x (hs.subset hx), hf.q.sorted.sublist hs, hf.q.apart.sublist hs⟩, hf.room, hf.now, fun x hx => hf.ahead x (hs.subset hx), fun x hx => hf.key x (hs.subset hx), hf.tries, hf.asked, hf.full⟩
theorem Nl.strike_ref {N : Nl} (p : Int → Bool) : (N.strike p).ref = N.ref.filter (fun y => !p y.no) := by
  unfold Nl.ref Nl.strike
  dsimp only
  rw [List.filter_map]
  rfl
theorem Nl.stop_strike {N : Nl} {j : Nat} (hf : N.fit j) (k : Int) : N.stop k = N.strike (fun z => decide (z = k)) := by
  unfold Nl.stop Nl.strike Qn.stop
  rw [cutK_filter hf.q.apart]
theorem Nl.has_strike {N : Nl} {p : Int → Bool} (k : Int) : (N.strike p).has k = (N.has k && !p k) := by
  unfold Nl.has Nl.strike
  dsimp only
  cases hh : hasK k (N.q.l.filter (fun x => !p x.key)) with
  | true =>
    obtain ⟨x, hx, e⟩ := (hasK_iff _ _).1 hh
    obtain ⟨h1, h2⟩ := List.mem_filter.1 hx
    rw [(hasK_iff _ _).2 ⟨x, h1, e⟩, ← e]
    simpa using h2.symm
  | false =>
    cases h1 : hasK k N.q.l with
    | false => rfl
    | true =>
      obtain ⟨x, hx, e⟩ := (hasK_iff _ _).1 h1
      cases h2 : p k with
      | true => rfl
      | false =>
        have := no_has hh x (List.mem_filter.2 ⟨hx, by rw [e, h2]; rfl⟩)
        exact absurd e this
/-- One behind the other. -/
theorem Nl.strike_strike {N : Nl} (p p' : Int → Bool) : (N.strike p).strike p' = N.strike (fun z => p z || p' z) := by
  unfold Nl.strike
  dsimp only
  rw [List.filter_filter]
  congr 2
  apply List.filter_congr
  intro x _
  cases p x.key <;> cases p' x.key <;> rfl
theorem Nl.strike_none {N : Nl} {p : Int → Bool} (h : ∀ x ∈ N.q.l, p x.key = false) : N.strike p = N := by
  unfold Nl.strike
  rw [List.filter_eq_self.2 (fun x hx => by rw [h x hx]; rfl)]
-- a tick
/-- What the document tells, and what stays, behind a tick. -/
def dtold (l : List DI) : List DI := (l.filter (fun y => decide (y.left - 1 ≤ 0))).map (fun y => ⟨y.no, y.left - 1, y.tries⟩)
def drest (l : List DI) : List DI := (l.filter (fun y => !decide (y.left - 1 ≤ 0))).map (fun y => ⟨y.no, y.left - 1, y.tries⟩)
def dagain (h : Int) (r : List DI) (x : DI) : List DI := dput ⟨x.no, agn h (min (x.tries + 1) 5), min (x.tries + 1) 5⟩ r
theorem adv_one {Q : Qn} {j : Nat} (h : Q.now ≤ j) (hj : j ≤ 1000000) : adv Q.now 1 = Q.now + 1 := by
  unfold adv
  rw [if_neg (by omega), if_neg (by omega)]
/-- The set behind a tick, and what came. -/
theorem Nl.ticked {N : Nl} {j : Nat} (hf : N.fit j) (hj : j ≤ 1000000) :
    N.q.tick 1 = ⟨N.q.room, N.q.now + 1, N.q.l.filter (fun x => !decide (x.due ≤ N.q.now + 1))⟩ ∧ N.q.came 1 = (N.q.l.filter (fun x => decide (x.due ≤ N.q.now + 1))).map (fun x => x.key) := by
  have e := adv_one hf.now hj
  obtain ⟨a, b⟩ := due_take (d := N.q.now + 1) hf.q.sorted
  unfold Qn.tick Qn.came
  rw [e, a, b]
  exact ⟨rfl, rfl⟩
theorem Nl.told_ref {N : Nl} : dtold N.ref = (N.q.l.filter (fun x => decide (x.due ≤ N.q.now + 1))).map (It.ref (N.q.now + 1) N.t) := by
  unfold dtold Nl.ref
  rw [List.filter_map, List.map_map]
  have e : (fun y : DI => decide (y.left - 1 ≤ 0)) ∘ (It.ref N.q.now N.t) = (fun x => decide (x.due ≤ N.q.now + 1)) := by
    funext x
    show decide (x.due - N.q.now - 1 ≤ 0) = decide (x.due ≤ N.q.now + 1)
    exact decide_eq_decide.2 ⟨fun h => by omega, fun h => by omega⟩
  rw [e]
  apply List.map_congr_left
  intro x _
  show (⟨x.key, x.due - N.q.now - 1, N.t x.key⟩ : DI) = ⟨x.key, x.due - (N.q.now + 1), N.t x.key⟩
  congr 1
  omega
theorem Nl.rest_ref {N : Nl} : drest N.ref = (N.q.l.filter (fun x => !decide (x.due ≤ N.q.now + 1))).map (It.ref (N.q.now + 1) N.t) := by
  unfold drest Nl.ref
  rw [List.filter_map, List.map_map]
  have e : (fun y : DI => !decide (y.left - 1 ≤ 0)) ∘ (It.ref N.q.now N.t) = (fun x => !decide (x.due ≤ N.q.now + 1)) := by
    funext x
    show (!decide (x.due - N.q.now - 1 ≤ 0)) = !decide (x.due ≤ N.q.now + 1)
    congr 1
    exact decide_eq_decide.2 ⟨fun h => by omega, fun h => by omega⟩
  rw [e]
  apply List.map_congr_left
  intro x _
  show (⟨x.key, x.due - N.q.now - 1, N.t x.key⟩ : DI) = ⟨x.key, x.due - (N.q.now + 1), N.t x.key⟩
  congr 1
  omega
theorem part_length (p : It → Bool) (l : List It) : (l.filter p).length + (l.filter (fun x => !p x)).length = l.length := by
  induction l with
  | nil => rfl
  | cons x l ih =>
    rw [List.filter_cons, List.filter_cons]
    cases p x <;> simp <;> omega
/-- Between two of those that came: the ones that are left wait for their turn. -/
structure Mid (N0 : Nl) (done : List Int) (todo : List Int) (M : Nl) (j : Nat) : Prop where
  fit : M.fit j
  room : M.q.room = N0.q.room
  now : M.q.now = N0.q.now
  len : M.q.l.length + todo.length ≤ M.q.room
  all : M.q.l.length = N0.q.l.length + done.length
  key : ∀ k ∈ todo, 0 ≤ k ∧ k ≤ 4294967295
  out : ∀ k ∈ todo, M.has k = false
  apart : todo.Pairwise (· ≠ ·)
  same : ∀ k ∈ todo, M.t k = N0.t k
  keys : ∀ z, M.has z = true ↔ N0.has z = true ∨ z ∈ done
  asked : M.asked = N0.asked
  full : M.full = N0.full
theorem Mid.next {N0 M : Nl} {done todo : List Int} {k h : Int} {j : Nat} (H : Mid N0 done (k :: todo) M j) (h1 : 1 ≤ h) (h2 : h ≤ 4096) :
    Mid N0 (done ++ [k]) todo (Nl.one h M k) j ∧ (Nl.one h M k).ref = dagain h M.ref ⟨k, 0, N0.t k⟩ ∧ M.q.code k (agn h (min (M.t k + 1) 5)) = 0 := by
  have hk := H.out k (List.mem_cons_self ..)
  have hlen := H.len
  rw [List.length_cons] at hlen
  obtain ⟨a, b, _⟩ := agn_in (n := min (M.t k + 1) 5) h1 h2 (by omega)
  obtain ⟨hc, e⟩ := start_new (Q := M.q) (k := k) (t := agn h (min (M.t k + 1) 5)) hk (by omega) a b
  have hap := List.pairwise_cons.1 H.apart
  refine ⟨⟨Nl.start_fits H.fit (H.key k (List.mem_cons_self ..)) hk (by omega) a b (by omega), ?_, ?_, ?_, ?_, fun z hz => H.key z (List.mem_cons_of_mem _ hz), ?_, hap.2, ?_, ?_, H.asked, H.full⟩, ?_, hc⟩
  · show (M.q.start k _).room = _
    rw [e]; exact H.room
  · show (M.q.start k _).now = _
    rw [e]; exact H.now
  · show (M.q.start k _).l.length + _ ≤ (M.q.start k _).room
    rw [e]
    dsimp only
    rw [ins_length]
    omega
  · show (M.q.start k _).l.length = _
    rw [e]
    dsimp only
    rw [ins_length, List.length_append, H.all]
    rfl
  · intro z hz
    show hasK z (M.q.start k _).l = false
    rw [e]
    refine has_no (fun x hx => ?_)
    rcases ins_mem hx with rfl | hx
    · exact hap.1 z hz
    · exact no_has (H.out z (List.mem_cons_of_mem _ hz)) x hx
  · intro z hz
    show put M.t k _ z = _
    rw [put_other _ _ (fun e => hap.1 z hz e.symm)]
    exact H.same z (List.mem_cons_of_mem _ hz)
  · intro z
    show hasK z (M.q.start k _).l = true ↔ _
    rw [e, hasK_iff]
    have := H.keys z
    unfold Nl.has at this
    rw [hasK_iff] at this
    constructor
    · rintro ⟨x, hx, ex⟩
      rcases ins_mem hx with rfl | hx
      · exact .inr (List.mem_append.2 (.inr (List.mem_singleton.2 ex.symm)))
      · rcases this.1 ⟨x, hx, ex⟩ with h | h
        · exact .inl h
        · exact .inr (List.mem_append.2 (.inl h))
    · rintro (h | h)
      · obtain ⟨x, hx, ex⟩ := this.2 (.inl h)
        exact ⟨x, mem_ins _ (.inr hx), ex⟩
      · rcases List.mem_append.1 h with h | h
        · obtain ⟨x, hx, ex⟩ := this.2 (.inr h)
          exact ⟨x, mem_ins _ (.inr hx), ex⟩
        · exact ⟨_, mem_ins _ (.inl rfl), (List.mem_singleton.1 h).symm⟩
  · show (⟨M.q.start k _, put M.t k _, M.asked, M.full⟩ : Nl).ref = _
    rw [Nl.wait_new hk (by omega) a b]
    unfold dagain
    rw [H.same k (List.mem_cons_self ..)]
theorem Nl.mid {N : Nl} {j : Nat} (hf : N.fit j) (hj : j ≤ 1000000) : Mid ⟨N.q.tick 1, N.t, N.asked, N.full⟩ [] (N.q.came 1) ⟨N.q.tick 1, N.t, N.asked, N.full⟩ (j + 1) := by
  obtain ⟨a, b⟩ := Nl.ticked hf hj
  have hlen : (N.q.l.filter (fun x => decide (x.due ≤ N.q.now + 1))).length + (N.q.l.filter (fun x => !decide (x.due ≤ N.q.now + 1))).length = N.q.l.length := part_length (fun x => decide (x.due ≤ N.q.now + 1)) N.q.l
  have hroom : (N.q.tick 1).room = N.q.room := by rw [a]
  refine ⟨⟨Qn.tick_fit hf.q 1, ?_, ?_, ?_, ?_, hf.tries, ?_, ?_⟩, rfl, rfl, ?_, rfl, ?_, ?_, ?_, fun _ _ => rfl, fun z => ⟨.inl, fun h => h.resolve_right (fun h => by cases h)⟩, rfl, rfl⟩
  · show (N.q.tick 1).room ≤ 64
    rw [a]; exact hf.room
  · show (N.q.tick 1).now ≤ _
    rw [a]
    have := hf.now
    show N.q.now + 1 ≤ ((j + 1 : Nat) : Int)
    omega
  · show ∀ x ∈ (N.q.tick 1).l, (N.q.tick 1).now < x.due ∧ x.due ≤ (N.q.tick 1).now + 131072
    rw [a]
    intro x hx
    obtain ⟨h1, h2⟩ := List.mem_filter.1 hx
    have := hf.ahead x h1
    have h3 : ¬ x.due ≤ N.q.now + 1 := by simpa using h2
    dsimp only
    omega
  · show ∀ x ∈ (N.q.tick 1).l, _
    rw [a]
    intro x hx
    exact hf.key x (List.mem_filter.1 hx).1
  · have := hf.asked
    show N.asked ≤ _
    omega
  · have := hf.full
    show N.full ≤ _
    omega
  · show (N.q.tick 1).l.length + _ ≤ (N.q.tick 1).room
    rw [a, b, List.length_map]
    have := hf.q.len
    dsimp only
    omega
  · rw [b]
    intro k hk
    obtain ⟨x, hx, rfl⟩ := List.mem_map.1 hk
    exact hf.key x (List.mem_filter.1 hx).1
  · rw [b]
    intro k hk
    obtain ⟨x, hx, rfl⟩ := List.mem_map.1 hk
    obtain ⟨h1, h2⟩ := List.mem_filter.1 hx
    show hasK x.key (N.q.tick 1).l = false
    rw [a]
    refine has_no (fun y hy e => ?_)
    obtain ⟨h3, h4⟩ := List.mem_filter.1 hy
    have h5 : ∀ u v : It, u ∈ N.q.l → v ∈ N.q.l → u.key = v.key → u = v := by
      intro u v hu hv huv
      obtain ⟨iu, hiu, eu⟩ := List.getElem_of_mem hu
      obtain ⟨iv, hiv, ev⟩ := List.getElem_of_mem hv
      have hp := List.pairwise_iff_getElem.1 hf.q.apart
      rcases Nat.lt_trichotomy iu iv with h | h | h
      · exact absurd (by rw [eu, ev]; exact huv) (hp iu iv hiu hiv h)
      · subst h; rw [← eu, ← ev]
      · exact absurd (by rw [eu, ev]; exact huv.symm) (hp iv iu hiv hiu h)
    have := h5 y x h3 h1 e
    subst this
    rw [h2] at h4
    cases h4
  · rw [b, List.pairwise_map]
    exact hf.q.apart.sublist List.filter_sublist
theorem Mid.run {N0 : Nl} {h : Int} {j : Nat} (h1 : 1 ≤ h) (h2 : h ≤ 4096) : ∀ (todo done : List Int) (M : Nl), Mid N0 done todo M j → Mid N0 (done ++ todo) [] (Nl.again h M todo) j ∧ (Nl.again h M todo).ref = todo.foldl (fun r k => dagain h r ⟨k, 0, N0.t k⟩) M.ref
  | [], done, M, H => by rw [List.append_nil]; exact ⟨H, rfl⟩
  | k :: todo, done, M, H => by
    obtain ⟨a, b, _⟩ := H.next h1 h2
    obtain ⟨c, d⟩ := Mid.run h1 h2 todo (done ++ [k]) (Nl.one h M k) a
    rw [List.append_assoc] at c
    refine ⟨c, ?_⟩
    show (Nl.again h (Nl.one h M k) todo).ref = _
    rw [d, b]
    rfl
theorem Nl.tick_fit {N : Nl} {j : Nat} {t : Int} (hf : N.fit j) (hj : j ≤ 1000000) : (N.tick t).fit (j + 1) := by
  obtain ⟨h1, h2⟩ := hd_in t
  have H := Nl.mid hf hj
  have hl : (N.q.came 1).length ≤ 64 := by
    have := H.len
    have := hf.room
    have e : (N.q.tick 1).room = N.q.room := rfl
    dsimp only at *
    omega
  obtain ⟨a, _⟩ := Mid.run h1 h2 _ _ _ H
  have hask := a.asked
  have := hf.asked
  refine ⟨a.fit.q, a.fit.room, a.fit.now, a.fit.ahead, a.fit.key, a.fit.tries, ?_, a.fit.full⟩
  show (Nl.again (hd t) _ _).asked + _ ≤ _
  rw [hask]
  dsimp only
  omega
/-- Tick, as the document has it. -/
theorem Nl.tick_ref {N : Nl} {j : Nat} {t : Int} (hf : N.fit j) (hj : j ≤ 1000000) : (N.tick t).ref = (dtold N.ref).foldl (dagain (hd t)) (drest N.ref) := by
  obtain ⟨h1, h2⟩ := hd_in t
  have H := Nl.mid hf hj
  obtain ⟨_, b⟩ := Mid.run h1 h2 _ _ _ H
  obtain ⟨e1, e2⟩ := Nl.ticked hf hj
  show (Nl.again (hd t) ⟨N.q.tick 1, N.t, N.asked, N.full⟩ (N.q.came 1)).ref = _
  rw [b, Nl.told_ref, Nl.rest_ref, e2, List.foldl_map, List.foldl_map]
  have e3 : (⟨N.q.tick 1, N.t, N.asked, N.full⟩ : Nl).ref = (N.q.l.filter (fun x => !decide (x.due ≤ N.q.now + 1))).map (It.ref (N.q.now + 1) N.t) := by
    unfold Nl.ref
    dsimp only
    rw [e1]
  rw [e3]
  rfl
theorem Nl.tick_came {N : Nl} {j : Nat} (hf : N.fit j) (hj : j ≤ 1000000) : N.q.came 1 = (dtold N.ref).map (fun y => y.no) := by
  rw [(Nl.ticked hf hj).2, Nl.told_ref, List.map_map]
  rfl
theorem Nl.tick_asked {N : Nl} {j : Nat} {t : Int} (hf : N.fit j) (hj : j ≤ 1000000) : (N.tick t).asked = N.asked + (N.q.came 1).length ∧ (N.tick t).full = N.full ∧ (N.tick t).q.room = N.q.room ∧ (N.tick t).q.l.length = N.q.l.length := by
  obtain ⟨h1, h2⟩ := hd_in t
  have H := Nl.mid hf hj
  obtain ⟨a, _⟩ := Mid.run h1 h2 _ _ _ H
  have hlen : (N.q.l.filter (fun x => decide (x.due ≤ N.q.now + 1))).length + (N.q.l.filter (fun x => !decide (x.due ≤ N.q.now + 1))).length = N.q.l.length := part_length (fun x => decide (x.due ≤ N.q.now + 1)) N.q.l
  have e1 := a.asked
  have e2 := a.full
  have e3 := a.room
  have e4 := a.all
  obtain ⟨p1, p2⟩ := Nl.ticked hf hj
  refine ⟨?_, e2, e3, ?_⟩
  · show (Nl.again (hd t) _ _).asked + _ = _
    rw [e1]
  · show (Nl.again (hd t) _ _).q.l.length = _
    rw [e4, List.nil_append]
    dsimp only
    rw [p1, p2, List.length_map]
    dsimp only
    omega
end Go.Proofs.Ytnffngbkidehfaa.Nk
