/-
  Own text: linear equations over the field, independence, rank, inverses of one side. Plain arithmetic.
-/
import Derived.Test.YtipaolkgafhliaaPolM
namespace Go.Proofs.Ytipaolkgafhliaa
open Go.RowKit

/-- A sum of products. -/
def dots (a x : Nat → Nat) (n : Nat) : Nat := xs (fun i => mu (a i) (x i)) n
theorem dots_lt (a x : Nat → Nat) (n : Nat) : dots a x n < 256 := xs_lt _ (fun _ => mu_lt _ _) n
theorem dots_congr {a b x y : Nat → Nat} (n : Nat) (ha : ∀ i, i < n → a i = b i) (hx : ∀ i, i < n → x i = y i) : dots a x n = dots b y n :=
  xs_congr n (fun i hi => by show mu (a i) (x i) = mu (b i) (y i); rw [ha i hi, hx i hi])
theorem dots_comm (a x : Nat → Nat) (n : Nat) : dots a x n = dots x a n := xs_congr n (fun i _ => mu_comm _ _)
theorem dots_xor (a b x : Nat → Nat) (n : Nat) : dots (fun i => a i ^^^ b i) x n = dots a x n ^^^ dots b x n := by
  unfold dots; rw [← xs_xor]; exact xs_congr n (fun i _ => mu_left _ _ _)
theorem dots_mu (c : Nat) (a x : Nat → Nat) (n : Nat) : dots (fun i => mu c (a i)) x n = mu c (dots a x n) := by
  unfold dots; rw [mu_xs]; exact xs_congr n (fun i _ => (mu_assoc _ _ _).symm)
theorem xs_swap (f : Nat → Nat → Nat) (m : Nat) : ∀ n, xs (fun i => xs (f i) m) n = xs (fun j => xs (fun i => f i j) n) m
  | 0 => (xs_none m (fun _ _ => rfl)).symm
  | n + 1 => by
    show xs (fun i => xs (f i) m) n ^^^ xs (f n) m = _
    rw [xs_swap f m n, ← xs_xor]
    rfl
/-- More unknowns than equations: not all need be nothing. -/
theorem dep : ∀ (m n : Nat), m < n → ∀ A : Nat → Nat → Nat, ∃ x : Nat → Nat, (∀ i, x i < 256) ∧ (∃ i, i < n ∧ x i ≠ 0) ∧ ∀ j, j < m → dots (A j) x n = 0
  | 0, n, h, _ => ⟨fun i => if i = 0 then 1 else 0, fun i => by show (if i = 0 then 1 else 0) < 256; split <;> omega, ⟨0, h, by simp⟩, fun j hj => by omega⟩
  | m + 1, 0, h, _ => by omega
  | m + 1, n + 1, h, A => by
    by_cases hz : ∀ j, j < m + 1 → A j n % 256 = 0
    · refine ⟨fun i => if i = n then 1 else 0, fun i => by show (if i = n then 1 else 0) < 256; split <;> omega, ⟨n, by omega, by simp⟩, fun j hj => ?_⟩
      refine xs_none _ (fun i hi => ?_)
      show mu (A j i) (if i = n then 1 else 0) = 0
      by_cases e : i = n
      · rw [if_pos e, e]; unfold mu; rw [hz j hj]; exact zero_gm _
      · rw [if_neg e, mu_zero]
    · obtain ⟨j0, hj0, hp⟩ : ∃ j, j < m + 1 ∧ A j n % 256 ≠ 0 := Classical.byContradiction fun g => hz fun j hj => Classical.byContradiction fun e => g ⟨j, hj, e⟩
      obtain ⟨p, hpd⟩ : ∃ p, p = A j0 n % 256 := ⟨_, rfl⟩
      rw [← hpd] at hp
      have lp : p < 256 := by rw [hpd]; exact m256 _
      have hmu : ∀ y, mu (A j0 n) y = mu p y := fun y => by unfold mu; rw [hpd, Nat.mod_mod]
      have hinv : mu (gi p) p = 1 := by rw [mu_comm]; exact mu_gi lp hp
      obtain ⟨x, hx, ⟨i1, hi1, hne⟩, hB⟩ := dep m n (by omega) (fun j i => A (if j = j0 then m else j) i ^^^ mu (mu (A (if j = j0 then m else j) n) (gi p)) (A j0 i))
      obtain ⟨S, hS⟩ : ∃ S, S = dots (A j0) x n := ⟨_, rfl⟩
      have lS : S < 256 := by rw [hS]; exact dots_lt _ _ _
      have ext : ∀ a : Nat → Nat, dots a (fun i => if i = n then mu (gi p) S else x i) (n + 1) = dots a x n ^^^ mu (a n) (mu (gi p) S) := fun a => by
        show dots a (fun i => if i = n then mu (gi p) S else x i) n ^^^ mu (a n) (if n = n then mu (gi p) S else x n) = _
        rw [if_pos rfl]
        congr 1
        exact dots_congr n (fun _ _ => rfl) (fun i hi => if_neg (by omega))
      refine ⟨fun i => if i = n then mu (gi p) S else x i, fun i => (by show (if i = n then mu (gi p) S else x i) < 256; split <;> first | exact mu_lt _ _ | exact hx i), ⟨i1, by omega, by show (if i1 = n then _ else x i1) ≠ 0; rw [if_neg (by omega)]; exact hne⟩, fun j hj => ?_⟩
      rw [ext]
      by_cases e : j = j0
      · rw [e, hmu, mu_assoc, mu_comm p, hinv, one_mu lS, ← hS, Nat.xor_self]
      · have key : ∀ j', j' < m → (if j' = j0 then m else j') = j → dots (A j) x n ^^^ mu (A j n) (mu (gi p) S) = 0 := fun j' hj' hjj => by
          have hb := hB j' hj'
          rw [hjj] at hb
          rw [dots_xor, dots_mu, ← hS, ← mu_assoc] at hb
          exact hb
        by_cases g : j = m
        · exact key j0 (by omega) (by rw [if_pos rfl]; exact g.symm)
        · exact key j (by omega) (if_neg e)
/-- A vector is a sum of others, each times something. -/
def InSpan (V : Nat → Nat → Nat) (m C : Nat) (v : Nat → Nat) : Prop := ∃ c : Nat → Nat, ∀ k, k < C → v k = dots c (fun i => V i k) m
/-- None of them is a sum of the others. -/
def Indep (U : Nat → Nat → Nat) (n C : Nat) : Prop := ∀ c : Nat → Nat, (∀ i, c i < 256) → (∀ k, k < C → dots c (fun i => U i k) n = 0) → ∀ i, i < n → c i = 0
theorem dots_dots (c : Nat → Nat) (a : Nat → Nat → Nat) (V : Nat → Nat) (n m : Nat) : dots c (fun i => dots (a i) V m) n = dots (fun j => dots c (fun i => a i j) n) V m := by
  unfold dots
  have e : (fun i => mu (c i) (xs (fun j => mu (a i j) (V j)) m)) = fun i => xs (fun j => mu (mu (c i) (a i j)) (V j)) m := by
    funext i; rw [mu_xs]; exact xs_congr m (fun j _ => mu_assoc _ _ _)
  rw [e, xs_swap]
  refine xs_congr m (fun j _ => ?_)
  rw [mu_comm (xs _ n) (V j), mu_xs]
  exact xs_congr n (fun i _ => mu_comm _ _)
theorem InSpan.trans {V W : Nat → Nat → Nat} {m p C : Nat} {v : Nat → Nat} (h : InSpan V m C v) (hV : ∀ j, j < m → InSpan W p C (V j)) : InSpan W p C v := by
  obtain ⟨c, hc⟩ := h
  have hV' : ∀ j, ∃ a : Nat → Nat, j < m → ∀ k, k < C → V j k = dots a (fun i => W i k) p := fun j => by
    by_cases g : j < m
    · obtain ⟨a, ha⟩ := hV j g; exact ⟨a, fun _ => ha⟩
    · exact ⟨fun _ => 0, fun e => absurd e g⟩
  obtain ⟨a, ha⟩ := Classical.axiomOfChoice hV'
  refine ⟨fun l => dots c (fun j => a j l) m, fun k hk => ?_⟩
  rw [hc k hk, ← dots_dots]
  exact dots_congr m (fun _ _ => rfl) (fun j hj => ha j hj k hk)
theorem InSpan.own (V : Nat → Nat → Nat) (hV : ∀ i k, V i k < 256) {m C i : Nat} (h : i < m) : InSpan V m C (V i) :=
  ⟨fun j => if j = i then 1 else 0, fun k _ => by
    show _ = xs _ m
    rw [xs_one i m h (fun j _ hj => by show mu (if j = i then 1 else 0) _ = 0; rw [if_neg hj, zero_mu])]
    show _ = mu (if i = i then 1 else 0) (V i k)
    rw [if_pos rfl, one_mu (hV i k)]⟩
/-- No more are independent than they are made of. -/
theorem indep_le {U V : Nat → Nat → Nat} {n m C : Nat} (hU : Indep U n C) (h : ∀ i, i < n → InSpan V m C (U i)) : n ≤ m := by
  refine Classical.byContradiction fun g => ?_
  have h' : ∀ i, ∃ a : Nat → Nat, i < n → ∀ k, k < C → U i k = dots a (fun j => V j k) m := fun i => by
    by_cases g : i < n
    · obtain ⟨a, ha⟩ := h i g; exact ⟨a, fun _ => ha⟩
    · exact ⟨fun _ => 0, fun e => absurd e g⟩
  obtain ⟨a, ha⟩ := Classical.axiomOfChoice h'
  obtain ⟨x, hx, ⟨i, hi, hne⟩, hz⟩ := dep m n (by omega) (fun j i => a i j)
  refine hne (hU x hx (fun k hk => ?_) i hi)
  rw [dots_congr n (fun _ _ => rfl) (fun i hi => ha i hi k hk), dots_dots]
  refine xs_none m (fun j hj => ?_)
  show mu (dots x (fun i => a i j) n) (V j k) = 0
  rw [dots_comm, hz j hj, zero_mu]
/-- So many of a matrix's rows, and no more, are independent. -/
def RankIs (M : Nat → Nat → Nat) (R C n : Nat) : Prop := ∃ U : Nat → Nat → Nat, Indep U n C ∧ (∀ i, i < n → InSpan M R C (U i)) ∧ ∀ i, i < R → InSpan U n C (M i)
theorem RankIs.only {M : Nat → Nat → Nat} {R C n n' : Nat} (h : RankIs M R C n) (h' : RankIs M R C n') : n = n' := by
  obtain ⟨U, a, b, c⟩ := h
  obtain ⟨U', a', b', c'⟩ := h'
  exact Nat.le_antisymm (indep_le a (fun i hi => (b i hi).trans c')) (indep_le a' (fun i hi => (b' i hi).trans c))
theorem RankIs.rows {M : Nat → Nat → Nat} {R C n : Nat} (h : RankIs M R C n) : n ≤ R := by
  obtain ⟨U, a, b, _⟩ := h
  exact indep_le a b
/-- Rows that each have a place where the rows behind them have nothing. -/
theorem indep_steps {U : Nat → Nat → Nat} {n C : Nat} (hU : ∀ i k, U i k < 256) (p : Nat → Nat) (hp : ∀ i, i < n → p i < C ∧ U i (p i) ≠ 0) (hz : ∀ i j, i < j → j < n → U j (p i) = 0) : Indep U n C := by
  intro c hc h i
  induction i using Nat.strongRecOn with
  | ind i ih =>
    intro hi
    have h1 := h (p i) (hp i hi).1
    unfold dots at h1
    rw [xs_one i n hi (fun j hj hne => by
      rcases Nat.lt_or_gt_of_ne hne with g | g
      · rw [ih j g hj, zero_mu]
      · show mu (c j) (U j (p i)) = 0
        rw [hz i j g hj, mu_zero])] at h1
    exact Classical.byContradiction fun g => mu_ne (hc i) (hU i _) g (hp i hi).2 h1
theorem RankIs.cols {M : Nat → Nat → Nat} {R C n : Nat} (hM : ∀ i k, M i k < 256) (h : RankIs M R C n) : n ≤ C := by
  obtain ⟨U, a, b, _⟩ := h
  refine indep_le (V := fun j k => if k = j then 1 else 0) a (fun i hi => ?_)
  refine (b i hi).trans (fun j _ => ⟨M j, fun k hk => ?_⟩)
  show _ = xs _ C
  rw [xs_one k C hk (fun l _ hl => by show mu (M j l) (if k = l then 1 else 0) = 0; rw [if_neg (fun e => hl e.symm), mu_zero])]
  show _ = mu (M j k) (if k = k then 1 else 0)
  rw [if_pos rfl, mu_one (hM j k)]
/-- What is inverted from one side is from the other one. -/
theorem left_right {A V : Nat → Nat → Nat} {N : Nat} (hA : ∀ i k, A i k < 256) (h : ∀ i k, i < N → k < N → dots (V i) (fun j => A j k) N = if i = k then 1 else 0) :
    ∀ i k, i < N → k < N → dots (A i) (fun j => V j k) N = if i = k then 1 else 0 := by
  -- the rows of A are independent
  have ker : ∀ c : Nat → Nat, (∀ i, c i < 256) → (∀ k, k < N → dots c (fun j => A j k) N = 0) → ∀ i, i < N → c i = 0 := by
    intro c hc hz i hi
    obtain ⟨x, hx, ⟨i1, hi1, hne⟩, hd⟩ := dep N (N + 1) (by omega) (fun k i => if i = N then c k else V i k)
    have hd' : ∀ k, k < N → dots x (fun i => V i k) N ^^^ mu (c k) (x N) = 0 := fun k hk => by
      have := hd k hk
      have e : dots (fun i => if i = N then c k else V i k) x (N + 1) = dots (fun i => V i k) x N ^^^ mu (c k) (x N) := by
        show dots (fun i => if i = N then c k else V i k) x N ^^^ mu (if N = N then c k else V N k) (x N) = _
        rw [if_pos rfl]
        congr 1
        exact dots_congr N (fun i hi => if_neg (by omega)) (fun _ _ => rfl)
      rw [e, dots_comm] at this
      exact this
    have hxl : ∀ l, l < N → x l = 0 := fun l hl => by
      -- times A
      have e1 : dots (fun k => dots x (fun i => V i k) N ^^^ mu (c k) (x N)) (fun k => A k l) N = 0 :=
        xs_none N (fun k hk => by show mu (_ ^^^ _) _ = 0; rw [hd' k hk, zero_mu])
      rw [dots_xor] at e1
      have e2 : dots (fun k => dots x (fun i => V i k) N) (fun k => A k l) N = x l := by
        rw [← dots_dots]
        show xs _ N = _
        rw [xs_one l N hl (fun i hi' hne => by show mu (x i) (dots (V i) (fun k => A k l) N) = 0; rw [h i l hi' hl, if_neg hne, mu_zero])]
        show mu (x l) (dots (V l) (fun k => A k l) N) = x l
        rw [h l l hl hl, if_pos rfl, mu_one (hx l)]
      have e3 : dots (fun k => mu (c k) (x N)) (fun k => A k l) N = 0 := by
        have : dots (fun k => mu (c k) (x N)) (fun k => A k l) N = mu (x N) (dots c (fun k => A k l) N) := by
          rw [← dots_mu]; exact dots_congr N (fun k _ => mu_comm _ _) (fun _ _ => rfl)
        rw [this, hz l hl, mu_zero]
      rw [e2, e3, Nat.xor_zero] at e1
      exact e1
    have hxN : x N ≠ 0 := fun e => by
      by_cases g : i1 = N
      · rw [g] at hne; exact hne e
      · exact hne (hxl i1 (by omega))
    have h2 := hd' i hi
    have e0 : dots x (fun j => V j i) N = 0 := xs_none N (fun j hj => by show mu (x j) _ = 0; rw [hxl j hj, zero_mu])
    rw [e0, Nat.zero_xor] at h2
    exact Classical.byContradiction fun g => mu_ne (hc i) (hx N) g hxN h2
  intro i k hi hk
  have hD := ker (fun j => dots (A i) (fun l => V l j) N ^^^ (if i = j then 1 else 0)) (fun j => xor_lt (dots_lt _ _ _) (by split <;> omega)) (fun c hc => by
    rw [dots_xor, ← dots_dots]
    have e1 : dots (A i) (fun l => dots (V l) (fun j => A j c) N) N = A i c := by
      show xs _ N = _
      rw [xs_one c N hc (fun l hl hne => by show mu (A i l) (dots (V l) (fun j => A j c) N) = 0; rw [h l c hl hc, if_neg hne, mu_zero])]
      show mu (A i c) (dots (V c) (fun j => A j c) N) = A i c
      rw [h c c hc hc, if_pos rfl, mu_one (hA i c)]
    have e2 : dots (fun j => if i = j then 1 else 0) (fun j => A j c) N = A i c := by
      show xs _ N = _
      rw [xs_one i N hi (fun j _ hne => by show mu (if i = j then 1 else 0) _ = 0; rw [if_neg (fun e => hne e.symm), zero_mu])]
      show mu (if i = i then 1 else 0) (A i c) = A i c
      rw [if_pos rfl, one_mu (hA i c)]
    rw [e1, e2, Nat.xor_self]) k hk
  have := xor_back (dots (A i) (fun l => V l k) N) (if i = k then 1 else 0)
  rw [hD, Nat.zero_xor] at this
  exact this.symm
end Go.Proofs.Ytipaolkgafhliaa
