/-
  Own text: polynomials over the field as functions of the place: sums, products, values, degrees. Plain arithmetic.
    linear equations over the field, independence, rank, inverses of one side. Plain arithmetic.
    a polynomial that is 0 at as many places as it has coefficients is 0; rows of powers. Plain arithmetic.
    weights of interpolation, plain: a polynomial of a degree below k is known by its values at k different places.
    the plain arithmetic of the code: a polynomial through given values, the rows of weights, their inverses.
    rows are added to one another until each of the first ones has a place where those behind it have nothing: plain.
-/
import Derived.Test.YtjcbcdjfhcnhcaaK01
namespace Go.Proofs.Ytjcbcdjfhcnhcaa
open Go.RowKit

/-- The product, of any two numbers. -/
def mu (a b : Nat) : Nat := gm (a % 256) (b % 256)
theorem m256 (a : Nat) : a % 256 < 256 := Nat.mod_lt _ (by omega)
theorem xor_m (a b : Nat) : (a ^^^ b) % 256 = (a % 256) ^^^ (b % 256) := by have := @Nat.xor_mod_two_pow a b 8; simpa using this
theorem xor_lt {a b : Nat} (ha : a < 256) (hb : b < 256) : a ^^^ b < 256 := Nat.xor_lt_two_pow (n := 8) (by omega) (by omega)
theorem mu_eq {a b : Nat} (ha : a < 256) (hb : b < 256) : mu a b = gm a b := by unfold mu; rw [Nat.mod_eq_of_lt ha, Nat.mod_eq_of_lt hb]
theorem mu_lt (a b : Nat) : mu a b < 256 := gm_lt (m256 a) (m256 b)
theorem mu_comm (a b : Nat) : mu a b = mu b a := gm_comm (m256 a) (m256 b)
theorem mu_assoc (a b c : Nat) : mu a (mu b c) = mu (mu a b) c := by
  unfold mu
  rw [Nat.mod_eq_of_lt (gm_lt (m256 b) (m256 c)), Nat.mod_eq_of_lt (gm_lt (m256 a) (m256 b))]
  exact gm_assoc (m256 a) (m256 b) (m256 c)
theorem mu_left (a b c : Nat) : mu (a ^^^ b) c = mu a c ^^^ mu b c := by unfold mu; rw [xor_m, gm_left]
theorem mu_right (a b c : Nat) : mu a (b ^^^ c) = mu a b ^^^ mu a c := by unfold mu; rw [xor_m, gm_right]
theorem zero_mu (b : Nat) : mu 0 b = 0 := by unfold mu; exact zero_gm _
theorem mu_zero (a : Nat) : mu a 0 = 0 := by unfold mu; exact gm_zero _
theorem mu_one {a : Nat} (ha : a < 256) : mu a 1 = a := by rw [mu_eq ha (by omega)]; exact gm_one a ha
theorem one_mu {a : Nat} (ha : a < 256) : mu 1 a = a := by rw [mu_comm]; exact mu_one ha
theorem mu_ne {a b : Nat} (ha : a < 256) (hb : b < 256) (h0 : a ≠ 0) (h1 : b ≠ 0) : mu a b ≠ 0 := by rw [mu_eq ha hb]; exact gm_ne ha hb h0 h1
theorem mu_gi {a : Nat} (ha : a < 256) (h0 : a ≠ 0) : mu a (gi a) = 1 := by rw [mu_eq ha (gi_lt a)]; exact gm_gi ha h0
theorem xor_back (a b : Nat) : a ^^^ b ^^^ b = a := by rw [Nat.xor_assoc, Nat.xor_self, Nat.xor_zero]

/-- A sum of the first n. -/
def xs (f : Nat → Nat) : Nat → Nat
  | 0 => 0
  | n + 1 => xs f n ^^^ f n
theorem xs_lt (f : Nat → Nat) (h : ∀ i, f i < 256) : ∀ n, xs f n < 256
  | 0 => by show 0 < 256; omega
  | n + 1 => xor_lt (xs_lt f h n) (h n)
theorem xs_congr {f g : Nat → Nat} : ∀ n, (∀ i, i < n → f i = g i) → xs f n = xs g n
  | 0, _ => rfl
  | n + 1, h => by unfold xs; rw [xs_congr n (fun i hi => h i (by omega)), h n (by omega)]
theorem xs_none {f : Nat → Nat} : ∀ n, (∀ i, i < n → f i = 0) → xs f n = 0
  | 0, _ => rfl
  | n + 1, h => by unfold xs; rw [xs_none n (fun i hi => h i (by omega)), h n (by omega)]; rfl
theorem xs_xor (f g : Nat → Nat) : ∀ n, xs (fun i => f i ^^^ g i) n = xs f n ^^^ xs g n
  | 0 => by simp [xs]
  | n + 1 => by unfold xs; rw [xs_xor f g n]; exact xor_swap _ _ _ _
theorem mu_xs (c : Nat) (f : Nat → Nat) : ∀ n, mu c (xs f n) = xs (fun i => mu c (f i)) n
  | 0 => mu_zero c
  | n + 1 => by unfold xs; rw [mu_right, mu_xs c f n]
theorem xs_front (f : Nat → Nat) : ∀ n, xs f (n + 1) = f 0 ^^^ xs (fun i => f (i + 1)) n
  | 0 => by simp [xs]
  | n + 1 => by
    have h := xs_front f n
    show xs f (n + 1) ^^^ f (n + 1) = f 0 ^^^ (xs (fun i => f (i + 1)) n ^^^ f (n + 1))
    rw [h, Nat.xor_assoc]
theorem xs_one {f : Nat → Nat} (j : Nat) : ∀ n, j < n → (∀ i, i < n → i ≠ j → f i = 0) → xs f n = f j
  | 0, h, _ => by omega
  | n + 1, h, hz => by
    unfold xs
    by_cases e : j = n
    · subst e; rw [xs_none j (fun i hi => hz i (by omega) (by omega))]; exact Nat.zero_xor _
    · rw [xs_one j n (by omega) (fun i hi hne => hz i (by omega) hne), hz n (by omega) (by omega)]; exact Nat.xor_zero _

/-- The product of two polynomials. -/
def conv (f g : Nat → Nat) (n : Nat) : Nat := xs (fun i => mu (f i) (g (n - i))) (n + 1)
theorem conv_lt (f g : Nat → Nat) (n : Nat) : conv f g n < 256 := xs_lt _ (fun _ => mu_lt _ _) _
theorem conv_at (f g : Nat → Nat) (n : Nat) : conv f g (n + 1) = mu (f 0) (g (n + 1)) ^^^ conv (fun i => f (i + 1)) g n := by
  unfold conv
  rw [xs_front]
  exact congrArg _ (xs_congr _ (fun i _ => by show mu (f (i + 1)) (g (n + 1 - (i + 1))) = _; rw [show n + 1 - (i + 1) = n - i by omega]))
theorem conv_at0 (f g : Nat → Nat) : conv f g 0 = mu (f 0) (g 0) := by unfold conv; show 0 ^^^ _ = _; exact Nat.zero_xor _
theorem conv_split (f g : Nat → Nat) (n : Nat) : conv f g n = mu (f 0) (g n) ^^^ (match n with | 0 => 0 | m + 1 => conv (fun i => f (i + 1)) g m) := by
  cases n with
  | zero => rw [conv_at0, Nat.xor_zero]
  | succ m => exact conv_at f g m
/-- No coefficient from a place on. -/
def Sup (f : Nat → Nat) (N : Nat) : Prop := ∀ i, N ≤ i → f i = 0
theorem Sup.mono {f : Nat → Nat} {N M : Nat} (h : Sup f N) (hM : N ≤ M) : Sup f M := fun i hi => h i (by omega)
theorem conv_sup {f g : Nat → Nat} {N M : Nat} (hf : Sup f (N + 1)) (hg : Sup g (M + 1)) : Sup (conv f g) (N + M + 1) := fun i hi => by
  unfold conv
  refine xs_none _ (fun j hj => ?_)
  by_cases e : N + 1 ≤ j
  · rw [hf j e, zero_mu]
  · rw [hg (i - j) (by omega), mu_zero]
theorem conv_null {f g : Nat → Nat} (hf : ∀ i, f i = 0) (n : Nat) : conv f g n = 0 := by unfold conv; exact xs_none _ (fun i _ => by rw [hf, zero_mu])
/-- The value at x, of the first N coefficients. -/
def ev (x : Nat) : (Nat → Nat) → Nat → Nat
  | _, 0 => 0
  | f, N + 1 => f 0 ^^^ mu x (ev x (fun i => f (i + 1)) N)
theorem ev_succ (x : Nat) (f : Nat → Nat) (N : Nat) : ev x f (N + 1) = f 0 ^^^ mu x (ev x (fun i => f (i + 1)) N) := rfl
theorem ev_lt (x : Nat) (f : Nat → Nat) (h : ∀ i, f i < 256) (N : Nat) : ev x f N < 256 := by
  cases N with
  | zero => unfold ev; omega
  | succ N => unfold ev; exact xor_lt (h 0) (mu_lt _ _)
theorem ev_congr (x : Nat) : ∀ (N : Nat) {f g : Nat → Nat}, (∀ i, i < N → f i = g i) → ev x f N = ev x g N
  | 0, _, _, _ => rfl
  | N + 1, f, g, h => by unfold ev; rw [h 0 (by omega), ev_congr x N (fun i hi => h (i + 1) (by omega))]
theorem ev_null (x : Nat) : ∀ (N : Nat) {f : Nat → Nat}, (∀ i, i < N → f i = 0) → ev x f N = 0
  | 0, _, _ => rfl
  | N + 1, f, h => by unfold ev; rw [h 0 (by omega), ev_null x N (fun i hi => h (i + 1) (by omega)), mu_zero]; rfl
theorem ev_xor (x : Nat) : ∀ (N : Nat) (f g : Nat → Nat), ev x (fun i => f i ^^^ g i) N = ev x f N ^^^ ev x g N
  | 0, _, _ => by simp [ev]
  | N + 1, f, g => by unfold ev; rw [ev_xor x N, mu_right]; exact xor_swap _ _ _ _
theorem ev_scale (x c : Nat) : ∀ (N : Nat) (f : Nat → Nat), ev x (fun i => mu c (f i)) N = mu c (ev x f N)
  | 0, _ => (mu_zero c).symm
  | N + 1, f => by unfold ev; rw [ev_scale x c N, mu_right, mu_assoc, mu_comm x c, ← mu_assoc]
theorem ev_more (x : Nat) : ∀ (N k : Nat) {f : Nat → Nat}, Sup f N → ev x f (N + k) = ev x f N
  | 0, k, f, h => by rw [ev_null x _ (fun i _ => h i (by omega))]; rfl
  | N + 1, k, f, h => by
    rw [show N + 1 + k = (N + k) + 1 by omega]
    unfold ev
    rw [ev_more x N k (f := fun i => f (i + 1)) (fun i hi => h (i + 1) (by omega))]
theorem ev_any {x N M : Nat} {f : Nat → Nat} (hN : Sup f N) (hM : Sup f M) : ev x f N = ev x f M := by
  rw [← ev_more x N M hN, ← ev_more x M N hM, Nat.add_comm]
theorem ev_conv (x M : Nat) {g : Nat → Nat} (hg : Sup g M) : ∀ (N : Nat) {f : Nat → Nat}, Sup f N → ev x (conv f g) (N + M) = mu (ev x f N) (ev x g M)
  | 0, f, h => by rw [ev_null x _ (fun i _ => conv_null (fun i => h i (by omega)) i)]; exact (zero_mu _).symm
  | N + 1, f, h => by
    have e : ev x (conv f g) (N + 1 + M) = ev x (fun i => mu (f 0) (g i) ^^^ (match i with | 0 => 0 | m + 1 => conv (fun i => f (i + 1)) g m)) (N + 1 + M) :=
      ev_congr x _ (fun i _ => conv_split f g i)
    rw [e, ev_xor, ev_scale, ev_any (hg.mono (by omega)) hg, show N + 1 + M = (N + M) + 1 by omega]
    have e2 : ev x (fun i => match i with | 0 => 0 | m + 1 => conv (fun i => f (i + 1)) g m) ((N + M) + 1) = mu x (ev x (conv (fun i => f (i + 1)) g) (N + M)) := by
      rw [ev_succ]
      exact Nat.zero_xor _
    rw [e2, ev_conv x M hg N (f := fun i => f (i + 1)) (fun i hi => h (i + 1) (by omega))]
    rw [ev_succ, mu_left, mu_assoc]
/-- A power. -/
def pwr (x : Nat) : Nat → Nat
  | 0 => 1
  | n + 1 => mu (pwr x n) x
theorem pwr_lt (x : Nat) : ∀ n, pwr x n < 256
  | 0 => by unfold pwr; omega
  | n + 1 => mu_lt _ _
theorem ev_powers (x : Nat) : ∀ (N : Nat) (f : Nat → Nat), (∀ i, f i < 256) → xs (fun i => mu (f i) (pwr x i)) N = ev x f N
  | 0, _, _ => rfl
  | N + 1, f, h => by
    rw [xs_front]
    unfold ev
    rw [← ev_powers x N (fun i => f (i + 1)) (fun i => h (i + 1)), mu_xs]
    show mu (f 0) 1 ^^^ _ = _
    rw [mu_one (h 0)]
    congr 1
    exact xs_congr _ (fun i _ => by show mu (f (i + 1)) (mu (pwr x i) x) = _; rw [mu_assoc, mu_comm _ x])
end Go.Proofs.Ytjcbcdjfhcnhcaa
namespace Go.Proofs.Ytjcbcdjfhcnhcaa
open Go.RowKit

/-- A sum of products. -/
def dots (a x : Nat → Nat) (n : Nat) : Nat := xs (fun i => mu (a i) (x i)) n
theorem dots_lt (a x : Nat → Nat) (n : Nat) : dots a x n < 256 := xs_lt _ (fun _ => mu_lt _ _) n
theorem dots_congr {a b x y : Nat → Nat} (n : Nat) (ha : ∀ i, i < n → a i = b i) (hx : ∀ i, i < n → x i = y i) : dots a x n = dots b y n :=
  xs_congr n (fun i hi => by show mu (a i) (x i) = mu (b i) (y i); rw [ha i hi, hx i hi])
theorem dots_comm (a x : Nat → Nat) (n : Nat) : dots a x n = dots x a n := xs_congr n (fun _ _ => mu_comm _ _)
theorem dots_xor (a b x : Nat → Nat) (n : Nat) : dots (fun i => a i ^^^ b i) x n = dots a x n ^^^ dots b x n := by
  unfold dots; rw [← xs_xor]; exact xs_congr n (fun i _ => mu_left _ _ _)
theorem dots_mu (c : Nat) (a x : Nat → Nat) (n : Nat) : dots (fun i => mu c (a i)) x n = mu c (dots a x n) := by
  unfold dots; rw [mu_xs]; exact xs_congr n (fun i _ => (mu_assoc _ _ _).symm)
theorem xs_swap (f : Nat → Nat → Nat) (m : Nat) : ∀ n, xs (fun i => xs (f i) m) n = xs (fun j => xs (fun i => f i j) n) m
  | 0 => (xs_none m (fun _ _ => rfl)).symm
  | n + 1 => by
    show xs (fun i => xs (f i) m) n ^^^ xs (f n) m = _
    rw [xs_swap f m n, ← xs_xor]
    rfl
/-- More unknowns than equations: not all need be nothing. -/
theorem dep : ∀ (m n : Nat), m < n → ∀ A : Nat → Nat → Nat, ∃ x : Nat → Nat, (∀ i, x i < 256) ∧ (∃ i, i < n ∧ x i ≠ 0) ∧ ∀ j, j < m → dots (A j) x n = 0
  | 0, n, h, _ => ⟨fun i => if i = 0 then 1 else 0, fun i => by show (if i = 0 then 1 else 0) < 256; split <;> omega, ⟨0, h, by simp⟩, fun j hj => by omega⟩
  | m + 1, 0, h, _ => by omega
  | m + 1, n + 1, h, A => by
    by_cases hz : ∀ j, j < m + 1 → A j n % 256 = 0
    · refine ⟨fun i => if i = n then 1 else 0, fun i => by show (if i = n then 1 else 0) < 256; split <;> omega, ⟨n, by omega, by simp⟩, fun j hj => ?_⟩
      refine xs_none _ (fun i hi => ?_)
      show mu (A j i) (if i = n then 1 else 0) = 0
      by_cases e : i = n
      · rw [if_pos e, e]; unfold mu; rw [hz j hj]; exact zero_gm _
      · rw [if_neg e, mu_zero]
    · obtain ⟨j0, hj0, hp⟩ : ∃ j, j < m + 1 ∧ A j n % 256 ≠ 0 := Classical.byContradiction fun g => hz fun j hj => Classical.byContradiction fun e => g ⟨j, hj, e⟩
      obtain ⟨p, hpd⟩ : ∃ p, p = A j0 n % 256 := ⟨_, rfl⟩
      rw [← hpd] at hp
      have lp : p < 256 := by rw [hpd]; exact m256 _
      have hmu : ∀ y, mu (A j0 n) y = mu p y := fun y => by unfold mu; rw [hpd, Nat.mod_mod]
      have hinv : mu (gi p) p = 1 := by rw [mu_comm]; exact mu_gi lp hp
      obtain ⟨x, hx, ⟨i1, hi1, hne⟩, hB⟩ := dep m n (by omega) (fun j i => A (if j = j0 then m else j) i ^^^ mu (mu (A (if j = j0 then m else j) n) (gi p)) (A j0 i))
      obtain ⟨S, hS⟩ : ∃ S, S = dots (A j0) x n := ⟨_, rfl⟩
      have lS : S < 256 := by rw [hS]; exact dots_lt _ _ _
      have ext : ∀ a : Nat → Nat, dots a (fun i => if i = n then mu (gi p) S else x i) (n + 1) = dots a x n ^^^ mu (a n) (mu (gi p) S) := fun a => by
        show dots a (fun i => if i = n then mu (gi p) S else x i) n ^^^ mu (a n) (if n = n then mu (gi p) S else x n) = _
        rw [if_pos rfl]
        congr 1
        exact dots_congr n (fun _ _ => rfl) (fun i hi => if_neg (by omega))
      refine ⟨fun i => if i = n then mu (gi p) S else x i, fun i => (by show (if i = n then mu (gi p) S else x i) < 256; split <;> first | exact mu_lt _ _ | exact hx i), ⟨i1, by omega, by show (if i1 = n then _ else x i1) ≠ 0; rw [if_neg (by omega)]; exact hne⟩, fun j hj => ?_⟩
      rw [ext]
      by_cases e : j = j0
      · rw [e, hmu, mu_assoc, mu_comm p, hinv, one_mu lS, ← hS, Nat.xor_self]
      · have key : ∀ j', j' < m → (if j' = j0 then m else j') = j → dots (A j) x n ^^^ mu (A j n) (mu (gi p) S) = 0 := fun j' hj' hjj => by
          have hb := hB j' hj'
          rw [hjj] at hb
          rw [dots_xor, dots_mu, ← hS, ← mu_assoc] at hb
          exact hb
        by_cases g : j = m
        · exact key j0 (by omega) (by rw [if_pos rfl]; exact g.symm)
        · exact key j (by omega) (if_neg e)
/-- A vector is a sum of others, each times something. -/
def InSpan (V : Nat → Nat → Nat) (m C : Nat) (v : Nat → Nat) : Prop := ∃ c : Nat → Nat, ∀ k, k < C → v k = dots c (fun i => V i k) m
/-- None of them is a sum of the others. -/
def Indep (U : Nat → Nat → Nat) (n C : Nat) : Prop := ∀ c : Nat → Nat, (∀ i, c i < 256) → (∀ k, k < C → dots c (fun i => U i k) n = 0) → ∀ i, i < n → c i = 0
theorem dots_dots (c : Nat → Nat) (a : Nat → Nat → Nat) (V : Nat → Nat) (n m : Nat) : dots c (fun i => dots (a i) V m) n = dots (fun j => dots c (fun i => a i j) n) V m := by
  unfold dots
  have e : (fun i => mu (c i) (xs (fun j => mu (a i j) (V j)) m)) = fun i => xs (fun j => mu (mu (c i) (a i j)) (V j)) m := by
    funext i; rw [mu_xs]; exact xs_congr m (fun j _ => mu_assoc _ _ _)
  rw [e, xs_swap]
  refine xs_congr m (fun j _ => ?_)
  rw [mu_comm (xs _ n) (V j), mu_xs]
  exact xs_congr n (fun i _ => mu_comm _ _)
theorem InSpan.trans {V W : Nat → Nat → Nat} {m p C : Nat} {v : Nat → Nat} (h : InSpan V m C v) (hV : ∀ j, j < m → InSpan W p C (V j)) : InSpan W p C v := by
  obtain ⟨c, hc⟩ := h
  have hV' : ∀ j, ∃ a : Nat → Nat, j < m → ∀ k, k < C → V j k = dots a (fun i => W i k) p := fun j => by
    by_cases g : j < m
    · obtain ⟨a, ha⟩ := hV j g; exact ⟨a, fun _ => ha⟩
    · exact ⟨fun _ => 0, fun e => absurd e g⟩
  obtain ⟨a, ha⟩ := Classical.axiomOfChoice hV'
  refine ⟨fun l => dots c (fun j => a j l) m, fun k hk => ?_⟩
  rw [hc k hk, ← dots_dots]
  exact dots_congr m (fun _ _ => rfl) (fun j hj => ha j hj k hk)
theorem InSpan.own (V : Nat → Nat → Nat) (hV : ∀ i k, V i k < 256) {m C i : Nat} (h : i < m) : InSpan V m C (V i) :=
  ⟨fun j => if j = i then 1 else 0, fun k _ => by
    show _ = xs _ m
    rw [xs_one i m h (fun j _ hj => by show mu (if j = i then 1 else 0) _ = 0; rw [if_neg hj, zero_mu])]
    show _ = mu (if i = i then 1 else 0) (V i k)
    rw [if_pos rfl, one_mu (hV i k)]⟩
/-- No more are independent than they are made of. -/
theorem indep_le {U V : Nat → Nat → Nat} {n m C : Nat} (hU : Indep U n C) (h : ∀ i, i < n → InSpan V m C (U i)) : n ≤ m := by
  refine Classical.byContradiction fun g => ?_
  have h' : ∀ i, ∃ a : Nat → Nat, i < n → ∀ k, k < C → U i k = dots a (fun j => V j k) m := fun i => by
    by_cases g : i < n
    · obtain ⟨a, ha⟩ := h i g; exact ⟨a, fun _ => ha⟩
    · exact ⟨fun _ => 0, fun e => absurd e g⟩
  obtain ⟨a, ha⟩ := Classical.axiomOfChoice h'
  obtain ⟨x, hx, ⟨i, hi, hne⟩, hz⟩ := dep m n (by omega) (fun j i => a i j)
  refine hne (hU x hx (fun k hk => ?_) i hi)
  rw [dots_congr n (fun _ _ => rfl) (fun i hi => ha i hi k hk), dots_dots]
  refine xs_none m (fun j hj => ?_)
  show mu (dots x (fun i => a i j) n) (V j k) = 0
  rw [dots_comm, hz j hj, zero_mu]
/-- So many of a matrix's rows, and no more, are independent. -/
def RankIs (M : Nat → Nat → Nat) (R C n : Nat) : Prop := ∃ U : Nat → Nat → Nat, Indep U n C ∧ (∀ i, i < n → InSpan M R C (U i)) ∧ ∀ i, i < R → InSpan U n C (M i)
theorem RankIs.only {M : Nat → Nat → Nat} {R C n n' : Nat} (h : RankIs M R C n) (h' : RankIs M R C n') : n = n' := by
  obtain ⟨U, a, b, c⟩ := h
  obtain ⟨U', a', b', c'⟩ := h'
  exact Nat.le_antisymm (indep_le a (fun i hi => (b i hi).trans c')) (indep_le a' (fun i hi => (b' i hi).trans c))
theorem RankIs.rows {M : Nat → Nat → Nat} {R C n : Nat} (h : RankIs M R C n) : n ≤ R := by
  obtain ⟨U, a, b, _⟩ := h
  exact indep_le a b
/-- Rows that each have a place where the rows behind them have nothing. -/
theorem indep_steps {U : Nat → Nat → Nat} {n C : Nat} (hU : ∀ i k, U i k < 256) (p : Nat → Nat) (hp : ∀ i, i < n → p i < C ∧ U i (p i) ≠ 0) (hz : ∀ i j, i < j → j < n → U j (p i) = 0) : Indep U n C := by
  intro c hc h i
  induction i using Nat.strongRecOn with
  | ind i ih =>
    intro hi
    have h1 := h (p i) (hp i hi).1
    unfold dots at h1
    rw [xs_one i n hi (fun j hj hne => by
      rcases Nat.lt_or_gt_of_ne hne with g | g
      · rw [ih j g hj, zero_mu]
      · show mu (c j) (U j (p i)) = 0
        rw [hz i j g hj, mu_zero])] at h1
    exact Classical.byContradiction fun g => mu_ne (hc i) (hU i _) g (hp i hi).2 h1
theorem RankIs.cols {M : Nat → Nat → Nat} {R C n : Nat} (hM : ∀ i k, M i k < 256) (h : RankIs M R C n) : n ≤ C := by
  obtain ⟨U, a, b, _⟩ := h
  refine indep_le (V := fun j k => if k = j then 1 else 0) a (fun i hi => ?_)
  refine (b i hi).trans (fun j _ => ⟨M j, fun k hk => ?_⟩)
  show _ = xs _ C
  rw [xs_one k C hk (fun l _ hl => by show mu (M j l) (if k = l then 1 else 0) = 0; rw [if_neg (fun e => hl e.symm), mu_zero])]
  show _ = mu (M j k) (if k = k then 1 else 0)
  rw [if_pos rfl, mu_one (hM j k)]
end Go.Proofs.Ytjcbcdjfhcnhcaa
namespace Go.Proofs.Ytjcbcdjfhcnhcaa
open Go.RowKit

/-- The quotient by (x + r). -/
def syn (r : Nat) : (Nat → Nat) → Nat → Nat → Nat
  | _, 0, _ => 0
  | f, N + 1, 0 => ev r (fun i => f (i + 1)) N
  | f, N + 1, j + 1 => syn r (fun i => f (i + 1)) N j
theorem syn_lt (r : Nat) : ∀ (N : Nat) (f : Nat → Nat), (∀ i, f i < 256) → ∀ j, syn r f N j < 256
  | 0, _, _, _ => by unfold syn; omega
  | N + 1, f, h, 0 => by unfold syn; exact ev_lt r _ (fun i => h (i + 1)) N
  | N + 1, f, h, j + 1 => by unfold syn; exact syn_lt r N _ (fun i => h (i + 1)) j
theorem syn_shift (r : Nat) (f : Nat → Nat) (N : Nat) : (fun j => syn r f (N + 1) (j + 1)) = syn r (fun i => f (i + 1)) N := funext fun j => by rw [syn]
theorem syn_ev (r z : Nat) : ∀ (N : Nat) (f : Nat → Nat), ev z f (N + 1) = ev r f (N + 1) ^^^ mu (z ^^^ r) (ev z (syn r f (N + 1)) N)
  | 0, f => by
    rw [ev_succ, ev_succ]
    show f 0 ^^^ mu z 0 = (f 0 ^^^ mu r 0) ^^^ mu (z ^^^ r) 0
    rw [mu_zero, mu_zero, mu_zero, Nat.xor_zero, Nat.xor_zero]
  | N + 1, f => by
    rw [ev_succ z f, ev_succ r f, ev_succ z (syn r f (N + 1 + 1)), syn_shift]
    have h0 : syn r f (N + 1 + 1) 0 = ev r (fun i => f (i + 1)) (N + 1) := by rw [syn]
    rw [h0, syn_ev r z N (fun i => f (i + 1))]
    obtain ⟨E, hE⟩ : ∃ E, ev z (syn r (fun i => f (i + 1)) (N + 1)) N = E := ⟨_, rfl⟩
    obtain ⟨D, hD⟩ : ∃ D, ev r (fun i => f (i + 1)) (N + 1) = D := ⟨_, rfl⟩
    rw [hE, hD, mu_right, mu_right, mu_left z r D, mu_assoc z, mu_assoc (z ^^^ r), mu_comm z (z ^^^ r)]
    have : ∀ a b c d : Nat, a ^^^ (b ^^^ c) = a ^^^ d ^^^ ((b ^^^ d) ^^^ c) := fun a b c d => by
      rw [Nat.xor_assoc a d, Nat.xor_comm b d, Nat.xor_assoc d, ← Nat.xor_assoc d d, Nat.xor_self, Nat.zero_xor]
    exact this _ _ _ _
theorem syn_back (r : Nat) : ∀ (N : Nat) (f : Nat → Nat), ev r f (N + 1) = 0 → (∀ j, j < N → syn r f (N + 1) j = 0) → ∀ j, j < N + 1 → f j = 0
  | 0, f, h, _, j, hj => by
    obtain rfl : j = 0 := by omega
    rw [ev_succ] at h
    have : ev r (fun i => f (i + 1)) 0 = 0 := rfl
    rwa [this, mu_zero, Nat.xor_zero] at h
  | N + 1, f, h, hs, j, hj => by
    have h0 := hs 0 (by omega)
    rw [syn] at h0
    rw [ev_succ, h0, mu_zero, Nat.xor_zero] at h
    cases j with
    | zero => exact h
    | succ j => exact syn_back r N (fun i => f (i + 1)) h0 (fun j hj => by have := hs (j + 1) (by omega); rwa [syn] at this) j (by omega)
/-- As many places as coefficients: all are 0. -/
theorem roots_null : ∀ (k : Nat) (X : Nat → Nat), (∀ i, i < k → X i < 256) → (∀ i j, i < j → j < k → X i ≠ X j) → ∀ f : Nat → Nat, (∀ i, f i < 256) → (∀ i, i < k → ev (X i) f k = 0) → ∀ j, j < k → f j = 0
  | 0, _, _, _, _, _, _, j, hj => by omega
  | k + 1, X, hX, hd, f, hf, h, j, hj => by
    have hr := h k (by omega)
    refine syn_back (X k) k f hr (roots_null k X (fun i hi => hX i (by omega)) (fun i j h1 h2 => hd i j h1 (by omega)) _ (syn_lt (X k) (k + 1) f hf) (fun i hi => ?_)) j hj
    have h1 := h i (by omega)
    rw [syn_ev (X k) (X i) k f, hr, Nat.zero_xor] at h1
    refine Classical.byContradiction fun g => ?_
    refine mu_ne (xor_lt (hX i (by omega)) (hX k (by omega))) (ev_lt _ _ (syn_lt (X k) (k + 1) f hf) k) (fun e => ?_) g h1
    have := xor_back (X i) (X k)
    rw [e, Nat.zero_xor] at this
    exact hd i k hi (by omega) this.symm
/-- Any unlike rows of powers, as many as there are columns: only nothing goes to nothing. -/
theorem powers_ker {k : Nat} {X : Nat → Nat} (hX : ∀ i, i < k → X i < 256) (hd : ∀ i j, i < j → j < k → X i ≠ X j) (c : Nat → Nat) (hc : ∀ i, c i < 256) (h : ∀ i, i < k → dots (pwr (X i)) c k = 0) : ∀ j, j < k → c j = 0 :=
  roots_null k X hX hd c hc (fun i hi => by
    rw [← ev_powers (X i) k c hc]
    have := h i hi
    rw [dots_comm] at this
    exact this)
end Go.Proofs.Ytjcbcdjfhcnhcaa
namespace Go.Proofs.Ytjcbcdjfhcnhcaa

/-- What z differs by from each place but the j-th, multiplied. -/
def wup (X : Nat → Nat) (j z : Nat) : Nat → Nat
  | 0 => 1
  | n + 1 => if n = j then wup X j z n else mu (wup X j z n) (z ^^^ X n)
theorem wup_lt (X : Nat → Nat) (j z : Nat) : ∀ n, wup X j z n < 256
  | 0 => by show 1 < 256; omega
  | n + 1 => by
    unfold wup
    split
    · exact wup_lt X j z n
    · exact mu_lt _ _
theorem wup_null (X : Nat → Nat) (j t : Nat) (htj : t ≠ j) : ∀ n, t < n → wup X j (X t) n = 0
  | 0, h => absurd h (by omega)
  | n + 1, h => by
    unfold wup
    by_cases e : n = j
    · rw [if_pos e]; exact wup_null X j t htj n (by omega)
    · rw [if_neg e]
      by_cases e2 : t = n
      · rw [e2, Nat.xor_self, mu_zero]
      · rw [wup_null X j t htj n (by omega), zero_mu]
theorem xor_ne {a b : Nat} (h : a ≠ b) : a ^^^ b ≠ 0 := fun e => h (by have := xor_back a b; rw [e, Nat.zero_xor] at this; exact this.symm)
theorem wup_ne {X : Nat → Nat} (hX : ∀ i, X i < 256) (j : Nat) : ∀ n, (∀ i, i < n → i ≠ j → X j ≠ X i) → wup X j (X j) n ≠ 0
  | 0, _ => by show (1 : Nat) ≠ 0; omega
  | n + 1, h => by
    unfold wup
    have ih := wup_ne hX j n (fun i hi => h i (by omega))
    by_cases e : n = j
    · rw [if_pos e]; exact ih
    · rw [if_neg e]
      exact mu_ne (wup_lt _ _ _ _) (xor_lt (hX _) (hX _)) ih (xor_ne (h n (by omega) e))
/-- z + a, its coefficients. -/
def linp (a : Nat) (i : Nat) : Nat := if i = 0 then a else if i = 1 then 1 else 0
theorem linp_sup (a : Nat) : Sup (linp a) 2 := fun i hi => by unfold linp; rw [if_neg (by omega), if_neg (by omega)]
theorem linp_ev {z a : Nat} (hz : z < 256) : ev z (linp a) 2 = z ^^^ a := by
  rw [ev_succ, ev_succ]
  show linp a 0 ^^^ mu z (linp a 1 ^^^ mu z 0) = _
  unfold linp
  rw [if_pos rfl, if_neg (by omega), if_pos rfl, mu_zero, Nat.xor_zero, mu_one hz, Nat.xor_comm]
/-- The coefficients of that product. -/
def lco (X : Nat → Nat) (j : Nat) : Nat → Nat → Nat
  | 0 => fun i => if i = 0 then 1 else 0
  | n + 1 => if n = j then lco X j n else conv (linp (X n)) (lco X j n)
theorem lco_lt (X : Nat → Nat) (j : Nat) : ∀ n i, lco X j n i < 256
  | 0, i => by show (if i = 0 then 1 else 0) < 256; split <;> omega
  | n + 1, i => by
    unfold lco
    split
    · exact lco_lt X j n i
    · exact conv_lt _ _ _
theorem lco_sup (X : Nat → Nat) (j : Nat) : ∀ n, Sup (lco X j n) (n + 1)
  | 0 => fun i hi => by show (if i = 0 then 1 else 0) = 0; rw [if_neg (by omega)]
  | n + 1 => by
    unfold lco
    split
    · exact (lco_sup X j n).mono (by omega)
    · have := conv_sup (N := 1) (M := n) (linp_sup (X n)) (lco_sup X j n)
      rwa [show 1 + n + 1 = n + 1 + 1 by omega] at this
theorem lco_sup' (X : Nat → Nat) (j : Nat) : ∀ n, j < n → Sup (lco X j n) n
  | 0, h => absurd h (by omega)
  | n + 1, h => by
    unfold lco
    by_cases e : n = j
    · rw [if_pos e]; exact lco_sup X j n
    · rw [if_neg e]
      obtain ⟨m, rfl⟩ : ∃ m, n = m + 1 := ⟨n - 1, by omega⟩
      have := conv_sup (N := 1) (M := m) (linp_sup (X (m + 1))) (lco_sup' X j (m + 1) (by omega))
      rwa [show 1 + m + 1 = m + 1 + 1 by omega] at this
theorem lco_ev (X : Nat → Nat) (j : Nat) {z : Nat} (hz : z < 256) : ∀ n, ev z (lco X j n) (n + 1) = wup X j z n
  | 0 => by
    rw [ev_succ]
    show 1 ^^^ mu z 0 = 1
    rw [mu_zero, Nat.xor_zero]
  | n + 1 => by
    have ih := lco_ev X j hz n
    have h1 := lco_sup X j (n + 1)
    unfold lco wup
    unfold lco at h1
    by_cases e : n = j
    · rw [if_pos e, if_pos e, ← ih]
      exact ev_any ((lco_sup X j n).mono (by omega)) (lco_sup X j n)
    · rw [if_neg e, if_neg e]
      rw [if_neg e] at h1
      have h2 := ev_conv z (n + 1) (lco_sup X j n) 2 (linp_sup (X n))
      rw [linp_ev hz, ih] at h2
      rw [ev_any h1 (h1.mono (show n + 1 + 1 ≤ 2 + (n + 1) by omega)), h2, mu_comm]
/-- By which the value at the j-th of k places counts for that at z. -/
def lagw (X : Nat → Nat) (k j z : Nat) : Nat := mu (wup X j z k) (gi (wup X j (X j) k))
theorem lagw_lt (X : Nat → Nat) (k j z : Nat) : lagw X k j z < 256 := mu_lt _ _
theorem ev_xs (z N : Nat) (c : Nat → Nat) (g : Nat → Nat → Nat) : ∀ n, ev z (fun i => xs (fun j => mu (c j) (g j i)) n) N = xs (fun j => mu (c j) (ev z (g j) N)) n
  | 0 => ev_null z N (fun _ _ => rfl)
  | n + 1 => by
    show ev z (fun i => xs (fun j => mu (c j) (g j i)) n ^^^ mu (c n) (g n i)) N = xs (fun j => mu (c j) (ev z (g j) N)) n ^^^ mu (c n) (ev z (g n) N)
    rw [ev_xor, ev_xs z N c g n, ev_scale]
theorem lagrange {k : Nat} {X : Nat → Nat} (hX : ∀ i, X i < 256) (hd : ∀ i j, i < j → j < k → X i ≠ X j) (f : Nat → Nat) (hf : ∀ i, f i < 256) {z : Nat} (hz : z < 256) :
    ev z f k = xs (fun j => mu (lagw X k j z) (ev (X j) f k)) k := by
  obtain ⟨c, hc⟩ : ∃ c : Nat → Nat, c = fun j => mu (gi (wup X j (X j) k)) (ev (X j) f k) := ⟨_, rfl⟩
  obtain ⟨g, hg⟩ : ∃ g : Nat → Nat, g = fun i => xs (fun j => mu (c j) (lco X j k i)) k := ⟨_, rfl⟩
  have hev : ∀ y, y < 256 → ev y g k = xs (fun j => mu (c j) (wup X j y k)) k := fun y hy => by
    rw [hg, ev_xs]
    refine xs_congr k (fun j hj => ?_)
    rw [ev_any (lco_sup' X j k hj) (lco_sup X j k), lco_ev X j hy]
  have hne : ∀ i j, i < k → j < k → i ≠ j → X j ≠ X i := fun i j hi hj h => by
    rcases Nat.lt_or_gt_of_ne h with g | g
    · exact fun e => hd i j g hj e.symm
    · exact hd j i g hi
  have h0 : ∀ t, t < k → ev (X t) (fun i => f i ^^^ g i) k = 0 := fun t ht => by
    rw [ev_xor, hev _ (hX t), xs_one t k ht (fun j hj hjt => by rw [wup_null X j t (fun e => hjt e.symm) k ht, mu_zero]), hc]
    show ev (X t) f k ^^^ mu (mu (gi (wup X t (X t) k)) (ev (X t) f k)) (wup X t (X t) k) = 0
    rw [mu_comm (mu _ _), mu_assoc, mu_gi (wup_lt _ _ _ _) (wup_ne hX t k (fun i hi h => hne i t hi ht h)), one_mu (ev_lt _ _ hf _), Nat.xor_self]
  have hgl : ∀ i, g i < 256 := fun i => by rw [hg]; exact xs_lt _ (fun _ => mu_lt _ _) _
  have hn := roots_null k X (fun i _ => hX i) hd (fun i => f i ^^^ g i) (fun i => xor_lt (hf i) (hgl i)) h0
  have hz0 := ev_null z k hn
  rw [ev_xor] at hz0
  have e1 : ev z f k = ev z g k := by have := xor_back (ev z f k) (ev z g k); rw [hz0, Nat.zero_xor] at this; exact this.symm
  rw [e1, hev z hz, hc]
  refine xs_congr k (fun j _ => ?_)
  show mu (mu (gi (wup X j (X j) k)) (ev (X j) f k)) (wup X j z k) = mu (mu (wup X j z k) (gi (wup X j (X j) k))) (ev (X j) f k)
  rw [mu_comm, mu_assoc]
/-- A power alone, as a polynomial. -/
def mono (t i : Nat) : Nat := if i = t then 1 else 0
theorem mono_lt (t i : Nat) : mono t i < 256 := by unfold mono; split <;> omega
theorem mono_ev {k t : Nat} (ht : t < k) (z : Nat) : ev z (mono t) k = pwr z t := by
  rw [← ev_powers z k (mono t) (mono_lt t), xs_one t k ht (fun i _ h => by unfold mono; rw [if_neg h, zero_mu])]
  unfold mono
  rw [if_pos rfl, one_mu (pwr_lt _ _)]
/-- The weights send the powers of the places to those of z. -/
theorem lagw_powers {k : Nat} {X : Nat → Nat} (hX : ∀ i, X i < 256) (hd : ∀ i j, i < j → j < k → X i ≠ X j) {z t : Nat} (hz : z < 256) (ht : t < k) : xs (fun j => mu (lagw X k j z) (pwr (X j) t)) k = pwr z t := by
  have h := lagrange hX hd (mono t) (mono_lt t) hz
  rw [mono_ev ht] at h
  rw [h]
  exact xs_congr k (fun j _ => by rw [mono_ev ht])
/-- Weights that send all powers below k to 0 send each such polynomial there. -/
theorem ker_ev {k : Nat} {X d : Nat → Nat} (h : ∀ t, t < k → xs (fun j => mu (d j) (pwr (X j) t)) k = 0) (f : Nat → Nat) (hf : ∀ i, f i < 256) : xs (fun j => mu (d j) (ev (X j) f k)) k = 0 := by
  have e : xs (fun j => mu (d j) (ev (X j) f k)) k = xs (fun j => xs (fun t => mu (f t) (mu (d j) (pwr (X j) t))) k) k := xs_congr k (fun j _ => by
    rw [← ev_powers (X j) k f hf, mu_xs]
    exact xs_congr k (fun t _ => by rw [mu_assoc, mu_comm (d j), ← mu_assoc]))
  rw [e, xs_swap (fun j t => mu (f t) (mu (d j) (pwr (X j) t)))]
  refine xs_none k (fun t ht => ?_)
  rw [← mu_xs, h t ht, mu_zero]
/-- They are the only ones. -/
theorem lagw_only {k : Nat} {X : Nat → Nat} (hX : ∀ i, X i < 256) (hd : ∀ i j, i < j → j < k → X i ≠ X j) {z : Nat} (hz : z < 256) (w : Nat → Nat) (hw : ∀ j, w j < 256) (h : ∀ t, t < k → xs (fun j => mu (w j) (pwr (X j) t)) k = pwr z t) : ∀ s, s < k → w s = lagw X k s z := fun s hs => by
  have h0 : ∀ t, t < k → xs (fun j => mu (w j ^^^ lagw X k j z) (pwr (X j) t)) k = 0 := fun t ht => by
    have e : xs (fun j => mu (w j ^^^ lagw X k j z) (pwr (X j) t)) k = xs (fun j => mu (w j) (pwr (X j) t) ^^^ mu (lagw X k j z) (pwr (X j) t)) k := xs_congr k (fun j _ => mu_left _ _ _)
    rw [e, xs_xor, h t ht, lagw_powers hX hd hz ht, Nat.xor_self]
  have h1 := ker_ev h0 (lco X s k) (lco_lt X s k)
  have he : ∀ j, ev (X j) (lco X s k) k = wup X s (X j) k := fun j => by rw [ev_any (lco_sup' X s k hs) (lco_sup X s k), lco_ev X s (hX j)]
  rw [xs_one s k hs (fun j hj hjs => by rw [he, wup_null X s j hjs k hj, mu_zero]), he] at h1
  have hne : wup X s (X s) k ≠ 0 := wup_ne hX s k (fun i hi h => by
    rcases Nat.lt_or_gt_of_ne h with g | g
    · exact fun e => hd i s g hs e.symm
    · exact hd s i g hi)
  refine Classical.byContradiction fun g => ?_
  exact mu_ne (xor_lt (hw s) (lagw_lt _ _ _ _)) (wup_lt _ _ _ _) (xor_ne g) hne h1
end Go.Proofs.Ytjcbcdjfhcnhcaa
namespace Go.Proofs.Ytjcbcdjfhcnhcaa

theorem wup_congr {X Y : Nat → Nat} (j z : Nat) : ∀ n, (∀ i, i < n → X i = Y i) → wup X j z n = wup Y j z n
  | 0, _ => rfl
  | n + 1, h => by unfold wup; rw [wup_congr j z n (fun i hi => h i (by omega)), h n (by omega)]
theorem lagw_congr {X Y : Nat → Nat} {k j : Nat} (z : Nat) (h : ∀ i, i < k → X i = Y i) (hj : j < k) : lagw X k j z = lagw Y k j z := by
  unfold lagw
  rw [wup_congr j z k h, wup_congr j (X j) k h, h j hj]
/-- The polynomial through so many values. -/
def ipol (X : Nat → Nat) (k : Nat) (y : Nat → Nat) (i : Nat) : Nat := xs (fun j => mu (mu (gi (wup X j (X j) k)) (y j)) (lco X j k i)) k
theorem ipol_lt (X : Nat → Nat) (k : Nat) (y : Nat → Nat) (i : Nat) : ipol X k y i < 256 := xs_lt _ (fun _ => mu_lt _ _) _
theorem ipol_ev {X : Nat → Nat} {k : Nat} (y : Nat → Nat) {z : Nat} (hz : z < 256) : ev z (ipol X k y) k = xs (fun j => mu (lagw X k j z) (y j)) k := by
  unfold ipol
  rw [ev_xs]
  refine xs_congr k (fun j hj => ?_)
  rw [ev_any (lco_sup' X j k hj) (lco_sup X j k), lco_ev X j hz]
  unfold lagw
  rw [mu_comm (mu _ _), ← mu_assoc]
theorem dist_ne {k : Nat} {X : Nat → Nat} (hd : ∀ i j, i < j → j < k → X i ≠ X j) {i j : Nat} (hi : i < k) (hj : j < k) (h : i ≠ j) : X i ≠ X j := by
  rcases Nat.lt_or_gt_of_ne h with g | g
  · exact hd i j g hj
  · exact fun e => hd j i g hi e.symm
theorem lagw_same {k : Nat} {X : Nat → Nat} (hX : ∀ i, X i < 256) (hd : ∀ i j, i < j → j < k → X i ≠ X j) {t : Nat} (ht : t < k) : lagw X k t (X t) = 1 := by
  unfold lagw
  exact mu_gi (wup_lt _ _ _ _) (wup_ne hX t k (fun i hi h => dist_ne hd ht hi (fun e => h e.symm)))
theorem lagw_other {k : Nat} {X : Nat → Nat} {t j : Nat} (ht : t < k) (h : t ≠ j) : lagw X k j (X t) = 0 := by
  unfold lagw
  rw [wup_null X j t h k ht, zero_mu]
theorem ipol_at {k : Nat} {X : Nat → Nat} (hX : ∀ i, X i < 256) (hd : ∀ i j, i < j → j < k → X i ≠ X j) (y : Nat → Nat) {t : Nat} (ht : t < k) (hy : y t < 256) : ev (X t) (ipol X k y) k = y t := by
  rw [ipol_ev y (hX t), xs_one t k ht (fun j _ h => by show mu (lagw X k j (X t)) (y j) = 0; rw [lagw_other ht (fun e => h e.symm), zero_mu])]
  show mu (lagw X k t (X t)) (y t) = y t
  rw [lagw_same hX hd ht, one_mu hy]
/-- Places, all below 256. -/
def cap8 (X : Nat → Nat) (i : Nat) : Nat := X i % 256
theorem cap8_lt (X : Nat → Nat) (i : Nat) : cap8 X i < 256 := Nat.mod_lt _ (by omega)
theorem cap8_eq {X : Nat → Nat} {i : Nat} (h : X i < 256) : cap8 X i = X i := Nat.mod_eq_of_lt h
/-- Where only nothing is sent to nothing the rank is full. -/
theorem full_rank {M : Nat → Nat → Nat} {n d : Nat} (hk : ∀ x : Nat → Nat, (∀ i, x i < 256) → (∀ i, i < n → dots (M i) x n = 0) → ∀ j, j < n → x j = 0) (h : RankIs M n n d) : n ≤ d := by
  refine Classical.byContradiction fun g => ?_
  obtain ⟨U, _, _, c⟩ := h
  obtain ⟨x, hx, ⟨i, hi, hne⟩, hz⟩ := dep d n (by omega) (fun j i => U j i)
  refine hne (hk x hx (fun i hi => ?_) i hi)
  obtain ⟨c, hc⟩ := c i hi
  rw [dots_congr n (fun k hk => hc k hk) (fun _ _ => rfl), ← dots_dots]
  exact xs_none d (fun j hj => by show mu (c j) (dots (U j) x n) = 0; rw [hz j hj, mu_zero])
/-- The first numbers: themselves. -/
def nid (i : Nat) : Nat := i
/-- Powers times the inverse of their first rows are the weights. -/
theorem rows_weights {k : Nat} (hk : k ≤ 256) {V : Nat → Nat → Nat} (hV : ∀ i c, i < k → c < k → dots (V i) (fun j => pwr j c) k = if i = c then 1 else 0) {x : Nat} (hx : x < 256) {j : Nat} (hj : j < k) :
    dots (fun l => pwr x l) (fun l => V l j) k = lagw nid k j x := by
  have h := lagw_only (X := cap8 nid) (k := k) (z := x) (cap8_lt nid) (fun i j h1 h2 => by
    have e1 : cap8 nid i = i := cap8_eq (show i < 256 by omega)
    have e2 : cap8 nid j = j := cap8_eq (show j < 256 by omega)
    rw [e1, e2]; omega) hx (fun j => dots (fun l => pwr x l) (fun l => V l j) k) (fun j => dots_lt _ _ _) (fun t ht => by
      have e : xs (fun j => mu (dots (fun l => pwr x l) (fun l => V l j) k) (pwr (cap8 nid j) t)) k = dots (fun j => dots (fun l => pwr x l) (fun l => V l j) k) (fun j => pwr j t) k :=
        xs_congr k (fun j hj => by show mu _ (pwr (cap8 nid j) t) = _; rw [cap8_eq (X := nid) (show j < 256 by omega)]; rfl)
      rw [e, ← dots_dots]
      show xs _ k = _
      rw [xs_one t k ht (fun i hi hne => by show mu (pwr x i) (dots (V i) (fun j => pwr j t) k) = 0; rw [hV i t hi ht, if_neg hne, mu_zero])]
      show mu (pwr x t) (dots (V t) (fun j => pwr j t) k) = _
      rw [hV t t ht ht, if_pos rfl, mu_one (pwr_lt _ _)]) j hj
  rw [h]
  exact lagw_congr x (fun i hi => cap8_eq (show i < 256 by omega)) hj
/-- Any k unlike rows of them hang on nothing. -/
theorem weights_ker {k : Nat} (hk : k ≤ 256) {P : Nat → Nat} (hP : ∀ i, i < k → P i < 256) (hd : ∀ i j, i < j → j < k → P i ≠ P j) (x : Nat → Nat) (hx : ∀ i, x i < 256) (h : ∀ i, i < k → dots (fun j => lagw nid k j (P i)) x k = 0) : ∀ j, j < k → x j = 0 := by
  intro j hj
  have hdn : ∀ i j, i < j → j < k → cap8 nid i ≠ cap8 nid j := fun i j h1 h2 => by
    have e1 : cap8 nid i = i := cap8_eq (show i < 256 by omega)
    have e2 : cap8 nid j = j := cap8_eq (show j < 256 by omega)
    rw [e1, e2]; omega
  have h0 : ∀ t, t < k → ipol (cap8 nid) k x t = 0 := roots_null k P hP hd _ (ipol_lt _ _ _) (fun i hi => by
    rw [ipol_ev x (hP i hi)]
    refine Eq.trans ?_ (h i hi)
    exact xs_congr k (fun j hj => by show mu (lagw (cap8 nid) k j (P i)) (x j) = mu (lagw nid k j (P i)) (x j); rw [lagw_congr (Y := nid) (P i) (fun i hi => cap8_eq (show i < 256 by omega)) hj]))
  have h1 := ipol_at (cap8_lt nid) hdn x hj (hx j)
  rw [ev_null _ k h0] at h1
  exact h1.symm
/-- What undoes such rows is the weights of their places. -/
theorem undo_weights {k : Nat} (hk : k ≤ 256) {P : Nat → Nat} (hP : ∀ i, i < k → P i < 256) (hd : ∀ i j, i < j → j < k → P i ≠ P j) {T : Nat → Nat → Nat} (hT : ∀ i j, T i j < 256)
    (h : ∀ i c, i < k → c < k → dots (T i) (fun j => lagw nid k c (P j)) k = if i = c then 1 else 0) {i j : Nat} (hi : i < k) (hj : j < k) : T i j = lagw P k j i := by
  have hdp : ∀ i j, i < j → j < k → cap8 P i ≠ cap8 P j := fun i j h1 h2 => by
    rw [cap8_eq (hP i (by omega)), cap8_eq (hP j h2)]; exact hd i j h1 h2
  have hdn : ∀ i j, i < j → j < k → cap8 nid i ≠ cap8 nid j := fun i j h1 h2 => by
    have e1 : cap8 nid i = i := cap8_eq (show i < 256 by omega)
    have e2 : cap8 nid j = j := cap8_eq (show j < 256 by omega)
    rw [e1, e2]; omega
  have hw := lagw_only (cap8_lt P) hdp (z := i) (by omega) (T i) (hT i) (fun t ht => by
    have e : xs (fun j => mu (T i j) (pwr (cap8 P j) t)) k = dots (T i) (fun j => dots (fun c => lagw nid k c (P j)) (fun c => pwr c t) k) k :=
      xs_congr k (fun j hj => by
        show mu (T i j) (pwr (cap8 P j) t) = mu (T i j) (dots (fun c => lagw nid k c (P j)) (fun c => pwr c t) k)
        rw [cap8_eq (hP j hj)]
        congr 1
        rw [← lagw_powers (cap8_lt nid) hdn (hP j hj) ht]
        exact xs_congr k (fun c hc => by
          show mu (lagw (cap8 nid) k c (P j)) (pwr (cap8 nid c) t) = mu (lagw nid k c (P j)) (pwr c t)
          rw [lagw_congr (Y := nid) (P j) (fun i hi => cap8_eq (show i < 256 by omega)) hc, cap8_eq (X := nid) (show c < 256 by omega)]
          rfl))
    rw [e, dots_dots]
    show xs _ k = _
    rw [xs_one i k hi (fun c hc hne => by show mu (dots (T i) (fun j => lagw nid k c (P j)) k) (pwr c t) = 0; rw [h i c hi hc, if_neg (fun e => hne e.symm), zero_mu])]
    show mu (dots (T i) (fun j => lagw nid k i (P j)) k) (pwr i t) = _
    rw [h i i hi hi, if_pos rfl, one_mu (pwr_lt _ _)]) j hj
  rw [hw]
  exact lagw_congr i (fun i hi => cap8_eq (hP i hi)) hj
/-- Values of one polynomial: any k of them, at places below 256, tell the others. -/
theorem weights_tell {k : Nat} (_hk : k ≤ 256) {P : Nat → Nat} (hP : ∀ i, i < k → P i < 256) (hd : ∀ i j, i < j → j < k → P i ≠ P j) (y : Nat → Nat) {z : Nat} (hz : z < 256) :
    xs (fun j => mu (lagw P k j z) (xs (fun i => mu (lagw nid k i (P j)) (y i)) k)) k = xs (fun i => mu (lagw nid k i z) (y i)) k := by
  have hdp : ∀ i j, i < j → j < k → cap8 P i ≠ cap8 P j := fun i j h1 h2 => by
    rw [cap8_eq (hP i (by omega)), cap8_eq (hP j h2)]; exact hd i j h1 h2
  rw [← ipol_ev y hz, lagrange (cap8_lt P) hdp _ (ipol_lt nid k y) hz]
  refine xs_congr k (fun j hj => ?_)
  show mu (lagw P k j z) _ = mu (lagw (cap8 P) k j z) (ev (cap8 P j) (ipol nid k y) k)
  rw [cap8_eq (hP j hj), ipol_ev y (hP j hj), lagw_congr (Y := P) z (fun i hi => cap8_eq (hP i hi)) hj]
/-- The weights of the first numbers at one of them. -/
theorem weights_first {k : Nat} (hk : k ≤ 256) (y : Nat → Nat) (hy : ∀ i, y i < 256) {z : Nat} (hz : z < k) : xs (fun i => mu (lagw nid k i z) (y i)) k = y z := by
  have hdn : ∀ i j, i < j → j < k → cap8 nid i ≠ cap8 nid j := fun i j h1 h2 => by
    have e1 : cap8 nid i = i := cap8_eq (show i < 256 by omega)
    have e2 : cap8 nid j = j := cap8_eq (show j < 256 by omega)
    rw [e1, e2]; omega
  have h := ipol_at (cap8_lt nid) hdn y hz (hy z)
  rw [cap8_eq (X := nid) (show z < 256 by omega), show nid z = z from rfl, ipol_ev y (by omega)] at h
  refine Eq.trans (xs_congr k (fun i hi => ?_)) h
  show mu (lagw nid k i z) (y i) = mu (lagw (cap8 nid) k i z) (y i)
  rw [lagw_congr (Y := nid) z (fun i hi => cap8_eq (show i < 256 by omega)) hi]
end Go.Proofs.Ytjcbcdjfhcnhcaa
namespace Go.Proofs.Ytjcbcdjfhcnhcaa
open Go.RowKit

/-- Of two rows. -/
theorem InSpan.two {V : Nat → Nat → Nat} {m C i j : Nat} (a b : Nat) (hi : i < m) (hj : j < m) (v : Nat → Nat) (h : ∀ k, k < C → v k = mu a (V i k) ^^^ mu b (V j k)) : InSpan V m C v := by
  refine ⟨fun l => (if l = i then a else 0) ^^^ (if l = j then b else 0), fun k hk => ?_⟩
  have one : ∀ (x p : Nat), p < m → dots (fun l => if l = p then x else 0) (fun l => V l k) m = mu x (V p k) := fun x p hp => by
    show xs _ m = _
    rw [xs_one p m hp (fun l _ hl => by show mu (if l = p then x else 0) _ = 0; rw [if_neg hl, zero_mu])]
    show mu (if p = p then x else 0) _ = _
    rw [if_pos rfl]
  rw [dots_xor, one a i hi, one b j hj]
  exact h k hk
/-- Each of the rows is made of the other ones, and back. -/
def Mates (M N : Nat → Nat → Nat) (R C : Nat) : Prop := (∀ i, i < R → InSpan M R C (N i)) ∧ ∀ i, i < R → InSpan N R C (M i)
theorem Mates.refl {M : Nat → Nat → Nat} (hM : ∀ i k, M i k < 256) (R C : Nat) : Mates M M R C := ⟨fun _ hi => InSpan.own M hM hi, fun _ hi => InSpan.own M hM hi⟩
theorem Mates.trans {M N O : Nat → Nat → Nat} {R C : Nat} (h : Mates M N R C) (k : Mates N O R C) : Mates M O R C :=
  ⟨fun i hi => (k.1 i hi).trans h.1, fun i hi => (h.2 i hi).trans k.2⟩
theorem InSpan.less {V : Nat → Nat → Nat} {m C C' : Nat} {v : Nat → Nat} (h : InSpan V m C v) (hC : C' ≤ C) : InSpan V m C' v := by
  obtain ⟨c, hc⟩ := h
  exact ⟨c, fun k hk => hc k (by omega)⟩
theorem Mates.congr {M N N' : Nat → Nat → Nat} {R C : Nat} (h : Mates M N R C) (e : ∀ i c, i < R → c < C → N i c = N' i c) : Mates M N' R C :=
  ⟨fun i hi => by
    obtain ⟨c, hc⟩ := h.1 i hi
    exact ⟨c, fun k hk => by rw [← e i k hi hk]; exact hc k hk⟩,
   fun i hi => by
    obtain ⟨c, hc⟩ := h.2 i hi
    exact ⟨c, fun k hk => by rw [hc k hk]; exact dots_congr _ (fun _ _ => rfl) (fun j hj => e j k hj hk)⟩⟩
/-- Each row by something, and one of them by something. -/
theorem Mates.rows {N N' : Nat → Nat → Nat} {R C at_ : Nat} (hN : ∀ i c, N i c < 256) (h0 : at_ < R) (a b : Nat → Nat) (ha : ∀ i, i < R → a i < 256 ∧ a i ≠ 0) (hb0 : b at_ = 0)
    (h : ∀ i c, i < R → c < C → N' i c = mu (a i) (N i c) ^^^ mu (b i) (N at_ c)) : Mates N N' R C := by
  refine ⟨fun i hi => InSpan.two (a i) (b i) hi h0 _ (fun c hc => h i c hi hc), fun i hi => ?_⟩
  have inv : ∀ j, j < R → mu (gi (a j)) (a j) = 1 := fun j hj => by rw [mu_comm]; exact mu_gi (ha j hj).1 (ha j hj).2
  have hat : ∀ c, c < C → N at_ c = mu (gi (a at_)) (N' at_ c) := fun c hc => by
    rw [h at_ c h0 hc, hb0, zero_mu, Nat.xor_zero, mu_assoc, inv at_ h0, one_mu (hN _ _)]
  by_cases e : i = at_
  · subst e
    refine InSpan.two (gi (a i)) 0 hi hi _ (fun c hc => ?_)
    rw [zero_mu, Nat.xor_zero]; exact hat c hc
  · refine InSpan.two (gi (a i)) (mu (gi (a i)) (mu (b i) (gi (a at_)))) hi h0 _ (fun c hc => ?_)
    rw [← mu_assoc (gi (a i)), ← mu_assoc (b i), ← hat c hc, h i c hi hc, mu_right, mu_assoc, inv i hi, one_mu (hN _ _), Nat.xor_assoc, Nat.xor_self, Nat.xor_zero]
/-- Two rows change places. -/
def sw (i j k : Nat) : Nat := if k = i then j else if k = j then i else k
theorem sw_lt {i j k R : Nat} (hi : i < R) (hj : j < R) (hk : k < R) : sw i j k < R := by
  unfold sw
  split
  · exact hj
  · split <;> assumption
theorem sw_sw (i j k : Nat) : sw i j (sw i j k) = k := by unfold sw; repeat' split <;> try omega
theorem Mates.swap {N : Nat → Nat → Nat} {R C i j : Nat} (hN : ∀ i c, N i c < 256) (hi : i < R) (hj : j < R) : Mates N (fun k => N (sw i j k)) R C := by
  refine ⟨fun k hk => InSpan.own N hN (sw_lt hi hj hk), fun k hk => ?_⟩
  have := InSpan.own (fun k => N (sw i j k)) (fun _ _ => hN _ _) (C := C) (sw_lt hi hj hk)
  simp only [sw_sw] at this
  exact this
/-- How far it has come: k columns, d rows. -/
structure Ech (M N : Nat → Nat → Nat) (R C k d : Nat) (p : Nat → Nat) : Prop where
  mates : Mates M N R C
  dR : d ≤ R
  piv : ∀ i, i < d → p i < k ∧ N i (p i) ≠ 0
  low : ∀ i j, i < d → i < j → j < R → N j (p i) = 0
  rest : ∀ i c, d ≤ i → i < R → c < k → N i c = 0
theorem Ech.start {M : Nat → Nat → Nat} (hM : ∀ i k, M i k < 256) (R C : Nat) (p : Nat → Nat) : Ech M M R C 0 0 p :=
  ⟨Mates.refl hM R C, Nat.zero_le _, fun _ h => by omega, fun _ _ h => by omega, fun _ _ _ _ h => by omega⟩
theorem Ech.skip {M N : Nat → Nat → Nat} {R C k d : Nat} {p : Nat → Nat} (h : Ech M N R C k d p) (hz : ∀ i, d ≤ i → i < R → N i k = 0) : Ech M N R C (k + 1) d p :=
  ⟨h.mates, h.dR, fun i hi => ⟨by have := (h.piv i hi).1; omega, (h.piv i hi).2⟩, h.low, fun i c h1 h2 h3 => by
    by_cases e : c = k
    · rw [e]; exact hz i h1 h2
    · exact h.rest i c h1 h2 (by omega)⟩
theorem Ech.swap {M N : Nat → Nat → Nat} {R C k d j : Nat} {p : Nat → Nat} (h : Ech M N R C k d p) (hN : ∀ i c, N i c < 256) (h1 : d ≤ j) (h2 : j < R) : Ech M (fun i => N (sw d j i)) R C k d p := by
  have far : ∀ i, i < d → sw d j i = i := fun i hi => by unfold sw; rw [if_neg (by omega), if_neg (by omega)]
  have near : ∀ i, d ≤ i → i < R → d ≤ sw d j i ∧ sw d j i < R := fun i hi hr => by
    refine ⟨?_, sw_lt (by omega) h2 hr⟩
    unfold sw
    split
    · exact h1
    · split <;> omega
  refine ⟨h.mates.trans (Mates.swap hN (by omega) h2), h.dR, fun i hi => ?_, fun i l hi hl hr => ?_, fun i c hi hr hc => ?_⟩
  · show p i < k ∧ N (sw d j i) (p i) ≠ 0
    rw [far i hi]; exact h.piv i hi
  · show N (sw d j l) (p i) = 0
    by_cases g : l < d
    · rw [far l g]; exact h.low i l hi hl hr
    · have := near l (by omega) hr
      exact h.low i _ hi (by omega) this.2
  · have := near i hi hr
    exact h.rest _ c this.1 this.2 hc
theorem Ech.step {M N N' : Nat → Nat → Nat} {R C k d : Nat} {p : Nat → Nat} (h : Ech M N R C k d p) (hN : ∀ i c, N i c < 256) (hd : d < R) (hk : k < C) (a b : Nat → Nat) (ha : ∀ i, i < R → a i < 256 ∧ a i ≠ 0) (hb0 : b d = 0)
    (hr : ∀ i c, i < R → c < C → N' i c = mu (a i) (N i c) ^^^ mu (b i) (N d c)) (hp : N d k ≠ 0) (hz : ∀ j, d < j → j < R → N' j k = 0) : Ech M N' R C (k + 1) (d + 1) (fun i => if i = d then k else p i) := by
  refine ⟨h.mates.trans (Mates.rows hN hd a b ha hb0 hr), hd, fun i hi => ?_, fun i j hi hj hjr => ?_, fun i c hi hir hc => ?_⟩
  · show (if i = d then k else p i) < k + 1 ∧ N' i (if i = d then k else p i) ≠ 0
    by_cases e : i = d
    · subst e
      rw [if_pos rfl]
      refine ⟨by omega, ?_⟩
      rw [hr i k hd hk, hb0, zero_mu, Nat.xor_zero]
      exact mu_ne (ha i hd).1 (hN _ _) (ha i hd).2 hp
    · rw [if_neg e]
      have hi' : i < d := by omega
      have := h.piv i hi'
      refine ⟨by omega, ?_⟩
      rw [hr i _ (by omega) (by omega), h.low i d hi' hi' hd, mu_zero, Nat.xor_zero]
      exact mu_ne (ha i (by omega)).1 (hN _ _) (ha i (by omega)).2 this.2
  · show N' j (if i = d then k else p i) = 0
    by_cases e : i = d
    · rw [if_pos e]; exact hz j (by omega) hjr
    · rw [if_neg e]
      have hi' : i < d := by omega
      have := h.piv i hi'
      rw [hr j _ hjr (by omega), h.low i d hi' hi' hd, h.low i j hi' hj hjr, mu_zero, mu_zero, Nat.xor_zero]
  · by_cases e : c = k
    · rw [e]; exact hz i (by omega) hir
    · rw [hr i c hir (by omega), h.rest i c (by omega) hir (by omega), h.rest d c (Nat.le_refl _) hd (by omega), mu_zero, mu_zero, Nat.xor_zero]
/-- Then the number of these rows is the rank. -/
theorem Ech.rank {M N : Nat → Nat → Nat} {R C k d : Nat} {p : Nat → Nat} (h : Ech M N R C k d p) (hN : ∀ i c, N i c < 256) (hk : k ≤ C) : RankIs M R k d := by
  refine ⟨N, indep_steps hN p h.piv (fun i j hij hj => h.low i j (by omega) hij (by have := h.dR; omega)), fun i hi => (h.mates.1 i (by have := h.dR; omega)).less hk, fun i hi => ?_⟩
  obtain ⟨c, hc⟩ := h.mates.2 i hi
  refine ⟨c, fun l hl => ?_⟩
  rw [hc l (by omega)]
  have key : ∀ m, d + m ≤ R → dots c (fun i => N i l) (d + m) = dots c (fun i => N i l) d := by
    intro m
    induction m with
    | zero => intro _; rfl
    | succ m ih =>
      intro hm
      rw [← ih (by omega)]
      show dots c (fun i => N i l) (d + m) ^^^ mu (c (d + m)) (N (d + m) l) = _
      rw [h.rest (d + m) l (by omega) (by omega) hl, mu_zero, Nat.xor_zero]
  have := key (R - d) (by have := h.dR; omega)
  rwa [show d + (R - d) = R by have := h.dR; omega] at this
/-- The code's way: the places go up, and each is 1, and alone in its column. -/
structure Red (M N : Nat → Nat → Nat) (R C k d : Nat) (p : Nat → Nat) : Prop where
  ech : Ech M N R C k d p
  up : ∀ i, i < d → i ≤ p i ∧ p i + d ≤ k + i
  one : ∀ i, i < d → N i (p i) = 1
  alone : ∀ i j, i < d → j < R → j ≠ i → N j (p i) = 0
  dk : d ≤ k
theorem Red.start {M : Nat → Nat → Nat} (hM : ∀ i k, M i k < 256) (R C : Nat) (p : Nat → Nat) : Red M M R C 0 0 p :=
  ⟨Ech.start hM R C p, fun _ h => by omega, fun _ h => by omega, fun _ _ h => by omega, Nat.le_refl _⟩
theorem Red.skip {M N : Nat → Nat → Nat} {R C k d : Nat} {p : Nat → Nat} (h : Red M N R C k d p) (hz : ∀ i, d ≤ i → i < R → N i k = 0) : Red M N R C (k + 1) d p :=
  ⟨h.ech.skip hz, fun i hi => by have := h.up i hi; omega, h.one, h.alone, by have := h.dk; omega⟩
/-- What settling a row and a column does. -/
def settled (N : Nat → Nat → Nat) (d k : Nat) (i c : Nat) : Nat := if i = d then mu (gi (N d k)) (N d c) else N i c ^^^ mu (N i k) (mu (gi (N d k)) (N d c))
theorem Red.step {M N N' : Nat → Nat → Nat} {R C k d j : Nat} {p : Nat → Nat} (h : Red M N R C k d p) (hN : ∀ i c, N i c < 256) (h1 : d ≤ j) (h2 : j < R) (hk : k < C) (hp : N j k ≠ 0)
    (hr : ∀ i c, i < R → c < C → N' i c = settled (fun i => N (sw d j i)) d k i c) : Red M N' R C (k + 1) (d + 1) (fun i => if i = d then k else p i) := by
  have hs := h.ech.swap hN h1 h2
  have hsd : sw d j d = j := by unfold sw; rw [if_pos rfl]
  have far : ∀ i, i < d → sw d j i = i := fun i hi => by unfold sw; rw [if_neg (by omega), if_neg (by omega)]
  obtain ⟨P, hP⟩ : ∃ P : Nat → Nat → Nat, P = fun i => N (sw d j i) := ⟨_, rfl⟩
  have hPl : ∀ i c, P i c < 256 := fun i c => by rw [hP]; exact hN _ _
  have hPp : P d k ≠ 0 := by rw [hP]; show N (sw d j d) k ≠ 0; rw [hsd]; exact hp
  rw [← hP] at hs hr
  have inv : mu (gi (P d k)) (P d k) = 1 := by rw [mu_comm]; exact mu_gi (hPl _ _) hPp
  have hcol : ∀ i, i < R → N' i k = if i = d then 1 else 0 := fun i hi => by
    rw [hr i k hi hk]
    unfold settled
    by_cases e : i = d
    · rw [if_pos e, if_pos e, inv]
    · rw [if_neg e, if_neg e, inv, mu_one (hPl _ _), Nat.xor_self]
  have hp0 : ∀ i l, i < d → l < R → l ≠ i → P l (p i) = 0 := fun i l hi hl hne => by
    rw [hP]
    show N (sw d j l) (p i) = 0
    refine h.alone i _ hi (sw_lt (by omega) h2 hl) ?_
    unfold sw
    split
    · omega
    · split <;> omega
  refine ⟨hs.step hPl (by omega) hk (fun i => if i = d then gi (P d k) else 1) (fun i => if i = d then 0 else mu (P i k) (gi (P d k))) (fun i _ => ?_) (if_pos rfl) (fun i c hi hc => ?_) hPp (fun l hl hlr => ?_), fun i hi => ?_, fun i hi => ?_, fun i l hi hl hne => ?_, by have := h.dk; omega⟩
  · show (if i = d then gi (P d k) else 1) < 256 ∧ (if i = d then gi (P d k) else 1) ≠ 0
    split
    · exact ⟨gi_lt _, gi_ne _⟩
    · omega
  · rw [hr i c hi hc]
    unfold settled
    show _ = mu (if i = d then gi (P d k) else 1) (P i c) ^^^ mu (if i = d then 0 else mu (P i k) (gi (P d k))) (P d c)
    by_cases e : i = d
    · rw [if_pos e, if_pos e, if_pos e, zero_mu, Nat.xor_zero, e]
    · rw [if_neg e, if_neg e, if_neg e, one_mu (hPl _ _), mu_assoc]
  · rw [hcol l hlr, if_neg (by omega)]
  · show i ≤ (if i = d then k else p i) ∧ (if i = d then k else p i) + (d + 1) ≤ k + 1 + i
    have := h.dk
    by_cases e : i = d
    · rw [if_pos e]; omega
    · rw [if_neg e]; have := h.up i (by omega); omega
  · show N' i (if i = d then k else p i) = 1
    by_cases e : i = d
    · rw [if_pos e, hcol i (by omega), if_pos e]
    · rw [if_neg e]
      have hi' : i < d := by omega
      have hpk := (h.ech.piv i hi').1
      rw [hr i _ (by omega) (by omega)]
      unfold settled
      rw [if_neg e, hp0 i d hi' (by omega) (by omega), mu_zero, mu_zero, Nat.xor_zero, hP]
      show N (sw d j i) (p i) = 1
      rw [far i hi']
      exact h.one i hi'
  · show N' l (if i = d then k else p i) = 0
    by_cases e : i = d
    · rw [if_pos e, hcol l hl, if_neg (by omega)]
    · rw [if_neg e]
      have hi' : i < d := by omega
      have hpk := (h.ech.piv i hi').1
      rw [hr l _ hl (by omega)]
      unfold settled
      rw [hp0 i l hi' hl hne, hp0 i d hi' (by omega) (by omega), mu_zero, mu_zero]
      split <;> simp
/-- Full: the matrix, beside which the identity stood, is inverted. -/
theorem Red.inverse {A N : Nat → Nat → Nat} {n : Nat} {p : Nat → Nat} (h : Red (fun i c => if c < n then A i c else if c = n + i then 1 else 0) N n (2 * n) n n p) (_hN : ∀ i c, N i c < 256) :
    ∀ i k, i < n → k < n → dots (fun j => N i (n + j)) (fun j => A j k) n = if i = k then 1 else 0 := by
  intro i k hi hk
  have hp : ∀ i, i < n → p i = i := fun i hi => by have := h.up i hi; omega
  have hik : N i k = if i = k then 1 else 0 := by
    by_cases e : i = k
    · rw [if_pos e, ← e]; have := h.one i hi; rwa [hp i hi] at this
    · rw [if_neg e]; have := h.alone k i hk hi e; rwa [hp k hk] at this
  obtain ⟨c, hc⟩ := h.ech.mates.1 i hi
  rw [← hik, hc k (by omega)]
  have e1 : ∀ j, j < n → N i (n + j) = c j % 256 := fun j hj => by
    rw [hc (n + j) (by omega)]
    show xs _ n = _
    rw [xs_one j n hj (fun l hl hne => by show mu (c l) (if n + j < n then A l (n + j) else if n + j = n + l then 1 else 0) = 0; rw [if_neg (by omega), if_neg (by omega), mu_zero])]
    show mu (c j) (if n + j < n then A j (n + j) else if n + j = n + j then 1 else 0) = _
    rw [if_neg (by omega), if_pos rfl]
    have := mu_one (a := c j % 256) (m256 _)
    unfold mu at *
    rwa [Nat.mod_mod] at this
  unfold dots
  refine xs_congr n (fun j hj => ?_)
  show mu (N i (n + j)) (A j k) = mu (c j) (if k < n then A j k else _)
  rw [if_pos hk, e1 j hj]
  unfold mu
  rw [Nat.mod_mod]
end Go.Proofs.Ytjcbcdjfhcnhcaa
