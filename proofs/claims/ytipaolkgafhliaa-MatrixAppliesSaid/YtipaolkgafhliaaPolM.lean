/-
  Own text: polynomials over the field as functions of the place: sums, products, values, degrees. Plain arithmetic.
-/
import Derived.Test.YtipaolkgafhliaaGfC
namespace Go.Proofs.Ytipaolkgafhliaa
open Go.RowKit

/-- The product, of any two numbers. -/
def mu (a b : Nat) : Nat := gm (a % 256) (b % 256)
theorem m256 (a : Nat) : a % 256 < 256 := Nat.mod_lt _ (by omega)
theorem xor_m (a b : Nat) : (a ^^^ b) % 256 = (a % 256) ^^^ (b % 256) := by have := @Nat.xor_mod_two_pow a b 8; simpa using this
theorem xor_lt {a b : Nat} (ha : a < 256) (hb : b < 256) : a ^^^ b < 256 := Nat.xor_lt_two_pow (n := 8) (by omega) (by omega)
theorem mu_eq {a b : Nat} (ha : a < 256) (hb : b < 256) : mu a b = gm a b := by unfold mu; rw [Nat.mod_eq_of_lt ha, Nat.mod_eq_of_lt hb]
theorem mu_lt (a b : Nat) : mu a b < 256 := gm_lt (m256 a) (m256 b)
theorem mu_comm (a b : Nat) : mu a b = mu b a := gm_comm (m256 a) (m256 b)
theorem mu_assoc (a b c : Nat) : mu a (mu b c) = mu (mu a b) c := by
  unfold mu
  rw [Nat.mod_eq_of_lt (gm_lt (m256 b) (m256 c)), Nat.mod_eq_of_lt (gm_lt (m256 a) (m256 b))]
  exact gm_assoc (m256 a) (m256 b) (m256 c)
theorem mu_left (a b c : Nat) : mu (a ^^^ b) c = mu a c ^^^ mu b c := by unfold mu; rw [xor_m, gm_left]
theorem mu_right (a b c : Nat) : mu a (b ^^^ c) = mu a b ^^^ mu a c := by unfold mu; rw [xor_m, gm_right]
theorem zero_mu (b : Nat) : mu 0 b = 0 := by unfold mu; exact zero_gm _
theorem mu_zero (a : Nat) : mu a 0 = 0 := by unfold mu; exact gm_zero _
theorem mu_one {a : Nat} (ha : a < 256) : mu a 1 = a := by rw [mu_eq ha (by omega)]; exact gm_one a ha
theorem one_mu {a : Nat} (ha : a < 256) : mu 1 a = a := by rw [mu_comm]; exact mu_one ha
theorem mu_ne {a b : Nat} (ha : a < 256) (hb : b < 256) (h0 : a ≠ 0) (h1 : b ≠ 0) : mu a b ≠ 0 := by rw [mu_eq ha hb]; exact gm_ne ha hb h0 h1
theorem mu_gi {a : Nat} (ha : a < 256) (h0 : a ≠ 0) : mu a (gi a) = 1 := by rw [mu_eq ha (gi_lt a)]; exact gm_gi ha h0
theorem xor_back (a b : Nat) : a ^^^ b ^^^ b = a := by rw [Nat.xor_assoc, Nat.xor_self, Nat.xor_zero]

/-- A sum of the first n. -/
def xs (f : Nat → Nat) : Nat → Nat
  | 0 => 0
  | n + 1 => xs f n ^^^ f n
theorem xs_lt (f : Nat → Nat) (h : ∀ i, f i < 256) : ∀ n, xs f n < 256
  | 0 => by show 0 < 256; omega
  | n + 1 => xor_lt (xs_lt f h n) (h n)
theorem xs_congr {f g : Nat → Nat} : ∀ n, (∀ i, i < n → f i = g i) → xs f n = xs g n
  | 0, _ => rfl
  | n + 1, h => by unfold xs; rw [xs_congr n (fun i hi => h i (by omega)), h n (by omega)]
theorem xs_none {f : Nat → Nat} : ∀ n, (∀ i, i < n → f i = 0) → xs f n = 0
  | 0, _ => rfl
  | n + 1, h => by unfold xs; rw [xs_none n (fun i hi => h i (by omega)), h n (by omega)]; rfl
theorem xs_xor (f g : Nat → Nat) : ∀ n, xs (fun i => f i ^^^ g i) n = xs f n ^^^ xs g n
  | 0 => by simp [xs]
  | n + 1 => by unfold xs; rw [xs_xor f g n]; exact xor_swap _ _ _ _
theorem mu_xs (c : Nat) (f : Nat → Nat) : ∀ n, mu c (xs f n) = xs (fun i => mu c (f i)) n
  | 0 => mu_zero c
  | n + 1 => by unfold xs; rw [mu_right, mu_xs c f n]
theorem xs_front (f : Nat → Nat) : ∀ n, xs f (n + 1) = f 0 ^^^ xs (fun i => f (i + 1)) n
  | 0 => by simp [xs]
  | n + 1 => by
    have h := xs_front f n
    show xs f (n + 1) ^^^ f (n + 1) = f 0 ^^^ (xs (fun i => f (i + 1)) n ^^^ f (n + 1))
    rw [h, Nat.xor_assoc]
theorem xs_rev : ∀ (n : Nat) (f : Nat → Nat), xs (fun i => f (n - i)) (n + 1) = xs f (n + 1)
  | 0, f => rfl
  | n + 1, f => by
    rw [xs_front (fun i => f (n + 1 - i)) (n + 1)]
    have h : xs (fun i => f (n + 1 - (i + 1))) (n + 1) = xs f (n + 1) := by
      rw [← xs_rev n f]; exact xs_congr _ (fun i _ => by congr 1; omega)
    rw [h]
    show f (n + 1) ^^^ xs f (n + 1) = xs f (n + 1) ^^^ f (n + 1)
    exact Nat.xor_comm _ _
theorem xs_one {f : Nat → Nat} (j : Nat) : ∀ n, j < n → (∀ i, i < n → i ≠ j → f i = 0) → xs f n = f j
  | 0, h, _ => by omega
  | n + 1, h, hz => by
    unfold xs
    by_cases e : j = n
    · subst e; rw [xs_none j (fun i hi => hz i (by omega) (by omega))]; exact Nat.zero_xor _
    · rw [xs_one j n (by omega) (fun i hi hne => hz i (by omega) hne), hz n (by omega) (by omega)]; exact Nat.xor_zero _

/-- The product of two polynomials. -/
def conv (f g : Nat → Nat) (n : Nat) : Nat := xs (fun i => mu (f i) (g (n - i))) (n + 1)
theorem conv_lt (f g : Nat → Nat) (n : Nat) : conv f g n < 256 := xs_lt _ (fun _ => mu_lt _ _) _
theorem conv_comm (f g : Nat → Nat) (n : Nat) : conv f g n = conv g f n := by
  unfold conv
  rw [← xs_rev n (fun i => mu (f i) (g (n - i)))]
  exact xs_congr _ (fun i hi => by show mu (f (n - i)) (g (n - (n - i))) = _; rw [mu_comm, show n - (n - i) = i by omega])
theorem conv_left (f g h : Nat → Nat) (n : Nat) : conv (fun i => f i ^^^ g i) h n = conv f h n ^^^ conv g h n := by
  unfold conv; rw [← xs_xor]; exact xs_congr _ (fun i _ => mu_left _ _ _)
theorem conv_right (f g h : Nat → Nat) (n : Nat) : conv f (fun i => g i ^^^ h i) n = conv f g n ^^^ conv f h n := by
  unfold conv; rw [← xs_xor]; exact xs_congr _ (fun i _ => mu_right _ _ _)
theorem conv_scale (c : Nat) (f g : Nat → Nat) (n : Nat) : conv (fun i => mu c (f i)) g n = mu c (conv f g n) := by
  unfold conv; rw [mu_xs]; exact xs_congr _ (fun i _ => (mu_assoc _ _ _).symm)
theorem conv_at (f g : Nat → Nat) (n : Nat) : conv f g (n + 1) = mu (f 0) (g (n + 1)) ^^^ conv (fun i => f (i + 1)) g n := by
  unfold conv
  rw [xs_front]
  exact congrArg _ (xs_congr _ (fun i _ => by show mu (f (i + 1)) (g (n + 1 - (i + 1))) = _; rw [show n + 1 - (i + 1) = n - i by omega]))
theorem conv_at0 (f g : Nat → Nat) : conv f g 0 = mu (f 0) (g 0) := by unfold conv; show 0 ^^^ _ = _; exact Nat.zero_xor _
theorem conv_congr {f g f' g' : Nat → Nat} (hf : ∀ i, f i = f' i) (hg : ∀ i, g i = g' i) (n : Nat) : conv f g n = conv f' g' n := by
  obtain rfl : f = f' := funext hf
  obtain rfl : g = g' := funext hg
  rfl
theorem conv_split (f g : Nat → Nat) (n : Nat) : conv f g n = mu (f 0) (g n) ^^^ (match n with | 0 => 0 | m + 1 => conv (fun i => f (i + 1)) g m) := by
  cases n with
  | zero => rw [conv_at0, Nat.xor_zero]
  | succ m => exact conv_at f g m
theorem conv_assoc (g h : Nat → Nat) : ∀ (n : Nat) (f : Nat → Nat), conv (conv f g) h n = conv f (conv g h) n
  | 0, f => by rw [conv_at0, conv_at0, conv_at0, conv_at0]; exact (mu_assoc _ _ _).symm
  | n + 1, f => by
    have e : conv (conv f g) h (n + 1) = conv (fun i => mu (f 0) (g i) ^^^ (match i with | 0 => 0 | m + 1 => conv (fun i => f (i + 1)) g m)) h (n + 1) :=
      conv_congr (conv_split f g) (fun _ => rfl) _
    rw [e, conv_left, conv_scale, conv_at f, conv_at (fun i => match i with | 0 => 0 | m + 1 => conv (fun i => f (i + 1)) g m)]
    show _ ^^^ (mu 0 _ ^^^ conv (conv (fun i => f (i + 1)) g) h n) = _
    rw [zero_mu, Nat.zero_xor, conv_assoc g h n]
/-- No coefficient from a place on. -/
def Sup (f : Nat → Nat) (N : Nat) : Prop := ∀ i, N ≤ i → f i = 0
theorem Sup.mono {f : Nat → Nat} {N M : Nat} (h : Sup f N) (hM : N ≤ M) : Sup f M := fun i hi => h i (by omega)
theorem conv_sup {f g : Nat → Nat} {N M : Nat} (hf : Sup f (N + 1)) (hg : Sup g (M + 1)) : Sup (conv f g) (N + M + 1) := fun i hi => by
  unfold conv
  refine xs_none _ (fun j hj => ?_)
  by_cases e : N + 1 ≤ j
  · rw [hf j e, zero_mu]
  · rw [hg (i - j) (by omega), mu_zero]
theorem conv_null {f g : Nat → Nat} (hf : ∀ i, f i = 0) (n : Nat) : conv f g n = 0 := by unfold conv; exact xs_none _ (fun i _ => by rw [hf, zero_mu])
theorem conv_top {f g : Nat → Nat} {N M : Nat} (hf : Sup f (N + 1)) (hg : Sup g (M + 1)) : conv f g (N + M) = mu (f N) (g M) := by
  unfold conv
  rw [xs_one N (N + M + 1) (by omega)]
  · rw [show N + M - N = M by omega]
  · intro i hi hne
    by_cases e : N + 1 ≤ i
    · rw [hf i e, zero_mu]
    · rw [hg (N + M - i) (by omega), mu_zero]

/-- The value at x, of the first N coefficients. -/
def ev (x : Nat) : (Nat → Nat) → Nat → Nat
  | _, 0 => 0
  | f, N + 1 => f 0 ^^^ mu x (ev x (fun i => f (i + 1)) N)
theorem ev_succ (x : Nat) (f : Nat → Nat) (N : Nat) : ev x f (N + 1) = f 0 ^^^ mu x (ev x (fun i => f (i + 1)) N) := rfl
theorem ev_lt (x : Nat) (f : Nat → Nat) (h : ∀ i, f i < 256) (N : Nat) : ev x f N < 256 := by
  cases N with
  | zero => unfold ev; omega
  | succ N => unfold ev; exact xor_lt (h 0) (mu_lt _ _)
theorem ev_congr (x : Nat) : ∀ (N : Nat) {f g : Nat → Nat}, (∀ i, i < N → f i = g i) → ev x f N = ev x g N
  | 0, _, _, _ => rfl
  | N + 1, f, g, h => by unfold ev; rw [h 0 (by omega), ev_congr x N (fun i hi => h (i + 1) (by omega))]
theorem ev_null (x : Nat) : ∀ (N : Nat) {f : Nat → Nat}, (∀ i, i < N → f i = 0) → ev x f N = 0
  | 0, _, _ => rfl
  | N + 1, f, h => by unfold ev; rw [h 0 (by omega), ev_null x N (fun i hi => h (i + 1) (by omega)), mu_zero]; rfl
theorem ev_xor (x : Nat) : ∀ (N : Nat) (f g : Nat → Nat), ev x (fun i => f i ^^^ g i) N = ev x f N ^^^ ev x g N
  | 0, _, _ => by simp [ev]
  | N + 1, f, g => by unfold ev; rw [ev_xor x N, mu_right]; exact xor_swap _ _ _ _
theorem ev_scale (x c : Nat) : ∀ (N : Nat) (f : Nat → Nat), ev x (fun i => mu c (f i)) N = mu c (ev x f N)
  | 0, _ => (mu_zero c).symm
  | N + 1, f => by unfold ev; rw [ev_scale x c N, mu_right, mu_assoc, mu_comm x c, ← mu_assoc]
theorem ev_more (x : Nat) : ∀ (N k : Nat) {f : Nat → Nat}, Sup f N → ev x f (N + k) = ev x f N
  | 0, k, f, h => by rw [ev_null x _ (fun i _ => h i (by omega))]; rfl
  | N + 1, k, f, h => by
    rw [show N + 1 + k = (N + k) + 1 by omega]
    unfold ev
    rw [ev_more x N k (f := fun i => f (i + 1)) (fun i hi => h (i + 1) (by omega))]
theorem ev_any {x N M : Nat} {f : Nat → Nat} (hN : Sup f N) (hM : Sup f M) : ev x f N = ev x f M := by
  rw [← ev_more x N M hN, ← ev_more x M N hM, Nat.add_comm]
theorem ev_conv (x M : Nat) {g : Nat → Nat} (hg : Sup g M) : ∀ (N : Nat) {f : Nat → Nat}, Sup f N → ev x (conv f g) (N + M) = mu (ev x f N) (ev x g M)
  | 0, f, h => by rw [ev_null x _ (fun i _ => conv_null (fun i => h i (by omega)) i)]; exact (zero_mu _).symm
  | N + 1, f, h => by
    have e : ev x (conv f g) (N + 1 + M) = ev x (fun i => mu (f 0) (g i) ^^^ (match i with | 0 => 0 | m + 1 => conv (fun i => f (i + 1)) g m)) (N + 1 + M) :=
      ev_congr x _ (fun i _ => conv_split f g i)
    rw [e, ev_xor, ev_scale, ev_any (hg.mono (by omega)) hg, show N + 1 + M = (N + M) + 1 by omega]
    have e2 : ev x (fun i => match i with | 0 => 0 | m + 1 => conv (fun i => f (i + 1)) g m) ((N + M) + 1) = mu x (ev x (conv (fun i => f (i + 1)) g) (N + M)) := by
      rw [ev_succ]
      exact Nat.zero_xor _
    rw [e2, ev_conv x M hg N (f := fun i => f (i + 1)) (fun i hi => h (i + 1) (by omega))]
    rw [ev_succ, mu_left, mu_assoc]
/-- A power. -/
def pwr (x : Nat) : Nat → Nat
  | 0 => 1
  | n + 1 => mu (pwr x n) x
theorem pwr_lt (x : Nat) : ∀ n, pwr x n < 256
  | 0 => by unfold pwr; omega
  | n + 1 => mu_lt _ _
theorem ev_powers (x : Nat) : ∀ (N : Nat) (f : Nat → Nat), (∀ i, f i < 256) → xs (fun i => mu (f i) (pwr x i)) N = ev x f N
  | 0, _, _ => rfl
  | N + 1, f, h => by
    rw [xs_front]
    unfold ev
    rw [← ev_powers x N (fun i => f (i + 1)) (fun i => h (i + 1)), mu_xs]
    show mu (f 0) 1 ^^^ _ = _
    rw [mu_one (h 0)]
    congr 1
    exact xs_congr _ (fun i _ => by show mu (f (i + 1)) (mu (pwr x i) x) = _; rw [mu_assoc, mu_comm _ x])
/-- From the highest place down (Horner). -/
theorem ev_down (x : Nat) (f : Nat → Nat) (N k : Nat) (h : k < N) : ev x (fun i => f (N - (k + 1) + i)) (k + 1) = f (N - (k + 1)) ^^^ mu x (ev x (fun i => f (N - k + i)) k) := by
  rw [ev_succ, Nat.add_zero]
  congr 2
  exact ev_congr x _ (fun i _ => by show f _ = f _; congr 1; omega)
end Go.Proofs.Ytipaolkgafhliaa
