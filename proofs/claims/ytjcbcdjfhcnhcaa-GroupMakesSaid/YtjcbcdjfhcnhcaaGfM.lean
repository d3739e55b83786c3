/-
  Own text: the field of 256 elements in plain numbers: products of polynomials, powers of x, logs. Plain arithmetic.
-/
import Derived.Test.YtjcbcdjfhcnhcaaRows
import Derived.WalkKit
import Derived.ProofKit
import Derived.OpenShut
import Derived.Lib.Hide
namespace Go.Proofs.Ytjcbcdjfhcnhcaa
open Go.RowKit

/-- An element, times x. -/
def tx (a : Nat) : Nat := 2 * a ^^^ (if a.testBit 7 then 285 else 0)
/-- A product, not yet reduced, by so many of the second one's bits. -/
def acc (a b : Nat) : Nat → Nat
  | 0 => 0
  | k + 1 => if b.testBit k then acc a b k ^^^ (a <<< k) else acc a b k
/-- Reduced by so many bits, from the highest one down. -/
def rst (n : Nat) : Nat → Nat
  | 0 => n
  | j + 1 => if (rst n j).testBit (14 - j) then rst n j ^^^ (285 <<< (6 - j)) else rst n j
/-- The product. -/
def gm (a b : Nat) : Nat := rst (acc a b 8) 7
/-- x to a power. -/
def pw : Nat → Nat
  | 0 => 1
  | n + 1 => tx (pw n)
def lgL : List Nat := [0,0,1,25,2,50,26,198,3,223,51,238,27,104,199,75,4,100,224,14,52,141,239,129,28,193,105,248,200,8,76,113,5,138,101,47,225,36,15,33,53,147,142,218,240,18,130,69,29,181,194,125,106,39,249,185,201,154,9,120,77,228,114,166,6,191,139,98,102,221,48,253,226,152,37,179,16,145,34,136,54,208,148,206,143,150,219,189,241,210,19,92,131,56,70,64,30,66,182,163,195,72,126,110,107,58,40,84,250,133,186,61,202,94,155,159,10,21,121,43,78,212,229,172,115,243,167,87,7,112,192,247,140,128,99,13,103,74,222,237,49,197,254,24,227,165,153,119,38,184,180,124,17,68,146,217,35,32,137,46,55,63,209,91,149,188,207,205,144,135,151,178,220,252,190,97,242,86,211,171,20,42,93,158,132,60,57,83,71,109,65,162,31,45,67,216,183,123,164,118,196,23,73,236,127,12,111,246,108,161,59,82,41,157,85,170,251,96,134,177,187,204,62,90,203,89,95,176,156,169,160,81,11,245,22,235,122,117,44,215,79,174,213,233,230,231,173,232,116,214,244,234,168,80,88,175]
/-- The power of x that an element is. -/
def lg (a : Nat) : Nat := lgL.getD a 0

theorem xor_swap (a b c d : Nat) : (a ^^^ b) ^^^ (c ^^^ d) = (a ^^^ c) ^^^ (b ^^^ d) := by ac_rfl
theorem xor_drop (x y p : Nat) : x ^^^ y = (x ^^^ p) ^^^ (y ^^^ p) := by rw [xor_swap, Nat.xor_self, Nat.xor_zero]
theorem two_xor (a b : Nat) : 2 * (a ^^^ b) = 2 * a ^^^ 2 * b := by
  have h := Nat.shiftLeft_xor_distrib (i := 1) (a := a) (b := b)
  simpa [Nat.shiftLeft_eq, Nat.mul_comm] using h
theorem tx_xor (a b : Nat) : tx (a ^^^ b) = tx a ^^^ tx b := by
  unfold tx
  rw [two_xor, Nat.testBit_xor]
  cases a.testBit 7 <;> cases b.testBit 7
  · simp
  · simp [Nat.xor_assoc]
  · simp only [Bool.bne_false, if_true, Bool.false_eq_true, if_false, Nat.xor_zero]; ac_rfl
  · simp only [bne_self_eq_false, if_true, Bool.false_eq_true, if_false, Nat.xor_zero]; exact xor_drop _ _ _
theorem acc_left (a c b : Nat) : ∀ k, acc (a ^^^ c) b k = acc a b k ^^^ acc c b k
  | 0 => by simp [acc]
  | k + 1 => by
    unfold acc
    rw [acc_left a c b k, Nat.shiftLeft_xor_distrib]
    split
    · exact xor_swap _ _ _ _
    · rfl
theorem acc_right (a b d : Nat) : ∀ k, acc a (b ^^^ d) k = acc a b k ^^^ acc a d k
  | 0 => by simp [acc]
  | k + 1 => by
    unfold acc
    rw [acc_right a b d k, Nat.testBit_xor]
    cases b.testBit k <;> cases d.testBit k
    · simp
    · simp [Nat.xor_assoc]
    · simp only [Bool.bne_false, if_true, Bool.false_eq_true, if_false]; ac_rfl
    · simp only [bne_self_eq_false, if_true, Bool.false_eq_true, if_false]; exact xor_drop _ _ _
theorem rst_xor (m n : Nat) : ∀ j, rst (m ^^^ n) j = rst m j ^^^ rst n j
  | 0 => rfl
  | j + 1 => by
    unfold rst
    rw [rst_xor m n j, Nat.testBit_xor]
    cases (rst m j).testBit (14 - j) <;> cases (rst n j).testBit (14 - j)
    · simp
    · simp [Nat.xor_assoc]
    · simp only [Bool.bne_false, if_true, Bool.false_eq_true, if_false]; ac_rfl
    · simp only [bne_self_eq_false, if_true, Bool.false_eq_true, if_false]; exact xor_drop _ _ _
theorem gm_left (a c b : Nat) : gm (a ^^^ c) b = gm a b ^^^ gm c b := by unfold gm; rw [acc_left, rst_xor]
theorem gm_right (a b d : Nat) : gm a (b ^^^ d) = gm a b ^^^ gm a d := by unfold gm; rw [acc_right, rst_xor]

theorem top_bit {x n : Nat} (h : x < 2 ^ (n + 1)) : x < 2 ^ n ∨ x ^^^ 2 ^ n < 2 ^ n := by
  cases hb : x.testBit n
  · refine .inl (Nat.lt_pow_two_of_testBit _ fun i hi => ?_)
    by_cases e : i = n
    · subst e; exact hb
    · exact Nat.testBit_lt_two_pow (Nat.lt_of_lt_of_le h (Nat.pow_le_pow_right (by omega) (by omega)))
  · refine .inr (Nat.lt_pow_two_of_testBit _ fun i hi => ?_)
    rw [Nat.testBit_xor]
    by_cases e : i = n
    · subst e; rw [hb, Nat.testBit_two_pow_self]; rfl
    · rw [Nat.testBit_lt_two_pow (Nat.lt_of_lt_of_le h (Nat.pow_le_pow_right (by omega) (by omega))), Nat.testBit_two_pow_of_ne (by omega)]; rfl
/-- Two maps that take sums to sums are the same below a power of 2, if they are at its lower powers. -/
theorem lin_n (f g : Nat → Nat) (hf : ∀ x y, f (x ^^^ y) = f x ^^^ f y) (hg : ∀ x y, g (x ^^^ y) = g x ^^^ g y) : ∀ n, (∀ i, i < n → f (2 ^ i) = g (2 ^ i)) → ∀ x, x < 2 ^ n → f x = g x
  | 0, _, x, hx => by
    have hf0 : f 0 = 0 := by have := hf 0 0; rw [Nat.xor_self, Nat.xor_self] at this; exact this
    have hg0 : g 0 = 0 := by have := hg 0 0; rw [Nat.xor_self, Nat.xor_self] at this; exact this
    obtain rfl : x = 0 := by simp at hx; exact hx
    rw [hf0, hg0]
  | n + 1, h, x, hx => by
    have ih := lin_n f g hf hg n (fun i hi => h i (by omega))
    rcases top_bit hx with e | e
    · exact ih x e
    · have h1 := ih _ e
      rw [hf, hg, h n (by omega)] at h1
      have h2 : (f x ^^^ g (2 ^ n)) ^^^ g (2 ^ n) = (g x ^^^ g (2 ^ n)) ^^^ g (2 ^ n) := by rw [h1]
      rwa [Nat.xor_assoc, Nat.xor_self, Nat.xor_zero, Nat.xor_assoc, Nat.xor_self, Nat.xor_zero] at h2
theorem lin (f g : Nat → Nat) (hf : ∀ x y, f (x ^^^ y) = f x ^^^ f y) (hg : ∀ x y, g (x ^^^ y) = g x ^^^ g y) (h : ∀ i, i < 8 → f (2 ^ i) = g (2 ^ i)) (x : Nat) (hx : x < 256) : f x = g x := lin_n f g hf hg 8 h x hx

theorem base_tx : ∀ i, i < 8 → ∀ j, j < 8 → gm (2 ^ i) (tx (2 ^ j)) = tx (gm (2 ^ i) (2 ^ j)) := by decide +kernel
theorem base_one : ∀ i, i < 8 → gm (2 ^ i) 1 = 2 ^ i := by decide +kernel
theorem gm_tx (a b : Nat) (ha : a < 256) (hb : b < 256) : gm a (tx b) = tx (gm a b) :=
  lin (fun b => gm a (tx b)) (fun b => tx (gm a b)) (fun x y => by show gm a (tx (x ^^^ y)) = _; rw [tx_xor, gm_right]) (fun x y => by show tx (gm a (x ^^^ y)) = _; rw [gm_right, tx_xor])
    (fun j hj => lin (fun a => gm a (tx (2 ^ j))) (fun a => tx (gm a (2 ^ j))) (fun x y => gm_left _ _ _) (fun x y => by show tx (gm (x ^^^ y) _) = _; rw [gm_left, tx_xor]) (fun i hi => base_tx i hi j hj) a ha) b hb
theorem gm_one (a : Nat) (ha : a < 256) : gm a 1 = a := lin (fun a => gm a 1) (fun a => a) (fun _ _ => gm_left _ _ _) (fun _ _ => rfl) base_one a ha
theorem acc_zero (b : Nat) : ∀ k, acc 0 b k = 0
  | 0 => rfl
  | k + 1 => by unfold acc; rw [acc_zero b k]; simp
theorem acc_none (a : Nat) : ∀ k, acc a 0 k = 0
  | 0 => rfl
  | k + 1 => by unfold acc; rw [acc_none a k]; simp
theorem zero_gm (b : Nat) : gm 0 b = 0 := by unfold gm; rw [acc_zero]; rfl
theorem gm_zero (a : Nat) : gm a 0 = 0 := by unfold gm; rw [acc_none]; rfl

theorem tx_all : ∀ a, a < 256 → tx a < 256 := by decide +kernel
theorem pw_lt : ∀ n, pw n < 256
  | 0 => by decide
  | n + 1 => tx_all _ (pw_lt n)
theorem gm_pw (m : Nat) : ∀ n, gm (pw m) (pw n) = pw (m + n)
  | 0 => gm_one _ (pw_lt m)
  | n + 1 => by show gm (pw m) (tx (pw n)) = tx (pw (m + n)); rw [gm_tx _ _ (pw_lt m) (pw_lt n), gm_pw m n]
theorem pw_round : pw 255 = 1 := by decide +kernel
theorem pw_per : ∀ n, pw (n + 255) = pw n
  | 0 => pw_round
  | n + 1 => by rw [show n + 1 + 255 = (n + 255) + 1 by omega]; show tx (pw (n + 255)) = tx (pw n); rw [pw_per n]
theorem pw_many (n : Nat) : ∀ q, pw (n + 255 * q) = pw n
  | 0 => rfl
  | q + 1 => by rw [show n + 255 * (q + 1) = (n + 255 * q) + 255 by omega, pw_per, pw_many n q]
theorem pw_mod (n : Nat) : pw n = pw (n % 255) := by
  have := pw_many (n % 255) (n / 255)
  rw [← this]; congr 1; omega
theorem lg_all : ∀ c, c < 256 → c ≠ 0 → lg c < 255 ∧ pw (lg c) = c := by decide +kernel
theorem lg_pw : ∀ n, n < 255 → lg (pw n) = n := by decide +kernel
theorem pw_ne (n : Nat) : pw n ≠ 0 := by
  rw [pw_mod]
  have : ∀ n, n < 255 → pw n ≠ 0 := by decide +kernel
  exact this _ (Nat.mod_lt _ (by omega))
theorem gm_eq {a b : Nat} (ha : a < 256) (hb : b < 256) (h0 : a ≠ 0) (h1 : b ≠ 0) : gm a b = pw (lg a + lg b) := by
  have h := gm_pw (lg a) (lg b)
  rwa [(lg_all a ha h0).2, (lg_all b hb h1).2] at h
theorem gm_lt {a b : Nat} (ha : a < 256) (hb : b < 256) : gm a b < 256 := by
  by_cases h0 : a = 0
  · subst h0; rw [zero_gm]; omega
  · by_cases h1 : b = 0
    · subst h1; rw [gm_zero]; omega
    · rw [gm_eq ha hb h0 h1]; exact pw_lt _
theorem gm_ne {a b : Nat} (ha : a < 256) (hb : b < 256) (h0 : a ≠ 0) (h1 : b ≠ 0) : gm a b ≠ 0 := by rw [gm_eq ha hb h0 h1]; exact pw_ne _
theorem gm_comm {a b : Nat} (ha : a < 256) (hb : b < 256) : gm a b = gm b a := by
  by_cases h0 : a = 0
  · subst h0; rw [zero_gm, gm_zero]
  · by_cases h1 : b = 0
    · subst h1; rw [zero_gm, gm_zero]
    · rw [gm_eq ha hb h0 h1, gm_eq hb ha h1 h0, Nat.add_comm]
theorem pw_inj {m n : Nat} (h : pw m = pw n) : m % 255 = n % 255 := by
  rw [pw_mod m, pw_mod n] at h
  have h1 := lg_pw (m % 255) (Nat.mod_lt _ (by omega))
  rw [h, lg_pw (n % 255) (Nat.mod_lt _ (by omega))] at h1
  exact h1.symm
theorem gm_assoc {a b c : Nat} (ha : a < 256) (hb : b < 256) (hc : c < 256) : gm a (gm b c) = gm (gm a b) c := by
  by_cases h0 : a = 0
  · subst h0; simp only [zero_gm]
  · by_cases h1 : b = 0
    · subst h1; simp only [zero_gm, gm_zero]
    · by_cases h2 : c = 0
      · subst h2; simp only [gm_zero]
      · rw [gm_eq hb hc h1 h2, gm_eq ha hb h0 h1]
        have e1 := gm_pw (lg a) (lg b + lg c)
        have e2 := gm_pw (lg a + lg b) (lg c)
        rw [(lg_all a ha h0).2] at e1
        rw [(lg_all c hc h2).2] at e2
        rw [e1, e2, Nat.add_assoc]
end Go.Proofs.Ytjcbcdjfhcnhcaa
