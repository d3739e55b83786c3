/-
  Own text: a polynomial that is 0 at as many places as it has coefficients is 0; rows of powers. Plain arithmetic.
-/
import Derived.Test.YtipaolkgafhliaaLinM
namespace Go.Proofs.Ytipaolkgafhliaa
open Go.RowKit

/-- The quotient by (x + r). -/
def syn (r : Nat) : (Nat → Nat) → Nat → Nat → Nat
  | _, 0, _ => 0
  | f, N + 1, 0 => ev r (fun i => f (i + 1)) N
  | f, N + 1, j + 1 => syn r (fun i => f (i + 1)) N j
theorem syn_lt (r : Nat) : ∀ (N : Nat) (f : Nat → Nat), (∀ i, f i < 256) → ∀ j, syn r f N j < 256
  | 0, _, _, _ => by unfold syn; omega
  | N + 1, f, h, 0 => by unfold syn; exact ev_lt r _ (fun i => h (i + 1)) N
  | N + 1, f, h, j + 1 => by unfold syn; exact syn_lt r N _ (fun i => h (i + 1)) j
theorem syn_shift (r : Nat) (f : Nat → Nat) (N : Nat) : (fun j => syn r f (N + 1) (j + 1)) = syn r (fun i => f (i + 1)) N := funext fun j => by rw [syn]
theorem syn_ev (r z : Nat) : ∀ (N : Nat) (f : Nat → Nat), ev z f (N + 1) = ev r f (N + 1) ^^^ mu (z ^^^ r) (ev z (syn r f (N + 1)) N)
  | 0, f => by
    rw [ev_succ, ev_succ]
    show f 0 ^^^ mu z 0 = (f 0 ^^^ mu r 0) ^^^ mu (z ^^^ r) 0
    rw [mu_zero, mu_zero, mu_zero, Nat.xor_zero, Nat.xor_zero]
  | N + 1, f => by
    rw [ev_succ z f, ev_succ r f, ev_succ z (syn r f (N + 1 + 1)), syn_shift]
    have h0 : syn r f (N + 1 + 1) 0 = ev r (fun i => f (i + 1)) (N + 1) := by rw [syn]
    rw [h0, syn_ev r z N (fun i => f (i + 1))]
    obtain ⟨E, hE⟩ : ∃ E, ev z (syn r (fun i => f (i + 1)) (N + 1)) N = E := ⟨_, rfl⟩
    obtain ⟨D, hD⟩ : ∃ D, ev r (fun i => f (i + 1)) (N + 1) = D := ⟨_, rfl⟩
    rw [hE, hD, mu_right, mu_right, mu_left z r D, mu_assoc z, mu_assoc (z ^^^ r), mu_comm z (z ^^^ r)]
    have : ∀ a b c d : Nat, a ^^^ (b ^^^ c) = a ^^^ d ^^^ ((b ^^^ d) ^^^ c) := fun a b c d => by
      rw [Nat.xor_assoc a d, Nat.xor_comm b d, Nat.xor_assoc d, ← Nat.xor_assoc d d, Nat.xor_self, Nat.zero_xor]
    exact this _ _ _ _
theorem syn_back (r : Nat) : ∀ (N : Nat) (f : Nat → Nat), ev r f (N + 1) = 0 → (∀ j, j < N → syn r f (N + 1) j = 0) → ∀ j, j < N + 1 → f j = 0
  | 0, f, h, _, j, hj => by
    obtain rfl : j = 0 := by omega
    rw [ev_succ] at h
    have : ev r (fun i => f (i + 1)) 0 = 0 := rfl
    rwa [this, mu_zero, Nat.xor_zero] at h
  | N + 1, f, h, hs, j, hj => by
    have h0 := hs 0 (by omega)
    rw [syn] at h0
    rw [ev_succ, h0, mu_zero, Nat.xor_zero] at h
    cases j with
    | zero => exact h
    | succ j => exact syn_back r N (fun i => f (i + 1)) h0 (fun j hj => by have := hs (j + 1) (by omega); rwa [syn] at this) j (by omega)
/-- As many places as coefficients: all are 0. -/
theorem roots_null : ∀ (k : Nat) (X : Nat → Nat), (∀ i, i < k → X i < 256) → (∀ i j, i < j → j < k → X i ≠ X j) → ∀ f : Nat → Nat, (∀ i, f i < 256) → (∀ i, i < k → ev (X i) f k = 0) → ∀ j, j < k → f j = 0
  | 0, _, _, _, _, _, _, j, hj => by omega
  | k + 1, X, hX, hd, f, hf, h, j, hj => by
    have hr := h k (by omega)
    refine syn_back (X k) k f hr (roots_null k X (fun i hi => hX i (by omega)) (fun i j h1 h2 => hd i j h1 (by omega)) _ (syn_lt (X k) (k + 1) f hf) (fun i hi => ?_)) j hj
    have h1 := h i (by omega)
    rw [syn_ev (X k) (X i) k f, hr, Nat.zero_xor] at h1
    refine Classical.byContradiction fun g => ?_
    refine mu_ne (xor_lt (hX i (by omega)) (hX k (by omega))) (ev_lt _ _ (syn_lt (X k) (k + 1) f hf) k) (fun e => ?_) g h1
    have := xor_back (X i) (X k)
    rw [e, Nat.zero_xor] at this
    exact hd i k hi (by omega) this.symm
/-- Any unlike rows of powers, as many as there are columns: only nothing goes to nothing. -/
theorem powers_ker {k : Nat} {X : Nat → Nat} (hX : ∀ i, i < k → X i < 256) (hd : ∀ i j, i < j → j < k → X i ≠ X j) (c : Nat → Nat) (hc : ∀ i, c i < 256) (h : ∀ i, i < k → dots (pwr (X i)) c k = 0) : ∀ j, j < k → c j = 0 :=
  roots_null k X hX hd c hc (fun i hi => by
    rw [← ev_powers (X i) k c hc]
    have := h i hi
    rw [dots_comm] at this
    exact this)
end Go.Proofs.Ytipaolkgafhliaa
