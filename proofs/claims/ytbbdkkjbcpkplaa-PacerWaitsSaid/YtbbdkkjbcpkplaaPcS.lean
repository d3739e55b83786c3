/-
  Own text: a rate that is shared out, in plain numbers.
-/
import Derived.Test.YtbbdkkjbcpkplaaPcM
namespace Go.Proofs.Ytbbdkkjbcpkplaa
open Go.RowKit

/-- The sum of the first ones. -/
def sumZ (z : Nat → Int) : Nat → Int
  | 0 => 0
  | n + 1 => sumZ z n + z n
/-- How many of the first ones are above 0. -/
def cntZ (z : Nat → Int) : Nat → Int
  | 0 => 0
  | n + 1 => cntZ z n + (if 0 < z n then 1 else 0)
/-- Weights that may be, whatever their sum. -/
def OkW (z : Nat → Int) (n : Nat) : Prop := n ≤ 256 ∧ ∀ i, i < n → 0 ≤ z i ∧ z i ≤ 65536
/-- A share, rounded down. -/
def shq (r : Int) (n : Nat) (z : Nat → Int) (i : Nat) : Int := r * z i / sumZ z n
/-- What is left. -/
def shl (r : Int) (n : Nat) (z : Nat → Int) (j : Nat) : Int := r - sumZ (shq r n z) j
/-- What is left of it in the second pass. -/
def sh2 (r : Int) (n : Nat) (z : Nat → Int) (j : Nat) : Int := if cntZ z j < shl r n z n then shl r n z n - cntZ z j else 0
/-- A share. -/
def shp (r : Int) (n : Nat) (z : Nat → Int) (i : Nat) : Int := shq r n z i + (if 0 < z i ∧ cntZ z i < shl r n z n then 1 else 0)
/-- The list of the first ones. -/
def lst (n : Nat) (f : Nat → Int) : List Int := (List.range n).map f
theorem lst_length (n : Nat) (f : Nat → Int) : (lst n f).length = n := by simp [lst]
theorem lst_getD (n : Nat) (f : Nat → Int) (i : Nat) (hi : i < n) : (lst n f).getD i 0 = f i := by
  simp [lst, List.getD_eq_getElem?_getD, List.getElem?_map, List.getElem?_range hi]
theorem lst_congr (n : Nat) (f g : Nat → Int) (h : ∀ i, i < n → f i = g i) : lst n f = lst n g := by
  unfold lst
  exact List.map_congr_left (fun i hi => h i (List.mem_range.1 hi))
theorem lst_snoc (n : Nat) (f : Nat → Int) : lst n f ++ [f n] = lst (n + 1) f := by simp [lst, List.range_succ]
theorem lst_set (n : Nat) (f g : Nat → Int) (j : Nat) (h : ∀ i, i < n → i ≠ j → f i = g i) : (lst n f).set j (g j) = lst n g := by
  apply List.ext_getElem?
  intro i
  rw [List.getElem?_set]
  by_cases hij : j = i
  · subst hij
    rw [if_pos rfl]
    by_cases hn : j < n
    · simp [lst, hn]
    · simp [lst, hn]
  · rw [if_neg hij]
    by_cases hn : i < n
    · simp [lst, List.getElem?_map, List.getElem?_range hn, h i hn (fun e => hij e.symm)]
    · simp [lst, hn]
theorem lst_zeros (n : Nat) : List.replicate n (0 : Int) = lst n (fun _ => 0) := by
  apply List.ext_getElem
  · simp [lst]
  · intro i h1 h2
    simp [lst]
theorem sumZ_congr (f g : Nat → Int) (n : Nat) (h : ∀ i, i < n → f i = g i) : sumZ f n = sumZ g n := by
  induction n with
  | zero => rfl
  | succ n ih => simp only [sumZ]; rw [ih (fun i hi => h i (by omega)), h n (by omega)]
theorem sumZ_lo (z : Nat → Int) (n : Nat) (h : ∀ i, i < n → 0 ≤ z i ∧ z i ≤ 65536) : 0 ≤ sumZ z n ∧ sumZ z n ≤ 65536 * (n : Int) := by
  induction n with
  | zero => simp [sumZ]
  | succ n ih =>
    have := ih (fun i hi => h i (by omega))
    have := h n (by omega)
    simp only [sumZ]
    push_cast
    omega
theorem sumZ_one (z : Nat → Int) (n : Nat) (h : ∀ i, i < n → 0 ≤ z i) (j : Nat) (hj : j < n) : z j ≤ sumZ z n := by
  induction n with
  | zero => omega
  | succ n ih =>
    have hs : 0 ≤ sumZ z n := by
      clear ih hj
      have h' : ∀ i, i < n → 0 ≤ z i := fun i hi => h i (by omega)
      clear h
      induction n with
      | zero => simp [sumZ]
      | succ n ih => have := ih (fun i hi => h' i (by omega)); have := h' n (by omega); simp only [sumZ]; omega
    simp only [sumZ]
    have := h n (by omega)
    by_cases e : j = n
    · subst e; omega
    · have := ih (fun i hi => h i (by omega)) (by omega); omega
theorem cntZ_lo (z : Nat → Int) (n : Nat) : 0 ≤ cntZ z n ∧ cntZ z n ≤ (n : Int) := by
  induction n with
  | zero => simp [cntZ]
  | succ n ih => simp only [cntZ]; push_cast; split <;> omega
section
variable {r : Int} {n : Nat} {z : Nat → Int}
theorem shq_lo (h0 : 0 ≤ r) (hz : OkW z n) (hs : 0 < sumZ z n) {i : Nat} (hi : i < n) : 0 ≤ shq r n z i ∧ shq r n z i ≤ r := by
  have h1 := hz.2 i hi
  have h2 := sumZ_one z n (fun i hi => (hz.2 i hi).1) i hi
  unfold shq
  refine ⟨Int.ediv_nonneg (Int.mul_nonneg h0 h1.1) (by omega), ?_⟩
  have h3 : r * z i ≤ r * sumZ z n := Int.mul_le_mul_of_nonneg_left h2 h0
  have h4 := Int.ediv_le_ediv hs h3
  rwa [Int.mul_ediv_cancel _ (by omega)] at h4
theorem shq_sum (h0 : 0 ≤ r) (hz : OkW z n) (hs : 0 < sumZ z n) (j : Nat) (hj : j ≤ n) :
    sumZ z n * sumZ (shq r n z) j ≤ r * sumZ z j ∧ r * sumZ z j ≤ sumZ z n * sumZ (shq r n z) j + sumZ z n * cntZ z j ∧ 0 ≤ sumZ (shq r n z) j := by
  induction j with
  | zero => simp [sumZ, cntZ]
  | succ j ih =>
    obtain ⟨i1, i2, i3⟩ := ih (by omega)
    have hq := shq_lo h0 hz hs (show j < n by omega)
    have e1 : sumZ z n * shq r n z j ≤ r * z j := by unfold shq; exact Int.mul_ediv_self_le (by omega)
    have e2 : r * z j < sumZ z n * shq r n z j + sumZ z n := by unfold shq; exact Int.lt_mul_ediv_self_add hs
    have e3 : sumZ z (j + 1) = sumZ z j + z j := rfl
    have e4 : sumZ (shq r n z) (j + 1) = sumZ (shq r n z) j + shq r n z j := rfl
    have e5 : cntZ z (j + 1) = cntZ z j + (if 0 < z j then 1 else 0) := rfl
    rw [e3, e4, e5, Int.mul_add, Int.mul_add, Int.mul_add]
    by_cases hp : 0 < z j
    · rw [if_pos hp, Int.mul_one]
      exact ⟨by omega, by omega, by omega⟩
    · have hz0 : z j = 0 := by have := hz.2 j (by omega); omega
      rw [if_neg hp, Int.mul_zero]
      have h9 : r * z j = 0 := by rw [hz0, Int.mul_zero]
      have h8 : 0 ≤ sumZ z n * shq r n z j := Int.mul_nonneg (by omega) hq.1
      exact ⟨by omega, by omega, by omega⟩
theorem shl_lo (h0 : 0 ≤ r) (hz : OkW z n) (hs : 0 < sumZ z n) : 0 ≤ shl r n z n ∧ shl r n z n ≤ cntZ z n := by
  obtain ⟨h1, h2, _⟩ := shq_sum h0 hz hs n (Nat.le_refl _)
  unfold shl
  generalize sumZ (shq r n z) n = q at *
  generalize sumZ z n = s at *
  generalize cntZ z n = c at *
  rw [Int.mul_comm r s] at h1 h2
  have g1 := Int.le_of_mul_le_mul_left h1 hs
  rw [← Int.mul_add] at h2
  have g2 := Int.le_of_mul_le_mul_left h2 hs
  omega
theorem shl_at (h0 : 0 ≤ r) (hz : OkW z n) (hs : 0 < sumZ z n) {j : Nat} (hj : j ≤ n) : 0 ≤ shl r n z j ∧ shl r n z j ≤ r := by
  obtain ⟨h1, _, h3⟩ := shq_sum h0 hz hs j hj
  have h4 : sumZ z j ≤ sumZ z n := by
    clear h1 h3
    have : ∀ d, j + d ≤ n → sumZ z j ≤ sumZ z (j + d) := by
      intro d
      induction d with
      | zero => intro _; simp
      | succ d ih => intro h; have := ih (by omega); have := (hz.2 (j + d) (by omega)).1; show sumZ z j ≤ sumZ z (j + d) + z (j + d); omega
    have := this (n - j) (by omega)
    rwa [show j + (n - j) = n by omega] at this
  have h5 : r * sumZ z j ≤ r * sumZ z n := Int.mul_le_mul_of_nonneg_left h4 h0
  unfold shl
  generalize sumZ (shq r n z) j = q at *
  generalize sumZ z n = s at *
  have h6 : s * q ≤ s * r := by rw [Int.mul_comm s r]; omega
  have := Int.le_of_mul_le_mul_left h6 hs
  omega
theorem sh2_zero (h0 : 0 ≤ r) (hz : OkW z n) (hs : 0 < sumZ z n) : sh2 r n z n = 0 ∧ sh2 r n z 0 = shl r n z n := by
  have := shl_lo h0 hz hs
  unfold sh2
  refine ⟨by split <;> omega, ?_⟩
  have e : cntZ z 0 = 0 := rfl
  rw [e]
  split <;> omega
theorem sh2_lo (r : Int) (n : Nat) (z : Nat → Int) (j : Nat) : 0 ≤ sh2 r n z j := by
  unfold sh2
  split <;> omega
theorem sh2_le (h0 : 0 ≤ r) (hz : OkW z n) (hs : 0 < sumZ z n) (j : Nat) : sh2 r n z j ≤ r := by
  have h1 := shl_at h0 hz hs (Nat.le_refl n)
  have h2 := (cntZ_lo z j).1
  unfold sh2
  split <;> omega
/-- A step of the second pass. -/
theorem sh2_step (r : Int) (n : Nat) (z : Nat → Int) (j : Nat) :
    ((0 < sh2 r n z j ∧ 0 < z j) → sh2 r n z (j + 1) = sh2 r n z j - 1 ∧ shp r n z j = shq r n z j + 1) ∧ (¬ (0 < sh2 r n z j ∧ 0 < z j) → sh2 r n z (j + 1) = sh2 r n z j ∧ shp r n z j = shq r n z j) := by
  have e : cntZ z (j + 1) = cntZ z j + (if 0 < z j then 1 else 0) := rfl
  unfold sh2 shp
  rw [e]
  generalize shl r n z n = L
  generalize cntZ z j = c
  generalize shq r n z j = q
  generalize z j = y
  generalize hB : (if 0 < y then (1 : Int) else 0) = B
  generalize hA : (if c < L then L - c else 0) = A
  generalize hC : (if 0 < y ∧ c < L then (1 : Int) else 0) = C
  generalize hD : (if c + B < L then L - (c + B) else 0) = D
  have gA : (c < L ∧ A = L - c) ∨ (L ≤ c ∧ A = 0) := by split at hA <;> omega
  have gB : (0 < y ∧ B = 1) ∨ (y ≤ 0 ∧ B = 0) := by split at hB <;> omega
  have gC : ((0 < y ∧ c < L) ∧ C = 1) ∨ (¬ (0 < y ∧ c < L) ∧ C = 0) := by split at hC <;> omega
  have gD : (c + B < L ∧ D = L - (c + B)) ∨ (L ≤ c + B ∧ D = 0) := by split at hD <;> omega
  clear hA hB hC hD
  omega
theorem shp_sum (h0 : 0 ≤ r) (hz : OkW z n) (hs : 0 < sumZ z n) : sumZ (shp r n z) n = r := by
  have hl := shl_lo h0 hz hs
  have key : ∀ j, sumZ (shp r n z) j = sumZ (shq r n z) j + (shl r n z n - sh2 r n z j) := by
    intro j
    induction j with
    | zero => have := (sh2_zero h0 hz hs).2; simp only [sumZ]; omega
    | succ j ih =>
      obtain ⟨s1, s2⟩ := sh2_step r n z j
      simp only [sumZ]
      by_cases h : 0 < sh2 r n z j ∧ 0 < z j
      · obtain ⟨a1, a2⟩ := s1 h; omega
      · obtain ⟨a1, a2⟩ := s2 h; omega
  have := key n
  have := (sh2_zero h0 hz hs).1
  have e : shl r n z n = r - sumZ (shq r n z) n := rfl
  omega
theorem shp_zero (r : Int) (n : Nat) (z : Nat → Int) (i : Nat) (h : z i = 0) : shp r n z i = 0 := by
  unfold shp shq
  rw [h]
  simp
theorem shp_lo (h0 : 0 ≤ r) (hz : OkW z n) (hs : 0 < sumZ z n) {i : Nat} (hi : i < n) : 0 ≤ shp r n z i ∧ shp r n z i ≤ r + 1 := by
  have := shq_lo h0 hz hs hi
  unfold shp
  split <;> omega
/-- Nothing is left at once: the shares are those that are rounded down. -/
theorem shp_none (h : shl r n z n = 0) (i : Nat) : shp r n z i = shq r n z i := by
  have := (cntZ_lo z i).1
  unfold shp
  rw [h, if_neg (by omega)]
  omega
end
end Go.Proofs.Ytbbdkkjbcpkplaa
