/-
  Own text: layer 16 (redund), plain.
-/
import Derived.Test.YtjcbcdjfhcnhcaaStB
namespace Go.Proofs.Ytjcbcdjfhcnhcaa

/-- A number, from 0 to a limit. -/
def held16 (n l : Int) : Int := clampZ n 0 l
theorem held16_lo (n : Int) {l : Int} (h : 0 ≤ l) : 0 ≤ held16 n l ∧ held16 n l ≤ l := by
  unfold held16 clampZ
  split <;> (try split) <;> omega
theorem held16_any (n l : Int) : 0 ≤ held16 n l ∧ (held16 n l ≤ l ∨ held16 n l = 0) := by
  unfold held16 clampZ
  split <;> (try split) <;> omega
theorem held16_is (n l : Int) : (n < 0 ∨ l < 0) ∧ held16 n l = 0 ∨ 0 ≤ n ∧ 0 ≤ l ∧ l < n ∧ held16 n l = l ∨ 0 ≤ n ∧ n ≤ l ∧ held16 n l = n := by
  unfold held16 clampZ
  split <;> (try split) <;> omega
theorem held16_mono {a b : Int} (l : Int) (h : a ≤ b) : held16 a l ≤ held16 b l := by
  unfold held16 clampZ
  repeat' split
  all_goals omega
/-- More losses, no less is needed. -/
theorem Sk.many_mono {a b : Sk} {i j : Nat} (ha : a.fit i) (hb : b.fit j) (h : a.lo ≤ b.lo) (c : Int) (hc : 0 ≤ c) : a.many c ≤ b.many c := by
  by_cases e : a.many c ≤ b.many c
  · exact e
  · have h1 := Sk.many_less ha c hc (b.many c) (by omega)
    have h2 := Sk.many_is hb c hc
    have h3 : b.many c * (65536 - b.lo) ≤ b.many c * (65536 - a.lo) := Int.mul_le_mul_of_nonneg_left (by omega) h2.1
    omega
theorem Sk.need_mono {a b : Sk} {i j : Nat} (ha : a.fit i) (hb : b.fit j) (h : a.lo ≤ b.lo) (c l : Int) (hc : 0 ≤ c) : a.need c l ≤ b.need c l := by
  have := Sk.many_mono ha hb h c hc
  unfold Sk.need
  rw [if_neg (show ¬ c < 0 by omega)]
  generalize (if l < 0 then 0 else l) = L at *
  split <;> split <;> omega
/-- The losses of a way of which nothing else is known. -/
def lost16 (l : Int) : Sk := ⟨l, 0, 0, 0, 0⟩
theorem lost16_fit {l : Int} (h : 0 ≤ l) (h' : l ≤ 65535) : (lost16 l).fit 0 := by
  have z := Sk.zero_fit
  exact ⟨h, h', z.r0, z.r1, z.v0, z.v1, z.m0, z.m1, z.t0, z.t1⟩
/-- How many. -/
def tgt (k l m : Int) : Int :=
  if held16 k 16 = 0 ∨ held16 l 65535 = 0 then 0 else held16 ((lost16 (held16 l 65535)).need (held16 k 16) 255 - held16 k 16 + 1) m
theorem tgt_lo (k l m : Int) : 0 ≤ tgt k l m ∧ (tgt k l m ≤ m ∨ tgt k l m = 0) := by
  unfold tgt
  split
  · omega
  · exact held16_any _ _
theorem tgt_mono (k l m : Int) (h0 : 0 ≤ l) (h1 : l ≤ 65534) : tgt k l m ≤ tgt k (l + 1) m := by
  have e0 : held16 l 65535 = l := by rcases held16_is l 65535 with h | h | h <;> omega
  have e1 : held16 (l + 1) 65535 = l + 1 := by rcases held16_is (l + 1) 65535 with h | h | h <;> omega
  have hk := held16_lo k (show (0 : Int) ≤ 16 by omega)
  unfold tgt
  rw [e0, e1]
  by_cases hz : held16 k 16 = 0 ∨ l = 0
  · rw [if_pos hz]
    split
    · exact Int.le_refl _
    · exact (held16_any _ _).1
  · rw [if_neg hz, if_neg (by omega)]
    have := Sk.need_mono (lost16_fit h0 (by omega)) (lost16_fit (show 0 ≤ l + 1 by omega) (by omega)) (show l ≤ l + 1 by omega) (held16 k 16) 255 hk.1
    exact held16_mono m (by omega)
/-- A control. -/
structure Cn where
  now : Int
  most : Int
  calm : Int
structure Cn.ok (c : Cn) : Prop where
  n0 : 0 ≤ c.now
  n1 : c.now ≤ c.most
  m1 : c.most ≤ 16
  c0 : 0 ≤ c.calm
  c1 : c.calm ≤ 7
def Cn.next (c : Cn) (k l : Int) : Cn :=
  if c.now ≤ tgt k l c.most then ⟨tgt k l c.most, c.most, 0⟩
  else if 7 ≤ c.calm then ⟨c.now - 1, c.most, 0⟩
  else ⟨c.now, c.most, c.calm + 1⟩
theorem Cn.next_most (c : Cn) (k l : Int) : (c.next k l).most = c.most := by
  unfold Cn.next
  split
  · rfl
  · split <;> rfl
theorem Cn.next_ok {c : Cn} (h : c.ok) (k l : Int) : (c.next k l).ok := by
  obtain ⟨n0, n1, m1, c0, c1⟩ := h
  have ht := tgt_lo k l c.most
  unfold Cn.next
  split
  · exact ⟨ht.1, show tgt k l c.most ≤ c.most by omega, m1, show (0 : Int) ≤ 0 by omega, show (0 : Int) ≤ 7 by omega⟩
  · split
    · exact ⟨show 0 ≤ c.now - 1 by omega, show c.now - 1 ≤ c.most by omega, m1, show (0 : Int) ≤ 0 by omega, show (0 : Int) ≤ 7 by omega⟩
    · exact ⟨n0, n1, m1, show 0 ≤ c.calm + 1 by omega, show c.calm + 1 ≤ 7 by omega⟩
/-- Grows at once, falls by one in eight groups at most: `last` is when it last fell, `i` the group. -/
theorem Cn.next_slow {c : Cn} (h : c.ok) (k l : Int) (i last : Int) (hs : last + c.calm + 1 ≤ i) :
    tgt k l c.most ≤ (c.next k l).now ∧ c.now - 1 ≤ (c.next k l).now ∧ ((c.next k l).now < c.now → 8 ≤ i - last ∧ i + (c.next k l).calm + 1 ≤ i + 1) ∧ (c.now ≤ (c.next k l).now → last + (c.next k l).calm + 1 ≤ i + 1) := by
  obtain ⟨n0, n1, m1, c0, c1⟩ := h
  have ht := tgt_lo k l c.most
  unfold Cn.next
  split
  · simp only []
    omega
  · split <;> (simp only []; omega)

/-- The rows of how likely each count is. -/
def od (l : Int) : Nat → Nat → Int
  | 0, i => if i = 0 then 65536 else 0
  | n + 1, i => od l n i * l / 65536 + (if i = 0 then 0 else od l n (i - 1) * (65536 - l) / 65536)
/-- What stands from one on, among the first ones. -/
def tl16 (f : Nat → Int) (a : Int) : Nat → Int
  | 0 => 0
  | m + 1 => tl16 f a m + (if a ≤ m then f m else 0)
section
variable {l : Int} (h0 : 0 ≤ l) (h1 : l ≤ 65536)
include h0 h1
theorem od_lo : ∀ n i, 0 ≤ od l n i
  | 0, i => by unfold od; split <;> omega
  | n + 1, i => by
      have a := od_lo n i
      have b := od_lo n (i - 1)
      have a1 : 0 ≤ od l n i * l / 65536 := Int.ediv_nonneg (Int.mul_nonneg a h0) (by omega)
      have b1 : 0 ≤ od l n (i - 1) * (65536 - l) / 65536 := Int.ediv_nonneg (Int.mul_nonneg b (by omega)) (by omega)
      unfold od
      split <;> omega
omit h0 h1 in
theorem od_far : ∀ n i, n < i → od l n i = 0
  | 0, i, h => by unfold od; rw [if_neg (by omega)]
  | n + 1, i, h => by
      unfold od
      rw [od_far n i (by omega), od_far n (i - 1) (by omega), if_neg (by omega)]
      simp
omit h0 h1 in
theorem od_two (x : Int) (_ : 0 ≤ x) : x * l / 65536 + x * (65536 - l) / 65536 ≤ x := by
  have e : x * (65536 - l) = x * 65536 - x * l := by rw [Int.mul_sub]
  rw [e]
  generalize x * l = y
  omega
theorem od_step (n : Nat) : ∀ m, tl16 (od l (n + 1)) 0 m + (if m = 0 then 0 else od l n (m - 1) * (65536 - l) / 65536) ≤ tl16 (od l n) 0 m
  | 0 => by simp [tl16]
  | m + 1 => by
      have ih := od_step n m
      have h2 := od_two (l := l) (od l n m) (od_lo h0 h1 n m)
      have e : od l (n + 1) m = od l n m * l / 65536 + (if m = 0 then 0 else od l n (m - 1) * (65536 - l) / 65536) := by rw [od]
      unfold tl16
      rw [e, if_pos (show (0 : Int) ≤ (m : Int) by omega), if_pos (show (0 : Int) ≤ (m : Int) by omega), if_neg (show ¬ m + 1 = 0 by omega)]
      have e2 : m + 1 - 1 = m := by omega
      rw [e2]
      omega
theorem od_sum : ∀ n m, tl16 (od l n) 0 m ≤ 65536
  | 0, m => by
      have : ∀ m, tl16 (od l 0) 0 m = if m = 0 then 0 else 65536 := by
        intro m
        induction m with
        | zero => rfl
        | succ m ih =>
          have e : od l 0 m = if m = 0 then 65536 else 0 := by unfold od; rfl
          unfold tl16
          rw [ih, e, if_pos (show (0 : Int) ≤ (m : Int) by omega), if_neg (show ¬ m + 1 = 0 by omega)]
          split <;> omega
      rw [this]
      split <;> omega
  | n + 1, m => by
      have a := od_step h0 h1 n m
      have b := od_sum n m
      have c : 0 ≤ (if m = 0 then 0 else od l n (m - 1) * (65536 - l) / 65536) := by
        split
        · omega
        · exact Int.ediv_nonneg (Int.mul_nonneg (od_lo h0 h1 n (m - 1)) (by omega)) (by omega)
      omega
theorem od_le (n i : Nat) : od l n i ≤ 65536 := by
  have key : ∀ m, 0 ≤ tl16 (od l n) 0 m := by
    intro m
    induction m with
    | zero => simp [tl16]
    | succ m ih =>
      have := od_lo h0 h1 n m
      unfold tl16
      split <;> omega
  have a := od_sum h0 h1 n (i + 1)
  have b := key i
  unfold tl16 at a
  rw [if_pos (by omega)] at a
  omega
end
theorem tl16_lo {f : Nat → Int} (hf : ∀ i, 0 ≤ f i) (a : Int) : ∀ m, 0 ≤ tl16 f a m
  | 0 => by simp [tl16]
  | m + 1 => by
      have := tl16_lo hf a m
      have := hf m
      unfold tl16
      split <;> omega
theorem tl16_mono {f : Nat → Int} (hf : ∀ i, 0 ≤ f i) {a b : Int} (h : a ≤ b) : ∀ m, tl16 f b m ≤ tl16 f a m
  | 0 => by simp [tl16]
  | m + 1 => by
      have := tl16_mono hf h m
      have := hf m
      unfold tl16
      split <;> split <;> omega
theorem tl16_neg (f : Nat → Int) {a : Int} (h : a ≤ 0) : ∀ m, tl16 f a m = tl16 f 0 m
  | 0 => rfl
  | m + 1 => by
      unfold tl16
      rw [tl16_neg f h m, if_pos (by omega), if_pos (by omega)]
theorem tl16_all {f : Nat → Int} (hf : ∀ i, 0 ≤ f i) (a : Int) (m : Nat) : tl16 f a m ≤ tl16 f 0 m := by
  by_cases h : 0 ≤ a
  · exact tl16_mono hf h m
  · rw [tl16_neg f (by omega) m]; exact Int.le_refl _
/-- How likely it is that enough come. -/
def odds16 (s n l : Int) : Int := if s < 0 ∨ 32 < s ∨ s < n then 0 else tl16 (od (held16 l 65536) s.toNat) n 33
theorem odds16_lo (s n l : Int) : 0 ≤ odds16 s n l ∧ odds16 s n l ≤ 65536 := by
  have hl := held16_lo l (show (0 : Int) ≤ 65536 by omega)
  unfold odds16
  split
  · omega
  · refine ⟨tl16_lo (fun i => od_lo hl.1 hl.2 _ i) _ _, ?_⟩
    have a := tl16_all (f := od (held16 l 65536) s.toNat) (fun i => od_lo hl.1 hl.2 _ i) n 33
    have b := od_sum hl.1 hl.2 s.toNat 33
    omega
theorem odds16_mono (s n l : Int) : odds16 s (n + 1) l ≤ odds16 s n l := by
  have hl := held16_lo l (show (0 : Int) ≤ 65536 by omega)
  by_cases h : s < 0 ∨ 32 < s ∨ s < n + 1
  · have a : odds16 s (n + 1) l = 0 := by unfold odds16; rw [if_pos h]
    rw [a]; exact (odds16_lo s n l).1
  · unfold odds16
    rw [if_neg h, if_neg (by omega)]
    exact tl16_mono (fun i => od_lo hl.1 hl.2 _ i) (by omega) _
end Go.Proofs.Ytjcbcdjfhcnhcaa
