/-
  Own text: layer 8 in plain numbers: counting bits; what came, and what a number that comes makes of it.
-/
import Derived.Test.YtopnceniihgkpaaByteA
namespace Go.Proofs.Ytopnceniihgkpaa

/-- How many of the first n are so. -/
def cnt (p : Nat → Bool) : Nat → Nat
  | 0 => 0
  | n + 1 => cnt p n + (if p n then 1 else 0)
theorem cnt_congr {p q : Nat → Bool} : ∀ {n : Nat}, (∀ i, i < n → p i = q i) → cnt p n = cnt q n
  | 0, _ => rfl
  | n + 1, h => by unfold cnt; rw [cnt_congr (fun i hi => h i (by omega)), h n (by omega)]
theorem cnt_none {p : Nat → Bool} : ∀ {n : Nat}, (∀ i, i < n → p i = false) → cnt p n = 0
  | 0, _ => rfl
  | n + 1, h => by unfold cnt; rw [cnt_none (fun i hi => h i (by omega)), h n (by omega)]; rfl
theorem cnt_le (p : Nat → Bool) : ∀ n, cnt p n ≤ n
  | 0 => Nat.le_refl _
  | n + 1 => by unfold cnt; have := cnt_le p n; split <;> omega
theorem cnt_add (p : Nat → Bool) (m : Nat) : ∀ n, cnt p (m + n) = cnt p m + cnt (fun i => p (i + m)) n
  | 0 => rfl
  | n + 1 => by
    rw [← Nat.add_assoc]
    show cnt p (m + n) + _ = cnt p m + (cnt (fun i => p (i + m)) n + _)
    rw [cnt_add p m n, Nat.add_comm m n, Nat.add_assoc]
/-- The same byte so many times. -/
def mk8 (b : Nat) : Nat → Nat
  | 0 => 0
  | n + 1 => 2 ^ 8 * mk8 b n + b
theorem mk8_succ (b n : Nat) : mk8 b (n + 1) = 2 ^ 8 * mk8 b n + b := rfl
theorem and_bytes (q r : Nat) {a b : Nat} (ha : a < 2 ^ 8) (hb : b < 2 ^ 8) : (2 ^ 8 * q + a) &&& (2 ^ 8 * r + b) = 2 ^ 8 * (q &&& r) + (a &&& b) := by
  apply Nat.eq_of_testBit_eq
  intro j
  rw [Nat.testBit_and, Nat.testBit_two_pow_mul_add _ ha, Nat.testBit_two_pow_mul_add _ hb, Nat.testBit_two_pow_mul_add _ (Nat.and_lt_two_pow a hb)]
  split <;> simp [Nat.testBit_and]
def g1 (n x : Nat) : Nat := (x / 2 &&& mk8 0x55 n) + (x &&& mk8 0x55 n)
def g2 (n x : Nat) : Nat := (x / 4 &&& mk8 0x33 n) + (x &&& mk8 0x33 n)
def g3 (n x : Nat) : Nat := (x / 16 + x) &&& mk8 0x0f n
theorem f1 : ∀ e : Fin 2, ∀ B : Fin 256, (128 * e.val + B.val / 2) &&& 0x55 = (B.val / 2) &&& 0x55 := by decide +kernel
theorem f2 : ∀ e : Fin 4, ∀ B : Fin 256, (64 * e.val + B.val / 4) &&& 0x33 = (B.val / 4) &&& 0x33 := by decide +kernel
theorem f3 : ∀ e : Fin 5, ∀ B : Fin 80, (16 * e.val + B.val / 16 + B.val) &&& 0x0f = (B.val / 16 + B.val) &&& 0x0f := by decide +kernel
theorem small1 : ∀ B : Fin 256, g1 1 B.val < 256 := by decide +kernel
theorem small2 : ∀ B : Fin 256, g2 1 (g1 1 B.val) < 80 ∧ g2 1 (g1 1 B.val) % 16 < 5 := by decide +kernel
theorem pop8_all : ∀ B : Fin 256, g3 1 (g2 1 (g1 1 B.val)) = cnt (Nat.testBit B.val) 8 := by decide +kernel
theorem g1_succ (n q B : Nat) (hB : B < 256) : g1 (n + 1) (2 ^ 8 * q + B) = 2 ^ 8 * g1 n q + g1 1 B := by
  have e : (2 ^ 8 * q + B) / 2 = 2 ^ 8 * (q / 2) + (128 * (q % 2) + B / 2) := by omega
  have h := f1 ⟨q % 2, by omega⟩ ⟨B, hB⟩
  simp only at h
  have e1 : g1 1 B = (B / 2 &&& 0x55) + (B &&& 0x55) := rfl
  rw [e1]
  show ((2 ^ 8 * q + B) / 2 &&& mk8 0x55 (n + 1)) + ((2 ^ 8 * q + B) &&& mk8 0x55 (n + 1)) = 2 ^ 8 * ((q / 2 &&& mk8 0x55 n) + (q &&& mk8 0x55 n)) + _
  rw [e, mk8_succ, and_bytes _ _ (by omega) (by omega), and_bytes _ _ (by omega) (by omega), h]
  omega
theorem g2_succ (n q B : Nat) (hB : B < 256) : g2 (n + 1) (2 ^ 8 * q + B) = 2 ^ 8 * g2 n q + g2 1 B := by
  have e : (2 ^ 8 * q + B) / 4 = 2 ^ 8 * (q / 4) + (64 * (q % 4) + B / 4) := by omega
  have h := f2 ⟨q % 4, by omega⟩ ⟨B, hB⟩
  simp only at h
  have e1 : g2 1 B = (B / 4 &&& 0x33) + (B &&& 0x33) := rfl
  rw [e1]
  show ((2 ^ 8 * q + B) / 4 &&& mk8 0x33 (n + 1)) + ((2 ^ 8 * q + B) &&& mk8 0x33 (n + 1)) = 2 ^ 8 * ((q / 4 &&& mk8 0x33 n) + (q &&& mk8 0x33 n)) + _
  rw [e, mk8_succ, and_bytes _ _ (by omega) (by omega), and_bytes _ _ (by omega) (by omega), h]
  omega
theorem g3_succ (n q B : Nat) (hB : B < 80) (hq : q % 16 < 5) : g3 (n + 1) (2 ^ 8 * q + B) = 2 ^ 8 * g3 n q + g3 1 B := by
  have e : (2 ^ 8 * q + B) / 16 + (2 ^ 8 * q + B) = 2 ^ 8 * (q / 16 + q) + (16 * (q % 16) + B / 16 + B) := by omega
  have h := f3 ⟨q % 16, by omega⟩ ⟨B, hB⟩
  simp only at h
  have e1 : g3 1 B = (B / 16 + B) &&& 0x0f := rfl
  rw [e1]
  show ((2 ^ 8 * q + B) / 16 + (2 ^ 8 * q + B)) &&& mk8 0x0f (n + 1) = 2 ^ 8 * ((q / 16 + q) &&& mk8 0x0f n) + _
  rw [e, mk8_succ, and_bytes _ _ (by omega) (by omega), h]
/-- The bits of each byte, counted in it. -/
def pp (n x : Nat) : Nat := g3 n (g2 n (g1 n x))
theorem low_small (n q : Nat) : g2 n (g1 n q) % 16 < 5 := by
  cases n with
  | zero => simp [g2, g1, mk8]
  | succ n =>
    have e : q = 2 ^ 8 * (q / 256) + q % 256 := by omega
    have hb : q % 256 < 256 := by omega
    have s1 := small1 ⟨q % 256, hb⟩
    have s2 := small2 ⟨q % 256, hb⟩
    simp only at s1 s2
    rw [e, g1_succ _ _ _ hb, g2_succ _ _ _ s1]
    omega
theorem pp_succ (n x : Nat) : pp (n + 1) x = 2 ^ 8 * pp n (x / 256) + cnt (Nat.testBit (x % 256)) 8 := by
  have e : x = 2 ^ 8 * (x / 256) + x % 256 := by omega
  have hb : x % 256 < 256 := by omega
  have s1 := small1 ⟨x % 256, hb⟩
  have s2 := small2 ⟨x % 256, hb⟩
  have s3 := pop8_all ⟨x % 256, hb⟩
  simp only at s1 s2 s3
  unfold pp
  conv => lhs; rw [e]
  rw [g1_succ _ _ _ hb, g2_succ _ _ _ s1, g3_succ _ _ _ s2.1 (low_small _ _), s3]
theorem cnt_byte (x n : Nat) : cnt (Nat.testBit x) (8 + n) = cnt (Nat.testBit (x % 256)) 8 + cnt (Nat.testBit (x / 256)) n := by
  rw [cnt_add]
  congr 1
  · apply cnt_congr
    intro i hi
    rw [show (256 : Nat) = 2 ^ 8 from rfl, Nat.testBit_mod_two_pow]
    simp [hi]
  · apply cnt_congr
    intro i _
    rw [show (256 : Nat) = 2 ^ 8 from rfl, Nat.testBit_div_two_pow]
/-- How many bits are set. -/
def pop (x : Nat) : Nat := cnt (Nat.testBit x) 64
theorem pop_le (x : Nat) : pop x ≤ 64 := cnt_le _ _
theorem pop_swar (x : Nat) : ∃ z : Nat, pp 8 x = z ∧ z ≤ 578721382704613384 ∧ ((z + z / 256) + (z + z / 256) / 65536 + ((z + z / 256) + (z + z / 256) / 65536) / 4294967296) % 128 = pop x := by
  refine ⟨_, rfl, ?_⟩
  have e : pop x = cnt (Nat.testBit (x % 256)) 8 + (cnt (Nat.testBit (x / 256 % 256)) 8 + (cnt (Nat.testBit (x / 256 / 256 % 256)) 8 + (cnt (Nat.testBit (x / 256 / 256 / 256 % 256)) 8 + (cnt (Nat.testBit (x / 256 / 256 / 256 / 256 % 256)) 8 + (cnt (Nat.testBit (x / 256 / 256 / 256 / 256 / 256 % 256)) 8 + (cnt (Nat.testBit (x / 256 / 256 / 256 / 256 / 256 / 256 % 256)) 8 + (cnt (Nat.testBit (x / 256 / 256 / 256 / 256 / 256 / 256 / 256 % 256)) 8))))))) := by
    show cnt (Nat.testBit x) (8 + (8 + (8 + (8 + (8 + (8 + (8 + (8 + 0)))))))) = _
    simp only [cnt_byte]
    rfl
  have e0 : pp 0 (x / 256 / 256 / 256 / 256 / 256 / 256 / 256 / 256) = 0 := by simp [pp, g3, mk8]
  rw [e]
  simp only [pp_succ, e0]
  have c0 := cnt_le (Nat.testBit (x % 256)) 8
  have c1 := cnt_le (Nat.testBit (x / 256 % 256)) 8
  have c2 := cnt_le (Nat.testBit (x / 256 / 256 % 256)) 8
  have c3 := cnt_le (Nat.testBit (x / 256 / 256 / 256 % 256)) 8
  have c4 := cnt_le (Nat.testBit (x / 256 / 256 / 256 / 256 % 256)) 8
  have c5 := cnt_le (Nat.testBit (x / 256 / 256 / 256 / 256 / 256 % 256)) 8
  have c6 := cnt_le (Nat.testBit (x / 256 / 256 / 256 / 256 / 256 / 256 % 256)) 8
  have c7 := cnt_le (Nat.testBit (x / 256 / 256 / 256 / 256 / 256 / 256 / 256 % 256)) 8
  generalize cnt (Nat.testBit (x % 256)) 8 = p0 at *
  generalize cnt (Nat.testBit (x / 256 % 256)) 8 = p1 at *
  generalize cnt (Nat.testBit (x / 256 / 256 % 256)) 8 = p2 at *
  generalize cnt (Nat.testBit (x / 256 / 256 / 256 % 256)) 8 = p3 at *
  generalize cnt (Nat.testBit (x / 256 / 256 / 256 / 256 % 256)) 8 = p4 at *
  generalize cnt (Nat.testBit (x / 256 / 256 / 256 / 256 / 256 % 256)) 8 = p5 at *
  generalize cnt (Nat.testBit (x / 256 / 256 / 256 / 256 / 256 / 256 % 256)) 8 = p6 at *
  generalize cnt (Nat.testBit (x / 256 / 256 / 256 / 256 / 256 / 256 / 256 % 256)) 8 = p7 at *
  clear e e0
  obtain ⟨t7, h7⟩ : ∃ t, t = 2 ^ 8 * 0 + p7 := ⟨_, rfl⟩
  rw [← h7]
  obtain ⟨t6, h6⟩ : ∃ t, t = 2 ^ 8 * t7 + p6 := ⟨_, rfl⟩
  rw [← h6]
  obtain ⟨t5, h5⟩ : ∃ t, t = 2 ^ 8 * t6 + p5 := ⟨_, rfl⟩
  rw [← h5]
  obtain ⟨t4, h4⟩ : ∃ t, t = 2 ^ 8 * t5 + p4 := ⟨_, rfl⟩
  rw [← h4]
  obtain ⟨t3, h3⟩ : ∃ t, t = 2 ^ 8 * t4 + p3 := ⟨_, rfl⟩
  rw [← h3]
  obtain ⟨t2, h2⟩ : ∃ t, t = 2 ^ 8 * t3 + p2 := ⟨_, rfl⟩
  rw [← h2]
  obtain ⟨t1, h1⟩ : ∃ t, t = 2 ^ 8 * t2 + p1 := ⟨_, rfl⟩
  rw [← h1]
  obtain ⟨t0, h0⟩ : ∃ t, t = 2 ^ 8 * t1 + p0 := ⟨_, rfl⟩
  rw [← h0]
  have b7 : t7 ≤ 8 := by omega
  have b6 : t6 ≤ 2056 := by omega
  have b5 : t5 ≤ 526344 := by omega
  have b4 : t4 ≤ 134744072 := by omega
  have b3 : t3 ≤ 34494482440 := by omega
  have b2 : t2 ≤ 8830587504648 := by omega
  have b1 : t1 ≤ 2260630401189896 := by omega
  have b0 : t0 ≤ 578721382704613384 := by omega
  have a1 : t0 / 256 = t1 := by omega
  have a2 : (t0 + t1) / 65536 = t2 + t3 := by
    have k : t0 + t1 = 65536 * (t2 + t3) + (256 * (p1 + p2) + p0 + p1) := by omega
    omega
  have a3 : (t0 + t1 + (t2 + t3)) / 4294967296 = t4 + t5 + t6 + t7 := by
    have k0 : t0 = 4294967296 * t4 + (p0 + 256 * p1 + 65536 * p2 + 16777216 * p3) := by omega
    have k1 : t1 = 4294967296 * t5 + (p1 + 256 * p2 + 65536 * p3 + 16777216 * p4) := by omega
    have k2 : t2 = 4294967296 * t6 + (p2 + 256 * p3 + 65536 * p4 + 16777216 * p5) := by omega
    have k3 : t3 = 4294967296 * t7 + (p3 + 256 * p4 + 65536 * p5 + 16777216 * p6) := by omega
    clear h0 h1 h2 h3 h4 h5 h6 h7 b0 b1 b2 b3 b4 b5 b6 b7 a1 a2
    omega
  rw [a1, a2, a3]
  refine ⟨b0, ?_⟩
  clear b0 b1 b2 b3 b4 b5 b6 b7 a1 a2 a3
  have m7 : t7 % 256 = p7 := by omega
  have m6 : t6 % 256 = p6 := by omega
  have m5 : t5 % 256 = p5 := by omega
  have m4 : t4 % 256 = p4 := by omega
  have m3 : t3 % 256 = p3 := by omega
  have m2 : t2 % 256 = p2 := by omega
  have m1 : t1 % 256 = p1 := by omega
  have m0 : t0 % 256 = p0 := by omega
  clear h0 h1 h2 h3 h4 h5 h6 h7
  omega
end Go.Proofs.Ytopnceniihgkpaa
