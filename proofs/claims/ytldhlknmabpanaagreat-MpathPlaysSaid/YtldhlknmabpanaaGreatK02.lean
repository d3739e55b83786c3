/-
  Own text: layer 8 in plain numbers: counting bits; what came, and what a number that comes makes of it.
    words of 64 bits: and, or, shifts; math/bits.OnesCount64, walked.
    what came, in plain numbers, and in its block; word.Behind, the document's Behind, bit, missing, walked.
    move, walked.
    Take, walked.
    Clamp, Has, Holes, awake, walked.
-/
import Derived.Test.YtldhlknmabpanaaGreatK01
import Derived.StillTailTactics
namespace Go.Proofs.YtldhlknmabpanaaGreat

/-- How many of the first n are so. -/
def cnt (p : Nat → Bool) : Nat → Nat
  | 0 => 0
  | n + 1 => cnt p n + (if p n then 1 else 0)
theorem cnt_congr {p q : Nat → Bool} : ∀ {n : Nat}, (∀ i, i < n → p i = q i) → cnt p n = cnt q n
  | 0, _ => rfl
  | n + 1, h => by unfold cnt; rw [cnt_congr (fun i hi => h i (by omega)), h n (by omega)]
theorem cnt_none {p : Nat → Bool} : ∀ {n : Nat}, (∀ i, i < n → p i = false) → cnt p n = 0
  | 0, _ => rfl
  | n + 1, h => by unfold cnt; rw [cnt_none (fun i hi => h i (by omega)), h n (by omega)]; rfl
theorem cnt_le (p : Nat → Bool) : ∀ n, cnt p n ≤ n
  | 0 => Nat.le_refl _
  | n + 1 => by unfold cnt; have := cnt_le p n; split <;> omega
theorem cnt_add (p : Nat → Bool) (m : Nat) : ∀ n, cnt p (m + n) = cnt p m + cnt (fun i => p (i + m)) n
  | 0 => rfl
  | n + 1 => by
    rw [← Nat.add_assoc]
    show cnt p (m + n) + _ = cnt p m + (cnt (fun i => p (i + m)) n + _)
    rw [cnt_add p m n, Nat.add_comm m n, Nat.add_assoc]
/-- The same byte so many times. -/
def mk8 (b : Nat) : Nat → Nat
  | 0 => 0
  | n + 1 => 2 ^ 8 * mk8 b n + b
theorem mk8_succ (b n : Nat) : mk8 b (n + 1) = 2 ^ 8 * mk8 b n + b := rfl
theorem and_bytes (q r : Nat) {a b : Nat} (ha : a < 2 ^ 8) (hb : b < 2 ^ 8) : (2 ^ 8 * q + a) &&& (2 ^ 8 * r + b) = 2 ^ 8 * (q &&& r) + (a &&& b) := by
  apply Nat.eq_of_testBit_eq
  intro j
  rw [Nat.testBit_and, Nat.testBit_two_pow_mul_add _ ha, Nat.testBit_two_pow_mul_add _ hb, Nat.testBit_two_pow_mul_add _ (Nat.and_lt_two_pow a hb)]
  split <;> simp [Nat.testBit_and]
def g1 (n x : Nat) : Nat := (x / 2 &&& mk8 0x55 n) + (x &&& mk8 0x55 n)
def g2 (n x : Nat) : Nat := (x / 4 &&& mk8 0x33 n) + (x &&& mk8 0x33 n)
def g3 (n x : Nat) : Nat := (x / 16 + x) &&& mk8 0x0f n
theorem f1 : ∀ e : Fin 2, ∀ B : Fin 256, (128 * e.val + B.val / 2) &&& 0x55 = (B.val / 2) &&& 0x55 := by decide +kernel
theorem f2 : ∀ e : Fin 4, ∀ B : Fin 256, (64 * e.val + B.val / 4) &&& 0x33 = (B.val / 4) &&& 0x33 := by decide +kernel
theorem f3 : ∀ e : Fin 5, ∀ B : Fin 80, (16 * e.val + B.val / 16 + B.val) &&& 0x0f = (B.val / 16 + B.val) &&& 0x0f := by decide +kernel
theorem small1 : ∀ B : Fin 256, g1 1 B.val < 256 := by decide +kernel
theorem small2 : ∀ B : Fin 256, g2 1 (g1 1 B.val) < 80 ∧ g2 1 (g1 1 B.val) % 16 < 5 := by decide +kernel
theorem pop8_all : ∀ B : Fin 256, g3 1 (g2 1 (g1 1 B.val)) = cnt (Nat.testBit B.val) 8 := by decide +kernel
theorem g1_succ (n q B : Nat) (hB : B < 256) : g1 (n + 1) (2 ^ 8 * q + B) = 2 ^ 8 * g1 n q + g1 1 B := by
  have e : (2 ^ 8 * q + B) / 2 = 2 ^ 8 * (q / 2) + (128 * (q % 2) + B / 2) := by omega
  have h := f1 ⟨q % 2, by omega⟩ ⟨B, hB⟩
  simp only at h
  have e1 : g1 1 B = (B / 2 &&& 0x55) + (B &&& 0x55) := rfl
  rw [e1]
  show ((2 ^ 8 * q + B) / 2 &&& mk8 0x55 (n + 1)) + ((2 ^ 8 * q + B) &&& mk8 0x55 (n + 1)) = 2 ^ 8 * ((q / 2 &&& mk8 0x55 n) + (q &&& mk8 0x55 n)) + _
  rw [e, mk8_succ, and_bytes _ _ (by omega) (by omega), and_bytes _ _ (by omega) (by omega), h]
  omega
theorem g2_succ (n q B : Nat) (hB : B < 256) : g2 (n + 1) (2 ^ 8 * q + B) = 2 ^ 8 * g2 n q + g2 1 B := by
  have e : (2 ^ 8 * q + B) / 4 = 2 ^ 8 * (q / 4) + (64 * (q % 4) + B / 4) := by omega
  have h := f2 ⟨q % 4, by omega⟩ ⟨B, hB⟩
  simp only at h
  have e1 : g2 1 B = (B / 4 &&& 0x33) + (B &&& 0x33) := rfl
  rw [e1]
  show ((2 ^ 8 * q + B) / 4 &&& mk8 0x33 (n + 1)) + ((2 ^ 8 * q + B) &&& mk8 0x33 (n + 1)) = 2 ^ 8 * ((q / 4 &&& mk8 0x33 n) + (q &&& mk8 0x33 n)) + _
  rw [e, mk8_succ, and_bytes _ _ (by omega) (by omega), and_bytes _ _ (by omega) (by omega), h]
  omega
theorem g3_succ (n q B : Nat) (hB : B < 80) (hq : q % 16 < 5) : g3 (n + 1) (2 ^ 8 * q + B) = 2 ^ 8 * g3 n q + g3 1 B := by
  have e : (2 ^ 8 * q + B) / 16 + (2 ^ 8 * q + B) = 2 ^ 8 * (q / 16 + q) + (16 * (q % 16) + B / 16 + B) := by omega
  have h := f3 ⟨q % 16, by omega⟩ ⟨B, hB⟩
  simp only at h
  have e1 : g3 1 B = (B / 16 + B) &&& 0x0f := rfl
  rw [e1]
  show ((2 ^ 8 * q + B) / 16 + (2 ^ 8 * q + B)) &&& mk8 0x0f (n + 1) = 2 ^ 8 * ((q / 16 + q) &&& mk8 0x0f n) + _
  rw [e, mk8_succ, and_bytes _ _ (by omega) (by omega), h]
/-- The bits of each byte, counted in it. -/
def pp (n x : Nat) : Nat := g3 n (g2 n (g1 n x))
theorem low_small (n q : Nat) : g2 n (g1 n q) % 16 < 5 := by
  cases n with
  | zero => simp [g2, g1, mk8]
  | succ n =>
    have e : q = 2 ^ 8 * (q / 256) + q % 256 := by omega
    have hb : q % 256 < 256 := by omega
    have s1 := small1 ⟨q % 256, hb⟩
    have s2 := small2 ⟨q % 256, hb⟩
    simp only at s1 s2
    rw [e, g1_succ _ _ _ hb, g2_succ _ _ _ s1]
    omega
theorem pp_succ (n x : Nat) : pp (n + 1) x = 2 ^ 8 * pp n (x / 256) + cnt (Nat.testBit (x % 256)) 8 := by
  have e : x = 2 ^ 8 * (x / 256) + x % 256 := by omega
  have hb : x % 256 < 256 := by omega
  have s1 := small1 ⟨x % 256, hb⟩
  have s2 := small2 ⟨x % 256, hb⟩
  have s3 := pop8_all ⟨x % 256, hb⟩
  simp only at s1 s2 s3
  unfold pp
  conv => lhs; rw [e]
  rw [g1_succ _ _ _ hb, g2_succ _ _ _ s1, g3_succ _ _ _ s2.1 (low_small _ _), s3]
theorem cnt_byte (x n : Nat) : cnt (Nat.testBit x) (8 + n) = cnt (Nat.testBit (x % 256)) 8 + cnt (Nat.testBit (x / 256)) n := by
  rw [cnt_add]
  congr 1
  · apply cnt_congr
    intro i hi
    rw [show (256 : Nat) = 2 ^ 8 from rfl, Nat.testBit_mod_two_pow]
    simp [hi]
  · apply cnt_congr
    intro i _
    rw [show (256 : Nat) = 2 ^ 8 from rfl, Nat.testBit_div_two_pow]
/-- How many bits are set. -/
def pop (x : Nat) : Nat := cnt (Nat.testBit x) 64
theorem pop_le (x : Nat) : pop x ≤ 64 := cnt_le _ _
theorem pop_swar (x : Nat) : ∃ z : Nat, pp 8 x = z ∧ z ≤ 578721382704613384 ∧ ((z + z / 256) + (z + z / 256) / 65536 + ((z + z / 256) + (z + z / 256) / 65536) / 4294967296) % 128 = pop x := by
  refine ⟨_, rfl, ?_⟩
  have e : pop x = cnt (Nat.testBit (x % 256)) 8 + (cnt (Nat.testBit (x / 256 % 256)) 8 + (cnt (Nat.testBit (x / 256 / 256 % 256)) 8 + (cnt (Nat.testBit (x / 256 / 256 / 256 % 256)) 8 + (cnt (Nat.testBit (x / 256 / 256 / 256 / 256 % 256)) 8 + (cnt (Nat.testBit (x / 256 / 256 / 256 / 256 / 256 % 256)) 8 + (cnt (Nat.testBit (x / 256 / 256 / 256 / 256 / 256 / 256 % 256)) 8 + (cnt (Nat.testBit (x / 256 / 256 / 256 / 256 / 256 / 256 / 256 % 256)) 8))))))) := by
    show cnt (Nat.testBit x) (8 + (8 + (8 + (8 + (8 + (8 + (8 + (8 + 0)))))))) = _
    simp only [cnt_byte]
    rfl
  have e0 : pp 0 (x / 256 / 256 / 256 / 256 / 256 / 256 / 256 / 256) = 0 := by simp [pp, g3, mk8]
  rw [e]
  simp only [pp_succ, e0]
  have c0 := cnt_le (Nat.testBit (x % 256)) 8
  have c1 := cnt_le (Nat.testBit (x / 256 % 256)) 8
  have c2 := cnt_le (Nat.testBit (x / 256 / 256 % 256)) 8
  have c3 := cnt_le (Nat.testBit (x / 256 / 256 / 256 % 256)) 8
  have c4 := cnt_le (Nat.testBit (x / 256 / 256 / 256 / 256 % 256)) 8
  have c5 := cnt_le (Nat.testBit (x / 256 / 256 / 256 / 256 / 256 % 256)) 8
  have c6 := cnt_le (Nat.testBit (x / 256 / 256 / 256 / 256 / 256 / 256 % 256)) 8
  have c7 := cnt_le (Nat.testBit (x / 256 / 256 / 256 / 256 / 256 / 256 / 256 % 256)) 8
  generalize cnt (Nat.testBit (x % 256)) 8 = p0 at *
  generalize cnt (Nat.testBit (x / 256 % 256)) 8 = p1 at *
  generalize cnt (Nat.testBit (x / 256 / 256 % 256)) 8 = p2 at *
  generalize cnt (Nat.testBit (x / 256 / 256 / 256 % 256)) 8 = p3 at *
  generalize cnt (Nat.testBit (x / 256 / 256 / 256 / 256 % 256)) 8 = p4 at *
  generalize cnt (Nat.testBit (x / 256 / 256 / 256 / 256 / 256 % 256)) 8 = p5 at *
  generalize cnt (Nat.testBit (x / 256 / 256 / 256 / 256 / 256 / 256 % 256)) 8 = p6 at *
  generalize cnt (Nat.testBit (x / 256 / 256 / 256 / 256 / 256 / 256 / 256 % 256)) 8 = p7 at *
  clear e e0
  obtain ⟨t7, h7⟩ : ∃ t, t = 2 ^ 8 * 0 + p7 := ⟨_, rfl⟩
  rw [← h7]
  obtain ⟨t6, h6⟩ : ∃ t, t = 2 ^ 8 * t7 + p6 := ⟨_, rfl⟩
  rw [← h6]
  obtain ⟨t5, h5⟩ : ∃ t, t = 2 ^ 8 * t6 + p5 := ⟨_, rfl⟩
  rw [← h5]
  obtain ⟨t4, h4⟩ : ∃ t, t = 2 ^ 8 * t5 + p4 := ⟨_, rfl⟩
  rw [← h4]
  obtain ⟨t3, h3⟩ : ∃ t, t = 2 ^ 8 * t4 + p3 := ⟨_, rfl⟩
  rw [← h3]
  obtain ⟨t2, h2⟩ : ∃ t, t = 2 ^ 8 * t3 + p2 := ⟨_, rfl⟩
  rw [← h2]
  obtain ⟨t1, h1⟩ : ∃ t, t = 2 ^ 8 * t2 + p1 := ⟨_, rfl⟩
  rw [← h1]
  obtain ⟨t0, h0⟩ : ∃ t, t = 2 ^ 8 * t1 + p0 := ⟨_, rfl⟩
  rw [← h0]
  have b7 : t7 ≤ 8 := by omega
  have b6 : t6 ≤ 2056 := by omega
  have b5 : t5 ≤ 526344 := by omega
  have b4 : t4 ≤ 134744072 := by omega
  have b3 : t3 ≤ 34494482440 := by omega
  have b2 : t2 ≤ 8830587504648 := by omega
  have b1 : t1 ≤ 2260630401189896 := by omega
  have b0 : t0 ≤ 578721382704613384 := by omega
  have a1 : t0 / 256 = t1 := by omega
  have a2 : (t0 + t1) / 65536 = t2 + t3 := by
    have k : t0 + t1 = 65536 * (t2 + t3) + (256 * (p1 + p2) + p0 + p1) := by omega
    omega
  have a3 : (t0 + t1 + (t2 + t3)) / 4294967296 = t4 + t5 + t6 + t7 := by
    have k0 : t0 = 4294967296 * t4 + (p0 + 256 * p1 + 65536 * p2 + 16777216 * p3) := by omega
    have k1 : t1 = 4294967296 * t5 + (p1 + 256 * p2 + 65536 * p3 + 16777216 * p4) := by omega
    have k2 : t2 = 4294967296 * t6 + (p2 + 256 * p3 + 65536 * p4 + 16777216 * p5) := by omega
    have k3 : t3 = 4294967296 * t7 + (p3 + 256 * p4 + 65536 * p5 + 16777216 * p6) := by omega
    clear h0 h1 h2 h3 h4 h5 h6 h7 b0 b1 b2 b3 b4 b5 b6 b7 a1 a2
    omega
  rw [a1, a2, a3]
  refine ⟨b0, ?_⟩
  clear b0 b1 b2 b3 b4 b5 b6 b7 a1 a2 a3
  have m7 : t7 % 256 = p7 := by omega
  have m6 : t6 % 256 = p6 := by omega
  have m5 : t5 % 256 = p5 := by omega
  have m4 : t4 % 256 = p4 := by omega
  have m3 : t3 % 256 = p3 := by omega
  have m2 : t2 % 256 = p2 := by omega
  have m1 : t1 % 256 = p1 := by omega
  have m0 : t0 % 256 = p0 := by omega
  clear h0 h1 h2 h3 h4 h5 h6 h7
  omega
end Go.Proofs.YtldhlknmabpanaaGreat
namespace Go.Proofs.YtldhlknmabpanaaGreat
open Go.RowKit

theorem u64_mod (a : Nat) (h : a < 18446744073709551616) : ((a : Int) % ((2 ^ IntKind.u64.bits : Nat) : Int)).toNat = a := by
  show ((a : Int) % 18446744073709551616).toNat = a
  omega
theorem and64 (a b : Nat) (ha : a < 18446744073709551616) (hb : b < 18446744073709551616) : bits .and .u64 (a : Int) (b : Int) = ((a &&& b : Nat) : Int) := by
  have h : a &&& b < 2 ^ 64 := Nat.and_lt_two_pow _ hb
  simp only [bits, BitVec.toNat_and, BitVec.toNat_ofInt, u64_mod a ha, u64_mod b hb]
  rw [IntKind.wrap_u64]
  omega
theorem or64 (a b : Nat) (ha : a < 18446744073709551616) (hb : b < 18446744073709551616) : bits .or .u64 (a : Int) (b : Int) = ((a ||| b : Nat) : Int) := by
  have h : a ||| b < 2 ^ 64 := Nat.or_lt_two_pow ha hb
  simp only [bits, BitVec.toNat_or, BitVec.toNat_ofInt, u64_mod a ha, u64_mod b hb]
  rw [IntKind.wrap_u64]
  omega
theorem and64i (a b : Int) (x y : Nat) (hx : a = x) (hy : b = y) (ha : x < 18446744073709551616) (hb : y < 18446744073709551616) : bits .and .u64 a b = ((x &&& y : Nat) : Int) := by
  subst hx hy; exact and64 x y ha hb
theorem and127 (v : Int) (x : Nat) (hx : v = x) (h : x < 9223372036854775808) : bits .and .i64 v 127 = ((x % 128 : Nat) : Int) := by
  subst hx
  have m1 : ((x : Int) % ((2 ^ IntKind.i64.bits : Nat) : Int)).toNat = x := by
    show ((x : Int) % 18446744073709551616).toNat = x
    omega
  have m2 : ((127 : Int) % ((2 ^ IntKind.i64.bits : Nat) : Int)).toNat = 2 ^ 7 - 1 := rfl
  simp only [bits, BitVec.toNat_and, BitVec.toNat_ofInt, m1, m2, Nat.and_two_pow_sub_one_eq_mod]
  rw [IntKind.wrap_i64]
  omega
theorem ones_any (x : Nat) (hx : x < 18446744073709551616) (w : World) :
    Calls Tryz.prog 137 #[.int .u64 x] w fun e w' => e = .returned (.int .i64 (pop x)) ∧ w = w' := by
  obtain ⟨z, hz, hzb, hp⟩ := pop_swar x
  have ha1 : x / 2 &&& mk8 0x55 8 < 2 ^ 63 := Nat.and_lt_two_pow _ (by decide)
  have ha2 : x &&& mk8 0x55 8 < 2 ^ 63 := Nat.and_lt_two_pow _ (by decide)
  have e1 : bits .and .u64 ((x : Int) / 2) 6148914691236517205 = ((x / 2 &&& mk8 0x55 8 : Nat) : Int) := and64i _ _ _ _ (by omega) (by decide) (by omega) (by decide)
  have e2 : bits .and .u64 (x : Int) 6148914691236517205 = ((x &&& mk8 0x55 8 : Nat) : Int) := and64i _ _ _ _ (by omega) (by decide) (by omega) (by decide)
  obtain ⟨y, hy⟩ : ∃ y, y = g1 8 x := ⟨_, rfl⟩
  have hy1 : y = (x / 2 &&& mk8 0x55 8) + (x &&& mk8 0x55 8) := hy
  generalize x / 2 &&& mk8 0x55 8 = a1 at *
  generalize x &&& mk8 0x55 8 = a2 at *
  have hb1 : y / 4 &&& mk8 0x33 8 < 2 ^ 62 := Nat.and_lt_two_pow _ (by decide)
  have hb2 : y &&& mk8 0x33 8 < 2 ^ 62 := Nat.and_lt_two_pow _ (by decide)
  have e3 : bits .and .u64 (((a1 : Int) + a2) / 4) 3689348814741910323 = ((y / 4 &&& mk8 0x33 8 : Nat) : Int) := and64i _ _ _ _ (by omega) (by decide) (by omega) (by decide)
  have e4 : bits .and .u64 ((a1 : Int) + a2) 3689348814741910323 = ((y &&& mk8 0x33 8 : Nat) : Int) := and64i _ _ _ _ (by omega) (by decide) (by omega) (by decide)
  obtain ⟨u, hu⟩ : ∃ u, u = g2 8 y := ⟨_, rfl⟩
  have hu1 : u = (y / 4 &&& mk8 0x33 8) + (y &&& mk8 0x33 8) := hu
  generalize y / 4 &&& mk8 0x33 8 = b1 at *
  generalize y &&& mk8 0x33 8 = b2 at *
  have e5 : bits .and .u64 (((b1 : Int) + b2) / 16 + ((b1 : Int) + b2)) 1085102592571150095 = (z : Int) := by
    rw [and64i _ _ (u / 16 + u) (mk8 0x0f 8) (by omega) (by decide) (by omega) (by decide), ← hz]
    unfold pp g3
    rw [← hy, ← hu]
  have hl := pop_le x
  generalize pop x = p at *
  clear hz hu hy hu1 hy1
  go_enter Tryz.func137, Tryz.ntmps137
  go_wp2
  go_ret
  refine ⟨ret_int ?_, rfl⟩
  rw [and127 _ (z + z / 256 + (z + z / 256) / 65536 + (z + z / 256 + (z + z / 256) / 65536) / 4294967296) (by omega) (by omega)]
  omega
end Go.Proofs.YtldhlknmabpanaaGreat
namespace Go.Proofs.YtldhlknmabpanaaGreat
open Go.RowKit

/-- What came, in plain numbers. -/
structure Sn where
  any : Bool
  top : Nat
  bts : BitVec 64
  came : Nat
  twice : Nat
  lost : Nat
/-- The numbers fit: after k steps at most. -/
structure Sn.fit (s : Sn) (k : Nat) : Prop where
  top : s.top < 4294967296
  came : s.came ≤ k
  twice : s.twice ≤ k
  lost : s.lost ≤ 4294967296 * k
  no : s.any = false → s.bts = 0#64
abbrev Sn.cells (s : Sn) : Array Value := #[.bool s.any, .int .u32 s.top, .int .u64 s.bts.toNat, .int .i64 s.came, .int .i64 s.twice, .int .i64 s.lost]
def Sn.zero : Sn := ⟨false, 0, 0#64, 0, 0, 0⟩
/-- In its block. -/
def SBlk (w : World) (b : Nat) (s : Sn) : Prop := w.heap[b]? = some (.cells s.cells 69 (0, 0))
theorem SBlk.lt {w : World} {b : Nat} {s : Sn} (h : SBlk w b s) : b < w.heap.size := (Array.getElem?_eq_some_iff.1 h).1
theorem SBlk.cell {w : World} {b : Nat} {s : Sn} (h : SBlk w b s) (i : Nat) : w.cell? ⟨b, i, none⟩ = s.cells[i]? := by
  unfold SBlk at h
  simp only [World.cell?, h]
  rfl
theorem SBlk.frozen {w : World} {b : Nat} {s : Sn} (h : SBlk w b s) (i : Nat) : w.frozen? ⟨b, i, none⟩ = false := by
  unfold SBlk at h
  simp [World.frozen?, h]
theorem SBlk.keep {w w' : World} {b : Nat} {s : Sn} (h : SBlk w b s) (e : w'.heap[b]? = w.heap[b]?) : SBlk w' b s := e.trans h
theorem SBlk.below {w w' : World} {b B : Nat} {s : Sn} (h : SBlk w b s) (hb : Below B w w') (hB : b < B) : SBlk w' b s := h.keep (hb.block b hB)
theorem SBlk.drew {w : World} {b : Nat} {s : Sn} (h : SBlk w b s) : SBlk w.drew b s := h
/-- How far a number is behind, with its sign. -/
def beh (n t : Nat) : Int := if (n : Int) - t ≥ 2147483648 then (n : Int) - t - 4294967296 else if (n : Int) - t < -2147483648 then (n : Int) - t + 4294967296 else (n : Int) - t
/-- How far it is behind, going round. -/
def dist (t n : Nat) : Nat := (t + 4294967296 - n) % 4294967296
theorem beh_eq {n t : Nat} (hn : n < 4294967296) (ht : t < 4294967296) : beh n t = ((n : Int) - t + 2147483648) % 4294967296 - 2147483648 := by
  unfold beh
  split
  · omega
  · split <;> omega
theorem beh_lo {n t : Nat} (hn : n < 4294967296) (ht : t < 4294967296) : -2147483648 ≤ beh n t ∧ beh n t ≤ 2147483647 := by rw [beh_eq hn ht]; omega
theorem dist_old {n t : Nat} (hn : n < 4294967296) (ht : t < 4294967296) (h : beh n t ≤ 0) : (dist t n : Int) = -beh n t := by
  rw [beh_eq hn ht] at *
  unfold dist
  omega
theorem dist_self (n : Nat) : dist n n = 0 := by unfold dist; omega
theorem top_moved {n t : Nat} (hn : n < 4294967296) (ht : t < 4294967296) : ((t : Int) + beh n t) % 4294967296 = n := by
  rw [beh_eq hn ht]
  omega
theorem sbehind_any (n t : Nat) (hn : n < 4294967296) (ht : t < 4294967296) (w : World) :
    Calls Tryz.prog 120 #[.int .u32 n, .int .u32 t] w fun e w' => e = .returned (.int .i64 (beh n t)) ∧ w = w' := by
  have HR := Lib.hid (beh_eq hn ht)
  generalize beh n t = r at *
  go_enter Tryz.func120, Tryz.ntmps120
  go_wp2
  go_ret
  refine ⟨ret_int ?_, rfl⟩
  have := HR.out
  unfold wrap64 wrap32
  omega
theorem srbehind_any (n t : Nat) (hn : n < 4294967296) (ht : t < 4294967296) (w : World) :
    Calls Tryz.prog 101 #[.int .u32 n, .int .u32 t] w fun e w' => e = .returned (.int .i64 (beh n t)) ∧ w = w' := by
  have HR := Lib.hid (beh_eq hn ht)
  generalize beh n t = r at *
  go_enter Tryz.func101, Tryz.ntmps101
  by_cases h1 : (n : Int) - t ≥ 2147483648
  · go_wp2
    go_ret
    refine ⟨ret_int ?_, rfl⟩
    have := HR.out
    omega
  · by_cases h2 : (n : Int) - t < -2147483648
    · go_wp2
      go_ret
      refine ⟨ret_int ?_, rfl⟩
      have := HR.out
      omega
    · go_wp2
      go_ret
      refine ⟨ret_int ?_, rfl⟩
      have := HR.out
      omega
theorem one_shl (d : Nat) (hd : d < 4294967296) : Op.shift .shl .u64 1 .u32 (d : Int) = pure (.int .u64 ((1#64 <<< d).toNat : Int)) := by
  have h0 : ¬ ((d : Int) < 0) := by omega
  simp only [Op.shift, h0, if_false]
  have e : min (d : Int).toNat IntKind.u64.bits = min d 64 := by simp [IntKind.bits]
  rw [e, IntKind.wrap_u64]
  congr 2
  rw [BitVec.toNat_shiftLeft]
  simp only [Nat.shiftLeft_eq]
  by_cases h : d < 64
  · rw [Nat.min_eq_left (by omega)]
    simp
  · rw [Nat.min_eq_right (by omega), show d = 64 + (d - 64) by omega, Nat.pow_add]
    simp
theorem bit_any (b : Nat) (s : Sn) (n : Nat) (hn : n < 4294967296) (ht : s.top < 4294967296) (w : World) (h : SBlk w b s) :
    Calls Tryz.prog 122 #[.pointer (some ⟨b, 0, none⟩), .int .u32 n] w fun e w' => e = .returned (.int .u64 ((1#64 <<< dist s.top n).toNat : Int)) ∧ w = w' := by
  have c1 : w.cell? ⟨b, 1, none⟩ = some (.int .u32 s.top) := h.cell 1
  have hd : dist s.top n < 4294967296 := Nat.mod_lt _ (by omega)
  have sh := one_shl (dist s.top n) hd
  have ew : ((s.top : Int) - n) % 4294967296 = (dist s.top n : Int) := by unfold dist; omega
  clear h
  generalize dist s.top n = d at *
  generalize (1#64 <<< d).toNat = v at *
  generalize s.top = t at *
  go_enter Tryz.func122, Tryz.ntmps122
  go_wp2
  go_ret
  exact ⟨rfl, rfl⟩
/-- Which didn't come, as bits. -/
def Sn.gone (s : Sn) : BitVec 64 := if s.any then ~~~ s.bts else 0#64
theorem not64 (s : BitVec 64) : bits .xor .u64 IntKind.u64.max (s.toNat : Int) = ((~~~ s).toNat : Int) := by
  have h := (~~~ s).isLt
  have m1 : (IntKind.u64.max % ((2 ^ IntKind.u64.bits : Nat) : Int)).toNat = (BitVec.allOnes 64).toNat := rfl
  have e : (BitVec.allOnes 64).toNat ^^^ s.toNat = (~~~ s).toNat := by rw [← BitVec.toNat_xor, BitVec.allOnes_xor]
  simp only [bits, BitVec.toNat_xor, BitVec.toNat_ofInt, u64_mod _ s.isLt, m1]
  rw [IntKind.wrap_u64, e]
  omega
theorem missing_any (b : Nat) (s : Sn) (w : World) (h : SBlk w b s) :
    Calls Tryz.prog 138 #[.pointer (some ⟨b, 0, none⟩)] w fun e w' => e = .returned (.int .u64 (s.gone.toNat : Int)) ∧ w = w' := by
  have c0 : w.cell? ⟨b, 0, none⟩ = some (.bool s.any) := h.cell 0
  have c2 : w.cell? ⟨b, 2, none⟩ = some (.int .u64 s.bts.toNat) := h.cell 2
  have hx := not64 s.bts
  clear h
  cases ha : s.any
  · have hg : s.gone = 0#64 := by unfold Sn.gone; rw [ha]; rfl
    rw [hg]
    rw [ha] at c0
    go_enter Tryz.func138, Tryz.ntmps138
    go_wp2
    go_ret
    exact ⟨rfl, rfl⟩
  · have hg : s.gone = ~~~ s.bts := by unfold Sn.gone; rw [ha]; rfl
    rw [hg]
    rw [ha] at c0
    generalize (~~~ s.bts).toNat = v at *
    generalize s.bts.toNat = u at *
    go_enter Tryz.func138, Tryz.ntmps138
    go_wp2
    go_ret
    exact ⟨rfl, rfl⟩
end Go.Proofs.YtldhlknmabpanaaGreat
namespace Go.Proofs.YtldhlknmabpanaaGreat
open Go.RowKit

theorem pop_bv (b : BitVec 64) : pop b.toNat = cnt b.getLsbD 64 := cnt_congr (fun _ _ => BitVec.testBit_toNat b)
/-- Of the last ones those that go out, and didn't come. -/
def outs (b : BitVec 64) (k : Nat) : Nat := cnt (fun i => decide (64 ≤ i + k) && !b.getLsbD i) 64
theorem outs_le (b : BitVec 64) (k : Nat) : outs b k ≤ 64 := cnt_le _ _
theorem outs_pop (b : BitVec 64) (k o : Nat) (ho : o = min k 64) : pop ((~~~ b) >>> (64 - o)).toNat = outs b k := by
  rw [pop_bv]
  unfold outs
  have hs1 : ∀ p : Nat → Bool, cnt p 64 = cnt p o + cnt (fun i => p (i + o)) (64 - o) := fun p => by rw [← cnt_add]; congr 1; omega
  have hs2 : ∀ p : Nat → Bool, cnt p 64 = cnt p (64 - o) + cnt (fun i => p (i + (64 - o))) o := fun p => by rw [← cnt_add]; congr 1; omega
  have h1 : cnt ((~~~ b) >>> (64 - o)).getLsbD 64 = cnt ((~~~ b) >>> (64 - o)).getLsbD o + 0 := by
    rw [hs1]
    congr 1
    apply cnt_none
    intro i _
    rw [BitVec.getLsbD_ushiftRight]
    exact BitVec.getLsbD_of_ge _ _ (by omega)
  have h2 : cnt (fun i => decide (64 ≤ i + k) && !b.getLsbD i) 64 = 0 + cnt (fun i => !b.getLsbD (i + (64 - o))) o := by
    rw [hs2]
    congr 1
    · apply cnt_none
      intro i hi
      have : ¬ 64 ≤ i + k := by omega
      simp [this]
    · apply cnt_congr
      intro i hi
      have : 64 ≤ i + (64 - o) + k := by omega
      simp [this]
  rw [h1, h2, Nat.add_zero, Nat.zero_add]
  apply cnt_congr
  intro i hi
  rw [BitVec.getLsbD_ushiftRight, BitVec.getLsbD_not, Nat.add_comm]
  have : i + (64 - o) < 64 := by omega
  simp [this]
theorem shr64 (b : BitVec 64) (k : Nat) : (b.toNat : Int) / 2 ^ k = ((b >>> k).toNat : Int) := by
  rw [BitVec.toNat_ushiftRight, Nat.shiftRight_eq_div_pow]
  simp
theorem shl64 (b : BitVec 64) (d : Nat) (yk : IntKind) (hd : d < 4294967296) : Op.shift .shl .u64 (b.toNat : Int) yk (d : Int) = pure (.int .u64 ((b <<< d).toNat : Int)) := by
  have h0 : ¬ ((d : Int) < 0) := by omega
  simp only [Op.shift, h0, if_false]
  have e : min (d : Int).toNat IntKind.u64.bits = min d 64 := by simp [IntKind.bits]
  rw [e, IntKind.wrap_u64]
  congr 2
  rw [BitVec.toNat_shiftLeft]
  simp only [Nat.shiftLeft_eq]
  by_cases h : d < 64
  · rw [Nat.min_eq_left (by omega)]
    simp
  · rw [Nat.min_eq_right (by omega), show d = 64 + (d - 64) by omega, Nat.pow_add, ← Nat.mul_assoc, Nat.mul_right_comm]
    simp
/-- What a block's own call changes: that block alone. -/
structure Only (b : Nat) (w w' : World) : Prop where
  size : w'.heap.size = w.heap.size
  blk : ∀ c, c ≠ b → w'.heap[c]? = w.heap[c]?
  bel : ∀ (B : Nat) (w0 : World), B ≤ b → Below B w0 w → Below B w0 w'
theorem Only.refl (b : Nat) (w : World) : Only b w w := ⟨rfl, fun _ _ => rfl, fun _ _ _ h => h⟩
theorem Only.trans {b : Nat} {w w' w'' : World} (h : Only b w w') (k : Only b w' w'') : Only b w w'' :=
  ⟨k.size.trans h.size, fun c hc => (k.blk c hc).trans (h.blk c hc), fun B w0 hB hb => k.bel B w0 hB (h.bel B w0 hB hb)⟩
theorem Only.drew (b : Nat) (w : World) : Only b w w.drew := ⟨rfl, fun _ _ => rfl, fun _ _ _ h => h.drew⟩
theorem Only.set (b : Nat) (w : World) (i : Nat) (v : Value) : Only b w (w.setCell ⟨b, i, none⟩ v) :=
  ⟨by simp [World.setCell], fun c hc => by simp only [World.setCell, Array.getElem?_modify]; rw [if_neg (fun e => hc e.symm)], fun _ _ hB h => h.setCell hB _⟩
theorem SBlk.set {w : World} {b : Nat} {s : Sn} (h : SBlk w b s) (i : Nat) (v : Value) (s' : Sn) (e : s.cells.setIfInBounds i v = s'.cells) : SBlk (w.setCell ⟨b, i, none⟩ v) b s' := by
  unfold SBlk at *
  simp only [World.setCell, Array.getElem?_modify, h]
  simp [e]
/-- Moved on by so many. -/
def Sn.moved (s : Sn) (n k : Nat) : Sn := { s with top := n, bts := s.bts <<< k, lost := s.lost + outs s.bts k + (k - 64) }
set_option maxRecDepth 100000 in
theorem move_any (b : Nat) (s : Sn) (n k : Nat) (hs : s.any = true) (hn : n < 4294967296) (ht : s.top < 4294967296) (hl : s.lost ≤ 4294967296 * 1000000) (hk : k < 2147483648) (hm : ((s.top : Int) + k) % 4294967296 = n) (w : World) (h : SBlk w b s) :
    Calls Tryz.prog 121 #[.pointer (some ⟨b, 0, none⟩), .int .i64 k] w fun e w' => (∃ v, e = .returned v) ∧ Hid (SBlk w' b (s.moved n k)) ∧ Hid (Only b w w') := by
  obtain ⟨o, ho⟩ : ∃ o, o = min k 64 := ⟨_, rfl⟩
  have hp := outs_pop s.bts k o ho
  have hpl := outs_le s.bts k
  have hg : s.gone = ~~~ s.bts := by unfold Sn.gone; rw [hs]; rfl
  have sr := shr64 (~~~ s.bts) (64 - o)
  have sl := shl64 s.bts k .i64 (by omega)
  have c5 : w.cell? ⟨b, 5, none⟩ = some (.int .i64 s.lost) := h.cell 5
  have f5 := h.frozen 5
  have c1 : w.cell? ⟨b, 1, none⟩ = some (.int .u32 s.top) := h.cell 1
  have f1 := h.frozen 1
  have c2 : w.cell? ⟨b, 2, none⟩ = some (.int .u64 s.bts.toNat) := h.cell 2
  have f2 := h.frozen 2
  have CM := Lib.hid (missing_any b s)
  rw [hg] at CM
  have CO := Lib.hid (ones_any ((~~~ s.bts) >>> (64 - o)).toNat (BitVec.isLt _))
  rw [hp] at CO
  generalize hq : outs s.bts k = q at *
  obtain ⟨j, hj⟩ : ∃ j, j = 64 - o := ⟨_, rfl⟩
  rw [← hj] at sr CO
  have hj2 : (64 : Int) - (o : Int) = j := by omega
  have hjl : j ≤ 64 := by omega
  have HM := Lib.hid hm
  have hko : (k ≤ 64 → o = k) ∧ (¬ k ≤ 64 → o = 64) := by omega
  have sw : IntKind.u64.wrap ((s.bts.toNat : Int) * 2 ^ k) = ((s.bts <<< k).toNat : Int) := by
    rw [IntKind.wrap_u64, BitVec.toNat_shiftLeft, Nat.shiftLeft_eq]
    simp
  have HQ := Lib.hid hq
  clear hp hg hj ho hm hq
  have H := Lib.hid h
  clear h
  have wk1 : IntKind.i64.wrap (j : Int) = j := IntWalk.i64_in _ (by omega)
  have wk2 : IntKind.i64.wrap ((s.lost : Int) + (q : Int)) = ((s.lost + q : Nat) : Int) := by rw [IntKind.wrap_i64]; omega
  generalize (~~~ s.bts >>> j).toNat = v at *
  generalize (~~~ s.bts).toNat = u at *
  have sr2 : Op.shift .shr .u64 (u : Int) .i64 (j : Int) = pure (.int .u64 (v : Int)) := by
    rw [shift_shr _ _ _ _ (by omega) (by show (j : Int) ≤ 64; omega), ← sr]
    rfl
  by_cases h64 : k ≤ 64
  · obtain rfl := hko.1 h64
    clear hko
    go_enter Tryz.func121, Tryz.ntmps121
    go_upto_region 1 with fail
    refine wp_region_still_tail 13 (by kernel_rfl) (by kernel_rfl) ?_
    simp only [List.take_succ_cons, List.take_zero, List.drop_succ_cons, List.drop_zero]
    iterate 5 still_step
    still_call ((CM.out _ H.out.drew).mono fun _ _ h => ⟨h.1, h.2.symm⟩)
    iterate 3 still_step
    still_call ((CO.out _).mono fun _ _ h => ⟨h.1, h.2.symm⟩)
    iterate 3 still_step
    refine wpStill_nil ?_
    change wpList _ _ _ _ _ w.drew
    go_upto_region 2 with fail
    have HM2 := HM.out
    go_wp2
    go_end0
    refine ⟨⟨_, rfl⟩, Lib.hid ?_, Lib.hid ?_⟩
    · refine SBlk.drew (SBlk.set (SBlk.set (SBlk.set (SBlk.set H.out 5 _ { s with lost := s.lost + q } (by simp)) 5 _ { s with lost := s.lost + q } (by simp)) 2 _ { s with lost := s.lost + q, bts := s.bts <<< o } (by simp)) 1 _ (s.moved n o) ?_)
      have := HQ.out
      simp [Sn.moved, this, h64]
    · exact (((((Only.set _ _ _ _).trans (Only.set _ _ _ _)).trans (Only.set _ _ _ _)).trans (Only.set _ _ _ _)).trans (Only.drew _ _))
  · obtain rfl := hko.2 h64
    clear hko
    obtain rfl : j = 0 := by omega
    have wk0 : IntKind.i64.wrap 0 = 0 := rfl
    have sr0 : Op.shift .shr .u64 (u : Int) .i64 0 = pure (.int .u64 (v : Int)) := sr2
    clear sr sr2 wk1 hj2
    go_enter Tryz.func121, Tryz.ntmps121
    go_upto_region 1 with fail
    refine wp_region_still_tail 13 (by kernel_rfl) (by kernel_rfl) ?_
    simp only [List.take_succ_cons, List.take_zero, List.drop_succ_cons, List.drop_zero]
    iterate 5 still_step
    still_call ((CM.out _ H.out.drew).mono fun _ _ h => ⟨h.1, h.2.symm⟩)
    iterate 3 still_step
    still_call ((CO.out _).mono fun _ _ h => ⟨h.1, h.2.symm⟩)
    iterate 3 still_step
    refine wpStill_nil ?_
    change wpList _ _ _ _ _ w.drew
    go_upto_region 2 with fail
    have HM2 := HM.out
    go_wp2
    go_end0
    refine ⟨⟨_, rfl⟩, Lib.hid ?_, Lib.hid ?_⟩
    · refine SBlk.drew (SBlk.set (SBlk.set (SBlk.set (SBlk.set H.out 5 _ { s with lost := s.lost + q } (by simp)) 5 _ { s with lost := s.lost + q + (k - 64) } (by simp; omega)) 2 _ { s with lost := s.lost + q + (k - 64), bts := s.bts <<< k } (by simp)) 1 _ (s.moved n k) ?_)
      have := HQ.out
      simp [Sn.moved, this]
    · exact (((((Only.set _ _ _ _).trans (Only.set _ _ _ _)).trans (Only.set _ _ _ _)).trans (Only.set _ _ _ _)).trans (Only.drew _ _))
end Go.Proofs.YtldhlknmabpanaaGreat
namespace Go.Proofs.YtldhlknmabpanaaGreat
open Go.RowKit

/-- What a number that comes makes of it, and the error's number. -/
def Sn.take (s : Sn) (n : Nat) : Sn × Int :=
  if s.any = false then (⟨true, n, 1#64, 1, 0, 0⟩, 0)
  else if beh n s.top ≤ -64 then (s, 90)
  else if 0 < beh n s.top then ({ s.moved n (beh n s.top).toNat with bts := (s.bts <<< (beh n s.top).toNat) ||| 1#64, came := s.came + 1 }, 0)
  else if s.bts.getLsbD (dist s.top n) then ({ s with twice := s.twice + 1 }, 171)
  else ({ s with bts := s.bts ||| (1#64 <<< dist s.top n), came := s.came + 1 }, 0)
theorem and_bit (b : BitVec 64) (d : Nat) (hd : d < 64) : ((bits .and .u64 (b.toNat : Int) ((1#64 <<< d).toNat : Int)) != 0) = b.getLsbD d := by
  rw [and64 _ _ b.isLt (BitVec.isLt _), ← BitVec.toNat_and]
  rw [Bool.eq_iff_iff]
  constructor
  · intro h
    cases hb : b.getLsbD d with
    | true => rfl
    | false =>
      have e : b &&& (1#64 <<< d) = 0#64 := by
        apply BitVec.eq_of_getLsbD_eq
        intro i hi
        simp only [BitVec.getLsbD_and, BitVec.getLsbD_shiftLeft, BitVec.getLsbD_one, BitVec.getLsbD_zero]
        by_cases hid : i = d
        · subst hid; rw [hb]; rfl
        · have : i < d ∨ i - d ≠ 0 := by omega
          rcases this with g | g
          · simp [g]
          · simp [g]
      rw [e] at h
      simp at h
  · intro hb
    have e : (b &&& (1#64 <<< d)).getLsbD d = true := by
      simp [hb, hd]
    have : (b &&& (1#64 <<< d)).toNat ≠ 0 := by
      intro h0
      rw [← BitVec.testBit_toNat, h0] at e
      simp at e
    simp only [bne_iff_ne, ne_eq]
    omega
theorem bit_is (d : Nat) : (((1#64 <<< d).toNat : Int) == 0) = decide (64 ≤ d) := by
  rw [BitVec.toNat_shiftLeft, Nat.shiftLeft_eq]
  by_cases h : 64 ≤ d
  · rw [show d = 64 + (d - 64) by omega, Nat.pow_add]
    simp
  · have h2 : 2 ^ d < 2 ^ 64 := Nat.pow_lt_pow_right (by omega) (by omega)
    have h3 : 0 < 2 ^ d := Nat.pow_pos (by omega)
    rw [show (1#64).toNat = 1 from rfl, Nat.one_mul, Nat.mod_eq_of_lt h2]
    have : ¬ ((2 ^ d : Nat) : Int) = 0 := by omega
    simp only [h, decide_false]
    exact beq_eq_false_iff_ne.2 this
theorem orbv (a b : BitVec 64) : bits .or .u64 (a.toNat : Int) (b.toNat : Int) = ((a ||| b).toNat : Int) := by
  rw [or64 _ _ a.isLt b.isLt, BitVec.toNat_or]
theorem sn_blk_set {w : World} {b : Nat} {C : Array Value} {t : TypeId} {fr : Nat × Nat} (h : w.heap[b]? = some (.cells C t fr)) (i : Nat) (v : Value) : (w.setCell ⟨b, i, none⟩ v).heap[b]? = some (.cells (C.setIfInBounds i v) t fr) := by
  simp only [World.setCell, Array.getElem?_modify, h]
  simp
/-- A store of a whole one. -/
abbrev setSn (w : World) (b : Nat) (s : Sn) : World := (((((w.setCell ⟨b, 0, none⟩ (.bool s.any)).setCell ⟨b, 1, none⟩ (.int .u32 s.top)).setCell ⟨b, 2, none⟩ (.int .u64 s.bts.toNat)).setCell ⟨b, 3, none⟩ (.int .i64 s.came)).setCell ⟨b, 4, none⟩ (.int .i64 s.twice)).setCell ⟨b, 5, none⟩ (.int .i64 s.lost)
theorem SBlk.write {w : World} {b : Nat} {s : Sn} (h : SBlk w b s) (s' : Sn) : SBlk (setSn w b s') b s' := by
  unfold SBlk at *
  have h := sn_blk_set (sn_blk_set (sn_blk_set (sn_blk_set (sn_blk_set (sn_blk_set h 0 (.bool s'.any)) 1 (.int .u32 s'.top)) 2 (.int .u64 s'.bts.toNat)) 3 (.int .i64 s'.came)) 4 (.int .i64 s'.twice)) 5 (.int .i64 s'.lost)
  simp only [Sn.cells, List.setIfInBounds_toArray, List.set_cons_zero, List.set_cons_succ] at h
  exact h
theorem Only.write (b : Nat) (w : World) (s : Sn) : Only b w (setSn w b s) :=
  (((((Only.set b w 0 _).trans (Only.set _ _ 1 _)).trans (Only.set _ _ 2 _)).trans (Only.set _ _ 3 _)).trans (Only.set _ _ 4 _)).trans (Only.set _ _ 5 _)
set_option maxRecDepth 100000 in
theorem take_first (b : Nat) (s : Sn) (n : Nat) (hs : s.any = false) (w : World) (h : SBlk w b s) :
    Calls Tryz.prog 98 #[.pointer (some ⟨b, 0, none⟩), .int .u32 n] w fun e w' => e = .returned (.int .i64 0) ∧ Hid (SBlk w' b ⟨true, n, 1#64, 1, 0, 0⟩) ∧ Hid (Only b w w') := by
  have c0 : w.cell? ⟨b, 0, none⟩ = some (.bool s.any) := h.cell 0
  rw [hs] at c0
  have c1 : w.cell? ⟨b, 1, none⟩ = some (.int .u32 s.top) := h.cell 1
  have c2 : w.cell? ⟨b, 2, none⟩ = some (.int .u64 s.bts.toNat) := h.cell 2
  have c3 : w.cell? ⟨b, 3, none⟩ = some (.int .i64 s.came) := h.cell 3
  have c4 : w.cell? ⟨b, 4, none⟩ = some (.int .i64 s.twice) := h.cell 4
  have c5 : w.cell? ⟨b, 5, none⟩ = some (.int .i64 s.lost) := h.cell 5
  have f0 := h.frozen 0
  have f1 := h.frozen 1
  have f2 := h.frozen 2
  have f3 := h.frozen 3
  have f4 := h.frozen 4
  have f5 := h.frozen 5
  have H := Lib.hid h
  clear h
  go_enter Tryz.func98, Tryz.ntmps98
  go_wp2
  go_ret
  refine ⟨rfl, Lib.hid ?_, Lib.hid ?_⟩
  · exact H.out.write ⟨true, n, 1#64, 1, 0, 0⟩
  · exact Only.write b w ⟨true, n, 1#64, 1, 0, 0⟩
set_option maxRecDepth 100000 in
theorem take_old (b : Nat) (s : Sn) (n : Nat) (hs : s.any = true) (hn : n < 4294967296) (ht : s.top < 4294967296) (ho : beh n s.top ≤ -64) (w : World) (h : SBlk w b s) :
    Calls Tryz.prog 98 #[.pointer (some ⟨b, 0, none⟩), .int .u32 n] w fun e w' => e = .returned (.int .i64 90) ∧ w = w' := by
  have c0 : w.cell? ⟨b, 0, none⟩ = some (.bool s.any) := h.cell 0
  rw [hs] at c0
  have c1 : w.cell? ⟨b, 1, none⟩ = some (.int .u32 s.top) := h.cell 1
  have H := Lib.hid h
  have CB := Lib.hid (sbehind_any n s.top hn ht)
  have CI := Lib.hid (bit_any b s n hn ht)
  have bi := bit_is (dist s.top n)
  have hd : decide (64 ≤ dist s.top n) = true := by
    have := dist_old hn ht (by omega)
    exact decide_eq_true (by omega)
  rw [hd] at bi
  clear h hd
  generalize (1#64 <<< dist s.top n).toNat = v at *
  generalize beh n s.top = by_ at *
  go_enter Tryz.func98, Tryz.ntmps98
  go_wp2_with (first
    | (go_at_call 120; refine (CB.out _).mono ?_; rintro e w1 ⟨rfl, rfl⟩)
    | (go_at_call 122; refine (CI.out _ H.out).mono ?_; rintro e w2 ⟨rfl, rfl⟩))
  go_ret
  exact ⟨rfl, rfl⟩
set_option maxRecDepth 100000 in
theorem take_twice (b : Nat) (s : Sn) (n : Nat) (hs : s.any = true) (hn : n < 4294967296) (ht : s.top < 4294967296) (ho : -64 < beh n s.top) (hy : beh n s.top ≤ 0) (hb : s.bts.getLsbD (dist s.top n) = true) (hl : s.twice ≤ 1000000) (w : World) (h : SBlk w b s) :
    Calls Tryz.prog 98 #[.pointer (some ⟨b, 0, none⟩), .int .u32 n] w fun e w' => e = .returned (.int .i64 171) ∧ Hid (SBlk w' b { s with twice := s.twice + 1 }) ∧ Hid (Only b w w') := by
  have c0 : w.cell? ⟨b, 0, none⟩ = some (.bool s.any) := h.cell 0
  rw [hs] at c0
  have c1 : w.cell? ⟨b, 1, none⟩ = some (.int .u32 s.top) := h.cell 1
  have c2 : w.cell? ⟨b, 2, none⟩ = some (.int .u64 s.bts.toNat) := h.cell 2
  have c4 : w.cell? ⟨b, 4, none⟩ = some (.int .i64 s.twice) := h.cell 4
  have f4 := h.frozen 4
  have H := Lib.hid h
  have CB := Lib.hid (sbehind_any n s.top hn ht)
  have CI := Lib.hid (bit_any b s n hn ht)
  have hd0 : dist s.top n < 64 := by have := dist_old hn ht hy; omega
  have bi := bit_is (dist s.top n)
  have hd : decide (64 ≤ dist s.top n) = false := decide_eq_false (by omega)
  rw [hd] at bi
  have ab := and_bit s.bts (dist s.top n) hd0
  rw [hb] at ab
  clear h hd hd0 hb
  have hy2 : ¬ 0 < beh n s.top := by omega
  generalize (1#64 <<< dist s.top n).toNat = v at *
  generalize beh n s.top = by_ at *
  go_enter Tryz.func98, Tryz.ntmps98
  go_wp2_with (first
    | (go_at_call 120; refine (CB.out _).mono ?_; rintro e w1 ⟨rfl, rfl⟩)
    | (go_at_call 122; refine (CI.out _ H.out).mono ?_; rintro e w2 ⟨rfl, rfl⟩))
  go_ret
  exact ⟨rfl, Lib.hid (SBlk.set H.out 4 _ _ (by simp)), Lib.hid (Only.set _ _ _ _)⟩
set_option maxRecDepth 100000 in
theorem take_mid (b : Nat) (s : Sn) (n : Nat) (hs : s.any = true) (hn : n < 4294967296) (ht : s.top < 4294967296) (ho : -64 < beh n s.top) (hy : beh n s.top ≤ 0) (hb : s.bts.getLsbD (dist s.top n) = false) (hl : s.came ≤ 1000000) (w : World) (h : SBlk w b s) :
    Calls Tryz.prog 98 #[.pointer (some ⟨b, 0, none⟩), .int .u32 n] w fun e w' => e = .returned (.int .i64 0) ∧ Hid (SBlk w' b { s with bts := s.bts ||| (1#64 <<< dist s.top n), came := s.came + 1 }) ∧ Hid (Only b w w') := by
  have c0 : w.cell? ⟨b, 0, none⟩ = some (.bool s.any) := h.cell 0
  rw [hs] at c0
  have c1 : w.cell? ⟨b, 1, none⟩ = some (.int .u32 s.top) := h.cell 1
  have c2 : w.cell? ⟨b, 2, none⟩ = some (.int .u64 s.bts.toNat) := h.cell 2
  have c3 : w.cell? ⟨b, 3, none⟩ = some (.int .i64 s.came) := h.cell 3
  have f2 := h.frozen 2
  have f3 := h.frozen 3
  have H := Lib.hid h
  have CB := Lib.hid (sbehind_any n s.top hn ht)
  have CI := Lib.hid (bit_any b s n hn ht)
  have hd0 : dist s.top n < 64 := by have := dist_old hn ht hy; omega
  have bi := bit_is (dist s.top n)
  have hd : decide (64 ≤ dist s.top n) = false := decide_eq_false (by omega)
  rw [hd] at bi
  have ab := and_bit s.bts (dist s.top n) hd0
  rw [hb] at ab
  have ob := orbv s.bts (1#64 <<< dist s.top n)
  clear h hd hd0 hb
  have hy2 : ¬ 0 < beh n s.top := by omega
  have HV : Hid (s.bts ||| (1#64 <<< dist s.top n) = s.bts ||| (1#64 <<< dist s.top n)) := Lib.hid rfl
  generalize hB : s.bts ||| (1#64 <<< dist s.top n) = B at *
  generalize (1#64 <<< dist s.top n).toNat = v at *
  generalize beh n s.top = by_ at *
  clear HV hB
  go_enter Tryz.func98, Tryz.ntmps98
  go_wp2_with (first
    | (go_at_call 120; refine (CB.out _).mono ?_; rintro e w1 ⟨rfl, rfl⟩)
    | (go_at_call 122; refine (CI.out _ H.out).mono ?_; rintro e w2 ⟨rfl, rfl⟩))
  go_ret
  exact ⟨rfl, Lib.hid (SBlk.set (SBlk.set H.out 2 _ { s with bts := B } (by simp)) 3 _ _ (by simp)), Lib.hid ((Only.set _ _ _ _).trans (Only.set _ _ _ _))⟩
set_option maxRecDepth 100000 in
theorem take_new (b : Nat) (s : Sn) (n : Nat) (hs : s.any = true) (hn : n < 4294967296) (ht : s.top < 4294967296) (ho : 0 < beh n s.top) (hl : s.came ≤ 1000000) (hl2 : s.lost ≤ 4294967296 * 1000000) (w : World) (h : SBlk w b s) :
    Calls Tryz.prog 98 #[.pointer (some ⟨b, 0, none⟩), .int .u32 n] w fun e w' => e = .returned (.int .i64 0) ∧ Hid (SBlk w' b { s.moved n (beh n s.top).toNat with bts := (s.bts <<< (beh n s.top).toNat) ||| 1#64, came := s.came + 1 }) ∧ Hid (Only b w w') := by
  have c0 : w.cell? ⟨b, 0, none⟩ = some (.bool s.any) := h.cell 0
  rw [hs] at c0
  have c1 : w.cell? ⟨b, 1, none⟩ = some (.int .u32 s.top) := h.cell 1
  have H := Lib.hid h
  have cb := sbehind_any n s.top hn ht
  have hb := beh_lo hn ht
  have hm := top_moved hn ht
  obtain ⟨k, hk⟩ : ∃ k : Nat, beh n s.top = k := ⟨(beh n s.top).toNat, by omega⟩
  rw [hk] at ho hb hm cb
  rw [hk, Int.toNat_natCast]
  have CB := Lib.hid cb
  have CM := Lib.hid (move_any b s n k hs hn ht hl2 (by omega) hm)
  have CI := Lib.hid (bit_any b (s.moved n k) n hn (show n < 4294967296 from hn))
  have CX : Hid (∀ w1, SBlk w1 b (s.moved n k) → w1.cell? ⟨b, 2, none⟩ = some (.int .u64 (s.bts <<< k).toNat) ∧ w1.cell? ⟨b, 3, none⟩ = some (.int .i64 s.came) ∧ w1.frozen? ⟨b, 2, none⟩ = false ∧ w1.frozen? ⟨b, 3, none⟩ = false) := Lib.hid (fun w1 h1 => ⟨h1.cell 2, h1.cell 3, h1.frozen 2, h1.frozen 3⟩)
  have e1 : (1#64 <<< dist (s.moved n k).top n).toNat = 1 := by
    rw [show dist (s.moved n k).top n = 0 from dist_self n]
    rfl
  rw [e1] at CI
  have ab : (bits .and .u64 ((s.bts <<< k).toNat : Int) 1 != 0) = false := by
    have h0 := and_bit (s.bts <<< k) 0 (by omega)
    rw [show ((1#64 <<< 0).toNat : Int) = 1 from rfl] at h0
    rw [h0, BitVec.getLsbD_shiftLeft]
    have : 0 < k := by omega
    simp [this]
  have ob : bits .or .u64 ((s.bts <<< k).toNat : Int) 1 = ((s.bts <<< k ||| 1#64).toNat : Int) := orbv (s.bts <<< k) 1#64
  clear h cb hm hk e1 hb
  generalize hB : s.bts <<< k ||| 1#64 = B at *
  clear hB
  generalize (s.bts <<< k).toNat = x at *
  go_enter Tryz.func98, Tryz.ntmps98
  go_wp2_with (first
    | (go_at_call 120; refine (CB.out _).mono ?_; rintro e w1 ⟨rfl, rfl⟩)
    | (go_at_call 121; refine (CM.out _ H.out).mono ?_; rintro e w2 ⟨⟨v, rfl⟩, HM, HO⟩; obtain ⟨m2, m3, mf2, mf3⟩ := CX.out _ HM.out)
    | (go_at_call 122; refine (CI.out _ HM.out).mono ?_; rintro e w3 ⟨rfl, rfl⟩))
  go_ret
  exact ⟨rfl, Lib.hid (SBlk.set (SBlk.set HM.out 2 _ { s.moved n k with bts := B } (by simp)) 3 _ _ (by simp [Sn.moved])), Lib.hid ((HO.out.trans (Only.set _ _ _ _)).trans (Only.set _ _ _ _))⟩
set_option maxRecDepth 100000 in
theorem take_any (b : Nat) (s : Sn) (n k : Nat) (hn : n < 4294967296) (hf : s.fit k) (hk : k ≤ 1000000) (w : World) (h : SBlk w b s) :
    Calls Tryz.prog 98 #[.pointer (some ⟨b, 0, none⟩), .int .u32 n] w fun e w' => e = .returned (.int .i64 (s.take n).2) ∧ Hid (SBlk w' b (s.take n).1) ∧ Hid (Only b w w') := by
  have ht := hf.top
  have h1 := hf.came
  have h2 := hf.twice
  have h3 := hf.lost
  cases hs : s.any
  · have e : s.take n = (⟨true, n, 1#64, 1, 0, 0⟩, 0) := by unfold Sn.take; rw [hs]; rfl
    rw [e]
    exact take_first b s n hs w h
  · by_cases ho : beh n s.top ≤ -64
    · have e : s.take n = (s, 90) := by unfold Sn.take; simp [hs, ho]
      rw [e]
      refine (take_old b s n hs hn ht ho w h).mono ?_
      rintro e w' ⟨rfl, rfl⟩
      exact ⟨rfl, Lib.hid h, Lib.hid (Only.refl _ _)⟩
    · by_cases hy : 0 < beh n s.top
      · have e : s.take n = ({ s.moved n (beh n s.top).toNat with bts := (s.bts <<< (beh n s.top).toNat) ||| 1#64, came := s.came + 1 }, 0) := by unfold Sn.take; simp [hs, ho, hy]
        rw [e]
        exact take_new b s n hs hn ht hy (by omega) (by omega) w h
      · cases hb : s.bts.getLsbD (dist s.top n)
        · have e : s.take n = ({ s with bts := s.bts ||| (1#64 <<< dist s.top n), came := s.came + 1 }, 0) := by unfold Sn.take; simp [hs, ho, hy, hb]
          rw [e]
          exact take_mid b s n hs hn ht (by omega) (by omega) hb (by omega) w h
        · have e : s.take n = ({ s with twice := s.twice + 1 }, 171) := by unfold Sn.take; simp [hs, ho, hy, hb]
          rw [e]
          exact take_twice b s n hs hn ht (by omega) (by omega) hb (by omega) w h
set_option maxRecDepth 100000 in
theorem Sn.take_fit {s : Sn} {n k : Nat} (hn : n < 4294967296) (hf : s.fit k) : (s.take n).1.fit (k + 1) := by
  have ht := hf.top
  have h1 := hf.came
  have h2 := hf.twice
  have h3 := hf.lost
  have hb := beh_lo hn ht
  have ho := outs_le s.bts (beh n s.top).toNat
  unfold Sn.take
  split
  · exact ⟨hn, by show 1 ≤ k + 1; omega, by show 0 ≤ _; omega, by show 0 ≤ _; omega, fun h => by simp at h⟩
  · rename_i ha
    have ha2 : s.any = true := by simpa using ha
    split
    · exact ⟨ht, by show s.came ≤ _; omega, by show s.twice ≤ _; omega, by show s.lost ≤ _; omega, hf.no⟩
    · split
      · exact ⟨hn, by show s.came + 1 ≤ _; omega, by show s.twice ≤ _; omega, by show s.lost + _ + _ ≤ _; omega, fun h => by simp [Sn.moved, ha2] at h⟩
      · split
        · exact ⟨ht, by show s.came ≤ _; omega, by show s.twice + 1 ≤ _; omega, by show s.lost ≤ _; omega, fun h => by simp [ha2] at h⟩
        · exact ⟨ht, by show s.came + 1 ≤ _; omega, by show s.twice ≤ _; omega, by show s.lost ≤ _; omega, fun h => by simp [ha2] at h⟩
end Go.Proofs.YtldhlknmabpanaaGreat
namespace Go.Proofs.YtldhlknmabpanaaGreat
open Go.RowKit

/-- Held within 0 and 64. -/
def upto64 (n : Int) : Nat := (min n 64).toNat
end Go.Proofs.YtldhlknmabpanaaGreat
