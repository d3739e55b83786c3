/-
  Own text: the field of 256 elements in plain numbers: products of polynomials, powers of x, logs. Plain arithmetic.
  Own text: what a walk is told of a slice of integers that came in.
    slices of bytes: what a walk is told of one, in whatever block it lies.
  Own text: what package gf's small functions answer (timesX, New).
    what the tables' functions on elements answer (Exp, Log, Mul, Pow, Inv, Div).
    powers, inverses and quotients (Pow, Inv, Div), and that the page's examples hold ('awake').
    the document's product, walked.
    the document's inverses and powers; the laws on one, two and three elements, walked.
    sums of many; that it is a field, walked.
-/
import Derived.Test.YtjcbcdjfhcnhcaaRows
import Derived.WalkKit
import Derived.ProofKit
import Derived.OpenShut
import Derived.Lib.Hide
import Derived.Deep.OwnRows
import Derived.Deep.QuietTactic
import Derived.BigQuiet
import Derived.Outline
import Derived.Laws.OwnMore
import Derived.Laws.CopyOwn
import Derived.Deep.Cut
import Derived.StillTailTactics
namespace Go.Proofs.Ytjcbcdjfhcnhcaa
open Go.RowKit

/-- An element, times x. -/
def tx (a : Nat) : Nat := 2 * a ^^^ (if a.testBit 7 then 285 else 0)
/-- A product, not yet reduced, by so many of the second one's bits. -/
def acc (a b : Nat) : Nat → Nat
  | 0 => 0
  | k + 1 => if b.testBit k then acc a b k ^^^ (a <<< k) else acc a b k
/-- Reduced by so many bits, from the highest one down. -/
def rst (n : Nat) : Nat → Nat
  | 0 => n
  | j + 1 => if (rst n j).testBit (14 - j) then rst n j ^^^ (285 <<< (6 - j)) else rst n j
/-- The product. -/
def gm (a b : Nat) : Nat := rst (acc a b 8) 7
/-- x to a power. -/
def pw : Nat → Nat
  | 0 => 1
  | n + 1 => tx (pw n)
def lgL : List Nat := [0,0,1,25,2,50,26,198,3,223,51,238,27,104,199,75,4,100,224,14,52,141,239,129,28,193,105,248,200,8,76,113,5,138,101,47,225,36,15,33,53,147,142,218,240,18,130,69,29,181,194,125,106,39,249,185,201,154,9,120,77,228,114,166,6,191,139,98,102,221,48,253,226,152,37,179,16,145,34,136,54,208,148,206,143,150,219,189,241,210,19,92,131,56,70,64,30,66,182,163,195,72,126,110,107,58,40,84,250,133,186,61,202,94,155,159,10,21,121,43,78,212,229,172,115,243,167,87,7,112,192,247,140,128,99,13,103,74,222,237,49,197,254,24,227,165,153,119,38,184,180,124,17,68,146,217,35,32,137,46,55,63,209,91,149,188,207,205,144,135,151,178,220,252,190,97,242,86,211,171,20,42,93,158,132,60,57,83,71,109,65,162,31,45,67,216,183,123,164,118,196,23,73,236,127,12,111,246,108,161,59,82,41,157,85,170,251,96,134,177,187,204,62,90,203,89,95,176,156,169,160,81,11,245,22,235,122,117,44,215,79,174,213,233,230,231,173,232,116,214,244,234,168,80,88,175]
/-- The power of x that an element is. -/
def lg (a : Nat) : Nat := lgL.getD a 0

theorem xor_swap (a b c d : Nat) : (a ^^^ b) ^^^ (c ^^^ d) = (a ^^^ c) ^^^ (b ^^^ d) := by ac_rfl
theorem xor_drop (x y p : Nat) : x ^^^ y = (x ^^^ p) ^^^ (y ^^^ p) := by rw [xor_swap, Nat.xor_self, Nat.xor_zero]
theorem two_xor (a b : Nat) : 2 * (a ^^^ b) = 2 * a ^^^ 2 * b := by
  have h := Nat.shiftLeft_xor_distrib (i := 1) (a := a) (b := b)
  simpa [Nat.shiftLeft_eq, Nat.mul_comm] using h
theorem tx_xor (a b : Nat) : tx (a ^^^ b) = tx a ^^^ tx b := by
  unfold tx
  rw [two_xor, Nat.testBit_xor]
  cases a.testBit 7 <;> cases b.testBit 7
  · simp
  · simp [Nat.xor_assoc]
  · simp only [Bool.bne_false, if_true, Bool.false_eq_true, if_false, Nat.xor_zero]; ac_rfl
  · simp only [bne_self_eq_false, if_true, Bool.false_eq_true, if_false, Nat.xor_zero]; exact xor_drop _ _ _
theorem acc_left (a c b : Nat) : ∀ k, acc (a ^^^ c) b k = acc a b k ^^^ acc c b k
  | 0 => by simp [acc]
  | k + 1 => by
    unfold acc
    rw [acc_left a c b k, Nat.shiftLeft_xor_distrib]
    split
    · exact xor_swap _ _ _ _
    · rfl
theorem acc_right (a b d : Nat) : ∀ k, acc a (b ^^^ d) k = acc a b k ^^^ acc a d k
  | 0 => by simp [acc]
  | k + 1 => by
    unfold acc
    rw [acc_right a b d k, Nat.testBit_xor]
    cases b.testBit k <;> cases d.testBit k
    · simp
    · simp [Nat.xor_assoc]
    · simp only [Bool.bne_false, if_true, Bool.false_eq_true, if_false]; ac_rfl
    · simp only [bne_self_eq_false, if_true, Bool.false_eq_true, if_false]; exact xor_drop _ _ _
theorem rst_xor (m n : Nat) : ∀ j, rst (m ^^^ n) j = rst m j ^^^ rst n j
  | 0 => rfl
  | j + 1 => by
    unfold rst
    rw [rst_xor m n j, Nat.testBit_xor]
    cases (rst m j).testBit (14 - j) <;> cases (rst n j).testBit (14 - j)
    · simp
    · simp [Nat.xor_assoc]
    · simp only [Bool.bne_false, if_true, Bool.false_eq_true, if_false]; ac_rfl
    · simp only [bne_self_eq_false, if_true, Bool.false_eq_true, if_false]; exact xor_drop _ _ _
theorem gm_left (a c b : Nat) : gm (a ^^^ c) b = gm a b ^^^ gm c b := by unfold gm; rw [acc_left, rst_xor]
theorem gm_right (a b d : Nat) : gm a (b ^^^ d) = gm a b ^^^ gm a d := by unfold gm; rw [acc_right, rst_xor]

theorem top_bit {x n : Nat} (h : x < 2 ^ (n + 1)) : x < 2 ^ n ∨ x ^^^ 2 ^ n < 2 ^ n := by
  cases hb : x.testBit n
  · refine .inl (Nat.lt_pow_two_of_testBit _ fun i hi => ?_)
    by_cases e : i = n
    · subst e; exact hb
    · exact Nat.testBit_lt_two_pow (Nat.lt_of_lt_of_le h (Nat.pow_le_pow_right (by omega) (by omega)))
  · refine .inr (Nat.lt_pow_two_of_testBit _ fun i hi => ?_)
    rw [Nat.testBit_xor]
    by_cases e : i = n
    · subst e; rw [hb, Nat.testBit_two_pow_self]; rfl
    · rw [Nat.testBit_lt_two_pow (Nat.lt_of_lt_of_le h (Nat.pow_le_pow_right (by omega) (by omega))), Nat.testBit_two_pow_of_ne (by omega)]; rfl
/-- Two maps that take sums to sums are the same below a power of 2, if they are at its lower powers. -/
theorem lin_n (f g : Nat → Nat) (hf : ∀ x y, f (x ^^^ y) = f x ^^^ f y) (hg : ∀ x y, g (x ^^^ y) = g x ^^^ g y) : ∀ n, (∀ i, i < n → f (2 ^ i) = g (2 ^ i)) → ∀ x, x < 2 ^ n → f x = g x
  | 0, _, x, hx => by
    have hf0 : f 0 = 0 := by have := hf 0 0; rw [Nat.xor_self, Nat.xor_self] at this; exact this
    have hg0 : g 0 = 0 := by have := hg 0 0; rw [Nat.xor_self, Nat.xor_self] at this; exact this
    obtain rfl : x = 0 := by simp at hx; exact hx
    rw [hf0, hg0]
  | n + 1, h, x, hx => by
    have ih := lin_n f g hf hg n (fun i hi => h i (by omega))
    rcases top_bit hx with e | e
    · exact ih x e
    · have h1 := ih _ e
      rw [hf, hg, h n (by omega)] at h1
      have h2 : (f x ^^^ g (2 ^ n)) ^^^ g (2 ^ n) = (g x ^^^ g (2 ^ n)) ^^^ g (2 ^ n) := by rw [h1]
      rwa [Nat.xor_assoc, Nat.xor_self, Nat.xor_zero, Nat.xor_assoc, Nat.xor_self, Nat.xor_zero] at h2
theorem lin (f g : Nat → Nat) (hf : ∀ x y, f (x ^^^ y) = f x ^^^ f y) (hg : ∀ x y, g (x ^^^ y) = g x ^^^ g y) (h : ∀ i, i < 8 → f (2 ^ i) = g (2 ^ i)) (x : Nat) (hx : x < 256) : f x = g x := lin_n f g hf hg 8 h x hx

theorem base_tx : ∀ i, i < 8 → ∀ j, j < 8 → gm (2 ^ i) (tx (2 ^ j)) = tx (gm (2 ^ i) (2 ^ j)) := by decide +kernel
theorem base_one : ∀ i, i < 8 → gm (2 ^ i) 1 = 2 ^ i := by decide +kernel
theorem gm_tx (a b : Nat) (ha : a < 256) (hb : b < 256) : gm a (tx b) = tx (gm a b) :=
  lin (fun b => gm a (tx b)) (fun b => tx (gm a b)) (fun x y => by show gm a (tx (x ^^^ y)) = _; rw [tx_xor, gm_right]) (fun x y => by show tx (gm a (x ^^^ y)) = _; rw [gm_right, tx_xor])
    (fun j hj => lin (fun a => gm a (tx (2 ^ j))) (fun a => tx (gm a (2 ^ j))) (fun x y => gm_left _ _ _) (fun x y => by show tx (gm (x ^^^ y) _) = _; rw [gm_left, tx_xor]) (fun i hi => base_tx i hi j hj) a ha) b hb
theorem gm_one (a : Nat) (ha : a < 256) : gm a 1 = a := lin (fun a => gm a 1) (fun a => a) (fun _ _ => gm_left _ _ _) (fun _ _ => rfl) base_one a ha
theorem acc_zero (b : Nat) : ∀ k, acc 0 b k = 0
  | 0 => rfl
  | k + 1 => by unfold acc; rw [acc_zero b k]; simp
theorem acc_none (a : Nat) : ∀ k, acc a 0 k = 0
  | 0 => rfl
  | k + 1 => by unfold acc; rw [acc_none a k]; simp
theorem zero_gm (b : Nat) : gm 0 b = 0 := by unfold gm; rw [acc_zero]; rfl
theorem gm_zero (a : Nat) : gm a 0 = 0 := by unfold gm; rw [acc_none]; rfl

theorem tx_all : ∀ a, a < 256 → tx a < 256 := by decide +kernel
theorem pw_lt : ∀ n, pw n < 256
  | 0 => by decide
  | n + 1 => tx_all _ (pw_lt n)
theorem gm_pw (m : Nat) : ∀ n, gm (pw m) (pw n) = pw (m + n)
  | 0 => gm_one _ (pw_lt m)
  | n + 1 => by show gm (pw m) (tx (pw n)) = tx (pw (m + n)); rw [gm_tx _ _ (pw_lt m) (pw_lt n), gm_pw m n]
theorem pw_round : pw 255 = 1 := by decide +kernel
theorem pw_per : ∀ n, pw (n + 255) = pw n
  | 0 => pw_round
  | n + 1 => by rw [show n + 1 + 255 = (n + 255) + 1 by omega]; show tx (pw (n + 255)) = tx (pw n); rw [pw_per n]
theorem pw_many (n : Nat) : ∀ q, pw (n + 255 * q) = pw n
  | 0 => rfl
  | q + 1 => by rw [show n + 255 * (q + 1) = (n + 255 * q) + 255 by omega, pw_per, pw_many n q]
theorem pw_mod (n : Nat) : pw n = pw (n % 255) := by
  have := pw_many (n % 255) (n / 255)
  rw [← this]; congr 1; omega
theorem lg_all : ∀ c, c < 256 → c ≠ 0 → lg c < 255 ∧ pw (lg c) = c := by decide +kernel
theorem lg_pw : ∀ n, n < 255 → lg (pw n) = n := by decide +kernel
theorem pw_ne (n : Nat) : pw n ≠ 0 := by
  rw [pw_mod]
  have : ∀ n, n < 255 → pw n ≠ 0 := by decide +kernel
  exact this _ (Nat.mod_lt _ (by omega))
theorem gm_eq {a b : Nat} (ha : a < 256) (hb : b < 256) (h0 : a ≠ 0) (h1 : b ≠ 0) : gm a b = pw (lg a + lg b) := by
  have h := gm_pw (lg a) (lg b)
  rwa [(lg_all a ha h0).2, (lg_all b hb h1).2] at h
theorem gm_lt {a b : Nat} (ha : a < 256) (hb : b < 256) : gm a b < 256 := by
  by_cases h0 : a = 0
  · subst h0; rw [zero_gm]; omega
  · by_cases h1 : b = 0
    · subst h1; rw [gm_zero]; omega
    · rw [gm_eq ha hb h0 h1]; exact pw_lt _
theorem gm_ne {a b : Nat} (ha : a < 256) (hb : b < 256) (h0 : a ≠ 0) (h1 : b ≠ 0) : gm a b ≠ 0 := by rw [gm_eq ha hb h0 h1]; exact pw_ne _
theorem gm_comm {a b : Nat} (ha : a < 256) (hb : b < 256) : gm a b = gm b a := by
  by_cases h0 : a = 0
  · subst h0; rw [zero_gm, gm_zero]
  · by_cases h1 : b = 0
    · subst h1; rw [zero_gm, gm_zero]
    · rw [gm_eq ha hb h0 h1, gm_eq hb ha h1 h0, Nat.add_comm]
theorem gm_assoc {a b c : Nat} (ha : a < 256) (hb : b < 256) (hc : c < 256) : gm a (gm b c) = gm (gm a b) c := by
  by_cases h0 : a = 0
  · subst h0; simp only [zero_gm]
  · by_cases h1 : b = 0
    · subst h1; simp only [zero_gm, gm_zero]
    · by_cases h2 : c = 0
      · subst h2; simp only [gm_zero]
      · rw [gm_eq hb hc h1 h2, gm_eq ha hb h0 h1]
        have e1 := gm_pw (lg a) (lg b + lg c)
        have e2 := gm_pw (lg a + lg b) (lg c)
        rw [(lg_all a ha h0).2] at e1
        rw [(lg_all c hc h2).2] at e2
        rw [e1, e2, Nat.add_assoc]
end Go.Proofs.Ytjcbcdjfhcnhcaa
namespace Go.Proofs.Ytjcbcdjfhcnhcaa
open Go.RowKit

/-- A slice of integers that came in: nil, or a row of 'cap' cells, each fitting its kind; the first 'len' are its elements. -/
def IsRow (k : IntKind) (w : World) (a : Option Addr) (len cap : Nat) (zs : List Int) : Prop :=
  (a = none ∧ len = 0 ∧ cap = 0 ∧ zs = []) ∨
  ∃ x, a = some x ∧ len ≤ cap ∧ cap ≤ maxLen ∧ zs.length = cap ∧ (∀ i, i < zs.length → w.cell? (x.add i) = some (.int k (zs.getD i 0))) ∧ ∀ n ∈ zs, (Lit.int k n).wf = true
/-- The same, where there is an element: the block and the place in it. -/
structure RowAt (k : IntKind) (w : World) (b off len cap : Nat) (zs : List Int) : Prop where
  le : len ≤ cap
  max : cap ≤ 9223372036854775807
  size : zs.length = cap
  cell : ∀ i, i < len → w.cell? ⟨b, off + i, none⟩ = some (.int k (zs.getD i 0))
  wf : ∀ i, i < len → (Lit.int k (zs.getD i 0)).wf = true
theorem IsRow.at_ {k : IntKind} {w : World} {a : Option Addr} {len cap : Nat} {zs : List Int} (h : IsRow k w a len cap zs) : len = 0 ∨ (0 < len ∧ ∃ b off, a = some ⟨b, off, none⟩ ∧ RowAt k w b off len cap zs) := by
  rcases h with ⟨_, h, _, _⟩ | ⟨x, rfl, hl, hm, hz, hc, hw⟩
  · exact .inl h
  · by_cases h0 : len = 0
    · exact .inl h0
    · refine .inr ⟨by omega, ?_⟩
      obtain ⟨b, off, spot⟩ := x
      have c0 := hc 0 (by omega)
      have : spot = none := by simpa [Addr.add] using World.cell?_spot c0
      subst this
      refine ⟨b, off, rfl, hl, by unfold maxLen at hm; omega, hz, fun i hi => ?_, fun i hi => ?_⟩
      · have := hc i (by omega)
        rw [← this]
        unfold Addr.add
        split
        · simp_all
        · rfl
      · refine hw _ ?_
        rw [List.getD_eq_getElem?_getD, List.getElem?_eq_getElem (by omega)]
        exact List.getElem_mem _
theorem IsRow.bound {k : IntKind} {w : World} {a : Option Addr} {len cap : Nat} {zs : List Int} (h : IsRow k w a len cap zs) : len ≤ cap ∧ cap ≤ 9223372036854775807 := by
  rcases h with ⟨_, rfl, rfl, _⟩ | ⟨x, _, hl, hm, _⟩
  · omega
  · unfold maxLen at hm; omega
end Go.Proofs.Ytjcbcdjfhcnhcaa
namespace Go.Proofs.Ytjcbcdjfhcnhcaa
open Go.RowKit

theorem ret_int {k : IntKind} {a b : Int} (h : a = b) : Ending.returned (.int k a) = .returned (.int k b) := by rw [h]
theorem ret_bool {a b : Bool} (h : a = b) : Ending.returned (.bool a) = .returned (.bool b) := by rw [h]
theorem below_drewN {B : Nat} {a w : World} (h : Below B a w) (n : Nat) : Below B a (w.drewN n) := ⟨h.os, h.tape, h.output, h.size, h.block⟩
theorem u8_lo {n : Int} (h : (Lit.int .u8 n).wf = true) : 0 ≤ n ∧ n ≤ 255 := by
  simp [Lit.wf, IntKind.min, IntKind.max, IntKind.bits, IntKind.signed] at h; omega
/-- A slice that reads as a list of bytes. -/
structure Bytes (w : World) (a : Option Addr) (len : Nat) (l : List Int) : Prop where
  size : l.length = len
  max : len ≤ 9223372036854775807
  byte : ∀ i, i < len → 0 ≤ l.getD i 0 ∧ l.getD i 0 ≤ 255
  cell : len = 0 ∨ (0 < len ∧ ∃ b off, a = some ⟨b, off, none⟩ ∧ b < w.heap.size ∧ ∀ i, i < len → w.cell? ⟨b, off + i, none⟩ = some (.int .u8 (l.getD i 0)))
theorem Bytes.below {w w' : World} {a : Option Addr} {len : Nat} {l : List Int} (h : Bytes w a len l) {B : Nat} (hb : Below B w w') (hB : w.heap.size ≤ B) : Bytes w' a len l :=
  ⟨h.size, h.max, h.byte, h.cell.imp id fun ⟨h0, b, off, e, hl, hc⟩ => ⟨h0, b, off, e, Nat.lt_of_lt_of_le hl hb.size, fun i hi => (hb.cell (p := ⟨b, off + i, none⟩) (by show b < B; omega)).trans (hc i hi)⟩⟩
theorem Bytes.drew {w : World} {a : Option Addr} {n : Nat} {l : List Int} (h : Bytes w a n l) : Bytes w.drew a n l := ⟨h.size, h.max, h.byte, h.cell⟩
theorem Bytes.drewN {w : World} {a : Option Addr} {n : Nat} {l : List Int} (h : Bytes w a n l) (k : Nat) : Bytes (w.drewN k) a n l := ⟨h.size, h.max, h.byte, h.cell⟩
theorem Bytes.range {w : World} {a : Option Addr} {n : Nat} {l : List Int} (h : Bytes w a n l) : ∀ z ∈ l, 0 ≤ z ∧ z ≤ 255 := by
  intro z hz
  obtain ⟨i, hi, rfl⟩ := List.mem_iff_getElem.1 hz
  have := h.byte i (by have := h.size; omega)
  simpa [List.getD_eq_getElem?_getD, List.getElem?_eq_getElem hi] using this
theorem Bytes.nil (w : World) : Bytes w none 0 [] := ⟨rfl, by omega, fun i hi => by omega, .inl rfl⟩
theorem Bytes.front {w : World} {a : Option Addr} {n m : Nat} {l : List Int} (h : Bytes w a m l) (hn : n ≤ m) : Bytes w a n (l.take n) := by
  have e : ∀ i, i < n → (l.take n).getD i 0 = l.getD i 0 := fun i hi => by simp [List.getD_eq_getElem?_getD, hi]
  refine ⟨by rw [List.length_take, h.size]; omega, by have := h.max; omega, fun i hi => by rw [e i hi]; exact h.byte i (by omega), ?_⟩
  by_cases h0 : n = 0
  · exact .inl h0
  · rcases h.cell with g | ⟨_, b, off, e1, h1, hc⟩
    · omega
    · exact .inr ⟨by omega, b, off, e1, h1, fun i hi => by rw [e i hi]; exact hc i (by omega)⟩
theorem IsRow.bytes {w : World} {a : Option Addr} {len cap : Nat} {zs : List Int} (h : IsRow .u8 w a len cap zs) : Bytes w a len (zs.take len) := by
  have hb := h.bound
  rcases h.at_ with rfl | ⟨h0, b, off, rfl, g⟩
  · exact ⟨by simp, by omega, fun i hi => by omega, .inl rfl⟩
  · have e : ∀ i, i < len → (zs.take len).getD i 0 = zs.getD i 0 := fun i hi => by
      simp [List.getD_eq_getElem?_getD, hi]
    have hs := g.size
    refine ⟨by rw [List.length_take]; omega, by omega, fun i hi => ?_, .inr ⟨h0, b, off, rfl, ?_, fun i hi => ?_⟩⟩
    · rw [e i hi]; exact u8_lo (g.wf i hi)
    · have c := g.cell 0 h0
      rcases Nat.lt_or_ge b w.heap.size with g | g
      · exact g
      · simp [World.cell?, Array.getElem?_eq_none g] at c
    · rw [e i hi]; exact g.cell i hi
theorem IsRow.nil_cap {k : IntKind} {w : World} {a : Option Addr} {len cap : Nat} {zs : List Int} (h : IsRow k w a len cap zs) : a = none → cap = 0 := by
  rcases h with ⟨_, _, h, _⟩ | ⟨x, rfl, _⟩
  · exact fun _ => h
  · exact fun h => nomatch h
theorem same_getD {x y : List Int} (h : x.length = y.length) (hx : ∀ i, i < x.length → x.getD i 0 = y.getD i 0) : x = y := by
  apply List.ext_getElem h
  intro i h1 h2
  have := hx i h1
  simpa [List.getD_eq_getElem?_getD, List.getElem?_eq_getElem h1, List.getElem?_eq_getElem h2] using this
/-- A block of bytes, known whole. -/
def Row8 (w : World) (b : Nat) (t : TypeId) (Z : List Int) : Prop := w.heap[b]? = some (.cells (Z.map (Value.int .u8)).toArray t (0, 0))
theorem Row8.lt {w : World} {b : Nat} {t : TypeId} {Z : List Int} (h : Row8 w b t Z) : b < w.heap.size := by
  obtain ⟨h1, _⟩ := Array.getElem?_eq_some_iff.1 h
  exact h1
theorem Row8.cell {w : World} {b : Nat} {t : TypeId} {Z : List Int} (h : Row8 w b t Z) (i : Nat) (hi : i < Z.length) : w.cell? ⟨b, i, none⟩ = some (.int .u8 (Z.getD i 0)) := by
  unfold Row8 at h
  simp only [World.cell?, h]
  simp [List.getD_eq_getElem?_getD, List.getElem?_eq_getElem hi]
theorem Row8.frozen {w : World} {b : Nat} {t : TypeId} {Z : List Int} (h : Row8 w b t Z) (i : Nat) : w.frozen? ⟨b, i, none⟩ = false := by
  unfold Row8 at h
  simp [World.frozen?, h]
theorem Row8.bytes {w : World} {b : Nat} {t : TypeId} {Z : List Int} (h : Row8 w b t Z) (hz : ∀ z ∈ Z, 0 ≤ z ∧ z ≤ 255) (off n : Nat) (hn : off + n ≤ Z.length) (hm : n ≤ 9223372036854775807) : Bytes w (some ⟨b, off, none⟩) n ((Z.drop off).take n) := by
  have e : ∀ i, i < n → ((Z.drop off).take n).getD i 0 = Z.getD (off + i) 0 := fun i hi => by
    simp [List.getD_eq_getElem?_getD, hi, List.getElem?_drop]
  refine ⟨by rw [List.length_take, List.length_drop]; omega, hm, fun i hi => ?_, ?_⟩
  · rw [e i hi, List.getD_eq_getElem?_getD, List.getElem?_eq_getElem (by omega)]
    exact hz _ (List.getElem_mem _)
  · by_cases h0 : n = 0
    · exact .inl h0
    · exact .inr ⟨by omega, b, off, rfl, h.lt, fun i hi => by rw [e i hi]; exact h.cell _ (by omega)⟩
theorem Row8.whole {w : World} {b : Nat} {t : TypeId} {Z : List Int} (h : Row8 w b t Z) (hz : ∀ z ∈ Z, 0 ≤ z ∧ z ≤ 255) (n : Nat) (hn : n = Z.length) (hm : n ≤ 9223372036854775807) : Bytes w (some ⟨b, 0, none⟩) n Z := by
  have := h.bytes hz 0 n (by omega) hm
  rwa [List.drop_zero, List.take_of_length_le (by omega)] at this
theorem Row8.below {w w' : World} {b : Nat} {t : TypeId} {Z : List Int} (h : Row8 w b t Z) {B : Nat} (hb : Below B w w') (hB : b < B) : Row8 w' b t Z := (hb.block b hB).trans h
theorem Row8.set {w : World} {b : Nat} {t : TypeId} {Z : List Int} (h : Row8 w b t Z) (i : Nat) (z : Int) : Row8 (w.setCell ⟨b, i, none⟩ (.int .u8 z)) b t (Z.set i z) := by
  unfold Row8 at *
  simp [World.setCell, Array.getElem?_modify, h, List.map_set]
/-- What make lays. -/
theorem made_row (w : World) (n : Nat) (t : TypeId) : Row8 (w.alloc (.cells (madeCells #[.int .u8 0] n) t)) w.heap.size t (List.replicate n 0) := by
  unfold Row8
  rw [Go.Deep.blk_alloc_new]
  have e : madeCells #[Value.int .u8 0] n = ((List.replicate n (0 : Int)).map (Value.int .u8)).toArray := by
    apply Array.toList_inj.1
    rw [toList_madeCells_one]
    simp
  rw [e]
theorem splice_map {Z l : List Int} {off : Nat} : splice (Z.map (Value.int .u8)) off (l.map (Value.int .u8)) = (splice Z off l).map (Value.int .u8) := by
  simp [splice, List.map_take, List.map_drop]
end Go.Proofs.Ytjcbcdjfhcnhcaa
namespace Go.Proofs.Ytjcbcdjfhcnhcaa
open Go.RowKit

theorem bits_u8 (a b : Nat) (ha : a < 256) (hb : b < 256) : bits .xor .u8 (a : Int) (b : Int) = ((a ^^^ b : Nat) : Int) := by
  have h : a ^^^ b < 2 ^ 8 := Nat.xor_lt_two_pow (by omega) (by omega)
  have m1 : (((a : Int)) % ((2 ^ IntKind.u8.bits : Nat) : Int)).toNat = a := by
    show ((a : Int) % 256).toNat = a
    omega
  have m2 : (((b : Int)) % ((2 ^ IntKind.u8.bits : Nat) : Int)).toNat = b := by
    show ((b : Int) % 256).toNat = b
    omega
  simp only [bits, BitVec.toNat_xor, BitVec.toNat_ofInt, m1, m2]
  rw [IntKind.wrap_u8]
  omega
theorem bits_i64 (a b : Nat) (ha : a < 65536) (hb : b < 65536) : bits .xor .i64 (a : Int) (b : Int) = ((a ^^^ b : Nat) : Int) := by
  have h : a ^^^ b < 2 ^ 16 := Nat.xor_lt_two_pow (by omega) (by omega)
  have m1 : (((a : Int)) % ((2 ^ IntKind.i64.bits : Nat) : Int)).toNat = a := by
    show ((a : Int) % 18446744073709551616).toNat = a
    omega
  have m2 : (((b : Int)) % ((2 ^ IntKind.i64.bits : Nat) : Int)).toNat = b := by
    show ((b : Int) % 18446744073709551616).toNat = b
    omega
  simp only [bits, BitVec.toNat_xor, BitVec.toNat_ofInt, m1, m2]
  exact IntWalk.i64_in _ (by omega)
theorem tx_low (a : Nat) (h : a < 128) : tx a = 2 * a := by
  unfold tx
  rw [Nat.testBit_lt_two_pow (show a < 2 ^ 7 by omega)]; simp
theorem tx_high (a : Nat) (h : 128 ≤ a) (h2 : a < 256) : tx a = 2 * a ^^^ 285 := by
  have : ∀ a, a < 256 → 128 ≤ a → tx a = 2 * a ^^^ 285 := by decide +kernel
  exact this a h2 h
set_option maxRecDepth 100000 in
theorem timesx_any (a : Nat) (ha : a < 256) (w : World) :
    Calls Try.prog 32 #[.int .u8 a] w fun e w' => e = .returned (.int .u8 (tx a)) ∧ w = w' := by
  have ht := tx_all a ha
  by_cases h : a < 128
  · have H := Lib.hid (tx_low a h)
    go_enter Try.func32, Try.ntmps32
    go_wp2
    go_ret
    exact ⟨ret_int (by rw [H.out]; go_num), rfl⟩
  · have H := Lib.hid (tx_high a (by omega) ha)
    have hb := bits_i64 (2 * a) 285 (by omega) (by omega)
    rw [← H.out, show ((2 * a : Nat) : Int) = (a : Int) * 2 by omega, show ((285 : Nat) : Int) = 285 from rfl] at hb
    go_enter Try.func32, Try.ntmps32
    go_wp2
    go_ret
    exact ⟨ret_int (by first | done | omega), rfl⟩
theorem zero_tables (w : World) : (zeroValue 89).run Try.prog w = .ok (.agg (Array.replicate 766 (.int .u8 0))) w := by kernel_rfl
/-- The log of an element, as it stands in the table. -/
def lgT (c : Nat) : Nat := if c = 0 then 0 else lg c
/-- What stands in the tables. -/
def tabF (j : Nat) : Value := if j < 510 then .int .u8 (pw j) else .int .u8 (lgT (j - 510))
/-- Behind so many rounds. -/
def tabG (k j : Nat) : Value :=
  if j < 510 then (if j % 255 < k then .int .u8 (pw j) else .int .u8 0) else (if j - 510 ≠ 0 ∧ lg (j - 510) < k then .int .u8 (lg (j - 510)) else .int .u8 0)
/-- The tables, in their block. -/
def IsTab (w : World) (b : Nat) : Prop := w.rowIs b 89 766 tabF
theorem tab_start (w : World) : (w.alloc (.cells (Array.replicate 766 (.int .u8 0)) 89)).rowIs w.heap.size 89 766 (tabG 0) := by
  have h := World.rowIs_alloc w (Array.replicate 766 (.int .u8 0)) 89 (tabG 0) (fun i hi => by
    simp at hi
    simp [tabG, hi])
  simpa using h
theorem tab_step (k : Nat) (hk : k < 255) (j : Nat) (hj : j < 766) :
    (if j = 510 + pw k then Value.int .u8 (k : Int) else if j = k + 255 then .int .u8 (pw k) else if j = k then .int .u8 (pw k) else tabG k j) = tabG (k + 1) j := by
  have hl := lg_pw k hk
  have hp := pw_lt k
  have hn := pw_ne k
  unfold tabG
  by_cases h1 : j < 510
  · rw [if_neg (by omega), if_pos h1, if_pos h1]
    by_cases h2 : j = k + 255
    · subst h2; rw [if_pos rfl, if_pos (by omega), pw_per]
    · rw [if_neg h2]
      by_cases h3 : j = k
      · subst h3; rw [if_pos rfl, if_pos (by omega)]
      · rw [if_neg h3]
        by_cases h4 : j % 255 < k
        · rw [if_pos h4, if_pos (by omega)]
        · rw [if_neg h4, if_neg (by omega)]
  · rw [if_neg (show ¬ j = k + 255 by omega), if_neg (show ¬ j = k by omega), if_neg h1, if_neg h1]
    by_cases h2 : j = 510 + pw k
    · subst h2
      rw [if_pos rfl, show 510 + pw k - 510 = pw k by omega, hl, if_pos ⟨hn, by omega⟩]
    · rw [if_neg h2]
      by_cases h3 : j - 510 ≠ 0 ∧ lg (j - 510) < k
      · rw [if_pos h3, if_pos ⟨h3.1, by omega⟩]
      · rw [if_neg h3, if_neg]
        rintro ⟨h4, h5⟩
        have h6 : lg (j - 510) = k := by
          rcases Nat.lt_or_ge (lg (j - 510)) k with g | g
          · exact absurd ⟨h4, g⟩ h3
          · omega
        have h7 := (lg_all (j - 510) (by omega) h4).2
        rw [h6] at h7
        omega
theorem tab_end (j : Nat) (hj : j < 766) : tabG 255 j = tabF j := by
  unfold tabG tabF lgT
  by_cases h1 : j < 510
  · rw [if_pos h1, if_pos h1, if_pos (by omega)]
  · rw [if_neg h1, if_neg h1]
    by_cases h2 : j - 510 = 0
    · rw [if_neg (by omega), if_pos h2]; rfl
    · rw [if_pos ⟨h2, (lg_all _ (by omega) h2).1⟩, if_neg h2]
set_option maxRecDepth 100000 in
theorem new_any (w : World) :
    Calls Try.prog 9 #[] w fun e w' => e = .returned (.pointer (some ⟨w.heap.size, 0, none⟩)) ∧ IsTab w' w.heap.size ∧ Below w.heap.size w w' := by
  have z := zero_tables
  have T0 := Lib.hid (tab_start w)
  generalize Array.replicate 766 (Value.int .u8 0) = A at *
  go_enter Try.func9, Try.ntmps9
  go_wp2
  go_loopw [2, 3, 6] (fun a _ i wr => ∃ k : Nat, k ≤ 255 ∧ i = .int .i64 k ∧ a = .int .u8 (pw k) ∧ wr.rowIs w.heap.size 89 766 (tabG k) ∧ Below w.heap.size w wr) (fun _ _ i _ => 255 - (intOf i).toNat)
  case atStart => exact ⟨0, by omega, rfl, rfl, T0.out, (Below.refl _ _).alloc (by simp) _⟩
  case round =>
    obtain ⟨k, hk, rfl, rfl, R, B⟩ := hrel
    by_cases hlt : k < 255
    · have p1 := pw_lt k
      have HS := Lib.hid (tab_step k hlt)
      have HP := Lib.hid (show pw (k + 1) = tx (pw k) from rfl)
      have cs := fun w => timesx_any (pw k) p1 w
      have CS := Lib.hid cs
      clear cs
      generalize pw k = p at *
      have c1 := R.cell (i := k) (by omega)
      have c2 := R.cell (i := k + 255) (by omega)
      have c3 := R.cell (i := 510 + p) (by omega)
      have f1 := R.frozen k
      have f2 := R.frozen (k + 255)
      have f3 := R.frozen (510 + p)
      have HR := Lib.hid R
      clear R
      go_wp2_with (go_at_call 32; refine (CS.out _).mono ?_; rintro e w' ⟨rfl, rfl⟩)
      go_roundw
      case rel =>
        refine ⟨k + 1, by omega, by go_num, by rw [HP.out], ?_, ((B.setCell (p := ⟨w.heap.size, k, none⟩) (Nat.le_refl _) _).setCell (p := ⟨w.heap.size, k + 255, none⟩) (Nat.le_refl _) _).setCell (p := ⟨w.heap.size, 510 + p, none⟩) (Nat.le_refl _) _⟩
        exact (((HR.out.set k _).set (k + 255) _).set (510 + p) _).congr (fun j hj => HS.out j hj)
      case measure => simp [intOf]; omega
    · obtain rfl : k = 255 := by omega
      go_wp2
      go_ret
      exact ⟨rfl, R.congr (fun i hi => tab_end i hi), B⟩
end Go.Proofs.Ytjcbcdjfhcnhcaa
namespace Go.Proofs.Ytjcbcdjfhcnhcaa
open Go.RowKit

theorem IsTab.below {w w' : World} {b : Nat} (h : IsTab w b) {B : Nat} (hb : Below B w w') (hB : b < B) : IsTab w' b := World.rowIs.of_block h (hb.block b hB)
/-- x to any power. -/
def pwZ (n : Int) : Nat := pw (n % 255).toNat
theorem tab_pow {w : World} {t : Nat} (h : IsTab w t) (n : Nat) (hn : n < 510) : w.cell? ⟨t, n, none⟩ = some (.int .u8 (pw n)) := by
  have := h.cell (i := n) (by omega)
  rwa [show tabF n = .int .u8 (pw n) by unfold tabF; rw [if_pos hn]] at this
theorem tab_log {w : World} {t : Nat} (h : IsTab w t) (a : Nat) (ha : a < 256) (h0 : a ≠ 0) : w.cell? ⟨t, 510 + a, none⟩ = some (.int .u8 (lg a)) := by
  have := h.cell (i := 510 + a) (by omega)
  rwa [show tabF (510 + a) = .int .u8 (lg a) by unfold tabF lgT; rw [if_neg (by omega), show 510 + a - 510 = a by omega, if_neg h0]] at this
theorem rest_of (n : Int) : (∃ q : Nat, q < 255 ∧ n.tmod 255 = q ∧ (n % 255).toNat = q) ∨ (∃ q : Nat, 0 < q ∧ q < 255 ∧ n.tmod 255 = (q : Int) - 255 ∧ (n % 255).toNat = q) := by
  have h1 := Int.tmod_eq_emod (a := n) (b := 255)
  by_cases h : 0 ≤ n
  · refine .inl ⟨(n % 255).toNat, by omega, ?_, rfl⟩
    rw [Int.tmod_eq_emod_of_nonneg h]; omega
  · by_cases h0 : n % 255 = 0
    · refine .inl ⟨0, by omega, ?_, by omega⟩
      rw [h1, if_pos (.inr (Int.dvd_of_emod_eq_zero h0))]; omega
    · refine .inr ⟨(n % 255).toNat, by omega, by omega, ?_, rfl⟩
      rw [h1, if_neg (by rintro (h' | h'); exact h h'; exact h0 (Int.emod_eq_zero_of_dvd h'))]
      omega
set_option maxRecDepth 100000 in
theorem exp_any (t : Nat) (n : Int) (w : World) (ht : IsTab w t) :
    Calls Try.prog 115 #[.pointer (some ⟨t, 0, none⟩), .int .i64 n] w fun e w' => e = .returned (.int .u8 (pwZ n)) ∧ w = w' := by
  rcases rest_of n with ⟨q, h1, h2, h3⟩ | ⟨q, h0, h1, h2, h3⟩
  · have c := tab_pow ht q (by omega)
    have HP := Lib.hid (show pwZ n = pw q by unfold pwZ; rw [h3])
    have HT := Lib.hid ht
    clear ht h3
    have q1 : (q : Int) < 255 := by omega
    go_enter Try.func115, Try.ntmps115
    go_wp2
    go_ret
    exact ⟨ret_int (by rw [HP.out]), rfl⟩
  · have c := tab_pow ht q (by omega)
    have HP := Lib.hid (show pwZ n = pw q by unfold pwZ; rw [h3])
    have HT := Lib.hid ht
    clear ht h3
    have q1 : (q : Int) < 255 := by omega
    have q2 : (0 : Int) < q := by omega
    go_enter Try.func115, Try.ntmps115
    go_wp2
    go_ret
    exact ⟨ret_int (by rw [HP.out]), rfl⟩
theorem gmul_any (t a b : Nat) (ha : a < 256) (hb : b < 256) (w : World) (ht : IsTab w t) :
    Calls Try.prog 131 #[.pointer (some ⟨t, 0, none⟩), .int .u8 a, .int .u8 b] w fun e w' => e = .returned (.int .u8 (gm a b)) ∧ ∃ n, w' = w.drewN n := by
  by_cases h0 : a = 0
  · subst h0
    rw [zero_gm]
    go_enter Try.func131, Try.ntmps131
    go_wp2
    go_ret
    exact ⟨rfl, 0, rfl⟩
  · have h2 : ((a : Int) == 0) = false := by simp; omega
    by_cases h1 : b = 0
    · subst h1
      rw [gm_zero]
      go_enter Try.func131, Try.ntmps131
      go_wp2
      go_ret
      exact ⟨rfl, 0, rfl⟩
    · have h3 : ((b : Int) == 0) = false := by simp; omega
      have HG := Lib.hid (gm_eq ha hb h0 h1)
      have c1 := tab_log ht a ha h0
      have c2 := tab_log ht b hb h1
      have l1 := (lg_all a ha h0).1
      have l2 := (lg_all b hb h1).1
      have c3 := tab_pow ht (lg a + lg b) (by omega)
      have HT := Lib.hid ht
      clear ht
      generalize lg a = x at *
      generalize lg b = y at *
      rw [HG.out]
      generalize pw (x + y) = z at *
      have x1 : (a : Int) < 256 := by omega
      have x2 : (b : Int) < 256 := by omega
      have x0 : (0 : Int) ≤ a := by omega
      have y0 : (0 : Int) ≤ b := by omega
      have s1 : IntKind.i64.wrap ((x : Int) + y) = (x : Int) + y := IntWalk.i64_in _ (by omega)
      have s2 : (0 : Int) ≤ (x : Int) + y := by omega
      have s3 : ((x : Int) + y).toNat = x + y := by omega
      have s4 : (x : Int) + y < 510 := by omega
      go_enter Try.func131, Try.ntmps131
      go_wp2
      go_quiet (fail)
      go_wp2
      go_ret
      exact ⟨rfl, _, rfl⟩
end Go.Proofs.Ytjcbcdjfhcnhcaa
namespace Go.Proofs.Ytjcbcdjfhcnhcaa
open Go.RowKit

theorem pwZ_nat (n : Nat) : pwZ n = pw n := by unfold pwZ; rw [pw_mod n]; congr 1
theorem pwZ_add (m n : Int) : gm (pwZ m) (pwZ n) = pwZ (m + n) := by
  unfold pwZ
  rw [gm_pw, pw_mod]
  congr 1; omega
theorem pwZ_same {m n : Int} (h : m % 255 = n % 255) : pwZ m = pwZ n := by unfold pwZ; rw [h]
theorem pwZ_lg {a : Nat} (ha : a < 256) (h0 : a ≠ 0) : pwZ (lg a) = a := by rw [pwZ_nat]; exact (lg_all a ha h0).2
theorem tmod_mul (x n : Int) : (x * n.tmod 255) % 255 = (x * n) % 255 := by
  have h := Int.mul_tdiv_add_tmod n 255
  conv => rhs; rw [← h]
  rw [Int.mul_add, ← Int.mul_assoc, Int.mul_comm x 255, Int.mul_assoc, Int.add_comm, Int.add_mul_emod_self_left]
/-- The inverse. -/
def gi (a : Nat) : Nat := pwZ (-(lg a : Int))
theorem gi_lt (a : Nat) : gi a < 256 := pw_lt _
theorem gi_ne (a : Nat) : gi a ≠ 0 := pw_ne _
theorem gm_gi {a : Nat} (ha : a < 256) (h0 : a ≠ 0) : gm a (gi a) = 1 := by
  have := pwZ_add (lg a) (-(lg a : Int))
  rw [pwZ_lg ha h0, show (lg a : Int) + -(lg a : Int) = 0 by omega] at this
  exact this
theorem gi_gm {a : Nat} (ha : a < 256) (h0 : a ≠ 0) : gm (gi a) a = 1 := by rw [gm_comm (gi_lt a) ha, gm_gi ha h0]
theorem one_gm {a : Nat} (ha : a < 256) : gm 1 a = a := by rw [gm_comm (by omega) ha, gm_one a ha]
theorem gi_only {a c : Nat} (ha : a < 256) (h0 : a ≠ 0) (hc : c < 256) (h : gm a c = 1) : c = gi a := by
  have := gm_assoc (gi_lt a) ha hc
  rw [h, gm_one _ (gi_lt a), gi_gm ha h0, one_gm hc] at this
  exact this.symm
theorem mul_bound (x r : Int) (h0 : 0 ≤ x) (h1 : x < 255) (h2 : -255 < r) (h3 : r < 255) : -65025 ≤ x * r ∧ x * r ≤ 65025 := by
  have e1 : x * r ≤ x * 255 := Int.mul_le_mul_of_nonneg_left (by omega) h0
  have e2 : x * -255 ≤ x * r := Int.mul_le_mul_of_nonneg_left (by omega) h0
  omega
theorem pow_zero (t a : Nat) (w : World) :
    Calls Try.prog 100 #[.pointer (some ⟨t, 0, none⟩), .int .u8 a, .int .i64 0] w fun e w' => e = .returned (.tuple #[.int .u8 1, .int .i64 0]) ∧ w = w' := by
  go_enter Try.func100, Try.ntmps100
  go_wp2
  go_ret2
  exact ⟨rfl, rfl⟩
theorem pow_null (t : Nat) (n : Int) (hn : 0 < n) (w : World) :
    Calls Try.prog 100 #[.pointer (some ⟨t, 0, none⟩), .int .u8 0, .int .i64 n] w fun e w' => e = .returned (.tuple #[.int .u8 0, .int .i64 0]) ∧ w = w' := by
  have h0 : (n == 0) = false := by simp; omega
  go_enter Try.func100, Try.ntmps100
  go_wp2
  go_ret2
  exact ⟨rfl, rfl⟩
set_option maxRecDepth 100000 in
theorem pow_some (t a : Nat) (n : Int) (ha : a < 256) (h0 : a ≠ 0) (w : World) (ht : IsTab w t) :
    Calls Try.prog 100 #[.pointer (some ⟨t, 0, none⟩), .int .u8 a, .int .i64 n] w fun e w' => e = .returned (.tuple #[.int .u8 (pwZ (lg a * n)), .int .i64 0]) ∧ w = w' := by
  by_cases hn : n = 0
  · subst hn
    rw [show pwZ ((lg a : Int) * 0) = 1 by rw [Int.mul_zero]; rfl]
    exact pow_zero t a w
  · have h1 : (n == 0) = false := by simp; omega
    have h2 : ((a : Int) != 0) = true := by simp; omega
    have hm := tmod_mul (lg a) n
    have hr : -255 < n.tmod 255 ∧ n.tmod 255 < 255 := by
      rcases rest_of n with ⟨q, _, h, _⟩ | ⟨q, _, _, h, _⟩ <;> omega
    obtain ⟨r, hr0⟩ : ∃ r, n.tmod 255 = r := ⟨_, rfl⟩
    rw [hr0] at hm hr
    obtain ⟨hr1, hr2⟩ := hr
    have hl := (lg_all a ha h0).1
    have c := tab_log ht a ha h0
    have HP := Lib.hid (show pwZ ((lg a : Int) * n) = pwZ (lg a * r) from pwZ_same hm.symm)
    have hb := mul_bound (lg a) r (by omega) (by omega) hr1 hr2
    obtain ⟨hb1, hb2⟩ := hb
    have HT := Lib.hid ht
    clear ht hm
    have cs : Calls Try.prog 115 #[.pointer (some ⟨t, 0, none⟩), .int .i64 (lg a * r)] w fun e w' => e = .returned (.int .u8 (pwZ (lg a * r))) ∧ w = w' := exp_any t _ w HT.out
    have CS := Lib.hid cs
    clear cs
    rw [HP.out]
    go_enter Try.func100, Try.ntmps100
    go_wp2_with (go_at_call 115; refine CS.out.mono ?_; rintro e w' ⟨rfl, rfl⟩)
    go_ret2
    exact ⟨rfl, rfl⟩
theorem inv_some (t a : Nat) (ha : a < 256) (h0 : a ≠ 0) (w : World) (ht : IsTab w t) :
    Calls Try.prog 126 #[.pointer (some ⟨t, 0, none⟩), .int .u8 a] w fun e w' => e = .returned (.tuple #[.int .u8 (gi a), .int .i64 0]) ∧ w = w' := by
  have cs := pow_some t a (-1) ha h0 w ht
  rw [show pwZ ((lg a : Int) * -1) = gi a by unfold gi; congr 1; omega] at cs
  have CS := Lib.hid cs
  clear cs
  go_enter Try.func126, Try.ntmps126
  go_wp2_with (go_at_call 100; refine CS.out.mono ?_; rintro e w' ⟨rfl, rfl⟩)
  go_ret2
  exact ⟨rfl, rfl⟩
end Go.Proofs.Ytjcbcdjfhcnhcaa
namespace Go.Proofs.Ytjcbcdjfhcnhcaa
open Go.RowKit

theorem acc_lt (a b : Nat) (ha : a < 256) : ∀ k, k ≤ 8 → acc a b k < 2 ^ 15
  | 0, _ => by unfold acc; omega
  | k + 1, hk => by
    unfold acc
    have ih := acc_lt a b ha k (by omega)
    split
    · refine Nat.xor_lt_two_pow ih ?_
      rw [Nat.shiftLeft_eq]
      have : 2 ^ k ≤ 2 ^ 7 := Nat.pow_le_pow_right (by omega) (by omega)
      have h2 : a * 2 ^ k ≤ a * 2 ^ 7 := Nat.mul_le_mul_left _ this
      omega
    · exact ih
theorem rst_clear (n k : Nat) (hn : n < 2 ^ (k + 9)) (h : n.testBit (k + 8) = true) : n ^^^ (285 <<< k) < 2 ^ (k + 8) := by
  refine Nat.lt_pow_two_of_testBit _ fun i hi => ?_
  rw [Nat.testBit_xor, Nat.testBit_shiftLeft]
  by_cases e : i = k + 8
  · subst e; rw [h, show k + 8 - k = 8 by omega]; simp; decide
  · have h1 : n.testBit i = false := Nat.testBit_lt_two_pow (Nat.lt_of_lt_of_le hn (Nat.pow_le_pow_right (by omega) (by omega)))
    have h2 : (285 : Nat).testBit (i - k) = false := Nat.testBit_lt_two_pow (Nat.lt_of_lt_of_le (show 285 < 2 ^ 9 by omega) (Nat.pow_le_pow_right (by omega) (by omega)))
    rw [h1, h2]; simp
theorem rst_keep (n k : Nat) (hn : n < 2 ^ (k + 9)) (h : n.testBit (k + 8) = false) : n < 2 ^ (k + 8) := by
  refine Nat.lt_pow_two_of_testBit _ fun i hi => ?_
  by_cases e : i = k + 8
  · subst e; exact h
  · exact Nat.testBit_lt_two_pow (Nat.lt_of_lt_of_le hn (Nat.pow_le_pow_right (by omega) (by omega)))
theorem rst_lt (n : Nat) (hn : n < 2 ^ 15) : ∀ j, j ≤ 7 → rst n j < 2 ^ (15 - j)
  | 0, _ => hn
  | j + 1, hj => by
    have ih := rst_lt n hn j (by omega)
    unfold rst
    rw [show 15 - j = (6 - j) + 9 by omega] at ih
    rw [show 14 - j = (6 - j) + 8 by omega, show 15 - (j + 1) = (6 - j) + 8 by omega]
    split
    · rename_i h; exact rst_clear _ _ ih h
    · rename_i h; exact rst_keep _ _ ih (by simpa using h)
theorem bit_test (b k : Nat) : (((b : Int) / 2 ^ k).tmod 2 == 1) = b.testBit k := by
  have e : (b : Int) / 2 ^ k = ((b / 2 ^ k : Nat) : Int) := by simp
  rw [e, Nat.testBit_eq_decide_div_mod_eq, Int.tmod_eq_emod_of_nonneg (Int.natCast_nonneg _), Bool.eq_iff_iff]
  simp only [beq_iff_eq, decide_eq_true_eq]
  omega
theorem shl_small (a k : Nat) (ha : a < 512) (hk : k < 8) : wrap64 ((a : Int) * 2 ^ k) = ((a <<< k : Nat) : Int) := by
  have e : (a : Int) * 2 ^ k = ((a <<< k : Nat) : Int) := by rw [Nat.shiftLeft_eq]; simp
  have h : a <<< k < 65536 := by
    rw [Nat.shiftLeft_eq]
    have : 2 ^ k ≤ 2 ^ 7 := Nat.pow_le_pow_right (by omega) (by omega)
    have h2 : a * 2 ^ k ≤ a * 2 ^ 7 := Nat.mul_le_mul_left _ this
    omega
  rw [e]
  generalize a <<< k = s at *
  unfold wrap64
  omega
theorem shl_lt (a k : Nat) (ha : a < 512) (hk : k < 8) : a <<< k < 65536 := by
    rw [Nat.shiftLeft_eq]
    have : 2 ^ k ≤ 2 ^ 7 := Nat.pow_le_pow_right (by omega) (by omega)
    have h2 : a * 2 ^ k ≤ a * 2 ^ 7 := Nat.mul_le_mul_left _ this
    omega
theorem rst_down (N q : Nat) (hq : q < 7) : rst N (7 - q) = if (rst N (6 - q)).testBit (q + 8) then rst N (6 - q) ^^^ (285 <<< q) else rst N (6 - q) := by
  rw [show 7 - q = (6 - q) + 1 by omega]
  conv => lhs; unfold rst
  rw [show 14 - (6 - q) = q + 8 by omega, show 6 - (6 - q) = q by omega]
set_option maxRecDepth 100000 in
theorem rmul_any (a b : Nat) (ha : a < 256) (hb : b < 256) (w : World) :
    Calls Try.prog 90 #[.int .u8 a, .int .u8 b] w fun e w' => e = .returned (.int .u8 (gm a b)) ∧ w = w' := by
  have HG := Lib.hid (show gm a b = rst (acc a b 8) 7 from rfl)
  have HL := Lib.hid (fun j hj => rst_lt (acc a b 8) (acc_lt a b ha 8 (by omega)) j hj)
  have HD := Lib.hid (fun q hq => rst_down (acc a b 8) q hq)
  have hg := gm_lt ha hb
  generalize gm a b = g at *
  go_enter Try.func90, Try.ntmps90
  go_wp2
  go_loop [5, 6] (fun n i => ∃ k : Nat, k ≤ 8 ∧ i = .int .i64 k ∧ n = .int .i64 (acc a b k)) (fun _ i => 8 - (intOf i).toNat)
  case atStart => exact ⟨0, by omega, rfl, rfl⟩
  case round =>
    obtain ⟨k, hk, rfl, rfl⟩ := hrel
    by_cases hlt : k < 8
    · have k0 : (0 : Int) ≤ k := by omega
      have k1 : (k : Int) < 8 := by omega
      have l1 := acc_lt a b ha k hk
      have bt := bit_test b k
      have s1 := shl_small a k (by omega) hlt
      have s2 := bits_i64 (acc a b k) (a <<< k) (by omega) (shl_lt a k (by omega) hlt)
      have HA := Lib.hid (show acc a b (k + 1) = if b.testBit k then acc a b k ^^^ (a <<< k) else acc a b k from rfl)
      generalize a <<< k = s at *
      generalize acc a b k = n at *
      cases hb : b.testBit k
      all_goals
        rw [hb] at bt
        have HB := Lib.hid hb
        clear hb
        go_wp2
        go_round
        case rel => exact ⟨k + 1, by omega, by go_num, by rw [HA.out, HB.out]; rfl⟩
        case measure => simp [intOf]; omega
    · obtain rfl : k = 8 := by omega
      generalize acc a b 8 = N at *
      go_wp2
      go_loop [5, 7] (fun n i => ∃ m : Nat, m ≤ 7 ∧ i = .int .i64 ((m : Int) + 7) ∧ n = .int .i64 (rst N (7 - m))) (fun _ i => (intOf i).toNat)
      case atStart => exact ⟨7, by omega, rfl, rfl⟩
      case round =>
        obtain ⟨m, hm, rfl, rfl⟩ := hrel
        by_cases hlt : 0 < m
        · obtain ⟨q, rfl⟩ : ∃ q, m = q + 1 := ⟨m - 1, by omega⟩
          rw [show ((q + 1 : Nat) : Int) + 7 = (q : Int) + 8 by omega, show 7 - (q + 1) = 6 - q by omega]
          have q0 : (0 : Int) ≤ q := by omega
          have q1 : (q : Int) < 7 := by omega
          have l1 : rst N (6 - q) < 32768 := Nat.lt_of_lt_of_le (HL.out (6 - q) (by omega)) (show 2 ^ (15 - (6 - q)) ≤ 2 ^ 15 from Nat.pow_le_pow_right (by omega) (by omega))
          have bt := bit_test (rst N (6 - q)) (q + 8)
          have s1 : wrap64 ((285 : Int) * 2 ^ q) = ((285 <<< q : Nat) : Int) := shl_small 285 q (by omega) (by omega)
          have s2 := bits_i64 (rst N (6 - q)) (285 <<< q) (by omega) (shl_lt 285 q (by omega) (by omega))
          have HA := Lib.hid (HD.out q (by omega))
          generalize 285 <<< q = s at *
          generalize rst N (6 - q) = n at *
          have t1 : ((q : Int) + 8).toNat = q + 8 := by omega
          cases hb : n.testBit (q + 8)
          all_goals
            rw [hb] at bt
            have HB := Lib.hid hb
            clear hb
            go_wp2
            go_round
            case rel => exact ⟨q, by omega, by first | rfl | go_num | (congr 1; omega), by rw [HA.out, HB.out]; rfl⟩
            case measure => simp [intOf]; omega
        · obtain rfl : m = 0 := by omega
          have l1 : rst N 7 < 256 := HL.out 7 (by omega)
          rw [← HG.out] at l1
          go_wp2
          go_ret
          exact ⟨ret_int (by have h := l1; rw [HG.out] at h ⊢; omega), rfl⟩
end Go.Proofs.Ytjcbcdjfhcnhcaa
namespace Go.Proofs.Ytjcbcdjfhcnhcaa
open Go.RowKit

set_option maxRecDepth 100000 in
theorem rinv_any (a : Nat) (ha : a < 256) (h0 : a ≠ 0) (w : World) :
    Calls Try.prog 111 #[.int .u8 a] w fun e w' => e = .returned (.int .u8 (gi a)) ∧ w = w' := by
  have HO := Lib.hid (fun c hc h => gi_only (c := c) ha h0 hc h)
  have HG := Lib.hid (gm_gi ha h0)
  have HL := Lib.hid (gi_lt a)
  have HN := Lib.hid (gi_ne a)
  have HM := Lib.hid h0
  generalize gi a = g at *
  clear h0
  go_enter Try.func111, Try.ntmps111
  go_wp2
  go_loop [3] (fun i => ∃ k : Nat, 1 ≤ k ∧ k ≤ g ∧ i = .int .i64 k) (fun i => 256 - (intOf i).toNat)
  case atStart => exact ⟨1, by omega, by have := HN.out; omega, rfl⟩
  case round =>
    obtain ⟨k, hk, hkg, rfl⟩ := hrel
    have hl := HL.out
    have k1 : (k : Int) < 256 := by omega
    have k2 : (1 : Int) ≤ k := by omega
    have k3 : k < 256 := by omega
    have HE := Lib.hid (HO.out k k3)
    have hlt : k < g ∨ k = g := by omega
    have HLT := Lib.hid hlt
    have cm := fun w => rmul_any a k ha k3 w
    have HK : Hid (k = g → gm a k = 1) := Lib.hid (fun e => by rw [e]; exact HG.out)
    generalize gm a k = p at *
    have CM := Lib.hid cm
    clear cm hlt
    cases h : ((p : Int) == 1)
    all_goals
      go_wp2_with (go_at_call 90; refine (CM.out _).mono ?_; rintro e w' ⟨rfl, rfl⟩)
    · go_round
      case rel =>
        refine ⟨k + 1, by omega, ?_, by go_num⟩
        rcases HLT.out with g | g
        · omega
        · have := HK.out g; rw [this] at h; simp at h
      case measure => simp [intOf]; omega
    · go_ret
      exact ⟨ret_int (by have e0 : (p : Int) = 1 := (by simpa using h); have e := HE.out (by omega); rw [← e]), rfl⟩
end Go.Proofs.Ytjcbcdjfhcnhcaa
namespace Go.Proofs.Ytjcbcdjfhcnhcaa
open Go.RowKit

/-- The sum of many. -/
def xorL (l : List Int) : Nat := l.foldl (fun s z => s ^^^ z.toNat) 0
/-- The tables are there, and what was there is as it was. -/
def Kept (t : Nat) (w0 w : World) : Prop := IsTab w t ∧ Below w0.heap.size w0 w
theorem Kept.drewN {t : Nat} {w0 w : World} (h : Kept t w0 w) (n : Nat) : Kept t w0 (w.drewN n) := ⟨h.1, below_drewN h.2 n⟩
theorem Kept.alloc {t : Nat} {w0 w : World} (h : Kept t w0 w) (o : Obj) : Kept t w0 (w.alloc o) :=
  ⟨h.1.below ((Below.refl w.heap.size w).alloc (Nat.le_refl _) _) h.1.lt, h.2.alloc h.2.size _⟩
end Go.Proofs.Ytjcbcdjfhcnhcaa
