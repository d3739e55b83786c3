/-
  Own text: what a walk is told of a slice of integers that came in.
    slices of bytes: what a walk is told of one, in whatever block it lies.
  Own text: what the loop-free functions of package word answer (Add, Sub, Clamp, Abs, Abs64, Floor, Rest, Behind, Newer), that the page's examples hold ('awake'), and the same of the document's own answers where they hold no wide number.
    the page's examples of layer 1 hold ('awake'); the laws WordFloors, WordBack, WordNewer, walked.
  Own text: a bucket in plain numbers.
-/
import Derived.Test.YtldhlknmabpanaaGreatRows
import Derived.WalkKit
import Derived.ProofKit
import Derived.OpenShut
import Derived.Lib.Hide
import Derived.Deep.OwnRows
import Derived.Deep.QuietTactic
import Derived.BigQuiet
import Derived.Outline
import Derived.Laws.OwnMore
import Derived.Laws.CopyOwn
import Derived.Deep.Cut
namespace Go.Proofs.YtldhlknmabpanaaGreat
open Go.RowKit

/-- A slice of integers that came in: nil, or a row of 'cap' cells, each fitting its kind; the first 'len' are its elements. -/
def IsRow (k : IntKind) (w : World) (a : Option Addr) (len cap : Nat) (zs : List Int) : Prop :=
  (a = none ∧ len = 0 ∧ cap = 0 ∧ zs = []) ∨
  ∃ x, a = some x ∧ len ≤ cap ∧ cap ≤ maxLen ∧ zs.length = cap ∧ (∀ i, i < zs.length → w.cell? (x.add i) = some (.int k (zs.getD i 0))) ∧ ∀ n ∈ zs, (Lit.int k n).wf = true
/-- The same, where there is an element: the block and the place in it. -/
structure RowAt (k : IntKind) (w : World) (b off len cap : Nat) (zs : List Int) : Prop where
  le : len ≤ cap
  max : cap ≤ 9223372036854775807
  size : zs.length = cap
  cell : ∀ i, i < len → w.cell? ⟨b, off + i, none⟩ = some (.int k (zs.getD i 0))
  wf : ∀ i, i < len → (Lit.int k (zs.getD i 0)).wf = true
theorem IsRow.at_ {k : IntKind} {w : World} {a : Option Addr} {len cap : Nat} {zs : List Int} (h : IsRow k w a len cap zs) : len = 0 ∨ (0 < len ∧ ∃ b off, a = some ⟨b, off, none⟩ ∧ RowAt k w b off len cap zs) := by
  rcases h with ⟨_, h, _, _⟩ | ⟨x, rfl, hl, hm, hz, hc, hw⟩
  · exact .inl h
  · by_cases h0 : len = 0
    · exact .inl h0
    · refine .inr ⟨by omega, ?_⟩
      obtain ⟨b, off, spot⟩ := x
      have c0 := hc 0 (by omega)
      have : spot = none := by simpa [Addr.add] using World.cell?_spot c0
      subst this
      refine ⟨b, off, rfl, hl, by unfold maxLen at hm; omega, hz, fun i hi => ?_, fun i hi => ?_⟩
      · have := hc i (by omega)
        rw [← this]
        unfold Addr.add
        split
        · simp_all
        · rfl
      · refine hw _ ?_
        rw [List.getD_eq_getElem?_getD, List.getElem?_eq_getElem (by omega)]
        exact List.getElem_mem _
theorem IsRow.bound {k : IntKind} {w : World} {a : Option Addr} {len cap : Nat} {zs : List Int} (h : IsRow k w a len cap zs) : len ≤ cap ∧ cap ≤ 9223372036854775807 := by
  rcases h with ⟨_, rfl, rfl, _⟩ | ⟨x, _, hl, hm, _⟩
  · omega
  · unfold maxLen at hm; omega
end Go.Proofs.YtldhlknmabpanaaGreat
namespace Go.Proofs.YtldhlknmabpanaaGreat
open Go.RowKit

theorem ret_int {k : IntKind} {a b : Int} (h : a = b) : Ending.returned (.int k a) = .returned (.int k b) := by rw [h]
theorem ret_bool {a b : Bool} (h : a = b) : Ending.returned (.bool a) = .returned (.bool b) := by rw [h]
theorem below_drewN {B : Nat} {a w : World} (h : Below B a w) (n : Nat) : Below B a (w.drewN n) := ⟨h.os, h.tape, h.output, h.size, h.block⟩
theorem u32_lo {n : Int} (h : (Lit.int .u32 n).wf = true) : 0 ≤ n ∧ n ≤ 4294967295 := by
  simp [Lit.wf, IntKind.min, IntKind.max, IntKind.bits, IntKind.signed] at h; omega
theorem u8_lo {n : Int} (h : (Lit.int .u8 n).wf = true) : 0 ≤ n ∧ n ≤ 255 := by
  simp [Lit.wf, IntKind.min, IntKind.max, IntKind.bits, IntKind.signed] at h; omega
theorem i64_lo {n : Int} (h : (Lit.int .i64 n).wf = true) : -9223372036854775808 ≤ n ∧ n ≤ 9223372036854775807 := by
  simp [Lit.wf, IntKind.min, IntKind.max, IntKind.bits, IntKind.signed] at h; omega
/-- A slice that reads as a list of bytes. -/
structure Bytes (w : World) (a : Option Addr) (len : Nat) (l : List Int) : Prop where
  size : l.length = len
  max : len ≤ 9223372036854775807
  byte : ∀ i, i < len → 0 ≤ l.getD i 0 ∧ l.getD i 0 ≤ 255
  cell : len = 0 ∨ (0 < len ∧ ∃ b off, a = some ⟨b, off, none⟩ ∧ b < w.heap.size ∧ ∀ i, i < len → w.cell? ⟨b, off + i, none⟩ = some (.int .u8 (l.getD i 0)))
theorem Bytes.below {w w' : World} {a : Option Addr} {len : Nat} {l : List Int} (h : Bytes w a len l) {B : Nat} (hb : Below B w w') (hB : w.heap.size ≤ B) : Bytes w' a len l :=
  ⟨h.size, h.max, h.byte, h.cell.imp id fun ⟨h0, b, off, e, hl, hc⟩ => ⟨h0, b, off, e, Nat.lt_of_lt_of_le hl hb.size, fun i hi => (hb.cell (p := ⟨b, off + i, none⟩) (by show b < B; omega)).trans (hc i hi)⟩⟩
theorem Bytes.drew {w : World} {a : Option Addr} {n : Nat} {l : List Int} (h : Bytes w a n l) : Bytes w.drew a n l := ⟨h.size, h.max, h.byte, h.cell⟩
theorem Bytes.drewN {w : World} {a : Option Addr} {n : Nat} {l : List Int} (h : Bytes w a n l) (k : Nat) : Bytes (w.drewN k) a n l := ⟨h.size, h.max, h.byte, h.cell⟩
theorem Bytes.range {w : World} {a : Option Addr} {n : Nat} {l : List Int} (h : Bytes w a n l) : ∀ z ∈ l, 0 ≤ z ∧ z ≤ 255 := by
  intro z hz
  obtain ⟨i, hi, rfl⟩ := List.mem_iff_getElem.1 hz
  have := h.byte i (by have := h.size; omega)
  simpa [List.getD_eq_getElem?_getD, List.getElem?_eq_getElem hi] using this
theorem Bytes.nil (w : World) : Bytes w none 0 [] := ⟨rfl, by omega, fun i hi => by omega, .inl rfl⟩
theorem Bytes.front {w : World} {a : Option Addr} {n m : Nat} {l : List Int} (h : Bytes w a m l) (hn : n ≤ m) : Bytes w a n (l.take n) := by
  have e : ∀ i, i < n → (l.take n).getD i 0 = l.getD i 0 := fun i hi => by simp [List.getD_eq_getElem?_getD, hi]
  refine ⟨by rw [List.length_take, h.size]; omega, by have := h.max; omega, fun i hi => by rw [e i hi]; exact h.byte i (by omega), ?_⟩
  by_cases h0 : n = 0
  · exact .inl h0
  · rcases h.cell with g | ⟨_, b, off, e1, h1, hc⟩
    · omega
    · exact .inr ⟨by omega, b, off, e1, h1, fun i hi => by rw [e i hi]; exact hc i (by omega)⟩
theorem IsRow.bytes {w : World} {a : Option Addr} {len cap : Nat} {zs : List Int} (h : IsRow .u8 w a len cap zs) : Bytes w a len (zs.take len) := by
  have hb := h.bound
  rcases h.at_ with rfl | ⟨h0, b, off, rfl, g⟩
  · exact ⟨by simp, by omega, fun i hi => by omega, .inl rfl⟩
  · have e : ∀ i, i < len → (zs.take len).getD i 0 = zs.getD i 0 := fun i hi => by
      simp [List.getD_eq_getElem?_getD, hi]
    have hs := g.size
    refine ⟨by rw [List.length_take]; omega, by omega, fun i hi => ?_, .inr ⟨h0, b, off, rfl, ?_, fun i hi => ?_⟩⟩
    · rw [e i hi]; exact u8_lo (g.wf i hi)
    · have c := g.cell 0 h0
      rcases Nat.lt_or_ge b w.heap.size with g | g
      · exact g
      · simp [World.cell?, Array.getElem?_eq_none g] at c
    · rw [e i hi]; exact g.cell i hi
theorem IsRow.nil_cap {k : IntKind} {w : World} {a : Option Addr} {len cap : Nat} {zs : List Int} (h : IsRow k w a len cap zs) : a = none → cap = 0 := by
  rcases h with ⟨_, _, h, _⟩ | ⟨x, rfl, _⟩
  · exact fun _ => h
  · exact fun h => nomatch h
theorem same_getD {x y : List Int} (h : x.length = y.length) (hx : ∀ i, i < x.length → x.getD i 0 = y.getD i 0) : x = y := by
  apply List.ext_getElem h
  intro i h1 h2
  have := hx i h1
  simpa [List.getD_eq_getElem?_getD, List.getElem?_eq_getElem h1, List.getElem?_eq_getElem h2] using this
/-- A block of bytes, known whole. -/
def Row8 (w : World) (b : Nat) (t : TypeId) (Z : List Int) : Prop := w.heap[b]? = some (.cells (Z.map (Value.int .u8)).toArray t (0, 0))
theorem Row8.lt {w : World} {b : Nat} {t : TypeId} {Z : List Int} (h : Row8 w b t Z) : b < w.heap.size := by
  obtain ⟨h1, _⟩ := Array.getElem?_eq_some_iff.1 h
  exact h1
theorem Row8.cell {w : World} {b : Nat} {t : TypeId} {Z : List Int} (h : Row8 w b t Z) (i : Nat) (hi : i < Z.length) : w.cell? ⟨b, i, none⟩ = some (.int .u8 (Z.getD i 0)) := by
  unfold Row8 at h
  simp only [World.cell?, h]
  simp [List.getD_eq_getElem?_getD, List.getElem?_eq_getElem hi]
theorem Row8.frozen {w : World} {b : Nat} {t : TypeId} {Z : List Int} (h : Row8 w b t Z) (i : Nat) : w.frozen? ⟨b, i, none⟩ = false := by
  unfold Row8 at h
  simp [World.frozen?, h]
theorem Row8.bytes {w : World} {b : Nat} {t : TypeId} {Z : List Int} (h : Row8 w b t Z) (hz : ∀ z ∈ Z, 0 ≤ z ∧ z ≤ 255) (off n : Nat) (hn : off + n ≤ Z.length) (hm : n ≤ 9223372036854775807) : Bytes w (some ⟨b, off, none⟩) n ((Z.drop off).take n) := by
  have e : ∀ i, i < n → ((Z.drop off).take n).getD i 0 = Z.getD (off + i) 0 := fun i hi => by
    simp [List.getD_eq_getElem?_getD, hi, List.getElem?_drop]
  refine ⟨by rw [List.length_take, List.length_drop]; omega, hm, fun i hi => ?_, ?_⟩
  · rw [e i hi, List.getD_eq_getElem?_getD, List.getElem?_eq_getElem (by omega)]
    exact hz _ (List.getElem_mem _)
  · by_cases h0 : n = 0
    · exact .inl h0
    · exact .inr ⟨by omega, b, off, rfl, h.lt, fun i hi => by rw [e i hi]; exact h.cell _ (by omega)⟩
theorem Row8.whole {w : World} {b : Nat} {t : TypeId} {Z : List Int} (h : Row8 w b t Z) (hz : ∀ z ∈ Z, 0 ≤ z ∧ z ≤ 255) (n : Nat) (hn : n = Z.length) (hm : n ≤ 9223372036854775807) : Bytes w (some ⟨b, 0, none⟩) n Z := by
  have := h.bytes hz 0 n (by omega) hm
  rwa [List.drop_zero, List.take_of_length_le (by omega)] at this
theorem Row8.below {w w' : World} {b : Nat} {t : TypeId} {Z : List Int} (h : Row8 w b t Z) {B : Nat} (hb : Below B w w') (hB : b < B) : Row8 w' b t Z := (hb.block b hB).trans h
theorem Row8.set {w : World} {b : Nat} {t : TypeId} {Z : List Int} (h : Row8 w b t Z) (i : Nat) (z : Int) : Row8 (w.setCell ⟨b, i, none⟩ (.int .u8 z)) b t (Z.set i z) := by
  unfold Row8 at *
  simp [World.setCell, Array.getElem?_modify, h, List.map_set]
end Go.Proofs.YtldhlknmabpanaaGreat
namespace Go.Proofs.YtldhlknmabpanaaGreat
open Go.RowKit

/-- Held at the limits. -/
def held (n : Int) : Int := max (-9223372036854775808) (min n 9223372036854775807)
theorem held_lo (n : Int) : -9223372036854775808 ≤ held n ∧ held n ≤ 9223372036854775807 := by unfold held; omega
theorem held_eq {n : Int} (h : -9223372036854775808 ≤ n) (h' : n ≤ 9223372036854775807) : held n = n := by unfold held; omega

theorem add_any (a b : Int) (w : World) (ha : -9223372036854775808 ≤ a) (ha' : a ≤ 9223372036854775807) (hb : -9223372036854775808 ≤ b) (hb' : b ≤ 9223372036854775807) :
    Calls Tryz.prog 96 #[.int .i64 a, .int .i64 b] w fun e w' => e = .returned (.int .i64 (held (a + b))) ∧ w = w' := by
  go_enter Tryz.func96, Tryz.ntmps96
  go_wp2
  all_goals go_ret
  all_goals exact ⟨ret_int (by unfold held; omega), rfl⟩

theorem sub_any (a b : Int) (w : World) (ha : -9223372036854775808 ≤ a) (ha' : a ≤ 9223372036854775807) (hb : -9223372036854775808 ≤ b) (hb' : b ≤ 9223372036854775807) :
    Calls Tryz.prog 125 #[.int .i64 a, .int .i64 b] w fun e w' => e = .returned (.int .i64 (held (a - b))) ∧ w = w' := by
  go_enter Tryz.func125, Tryz.ntmps125
  go_wp2
  all_goals go_ret
  all_goals exact ⟨ret_int (by unfold held; omega), rfl⟩

/-- Held within two others. -/
def clampZ (n l h : Int) : Int := if n < l ∨ h < l then l else if h < n then h else n
theorem clamp_any (n l h : Int) (w : World) :
    Calls Tryz.prog 103 #[.int .i64 n, .int .i64 l, .int .i64 h] w fun e w' => e = .returned (.int .i64 (clampZ n l h)) ∧ w = w' := by
  go_enter Tryz.func103, Tryz.ntmps103
  go_wp2
  all_goals go_ret
  all_goals exact ⟨ret_int (by unfold clampZ; split <;> (try split) <;> omega), rfl⟩


/-- Without its sign, held. -/
def absZ (n : Int) : Int := held (if n < 0 then -n else n)
theorem abs_any (n : Int) (w : World) (hn : -9223372036854775808 ≤ n) (hn' : n ≤ 9223372036854775807) :
    Calls Tryz.prog 105 #[.int .i64 n] w fun e w' => e = .returned (.int .i64 (absZ n)) ∧ w = w' := by
  by_cases h : n < 0
  · go_enter Tryz.func105, Tryz.ntmps105
    go_wp2_with (go_at_call 125; refine (sub_any _ _ _ (by omega) (by omega) (by omega) (by omega)).mono ?_; rintro e w' ⟨rfl, rfl⟩)
    all_goals go_ret
    all_goals exact ⟨ret_int (by unfold absZ; rw [if_pos h]), rfl⟩
  · go_enter Tryz.func105, Tryz.ntmps105
    go_wp2
    all_goals go_ret
    all_goals exact ⟨ret_int (by unfold absZ held; split <;> omega), rfl⟩

/-- Without its sign, as a word. -/
def abs64Z (n : Int) : Int := if n < 0 then -n else n

/-- Is the quotient that is cut off toward 0 above the true one? -/
def unevenB (a b : Int) : Bool := a.tmod b != 0 && decide (a < 0) != decide (b < 0)
theorem uneven_any (a b : Int) (w : World) (hb : b ≠ 0) :
    Calls Tryz.prog 139 #[.int .i64 a, .int .i64 b] w fun e w' => e = .returned (.bool (unevenB a b)) ∧ w = w' := by
  go_enter Tryz.func139, Tryz.ntmps139
  go_wp2
  all_goals go_ret
  · exact ⟨ret_bool (by unfold unevenB; simp [*]), rfl⟩
  · exact ⟨rfl, rfl⟩

/-- How far behind, going round. -/
def behindZ (a b : Int) : Int := wrap32 (a - b)
/-- A quotient, rounded down, held. -/
def floorZ (a b : Int) : Int := if b = 0 then 0 else if a = -9223372036854775808 ∧ b = -1 then 9223372036854775807 else if unevenB a b then wrap64 (wrap64 (a.tdiv b) - 1) else wrap64 (a.tdiv b)
/-- What a quotient that is rounded down leaves. -/
def restZ (a b : Int) : Int := if b = 0 then 0 else if unevenB a b then wrap64 (a.tmod b + b) else a.tmod b
theorem tmod_sign (a b : Int) : (a.tmod b ≠ 0 → (a.tmod b < 0 ↔ a < 0)) ∧ (b = -1 → a.tmod b = 0) := by
  refine ⟨fun h => ?_, fun h => by subst h; simp⟩
  by_cases ha : a < 0
  · have := Int.tmod_nonneg (a := -a) b (by omega)
    rw [Int.neg_tmod] at this
    omega
  · have := Int.tmod_nonneg (a := a) b (by omega)
    omega
theorem floor_any (a b : Int) (w : World) :
    Calls Tryz.prog 124 #[.int .i64 a, .int .i64 b] w fun e w' => e = .returned (.int .i64 (floorZ a b)) ∧ w = w' := by
  by_cases h0 : b = 0
  · subst h0
    go_enter Tryz.func124, Tryz.ntmps124
    go_wp2
    all_goals go_ret
    all_goals exact ⟨ret_int (by simp [floorZ]), rfl⟩
  · cases h1 : (a == -9223372036854775808) <;> cases h2 : (b == -1) <;>
    (go_enter Tryz.func124, Tryz.ntmps124
     go_wp2_with (go_at_call 139; refine (uneven_any _ _ _ h0).mono ?_; rintro e w' ⟨rfl, rfl⟩)
     all_goals go_ret
     all_goals exact ⟨ret_int (by unfold floorZ; grind), rfl⟩)
theorem rfloor_any (a b : Int) (w : World) :
    Calls Tryz.prog 123 #[.int .i64 a, .int .i64 b] w fun e w' => e = .returned (.int .i64 (floorZ a b)) ∧ w = w' := by
  by_cases h0 : b = 0
  · subst h0
    go_enter Tryz.func123, Tryz.ntmps123
    go_wp2
    all_goals go_ret
    all_goals exact ⟨ret_int (by simp [floorZ]), rfl⟩
  · cases h1 : (a == -9223372036854775808) <;> cases h2 : (b == -1) <;>
    (go_enter Tryz.func123, Tryz.ntmps123
     go_wp2
     all_goals go_ret
     all_goals exact ⟨ret_int (by unfold floorZ unevenB; grind), rfl⟩)
end Go.Proofs.YtldhlknmabpanaaGreat
namespace Go.Proofs.YtldhlknmabpanaaGreat
open Go.RowKit



/-- Quotient times divisor, and rest, are the number again; the rest is on the divisor's side of 0 and less than it. -/
theorem floor_rest (a b : Int) (ha : -9223372036854775808 ≤ a) (ha' : a ≤ 9223372036854775807) (hb : -9223372036854775808 ≤ b) (hb' : b ≤ 9223372036854775807) (h0 : b ≠ 0) (h1 : ¬ (a = -9223372036854775808 ∧ b = -1)) :
    floorZ a b * b + restZ a b = a ∧ (0 < b → 0 ≤ restZ a b ∧ restZ a b < b) ∧ (b < 0 → restZ a b ≤ 0 ∧ b < restZ a b) := by
  have e := Int.tdiv_mul_add_tmod a b
  have s := tmod_sign a b
  have l : (a.tmod b).natAbs < b.natAbs := by rw [Int.natAbs_tmod]; exact Nat.mod_lt _ (by omega)
  have k : (a.tdiv b).natAbs = a.natAbs / b.natAbs := Int.natAbs_tdiv a b
  have hq : -9223372036854775808 ≤ a.tdiv b ∧ a.tdiv b ≤ 9223372036854775807 := by
    by_cases b1 : b = 1
    · subst b1; simp; omega
    · by_cases b2 : b = -1
      · subst b2; simp; omega
      · have : a.natAbs / b.natAbs ≤ a.natAbs / 2 := Nat.div_le_div_left (by omega) (by omega)
        omega
  have w1 : wrap64 (a.tdiv b) = a.tdiv b := IntWalk.wrap64_in _ hq
  by_cases u : unevenB a b = true
  · have u' : a.tmod b ≠ 0 ∧ (¬ (a < 0 ↔ b < 0)) := by simpa [unevenB] using u
    have hq2 : -9223372036854775808 ≤ a.tdiv b - 1 := by
      by_cases b1 : b = 1
      · subst b1; simp at u'
      · by_cases b2 : b = -1
        · subst b2; simp at u'
        · have : a.natAbs / b.natAbs ≤ a.natAbs / 2 := Nat.div_le_div_left (by omega) (by omega)
          omega
    have w2 : wrap64 (a.tdiv b - 1) = a.tdiv b - 1 := IntWalk.wrap64_in _ (by omega)
    have w3 : wrap64 (a.tmod b + b) = a.tmod b + b := IntWalk.wrap64_in _ (by omega)
    unfold floorZ restZ
    rw [if_neg h0, if_neg h1, if_neg h0, if_pos u, if_pos u, w1, w2, w3]
    refine ⟨?_, ?_, ?_⟩
    · rw [Int.sub_mul]; omega
    · intro h; omega
    · intro h; omega
  · have u' : a.tmod b = 0 ∨ (a < 0 ↔ b < 0) := by
      simp [unevenB] at u
      by_cases z : a.tmod b = 0
      · exact Or.inl z
      · exact Or.inr (u z)
    unfold floorZ restZ
    rw [if_neg h0, if_neg h1, if_neg h0, if_neg u, if_neg u, w1]
    refine ⟨e, ?_, ?_⟩
    · intro h; omega
    · intro h; omega
/-- A quotient by a number above 0, rounded down. -/
theorem floor_div (a b : Int) (ha : -9223372036854775808 ≤ a) (ha' : a ≤ 9223372036854775807) (hb : 0 < b) (hb' : b ≤ 9223372036854775807) : floorZ a b = a / b := by
  obtain ⟨h1, h2, _⟩ := floor_rest a b ha ha' (by omega) hb' (by omega) (by omega)
  obtain ⟨h3, h4⟩ := h2 hb
  have e : a / b = (floorZ a b * b + restZ a b) / b := by rw [h1]
  rw [e, Int.add_comm, Int.add_mul_ediv_right _ _ (by omega), Int.ediv_eq_zero_of_lt h3 h4]
  omega
end Go.Proofs.YtldhlknmabpanaaGreat
namespace Go.Proofs.YtldhlknmabpanaaGreat
open Go.RowKit

/-- A bucket: rate, burst, held, spent, full. -/
structure Bk where
  ra : Int
  bu : Int
  he : Int
  sp : Int
  fu : Int
def okB (r b : Int) : Bool := decide (1 ≤ r ∧ r ≤ 1048576 ∧ 1 ≤ b ∧ b ≤ 16777216)
def Bk.may (k : Bk) (n : Int) : Bool := decide (0 ≤ n ∧ n ≤ k.he)
def Bk.take (k : Bk) (n : Int) : Bk := if k.may n = true then ⟨k.ra, k.bu, k.he - n, k.sp + n, k.fu⟩ else k
/-- What comes in so many ticks. -/
def Bk.come (k : Bk) (t : Int) : Int := held (k.ra * (if t < 0 then 0 else t))
/-- What of it is kept. -/
def Bk.kept (k : Bk) (t : Int) : Int := if k.bu - k.he < k.come t then k.bu - k.he else k.come t
def Bk.tick (k : Bk) (t : Int) : Bk := ⟨k.ra, k.bu, k.he + k.kept t, k.sp, held (k.fu + (k.come t - k.kept t))⟩
def Bk.change (k : Bk) (r b : Int) : Bk := if okB r b = true then ⟨r, b, if b < k.he then b else k.he, k.sp, k.fu⟩ else k
/-- What may be: behind so many calls. -/
structure Bk.fit (k : Bk) (i : Nat) : Prop where
  r1 : 1 ≤ k.ra
  r2 : k.ra ≤ 1048576
  b1 : 1 ≤ k.bu
  b2 : k.bu ≤ 16777216
  h1 : 0 ≤ k.he
  h2 : k.he ≤ k.bu
  s1 : 0 ≤ k.sp
  s2 : k.sp ≤ 16777216 * (i : Int)
  f1 : 0 ≤ k.fu
  f2 : k.fu ≤ 9223372036854775807
theorem Bk.come_lo {k : Bk} {i : Nat} (h : k.fit i) (t : Int) : 0 ≤ k.come t ∧ k.come t ≤ 9223372036854775807 := by
  have := h.r1
  unfold Bk.come
  have h0 : 0 ≤ k.ra * (if t < 0 then 0 else t) := Int.mul_nonneg (by omega) (by split <;> omega)
  generalize k.ra * (if t < 0 then 0 else t) = z at *
  unfold held
  omega
theorem Bk.kept_lo {k : Bk} {i : Nat} (h : k.fit i) (t : Int) : 0 ≤ k.kept t ∧ k.kept t ≤ k.come t ∧ k.he + k.kept t ≤ k.bu := by
  have := k.come_lo h t
  have := h.h2
  unfold Bk.kept
  split <;> omega
theorem Bk.tick_fit {k : Bk} {i : Nat} (h : k.fit i) (t : Int) : (k.tick t).fit i := by
  have h1 := k.come_lo h t
  have h2 := k.kept_lo h t
  have h3 := h.h1
  have h4 := h.f1
  refine ⟨h.r1, h.r2, h.b1, h.b2, ?_, ?_, h.s1, h.s2, ?_, ?_⟩
  · show 0 ≤ k.he + k.kept t; omega
  · show k.he + k.kept t ≤ k.bu; omega
  · show 0 ≤ held (k.fu + (k.come t - k.kept t)); unfold held; omega
  · exact (held_lo _).2
theorem Bk.fit.more {k : Bk} {i : Nat} (h : k.fit i) : k.fit (i + 1) := ⟨h.r1, h.r2, h.b1, h.b2, h.h1, h.h2, h.s1, by have := h.s2; push_cast; omega, h.f1, h.f2⟩
theorem Bk.take_fit {k : Bk} {i : Nat} (h : k.fit i) (n : Int) : (k.take n).fit (i + 1) := by
  unfold Bk.take
  split
  · rename_i hm
    simp only [Bk.may, decide_eq_true_eq] at hm
    have := h.h2
    have := h.b2
    have := h.s1
    have := h.s2
    exact ⟨h.r1, h.r2, h.b1, h.b2, by dsimp only; omega, by dsimp only; omega, by dsimp only; omega, by dsimp only; push_cast; omega, h.f1, h.f2⟩
  · exact h.more
def Bk.new (r b : Int) : Bk := ⟨r, b, b, 0, 0⟩
theorem Bk.new_fit {r b : Int} (h : okB r b = true) : (Bk.new r b).fit 0 := by
  simp only [okB, decide_eq_true_eq] at h
  unfold Bk.new
  refine ⟨?_, ?_, ?_, ?_, ?_, ?_, ?_, ?_, ?_, ?_⟩ <;> (dsimp only; omega)
/-- One call. -/
def Bk.act (k : Bk) (kd a b : Int) : Bk := if kd = 0 then k.take a else if kd = 1 then k.tick a else if kd = 2 then k.change a b else k
/-- The least number of ticks. -/
def Bk.wait (k : Bk) (n : Int) : Int := if k.may n = true then 0 else -((k.he - n) / k.ra)
end Go.Proofs.YtldhlknmabpanaaGreat
