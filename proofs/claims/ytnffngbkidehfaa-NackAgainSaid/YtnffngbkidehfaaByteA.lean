/-
  Own text: what a walk is told of a slice of integers that came in.
  slices of bytes: what a walk is told of one, in whatever block it lies.
-/
import Derived.Test.YtnffngbkidehfaaRows
import Derived.WalkKit
import Derived.ProofKit
import Derived.OpenShut
import Derived.Lib.Hide
import Derived.Deep.OwnRows
import Derived.Deep.QuietTactic
import Derived.BigQuiet
import Derived.Outline
import Derived.Laws.OwnMore
import Derived.Laws.CopyOwn
import Derived.Deep.Cut
namespace Go.Proofs.Ytnffngbkidehfaa
open Go.RowKit

/-- A slice of integers that came in: nil, or a row of 'cap' cells, each fitting its kind; the first 'len' are its elements. -/
def IsRow (k : IntKind) (w : World) (a : Option Addr) (len cap : Nat) (zs : List Int) : Prop :=
  (a = none ∧ len = 0 ∧ cap = 0 ∧ zs = []) ∨
  ∃ x, a = some x ∧ len ≤ cap ∧ cap ≤ maxLen ∧ zs.length = cap ∧ (∀ i, i < zs.length → w.cell? (x.add i) = some (.int k (zs.getD i 0))) ∧ ∀ n ∈ zs, (Lit.int k n).wf = true
/-- The same, where there is an element: the block and the place in it. -/
structure RowAt (k : IntKind) (w : World) (b off len cap : Nat) (zs : List Int) : Prop where
  le : len ≤ cap
  max : cap ≤ 9223372036854775807
  size : zs.length = cap
  cell : ∀ i, i < len → w.cell? ⟨b, off + i, none⟩ = some (.int k (zs.getD i 0))
  wf : ∀ i, i < len → (Lit.int k (zs.getD i 0)).wf = true
theorem IsRow.at_ {k : IntKind} {w : World} {a : Option Addr} {len cap : Nat} {zs : List Int} (h : IsRow k w a len cap zs) : len = 0 ∨ (0 < len ∧ ∃ b off, a = some ⟨b, off, none⟩ ∧ RowAt k w b off len cap zs) := by
  rcases h with ⟨_, h, _, _⟩ | ⟨x, rfl, hl, hm, hz, hc, hw⟩
  · exact .inl h
  · by_cases h0 : len = 0
    · exact .inl h0
    · refine .inr ⟨by omega, ?_⟩
      obtain ⟨b, off, spot⟩ := x
      have c0 := hc 0 (by omega)
      have : spot = none := by simpa [Addr.add] using World.cell?_spot c0
      subst this
      refine ⟨b, off, rfl, hl, by unfold maxLen at hm; omega, hz, fun i hi => ?_, fun i hi => ?_⟩
      · have := hc i (by omega)
        rw [← this]
        unfold Addr.add
        split
        · simp_all
        · rfl
      · refine hw _ ?_
        rw [List.getD_eq_getElem?_getD, List.getElem?_eq_getElem (by omega)]
        exact List.getElem_mem _
theorem IsRow.bound {k : IntKind} {w : World} {a : Option Addr} {len cap : Nat} {zs : List Int} (h : IsRow k w a len cap zs) : len ≤ cap ∧ cap ≤ 9223372036854775807 := by
  rcases h with ⟨_, rfl, rfl, _⟩ | ⟨x, _, hl, hm, _⟩
  · omega
  · unfold maxLen at hm; omega
end Go.Proofs.Ytnffngbkidehfaa
namespace Go.Proofs.Ytnffngbkidehfaa
open Go.RowKit

theorem ret_int {k : IntKind} {a b : Int} (h : a = b) : Ending.returned (.int k a) = .returned (.int k b) := by rw [h]
theorem ret_bool {a b : Bool} (h : a = b) : Ending.returned (.bool a) = .returned (.bool b) := by rw [h]
theorem below_drewN {B : Nat} {a w : World} (h : Below B a w) (n : Nat) : Below B a (w.drewN n) := ⟨h.os, h.tape, h.output, h.size, h.block⟩
theorem u32_lo {n : Int} (h : (Lit.int .u32 n).wf = true) : 0 ≤ n ∧ n ≤ 4294967295 := by
  simp [Lit.wf, IntKind.min, IntKind.max, IntKind.bits, IntKind.signed] at h; omega
theorem u8_lo {n : Int} (h : (Lit.int .u8 n).wf = true) : 0 ≤ n ∧ n ≤ 255 := by
  simp [Lit.wf, IntKind.min, IntKind.max, IntKind.bits, IntKind.signed] at h; omega
theorem u16_lo {n : Int} (h : (Lit.int .u16 n).wf = true) : 0 ≤ n ∧ n ≤ 65535 := by
  simp [Lit.wf, IntKind.min, IntKind.max, IntKind.bits, IntKind.signed] at h; omega
theorem i64_lo {n : Int} (h : (Lit.int .i64 n).wf = true) : -9223372036854775808 ≤ n ∧ n ≤ 9223372036854775807 := by
  simp [Lit.wf, IntKind.min, IntKind.max, IntKind.bits, IntKind.signed] at h; omega
/-- A slice that reads as a list of bytes. -/
structure Bytes (w : World) (a : Option Addr) (len : Nat) (l : List Int) : Prop where
  size : l.length = len
  max : len ≤ 9223372036854775807
  byte : ∀ i, i < len → 0 ≤ l.getD i 0 ∧ l.getD i 0 ≤ 255
  cell : len = 0 ∨ (0 < len ∧ ∃ b off, a = some ⟨b, off, none⟩ ∧ b < w.heap.size ∧ ∀ i, i < len → w.cell? ⟨b, off + i, none⟩ = some (.int .u8 (l.getD i 0)))
theorem Bytes.below {w w' : World} {a : Option Addr} {len : Nat} {l : List Int} (h : Bytes w a len l) {B : Nat} (hb : Below B w w') (hB : w.heap.size ≤ B) : Bytes w' a len l :=
  ⟨h.size, h.max, h.byte, h.cell.imp id fun ⟨h0, b, off, e, hl, hc⟩ => ⟨h0, b, off, e, Nat.lt_of_lt_of_le hl hb.size, fun i hi => (hb.cell (p := ⟨b, off + i, none⟩) (by show b < B; omega)).trans (hc i hi)⟩⟩
theorem Bytes.drew {w : World} {a : Option Addr} {n : Nat} {l : List Int} (h : Bytes w a n l) : Bytes w.drew a n l := ⟨h.size, h.max, h.byte, h.cell⟩
theorem Bytes.drewN {w : World} {a : Option Addr} {n : Nat} {l : List Int} (h : Bytes w a n l) (k : Nat) : Bytes (w.drewN k) a n l := ⟨h.size, h.max, h.byte, h.cell⟩
theorem Bytes.range {w : World} {a : Option Addr} {n : Nat} {l : List Int} (h : Bytes w a n l) : ∀ z ∈ l, 0 ≤ z ∧ z ≤ 255 := by
  intro z hz
  obtain ⟨i, hi, rfl⟩ := List.mem_iff_getElem.1 hz
  have := h.byte i (by have := h.size; omega)
  simpa [List.getD_eq_getElem?_getD, List.getElem?_eq_getElem hi] using this
theorem Bytes.nil (w : World) : Bytes w none 0 [] := ⟨rfl, by omega, fun i hi => by omega, .inl rfl⟩
theorem Bytes.front {w : World} {a : Option Addr} {n m : Nat} {l : List Int} (h : Bytes w a m l) (hn : n ≤ m) : Bytes w a n (l.take n) := by
  have e : ∀ i, i < n → (l.take n).getD i 0 = l.getD i 0 := fun i hi => by simp [List.getD_eq_getElem?_getD, hi]
  refine ⟨by rw [List.length_take, h.size]; omega, by have := h.max; omega, fun i hi => by rw [e i hi]; exact h.byte i (by omega), ?_⟩
  by_cases h0 : n = 0
  · exact .inl h0
  · rcases h.cell with g | ⟨_, b, off, e1, h1, hc⟩
    · omega
    · exact .inr ⟨by omega, b, off, e1, h1, fun i hi => by rw [e i hi]; exact hc i (by omega)⟩
theorem new_block (w : World) (C : Array Value) (e : TypeId) (fr : Nat × Nat) (b : Nat) (h : b = w.heap.size) (l : List Int) (hC : C.toList = l.map (Value.int .u8)) (hm : l.length ≤ 9223372036854775807) (hz : ∀ z ∈ l, 0 ≤ z ∧ z ≤ 255) (n : Nat) (hn : n = l.length) : Bytes (w.alloc (.cells C e fr)) (some ⟨b, 0, none⟩) n l := by
  subst h hn
  have hg : ∀ i, i < l.length → C[i]? = some (.int .u8 (l.getD i 0)) := fun i hi => by
    rw [← Array.getElem?_toList, hC, List.getElem?_map, List.getD_eq_getElem?_getD, List.getElem?_eq_getElem hi]; rfl
  refine ⟨rfl, hm, fun i hi => ?_, ?_⟩
  · rw [List.getD_eq_getElem?_getD, List.getElem?_eq_getElem hi]
    exact hz _ (List.getElem_mem _)
  · by_cases h0 : l.length = 0
    · exact .inl h0
    · refine .inr ⟨by omega, w.heap.size, 0, rfl, by simp, fun i hi => ?_⟩
      rw [Nat.zero_add, ← hg i hi]
      have hb := Go.Deep.blk_alloc_new w (.cells C e fr)
      simp only [World.cell?]
      rw [hb]
      rfl
theorem IsRow.bytes {w : World} {a : Option Addr} {len cap : Nat} {zs : List Int} (h : IsRow .u8 w a len cap zs) : Bytes w a len (zs.take len) := by
  have hb := h.bound
  rcases h.at_ with rfl | ⟨h0, b, off, rfl, g⟩
  · exact ⟨by simp, by omega, fun i hi => by omega, .inl rfl⟩
  · have e : ∀ i, i < len → (zs.take len).getD i 0 = zs.getD i 0 := fun i hi => by
      simp [List.getD_eq_getElem?_getD, hi]
    have hs := g.size
    refine ⟨by rw [List.length_take]; omega, by omega, fun i hi => ?_, .inr ⟨h0, b, off, rfl, ?_, fun i hi => ?_⟩⟩
    · rw [e i hi]; exact u8_lo (g.wf i hi)
    · have c := g.cell 0 h0
      rcases Nat.lt_or_ge b w.heap.size with g | g
      · exact g
      · simp [World.cell?, Array.getElem?_eq_none g] at c
    · rw [e i hi]; exact g.cell i hi
theorem IsRow.nil_cap {k : IntKind} {w : World} {a : Option Addr} {len cap : Nat} {zs : List Int} (h : IsRow k w a len cap zs) : a = none → cap = 0 := by
  rcases h with ⟨_, _, h, _⟩ | ⟨x, rfl, _⟩
  · exact fun _ => h
  · exact fun h => nomatch h
theorem same_getD {x y : List Int} (h : x.length = y.length) (hx : ∀ i, i < x.length → x.getD i 0 = y.getD i 0) : x = y := by
  apply List.ext_getElem h
  intro i h1 h2
  have := hx i h1
  simpa [List.getD_eq_getElem?_getD, List.getElem?_eq_getElem h1, List.getElem?_eq_getElem h2] using this
/-- A block of bytes, known whole. -/
def Row8 (w : World) (b : Nat) (t : TypeId) (Z : List Int) : Prop := w.heap[b]? = some (.cells (Z.map (Value.int .u8)).toArray t (0, 0))
theorem Row8.lt {w : World} {b : Nat} {t : TypeId} {Z : List Int} (h : Row8 w b t Z) : b < w.heap.size := by
  obtain ⟨h1, _⟩ := Array.getElem?_eq_some_iff.1 h
  exact h1
theorem Row8.cell {w : World} {b : Nat} {t : TypeId} {Z : List Int} (h : Row8 w b t Z) (i : Nat) (hi : i < Z.length) : w.cell? ⟨b, i, none⟩ = some (.int .u8 (Z.getD i 0)) := by
  unfold Row8 at h
  simp only [World.cell?, h]
  simp [List.getD_eq_getElem?_getD, List.getElem?_eq_getElem hi]
theorem Row8.frozen {w : World} {b : Nat} {t : TypeId} {Z : List Int} (h : Row8 w b t Z) (i : Nat) : w.frozen? ⟨b, i, none⟩ = false := by
  unfold Row8 at h
  simp [World.frozen?, h]
theorem Row8.bytes {w : World} {b : Nat} {t : TypeId} {Z : List Int} (h : Row8 w b t Z) (hz : ∀ z ∈ Z, 0 ≤ z ∧ z ≤ 255) (off n : Nat) (hn : off + n ≤ Z.length) (hm : n ≤ 9223372036854775807) : Bytes w (some ⟨b, off, none⟩) n ((Z.drop off).take n) := by
  have e : ∀ i, i < n → ((Z.drop off).take n).getD i 0 = Z.getD (off + i) 0 := fun i hi => by
    simp [List.getD_eq_getElem?_getD, hi, List.getElem?_drop]
  refine ⟨by rw [List.length_take, List.length_drop]; omega, hm, fun i hi => ?_, ?_⟩
  · rw [e i hi, List.getD_eq_getElem?_getD, List.getElem?_eq_getElem (by omega)]
    exact hz _ (List.getElem_mem _)
  · by_cases h0 : n = 0
    · exact .inl h0
    · exact .inr ⟨by omega, b, off, rfl, h.lt, fun i hi => by rw [e i hi]; exact h.cell _ (by omega)⟩
theorem Row8.whole {w : World} {b : Nat} {t : TypeId} {Z : List Int} (h : Row8 w b t Z) (hz : ∀ z ∈ Z, 0 ≤ z ∧ z ≤ 255) (n : Nat) (hn : n = Z.length) (hm : n ≤ 9223372036854775807) : Bytes w (some ⟨b, 0, none⟩) n Z := by
  have := h.bytes hz 0 n (by omega) hm
  rwa [List.drop_zero, List.take_of_length_le (by omega)] at this
theorem Row8.below {w w' : World} {b : Nat} {t : TypeId} {Z : List Int} (h : Row8 w b t Z) {B : Nat} (hb : Below B w w') (hB : b < B) : Row8 w' b t Z := (hb.block b hB).trans h
theorem Row8.set {w : World} {b : Nat} {t : TypeId} {Z : List Int} (h : Row8 w b t Z) (i : Nat) (z : Int) : Row8 (w.setCell ⟨b, i, none⟩ (.int .u8 z)) b t (Z.set i z) := by
  unfold Row8 at *
  simp [World.setCell, Array.getElem?_modify, h, List.map_set]
/-- What make lays. -/
theorem made_row (w : World) (n : Nat) (t : TypeId) : Row8 (w.alloc (.cells (madeCells #[.int .u8 0] n) t)) w.heap.size t (List.replicate n 0) := by
  unfold Row8
  rw [Go.Deep.blk_alloc_new]
  have e : madeCells #[Value.int .u8 0] n = ((List.replicate n (0 : Int)).map (Value.int .u8)).toArray := by
    apply Array.toList_inj.1
    rw [toList_madeCells_one]
    simp
  rw [e]
theorem splice_map {Z l : List Int} {off : Nat} : splice (Z.map (Value.int .u8)) off (l.map (Value.int .u8)) = (splice Z off l).map (Value.int .u8) := by
  simp [splice, List.map_take, List.map_drop]
theorem splice_whole (n : Nat) (l : List Int) (h : n ≤ l.length) : splice (List.replicate n (0 : Int)) 0 (l.take n) = l.take n := by
  unfold splice
  simp [List.length_take, Nat.min_eq_left h]
/-- A copy of bytes into a block that is known whole. -/
theorem wpList_copy_bytes {w : World} {ops : Array Oper} {rest : List Oper} {o : Oper} {a : Act} {Q : Exit → Act → World → Prop} (hgd : o.guard = none) (d s : Operand)
    (ho : o.op = .call { callee := .builtin .copy, args := #[d, s], argTypes := #[33, 33] })
    (dp sp : Option Addr) (dLen dCap sLen sCap : Nat) (hd : a.eval d = .slice dp dLen dCap) (hs : a.eval s = .slice sp sLen sCap)
    (g off : Nat) (Z : List Int) (t : TypeId) (hg : Row8 w g t Z) (l : List Int) (hl : Bytes w sp sLen l) (k : Nat) (hk : k = Nat.min sLen dLen) (hpos : 0 < k → dp = some ⟨g, off, none⟩) (hfit : off + k ≤ Z.length)
    (h : ∀ w', Hid (Row8 w' g t (splice Z off (l.take k))) → Below g w w' → wpList Try.prog ops Q rest (a.put o.dst (goInt k)) w') :
    wpList Try.prog ops Q (o :: rest) a w := by
  have sl := hl.size
  have ek : ((l.take k).map (Value.int .u8)).length = k := by
    rw [List.length_map, List.length_take]
    have : k ≤ sLen := by rw [hk]; exact Nat.min_le_left _ _
    omega
  refine wpList_copy_splice (B := g) (w0 := w) hgd d s _ _ ho 5 Try.underlying33 (by kernel_rfl) dp sp dLen dCap sLen sCap hd hs g off (Z.map (Value.int .u8)) t hg ((l.take k).map (Value.int .u8)) (by rw [ek, hk]) ?_ (by rw [ek, List.length_map]; exact hfit) ?_ (Below.refl _ _) (Nat.le_refl _) ?_
  · rw [ek]
    intro h0
    refine ⟨hpos h0, ?_⟩
    rcases hl.cell with h | ⟨_, b, o, rfl, _, hc⟩
    · exact absurd h0 (by rw [hk, h]; simp)
    · refine ⟨_, rfl, fun j v hv => ?_⟩
      have hj : j < k := by
        rcases Nat.lt_or_ge j k with g | g
        · exact g
        · rw [List.getElem?_eq_none (by rw [ek]; exact g)] at hv; simp at hv
      have hjs : j < sLen := by
        have : k ≤ sLen := by rw [hk]; exact Nat.min_le_left _ _
        omega
      have e : (⟨b, o, none⟩ : Addr).add j = ⟨b, o + j, none⟩ := by unfold Addr.add; split <;> simp_all
      rw [e, hc j hjs, ← hv, List.getElem?_map, List.getElem?_take, if_pos hj, List.getD_eq_getElem?_getD, List.getElem?_eq_getElem (by omega)]
      rfl
  · intro v hv
    obtain ⟨z, _, rfl⟩ := List.mem_map.1 hv
    rfl
  · rw [ek]
    intro w' hr hb
    exact h w' (Lib.hid (by have := hr.out; unfold Row8; rw [← splice_map]; exact this)) hb
end Go.Proofs.Ytnffngbkidehfaa
