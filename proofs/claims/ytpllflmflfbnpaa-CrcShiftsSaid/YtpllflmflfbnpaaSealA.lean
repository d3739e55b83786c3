/-
  Own text: the four bytes of a sum (seal, the document's Bytes), walked; blocks of bytes that are known whole, and copies into them.
-/
import Derived.Test.YtpllflmflfbnpaaSame
import Derived.Laws.OwnMore
namespace Go.Proofs.Ytpllflmflfbnpaa
open Go.RowKit

/-- The byte number i of a sum. -/
def sb (s : BitVec 32) : Nat → Int
  | 0 => (s.toNat : Int) % 256
  | 1 => (s.toNat : Int) / 256 % 256
  | 2 => (s.toNat : Int) / 65536 % 256
  | _ => (s.toNat : Int) / 16777216
theorem sb_range (s : BitVec 32) (i : Nat) : 0 ≤ sb s i ∧ sb s i ≤ 255 := by
  have := s.isLt
  unfold sb
  split <;> omega
/-- The four bytes of a sum, the lowest first. -/
def sealL (s : BitVec 32) : List Int := [sb s 0, sb s 1, sb s 2, sb s 3]
theorem seal_any (s : BitVec 32) (w : World) :
    Calls Try.prog 25 #[.int .u32 s.toNat] w fun e w' => e = .returned (.agg #[.int .u8 (sb s 0), .int .u8 (sb s 1), .int .u8 (sb s 2), .int .u8 (sb s 3)]) ∧ Below w.heap.size w w' := by
  have HE : Hid (sb s 0 = (s.toNat : Int) % 256 ∧ sb s 1 = (s.toNat : Int) / 256 % 256 ∧ sb s 2 = (s.toNat : Int) / 65536 % 256 ∧ sb s 3 = (s.toNat : Int) / 16777216) := Lib.hid ⟨rfl, rfl, rfl, rfl⟩
  go_enter Try.func25, Try.ntmps25
  go_wp2
  refine wp_loop_rounds 5 ?_
  iterate 5 (rw [rounds_succ]; go_wp2)
  exact bodyPost_ret (v := .agg #[.int .u8 (sb s 0), .int .u8 (sb s 1), .int .u8 (sb s 2), .int .u8 (sb s 3)]) (by simp [results, Try.results25, go_sem, HE.out]) rfl ⟨rfl, ((Below.refl _ _).alloc (by simp) _).alloc (by simp) _⟩
theorem rbytes_any (s : BitVec 32) (w : World) :
    Calls Try.prog 26 #[.int .u64 s.toNat, .int .i64 4] w fun e w' => e = .returned (.slice (some ⟨w.heap.size, 0, none⟩) 4 4) ∧ w' = w.alloc (.cells #[.int .u8 (sb s 3), .int .u8 (sb s 2), .int .u8 (sb s 1), .int .u8 (sb s 0)] 5) := by
  have hs := s.isLt
  have HE : Hid (sb s 0 = (s.toNat : Int) % 256 ∧ sb s 1 = (s.toNat : Int) / 256 % 256 ∧ sb s 2 = (s.toNat : Int) / 65536 % 256 ∧ sb s 3 = (s.toNat : Int) / 16777216) := Lib.hid ⟨rfl, rfl, rfl, rfl⟩
  have hmk : ∀ w : World, (Instr.makeSlice 23 (.int .i64 4) (.int .i64 4)).run Try.prog w = .ok (.slice (some ⟨w.heap.size, 0, none⟩) 4 4) (w.alloc (.cells #[.int .u8 0, .int .u8 0, .int .u8 0, .int .u8 0] 5)) := fun _ => by kernel_rfl
  go_enter Try.func26, Try.ntmps26
  go_wp2
  refine wp_loop_rounds 5 ?_
  iterate 5 (rw [rounds_succ]; go_wp2)
  go_ret
  refine ⟨rfl, ?_⟩
  obtain ⟨e0, e1, e2, e3⟩ := HE.out
  have q1 : (s.toNat : Int) / 256 / 256 / 256 % 256 = (s.toNat : Int) / 16777216 := by omega
  have q2 : (s.toNat : Int) / 256 / 256 % 256 = (s.toNat : Int) / 65536 % 256 := by omega
  rw [e0, e1, e2, e3, q1, q2]

/-- A block of bytes, known whole. -/
def Row8 (w : World) (b : Nat) (t : TypeId) (Z : List Int) : Prop := w.heap[b]? = some (.cells (Z.map (Value.int .u8)).toArray t (0, 0))
theorem Row8.lt {w : World} {b : Nat} {t : TypeId} {Z : List Int} (h : Row8 w b t Z) : b < w.heap.size := by
  obtain ⟨h1, _⟩ := Array.getElem?_eq_some_iff.1 h
  exact h1
theorem Row8.cell {w : World} {b : Nat} {t : TypeId} {Z : List Int} (h : Row8 w b t Z) (i : Nat) (hi : i < Z.length) : w.cell? ⟨b, i, none⟩ = some (.int .u8 (Z.getD i 0)) := by
  unfold Row8 at h
  simp only [World.cell?, h]
  simp [List.getD_eq_getElem?_getD, List.getElem?_eq_getElem hi]
theorem Row8.frozen {w : World} {b : Nat} {t : TypeId} {Z : List Int} (h : Row8 w b t Z) (i : Nat) : w.frozen? ⟨b, i, none⟩ = false := by
  unfold Row8 at h
  simp [World.frozen?, h]
theorem Row8.bytes {w : World} {b : Nat} {t : TypeId} {Z : List Int} (h : Row8 w b t Z) (hz : ∀ z ∈ Z, 0 ≤ z ∧ z ≤ 255) (off n : Nat) (hn : off + n ≤ Z.length) (hm : n ≤ 9223372036854775807) : Bytes w (some ⟨b, off, none⟩) n ((Z.drop off).take n) := by
  have e : ∀ i, i < n → ((Z.drop off).take n).getD i 0 = Z.getD (off + i) 0 := fun i hi => by
    simp [List.getD_eq_getElem?_getD, List.getElem?_take, hi, List.getElem?_drop]
  refine ⟨by rw [List.length_take, List.length_drop]; omega, hm, fun i hi => ?_, ?_⟩
  · rw [e i hi, List.getD_eq_getElem?_getD, List.getElem?_eq_getElem (by omega)]
    exact hz _ (List.getElem_mem _)
  · by_cases h0 : n = 0
    · exact .inl h0
    · exact .inr ⟨by omega, b, off, rfl, h.lt, fun i hi => by rw [e i hi]; exact h.cell _ (by omega)⟩
theorem Row8.whole {w : World} {b : Nat} {t : TypeId} {Z : List Int} (h : Row8 w b t Z) (hz : ∀ z ∈ Z, 0 ≤ z ∧ z ≤ 255) (n : Nat) (hn : n = Z.length) (hm : n ≤ 9223372036854775807) : Bytes w (some ⟨b, 0, none⟩) n Z := by
  have := h.bytes hz 0 n (by omega) hm
  rwa [List.drop_zero, List.take_of_length_le (by omega)] at this
theorem Row8.below {w w' : World} {b : Nat} {t : TypeId} {Z : List Int} (h : Row8 w b t Z) {B : Nat} (hb : Below B w w') (hB : b < B) : Row8 w' b t Z := (hb.block b hB).trans h
theorem Row8.set {w : World} {b : Nat} {t : TypeId} {Z : List Int} (h : Row8 w b t Z) (i : Nat) (z : Int) : Row8 (w.setCell ⟨b, i, none⟩ (.int .u8 z)) b t (Z.set i z) := by
  unfold Row8 at *
  simp [World.setCell, Array.getElem?_modify, h, List.map_set]
theorem Bytes.drew {w : World} {a : Option Addr} {n : Nat} {l : List Int} (h : Bytes w a n l) : Bytes w.drew a n l := ⟨h.size, h.max, h.byte, h.cell⟩
theorem Bytes.drewN {w : World} {a : Option Addr} {n : Nat} {l : List Int} (h : Bytes w a n l) (k : Nat) : Bytes (w.drewN k) a n l := ⟨h.size, h.max, h.byte, h.cell⟩
theorem Bytes.range {w : World} {a : Option Addr} {n : Nat} {l : List Int} (h : Bytes w a n l) : ∀ z ∈ l, 0 ≤ z ∧ z ≤ 255 := by
  intro z hz
  obtain ⟨i, hi, rfl⟩ := List.mem_iff_getElem.1 hz
  have := h.byte i (by have := h.size; omega)
  simpa [List.getD_eq_getElem?_getD, List.getElem?_eq_getElem hi] using this
/-- What make lays. -/
theorem made_row (w : World) (n : Nat) (t : TypeId) : Row8 (w.alloc (.cells (madeCells #[.int .u8 0] n) t)) w.heap.size t (List.replicate n 0) := by
  unfold Row8
  rw [Go.Deep.blk_alloc_new]
  have e : madeCells #[Value.int .u8 0] n = ((List.replicate n (0 : Int)).map (Value.int .u8)).toArray := by
    apply Array.toList_inj.1
    rw [toList_madeCells_one]
    simp
  rw [e]
end Go.Proofs.Ytpllflmflfbnpaa
