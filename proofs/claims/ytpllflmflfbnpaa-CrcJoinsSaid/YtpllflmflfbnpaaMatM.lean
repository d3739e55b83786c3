/-
  Own text: matrices of 32 remainders: what all bits of a remainder come to. Plain arithmetic.
-/
import Derived.Test.YtpllflmflfbnpaaBurstM
import Derived.Laws.Rows
import Derived.Deep.MidRow
namespace Go.Proofs.Ytpllflmflfbnpaa
open Go.RowKit

/-- What the first k bits come to. -/
def timesN (m : Nat → BitVec 32) (r : BitVec 32) : Nat → BitVec 32
  | 0 => 0#32
  | k + 1 => if r.getLsbD k then timesN m r k ^^^ m k else timesN m r k
/-- What each bit comes to by so many steps. -/
def matOf (n i : Nat) : BitVec 32 := ones n (bitB i)
theorem timesN_ones (n : Nat) (r : BitVec 32) : ∀ k, timesN (matOf n) r k = ones n (timesN bitB r k)
  | 0 => (ones_zero n).symm
  | k + 1 => by
    unfold timesN
    rw [timesN_ones n r k]
    split
    · rw [ones_xor]; rfl
    · rfl
theorem timesN_bit (r : BitVec 32) : ∀ k, k ≤ 32 → ∀ j, j < 32 → (timesN bitB r k).getLsbD j = (decide (j < k) && r.getLsbD j)
  | 0, _, j, _ => by simp [timesN]
  | k + 1, hk, j, hj => by
    have ih := timesN_bit r k (by omega) j hj
    unfold timesN
    by_cases h : j = k
    · subst h
      cases hr : r.getLsbD j
      · simp only [Bool.false_eq_true, if_false]; rw [ih, hr]; simp
      · simp only [if_true]; rw [BitVec.getLsbD_xor, ih, bitB_bit j j (by omega)]; simp
    · cases hr : r.getLsbD k
      · simp only [Bool.false_eq_true, if_false]; rw [ih]; congr 1; simp; omega
      · simp only [if_true]; rw [BitVec.getLsbD_xor, ih, bitB_bit k j (by omega)]
        have e : decide (k = j) = false := by simp; omega
        rw [e, Bool.xor_false]; congr 1; simp; omega
theorem timesN_all (n : Nat) (r : BitVec 32) : timesN (matOf n) r 32 = ones n r := by
  rw [timesN_ones]
  congr 1
  apply BitVec.eq_of_getLsbD_eq
  intro j hj
  rw [timesN_bit r 32 (by omega) j hj]
  simp [hj]
/-- A matrix as a value. -/
def arr (m : Nat → BitVec 32) : Array Value := ((List.range 32).map fun i => Value.int .u32 ((m i).toNat : Int)).toArray
theorem arr_size (m : Nat → BitVec 32) : (arr m).size = 32 := by simp [arr]
theorem arr_get (m : Nat → BitVec 32) (i : Nat) (h : i < 32) : (arr m)[i]? = some (.int .u32 ((m i).toNat : Int)) := by simp [arr, h]
theorem arr_congr {m m' : Nat → BitVec 32} (h : ∀ i, i < 32 → m i = m' i) : arr m = arr m' := by
  unfold arr
  congr 1
  apply List.map_congr_left
  intro i hi
  rw [h i (List.mem_range.1 hi)]
theorem arr_one (m : Nat → BitVec 32) : ∀ v ∈ (arr m).toList, v.oneCell' = true := by
  intro v hv
  simp only [arr, List.mem_map] at hv
  obtain ⟨i, _, rfl⟩ := hv
  rfl
/-- A block that holds a matrix. -/
def Mat (w : World) (b : Nat) (m : Nat → BitVec 32) : Prop := w.heap[b]? = some (.cells (arr m) 40 (0, 0))
theorem Mat.cell {w : World} {b : Nat} {m : Nat → BitVec 32} (h : Mat w b m) (i : Nat) (hi : i < 32) : w.cell? ⟨b, i, none⟩ = some (.int .u32 ((m i).toNat : Int)) := by
  rw [cell_of_row w b i _ _ _ h, arr_get m i hi]
theorem Mat.frozen {w : World} {b : Nat} {m : Nat → BitVec 32} (h : Mat w b m) (i : Nat) : w.frozen? ⟨b, i, none⟩ = false := frozen_of_row w b i _ _ h
theorem Mat.row {w : World} {b : Nat} {m : Nat → BitVec 32} (h : Mat w b m) : w.heap[b]? = some (.cells (arr m) 40 (0, 0)) := h
theorem Mat.lt {w : World} {b : Nat} {m : Nat → BitVec 32} (h : Mat w b m) : b < w.heap.size := by
  obtain ⟨h1, _⟩ := Array.getElem?_eq_some_iff.1 h
  exact h1
theorem Mat.below {w w' : World} {b : Nat} {m : Nat → BitVec 32} (h : Mat w b m) {B : Nat} (hb : Below B w w') (hB : b < B) : Mat w' b m := (hb.block b hB).trans h
theorem Mat.congr {w : World} {b : Nat} {m m' : Nat → BitVec 32} (h : Mat w b m) (e : ∀ i, i < 32 → m i = m' i) : Mat w b m' := by
  unfold Mat at *; rw [h, arr_congr e]
theorem Mat.set {w : World} {b : Nat} {m : Nat → BitVec 32} (h : Mat w b m) (i : Nat) (r : BitVec 32) : Mat (w.setCell ⟨b, i, none⟩ (.int .u32 (r.toNat : Int))) b (fun j => if j = i then r else m j) := by
  unfold Mat
  rw [heap_setCell_same w b i _ _ _ h]
  congr 2
  apply Array.ext_getElem?
  intro j
  rw [Array.getElem?_setIfInBounds]
  by_cases hj : j < 32
  · have e1 := arr_get m j hj
    have e2 := arr_get (fun j => if j = i then r else m j) j hj
    by_cases e : i = j
    · subst e; rw [e2]; simp [arr_size, hj]
    · rw [if_neg e, e1, e2, if_neg (fun h => e h.symm)]
  · rw [Array.getElem?_eq_none (by rw [arr_size]; omega), Array.getElem?_eq_none (by rw [arr_size]; omega)]
    split
    · split
      · rename_i h1 h2; rw [arr_size] at h2; omega
      · rfl
    · rfl
theorem Mat.store {w : World} {b : Nat} {m m' : Nat → BitVec 32} (h : Mat w b m) : Mat (w.setRow b (arr m')) b m' := setRow_heap w b _ _ _ _ h
theorem Mat.new (w : World) (m : Nat → BitVec 32) : Mat (w.alloc (.cells (arr m) 40)) w.heap.size m := heap_alloc_new w _
theorem run_mat_index (m : Nat → BitVec 32) (k : Nat) (hk : k < 32) (w : World) : (Instr.index 40 (.agg (arr m)) (.int .i64 (k : Int))).run Try.prog w = .ok (.int .u32 ((m k).toNat : Int)) w := by
  have h0 : (0 : Int) ≤ k ∧ (k : Int) < 32 := by omega
  have hs : ∀ w, (sizeOf 22).run Try.prog w = .ok 1 w := fun w => by kernel_rfl
  have hu := Try.underlying40
  simp [Instr.index, run_underlying hu, asIntOf, hs, hk]
  exact run_part_plain (w := w) (by kernel_rfl) (arr_get m k hk)
theorem mat_info0 : (Try.prog.info? 40).map (·.size) = some 32 := by kernel_rfl
theorem mat_info (m : Nat → BitVec 32) : (Try.prog.info? 40).map (·.size) = some (arr m).size := by rw [arr_size]; exact mat_info0
end Go.Proofs.Ytpllflmflfbnpaa
