/-
  Own text: what an argument that is a list of slices of bytes, of shards, or such a struct, brings.
-/
import Derived.Test.YtphddcbkjikgfaaRows
import Derived.Test.YtphddcbkjikgfaaOrdered
import Derived.WalkKit
import Derived.ProofKit
import Derived.OpenShut
import Derived.Deep.Strs
import Derived.Deep.Matrix
import Derived.Deep.SlicePairs
namespace Go.Proofs.Ytphddcbkjikgfaa
open Go.ChangeShapes Go.WideShapes Go.ChangeAt Go.RowKit Go.Deep

theorem cells6_int : Try.prog.cellsOf 3 = 1 := by kernel_rfl
theorem cells6_byte : Try.prog.cellsOf 5 = 1 := by kernel_rfl
theorem cells6_row : Try.prog.cellsOf 42 = 1 := by kernel_rfl
theorem cells6_rows : Try.prog.cellsOf 26 = 1 := by kernel_rfl
theorem cells6_ints : Try.prog.cellsOf 112 = 1 := by kernel_rfl
theorem row6_of {H : Type} {enc : TypeId × Value → H} {W : World} {fuel : Nat} {v : Value} {x : DataW H × List MemPlace} (h : DataW.trod enc Try.prog W 0 (fun _ => true) true fuel 42 [v] = some x) :
    ∃ a n cap zs, v = .slice a n cap ∧ IsRow .u8 W a n cap zs := by
  rcases open_ints Try.underlying42 Try.underlying5 cells6_byte h with ⟨hcs, _⟩ | ⟨x, l, c, zs, hcs, _, hl, hm, hz, _, hcell, hwz⟩
  · simp at hcs
    exact ⟨none, 0, 0, [], hcs, .inl ⟨rfl, rfl, rfl, rfl⟩⟩
  · simp at hcs
    exact ⟨some x, l, c, zs, hcs, .inr ⟨_, rfl, hl, hm, by simpa using hz, hcell, hwz⟩⟩
theorem ints6_of {H : Type} {enc : TypeId × Value → H} {W : World} {fuel : Nat} {v : Value} {x : DataW H × List MemPlace} (h : DataW.trod enc Try.prog W 0 (fun _ => true) true fuel 112 [v] = some x) :
    ∃ a n cap zs, v = .slice a n cap ∧ IsRow .i64 W a n cap zs := by
  rcases open_ints Try.underlying112 Try.underlying3 cells6_int h with ⟨hcs, _⟩ | ⟨x, l, c, zs, hcs, _, hl, hm, hz, _, hcell, hwz⟩
  · simp at hcs
    exact ⟨none, 0, 0, [], hcs, .inl ⟨rfl, rfl, rfl, rfl⟩⟩
  · simp at hcs
    exact ⟨some x, l, c, zs, hcs, .inr ⟨_, rfl, hl, hm, by simpa using hz, hcell, hwz⟩⟩
theorem cell_block {w : World} {b o : Nat} {v : Value} (h : w.cell? ⟨b, o, none⟩ = some v) : b < w.heap.size := World.block_lt_of_cell? w _ h
theorem cols6_of {H : Type} {enc : TypeId × Value → H} {W : World} {fuel : Nat} {v : Value} {x : DataW H × List MemPlace} (h : DataW.trod enc Try.prog W 0 (fun _ => true) true fuel 26 [v] = some x) :
    ∃ a n cap A L C X, v = .slice a n cap ∧ ColsIn W a n cap A L C X := by
  rcases open_int_rows Try.underlying26 Try.underlying42 Try.underlying5 (by kernel_rfl) (by kernel_rfl) h with ⟨hcs, _⟩ | ⟨x, len, cap', A, L, C, Z, hcs, _, hl, hm, _, hx⟩
  · simp at hcs
    exact ⟨none, 0, 0, fun _ => none, fun _ => 0, fun _ => 0, fun _ => [], hcs, Nat.le_refl _, by omega, fun _ => rfl, fun r hr => by omega⟩
  · simp at hcs
    refine ⟨some x, len, cap', A, L, C, fun r => (Z r).take (L r), hcs, hl, by unfold maxLen at hm; omega, (fun e => nomatch e), fun r hr => ?_⟩
    obtain ⟨h1, h2, h3, h4, h5, h6, h7⟩ := hx r (by omega)
    refine ⟨?_, IsRow.sl ?_⟩
    · obtain ⟨b, off, spot⟩ := x
      have h10 := (hx 0 (by omega)).1
      have hs : spot = none := by simpa [Addr.add] using World.cell?_spot h10
      subst hs
      rw [onto_any] at h1
      exact ⟨b, off, rfl, cell_block h1, h1⟩
    · cases hA : A r with
      | none => exact .inl ⟨rfl, by have := h6 hA; omega, h6 hA, List.eq_nil_of_length_eq_zero (by rw [h4]; exact h6 hA)⟩
      | some y => exact .inr ⟨y, rfl, h2, h3, h4, fun c hc => (h7 y hA).2 c (by rw [← h4]; exact hc), h5⟩
theorem trod_cells {H : Type} {enc : TypeId × Value → H} {W : World} {t : TypeId} {a : Option Addr} {n cap : Nat} {d : DataW H} {p : List MemPlace} (h : DataW.Trod enc Try.prog W 0 (fun _ => true) true t (.slice a n cap) d p) : ∃ fuel, DataW.trod enc Try.prog W 0 (fun _ => true) true fuel t [.slice a n cap] = some (d, p) := by
  obtain ⟨fuel, hf⟩ := h
  exact ⟨fuel, by simpa [Value.cells] using hf⟩
theorem cols6_arg {H : Type} {enc : TypeId × Value → H} {W : World} {a : Option Addr} {n cap : Nat} {d : DataW H} {p : List MemPlace} (h : DataW.Trod enc Try.prog W 0 (fun _ => true) true 26 (.slice a n cap) d p) : ∃ A L C X, ColsIn W a n cap A L C X := by
  obtain ⟨fuel, hf⟩ := trod_cells h
  obtain ⟨a', n', cap', A, L, C, X, e, hc⟩ := cols6_of hf
  cases e
  exact ⟨A, L, C, X, hc⟩
end Go.Proofs.Ytphddcbkjikgfaa
