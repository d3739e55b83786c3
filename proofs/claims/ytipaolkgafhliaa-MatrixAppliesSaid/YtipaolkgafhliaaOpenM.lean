/-
  Own text: what an argument that is a matrix, or a list of slices of bytes, brings.
-/
import Derived.Test.YtipaolkgafhliaaRows
import Derived.Test.YtipaolkgafhliaaClone
import Derived.WalkKit
import Derived.ProofKit
import Derived.OpenShut
import Derived.Deep.Strs
import Derived.Deep.Matrix
import Derived.Deep.SlicePairs
namespace Go.Proofs.Ytipaolkgafhliaa
open Go.ChangeShapes Go.WideShapes Go.ChangeAt Go.RowKit Go.Deep

theorem cells_mat : Try.prog.cellsOf 24 = 3 := by kernel_rfl
theorem cells_int : Try.prog.cellsOf 3 = 1 := by kernel_rfl
theorem cells_byte : Try.prog.cellsOf 5 = 1 := by kernel_rfl
theorem cells_row : Try.prog.cellsOf 22 = 1 := by kernel_rfl
theorem row_of {H : Type} {enc : TypeId × Value → H} {W : World} {fuel : Nat} {v : Value} {x : DataW H × List MemPlace} (h : DataW.trod enc Try.prog W 0 (fun _ => true) true fuel 22 [v] = some x) :
    ∃ a n cap zs, v = .slice a n cap ∧ IsRow .u8 W a n cap zs := by
  rcases open_ints Try.underlying22 Try.underlying5 cells_byte h with ⟨hcs, _⟩ | ⟨x, l, c, zs, hcs, _, hl, hm, hz, _, hcell, hwz⟩
  · simp at hcs
    exact ⟨none, 0, 0, [], hcs, .inl ⟨rfl, rfl, rfl, rfl⟩⟩
  · simp at hcs
    exact ⟨some x, l, c, zs, hcs, .inr ⟨_, rfl, hl, hm, by simpa using hz, hcell, hwz⟩⟩
theorem open_mat {H : Type} {enc : TypeId × Value → H} {W : World} {base : Nat} {v : Value} {d : DataW H} {ps : List MemPlace} (hval : Value.okWide Try.prog W .any base 24 v) (h : DataW.Trod enc Try.prog W 0 (fun _ => true) true 24 v d ps) :
    ∃ (r c : Int) (a : Option Addr) (n cap : Nat) (zs : List Int), v = .agg #[.int .i64 r, .int .i64 c, .slice a n cap] ∧ ((Lit.int .i64 r).wf = true ∧ (Lit.int .i64 c).wf = true ∧ IsRow .u8 W a n cap zs) := by
  unfold Value.okWide at hval
  rw [Try.underlying24] at hval
  obtain ⟨cs, rfl, hs, _⟩ := hval
  rw [cells_mat] at hs
  obtain ⟨fuel, hf⟩ := h
  obtain ⟨l⟩ := cs
  match l, hs with
  | [x, y, z], _ =>
    obtain ⟨y0, y1, y2, n, _, _, t0, t1, t2⟩ := trod_struct3 Try.underlying24 hf
    simp only [cells_int, cells_row, List.drop, List.take, Value.cells] at t0 t1 t2
    obtain ⟨r, hr, _, wr⟩ := DataW.trod_int Try.underlying3 t0
    obtain ⟨c, hc, _, wc⟩ := DataW.trod_int Try.underlying3 t1
    obtain ⟨a, m, cap, zs, hz, hrow⟩ := row_of t2
    simp only [List.cons.injEq, and_true] at hr hc
    subst hr hc hz
    exact ⟨r, c, a, m, cap, zs, rfl, wr, wc, hrow⟩
/-- A list of slices of bytes that came in. -/
def RowsIn (w : World) (a : Option Addr) (len cap : Nat) (A : Nat → Option Addr) (L C : Nat → Nat) (X : Nat → List Int) : Prop :=
  len ≤ cap ∧ cap ≤ 9223372036854775807 ∧ (a = none → cap = 0) ∧ ∀ r, r < len → (∃ b off, a = some ⟨b, off, none⟩ ∧ w.cell? ⟨b, off + r, none⟩ = some (.slice (A r) (L r) (C r))) ∧ Sl w (A r) (L r) (C r) (X r)
end Go.Proofs.Ytipaolkgafhliaa
