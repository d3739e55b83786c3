/-
  Own text: what an argument that is the law's struct of five brings.
-/
import Derived.Test.YtpofhfocmelgbaaOpen6
namespace Go.Proofs.Ytpofhfocmelgbaa
open Go.ChangeShapes Go.WideShapes Go.ChangeAt Go.RowKit Go.Deep

theorem array5 {α : Type} {cs : Array α} (h : cs.size = 5) : ∃ c0 c1 c2 c3 c4, cs = #[c0, c1, c2, c3, c4] := by
  obtain ⟨l⟩ := cs
  match l, h with
  | [c0, c1, c2, c3, c4], _ => exact ⟨c0, c1, c2, c3, c4, rfl⟩
theorem trod_struct5 {H : Type} {enc : TypeId × Value → H} {P : Program} {w : World} {base : Nat} {spare : Nat → Bool} {held : Bool} {t : TypeId} {f0 f1 f2 f3 f4 : Field} {fuel : Nat} {cs : List Value} {x : DataW H × List MemPlace} (ht : P.underlying t = some (.struct #[f0, f1, f2, f3, f4])) (h : DataW.trod enc P w base spare held fuel t cs = some x) :
    ∃ y0 y1 y2 y3 y4 n, DataW.trod enc P w base spare held n f0.type ((cs.drop f0.offset).take (P.cellsOf f0.type)) = some y0 ∧
      DataW.trod enc P w base spare held n f1.type ((cs.drop f1.offset).take (P.cellsOf f1.type)) = some y1 ∧ DataW.trod enc P w base spare held n f2.type ((cs.drop f2.offset).take (P.cellsOf f2.type)) = some y2 ∧
      DataW.trod enc P w base spare held n f3.type ((cs.drop f3.offset).take (P.cellsOf f3.type)) = some y3 ∧ DataW.trod enc P w base spare held n f4.type ((cs.drop f4.offset).take (P.cellsOf f4.type)) = some y4 := by
  obtain ⟨xs, n, _, rfl, hl, hlen, hf⟩ := DataW.trod_struct ht h
  match xs, hlen with
  | [y0, y1, y2, y3, y4], _ => exact ⟨y0, y1, y2, y3, y4, n, by simpa using hf 0 f0 rfl, by simpa using hf 1 f1 rfl, by simpa using hf 2 f2 rfl, by simpa using hf 3 f3 rfl, by simpa using hf 4 f4 rfl⟩
set_option maxRecDepth 100000 in
theorem cells6_lost : Try.prog.cellsOf 57 = 5 := by kernel_rfl
set_option maxRecDepth 100000 in
theorem lost6_arg {H : Type} {enc : TypeId × Value → H} {W : World} {base : Nat} {v : Value} {d : DataW H} {ps : List MemPlace} (hval : Value.okWide Try.prog W .any base 57 v) (h : DataW.Trod enc Try.prog W 0 (fun _ => true) true 57 v d ps) :
    ∃ (K M : Int) (a : Option Addr) (n cap : Nat) (A : Nat → Option Addr) (L C : Nat → Nat) (X : Nat → List Int) (b : Option Addr) (m dap : Nat) (zs : List Int) (T : Int), v = .agg #[.int .i64 K, .int .i64 M, .slice a n cap, .slice b m dap, .int .i64 T] ∧
      (Lit.int .i64 K).wf = true ∧ (Lit.int .i64 M).wf = true ∧ ColsIn W a n cap A L C X ∧ IsRow .i64 W b m dap zs ∧ (Lit.int .i64 T).wf = true := by
  unfold Value.okWide at hval
  rw [Try.underlying57] at hval
  obtain ⟨cs, rfl, hs, _⟩ := hval
  rw [cells6_lost] at hs
  obtain ⟨c0, c1, c2, c3, c4, rfl⟩ := array5 hs
  obtain ⟨fuel, hf⟩ := h
  obtain ⟨y0, y1, y2, y3, y4, n, t0, t1, t2, t3, t4⟩ := trod_struct5 Try.underlying57 hf
  simp only [cells6_int, cells6_rows, cells6_ints, List.drop, List.take, Value.cells] at t0 t1 t2 t3 t4
  obtain ⟨K, hK, _, wK⟩ := DataW.trod_int Try.underlying3 t0
  obtain ⟨M, hM, _, wM⟩ := DataW.trod_int Try.underlying3 t1
  obtain ⟨a, na, capa, A, L, C, X, ha, hcols⟩ := cols6_of t2
  obtain ⟨b, nb, capb, zs, hb, hrow⟩ := ints6_of t3
  obtain ⟨T, hT, _, wT⟩ := DataW.trod_int Try.underlying3 t4
  simp only [List.cons.injEq, and_true] at hK hM hT
  subst hK hM hT ha hb
  exact ⟨K, M, a, na, capa, A, L, C, X, b, nb, capb, zs, T, rfl, wK, wM, hcols, hrow, wT⟩
end Go.Proofs.Ytpofhfocmelgbaa
