/-
  Own text: what an argument that is a datagram, or what an ack tells, brings.
-/
import Derived.Test.YtfiacpbpfdencaaRows
import Derived.Test.YtfiacpbpfdencaaDg
import Derived.WalkKit
import Derived.ProofKit
import Derived.OpenShut
namespace Go.Proofs.Ytfiacpbpfdencaa
open Go.ChangeShapes Go.WideShapes Go.ChangeAt Go.RowKit Go.Deep

theorem cells7_int : Try.prog.cellsOf 3 = 1 := by kernel_rfl
theorem cells7_u32 : Try.prog.cellsOf 22 = 1 := by kernel_rfl
theorem cells7_byte : Try.prog.cellsOf 5 = 1 := by kernel_rfl
theorem cells7_row : Try.prog.cellsOf 23 = 1 := by kernel_rfl
theorem row7_of {H : Type} {enc : TypeId × Value → H} {W : World} {fuel : Nat} {v : Value} {x : DataW H × List MemPlace} (h : DataW.trod enc Try.prog W 0 (fun _ => true) true fuel 23 [v] = some x) :
    ∃ a n cap zs, v = .slice a n cap ∧ IsRow .u8 W a n cap zs := by
  rcases open_ints Try.underlying23 Try.underlying5 cells7_byte h with ⟨hcs, _⟩ | ⟨x, l, c, zs, hcs, _, hl, hm, hz, _, hcell, hwz⟩
  · simp at hcs
    exact ⟨none, 0, 0, [], hcs, .inl ⟨rfl, rfl, rfl, rfl⟩⟩
  · simp at hcs
    exact ⟨some x, l, c, zs, hcs, .inr ⟨_, rfl, hl, hm, by simpa using hz, hcell, hwz⟩⟩
theorem array11 {α : Type} {cs : Array α} (h : cs.size = 11) : ∃ c0 c1 c2 c3 c4 c5 c6 c7 c8 c9 c10, cs = #[c0, c1, c2, c3, c4, c5, c6, c7, c8, c9, c10] := by
  obtain ⟨l⟩ := cs
  match l, h with
  | [c0, c1, c2, c3, c4, c5, c6, c7, c8, c9, c10], _ => exact ⟨c0, c1, c2, c3, c4, c5, c6, c7, c8, c9, c10, rfl⟩
theorem trod_struct11 {H : Type} {enc : TypeId × Value → H} {P : Program} {w : World} {base : Nat} {spare : Nat → Bool} {held : Bool} {t : TypeId} {f0 f1 f2 f3 f4 f5 f6 f7 f8 f9 f10 : Field} {fuel : Nat} {cs : List Value} {x : DataW H × List MemPlace} (ht : P.underlying t = some (.struct #[f0, f1, f2, f3, f4, f5, f6, f7, f8, f9, f10])) (h : DataW.trod enc P w base spare held fuel t cs = some x) :
    ∃ y0 y1 y2 y3 y4 y5 y6 y7 y8 y9 y10 n, DataW.trod enc P w base spare held n f0.type ((cs.drop f0.offset).take (P.cellsOf f0.type)) = some y0 ∧
      DataW.trod enc P w base spare held n f1.type ((cs.drop f1.offset).take (P.cellsOf f1.type)) = some y1 ∧
      DataW.trod enc P w base spare held n f2.type ((cs.drop f2.offset).take (P.cellsOf f2.type)) = some y2 ∧
      DataW.trod enc P w base spare held n f3.type ((cs.drop f3.offset).take (P.cellsOf f3.type)) = some y3 ∧
      DataW.trod enc P w base spare held n f4.type ((cs.drop f4.offset).take (P.cellsOf f4.type)) = some y4 ∧
      DataW.trod enc P w base spare held n f5.type ((cs.drop f5.offset).take (P.cellsOf f5.type)) = some y5 ∧
      DataW.trod enc P w base spare held n f6.type ((cs.drop f6.offset).take (P.cellsOf f6.type)) = some y6 ∧
      DataW.trod enc P w base spare held n f7.type ((cs.drop f7.offset).take (P.cellsOf f7.type)) = some y7 ∧
      DataW.trod enc P w base spare held n f8.type ((cs.drop f8.offset).take (P.cellsOf f8.type)) = some y8 ∧
      DataW.trod enc P w base spare held n f9.type ((cs.drop f9.offset).take (P.cellsOf f9.type)) = some y9 ∧
      DataW.trod enc P w base spare held n f10.type ((cs.drop f10.offset).take (P.cellsOf f10.type)) = some y10 := by
  obtain ⟨xs, n, _, rfl, hl, hlen, hf⟩ := DataW.trod_struct ht h
  match xs, hlen with
  | [y0, y1, y2, y3, y4, y5, y6, y7, y8, y9, y10], _ => exact ⟨y0, y1, y2, y3, y4, y5, y6, y7, y8, y9, y10, n, by simpa using hf 0 f0 rfl, by simpa using hf 1 f1 rfl, by simpa using hf 2 f2 rfl, by simpa using hf 3 f3 rfl, by simpa using hf 4 f4 rfl, by simpa using hf 5 f5 rfl, by simpa using hf 6 f6 rfl, by simpa using hf 7 f7 rfl, by simpa using hf 8 f8 rfl, by simpa using hf 9 f9 rfl, by simpa using hf 10 f10 rfl⟩
theorem trod_struct2 {H : Type} {enc : TypeId × Value → H} {P : Program} {w : World} {base : Nat} {spare : Nat → Bool} {held : Bool} {t : TypeId} {f0 f1 : Field} {fuel : Nat} {cs : List Value} {x : DataW H × List MemPlace} (ht : P.underlying t = some (.struct #[f0, f1])) (h : DataW.trod enc P w base spare held fuel t cs = some x) :
    ∃ y0 y1 n, DataW.trod enc P w base spare held n f0.type ((cs.drop f0.offset).take (P.cellsOf f0.type)) = some y0 ∧ DataW.trod enc P w base spare held n f1.type ((cs.drop f1.offset).take (P.cellsOf f1.type)) = some y1 := by
  obtain ⟨xs, n, _, rfl, hl, hlen, hf⟩ := DataW.trod_struct ht h
  match xs, hlen with
  | [y0, y1], _ => exact ⟨y0, y1, n, by simpa using hf 0 f0 rfl, by simpa using hf 1 f1 rfl⟩
theorem array2 {α : Type} {cs : Array α} (h : cs.size = 2) : ∃ c0 c1, cs = #[c0, c1] := by
  obtain ⟨l⟩ := cs
  match l, h with
  | [c0, c1], _ => exact ⟨c0, c1, rfl⟩
set_option maxRecDepth 100000 in
theorem cells7_dg : Try.prog.cellsOf 25 = 11 := by kernel_rfl
set_option maxRecDepth 100000 in
theorem cells7_qual : Try.prog.cellsOf 49 = 2 := by kernel_rfl
set_option maxRecDepth 100000 in
theorem dg7_arg {H : Type} {enc : TypeId × Value → H} {W : World} {base : Nat} {v : Value} {d : DataW H} {ps : List MemPlace} (hval : Value.okWide Try.prog W .any base 25 v) (h : DataW.Trod enc Try.prog W 0 (fun _ => true) true 25 v d ps) :
    ∃ (d : Dg) (zs : List Int), v = d.val ∧ d.fit ∧ IsRow .u8 W d.da d.dl d.dc zs := by
  unfold Value.okWide at hval
  rw [Try.underlying25] at hval
  obtain ⟨cs, rfl, hs, _⟩ := hval
  rw [cells7_dg] at hs
  obtain ⟨c0, c1, c2, c3, c4, c5, c6, c7, c8, c9, c10, rfl⟩ := array11 hs
  obtain ⟨fuel, hf⟩ := h
  obtain ⟨y0, y1, y2, y3, y4, y5, y6, y7, y8, y9, y10, n, t0, t1, t2, t3, t4, t5, t6, t7, t8, t9, t10⟩ := trod_struct11 Try.underlying25 hf
  simp only [cells7_int, cells7_u32, cells7_row, List.drop, List.take, Value.cells] at t0 t1 t2 t3 t4 t5 t6 t7 t8 t9 t10
  obtain ⟨v0, h0, _, w0⟩ := DataW.trod_int Try.underlying3 t0
  obtain ⟨v1, h1, _, w1⟩ := DataW.trod_int Try.underlying22 t1
  obtain ⟨v2, h2, _, w2⟩ := DataW.trod_int Try.underlying22 t2
  obtain ⟨v3, h3, _, w3⟩ := DataW.trod_int Try.underlying3 t3
  obtain ⟨v4, h4, _, w4⟩ := DataW.trod_int Try.underlying22 t4
  obtain ⟨v5, h5, _, w5⟩ := DataW.trod_int Try.underlying22 t5
  obtain ⟨v6, h6, _, w6⟩ := DataW.trod_int Try.underlying22 t6
  obtain ⟨v7, h7, _, w7⟩ := DataW.trod_int Try.underlying3 t7
  obtain ⟨v8, h8, _, w8⟩ := DataW.trod_int Try.underlying3 t8
  obtain ⟨v9, h9, _, w9⟩ := DataW.trod_int Try.underlying3 t9
  obtain ⟨a, na, capa, zs, ha, hrow⟩ := row7_of t10
  simp only [List.cons.injEq, and_true] at h0 h1 h2 h3 h4 h5 h6 h7 h8 h9
  subst h0 h1 h2 h3 h4 h5 h6 h7 h8 h9 ha
  have hb := hrow.bound
  exact ⟨⟨v0, v1, v2, v3, v4, v5, v6, v7, v8, v9, a, na, capa⟩, zs, rfl, ⟨i64_lo w0, i64_lo w3, i64_lo w7, i64_lo w8, i64_lo w9, u32_lo w1, u32_lo w2, u32_lo w4, u32_lo w5, u32_lo w6, hb.1, hb.2⟩, hrow⟩
set_option maxRecDepth 100000 in
theorem qual7_arg {H : Type} {enc : TypeId × Value → H} {W : World} {base : Nat} {v : Value} {d : DataW H} {ps : List MemPlace} (hval : Value.okWide Try.prog W .any base 49 v) (h : DataW.Trod enc Try.prog W 0 (fun _ => true) true 49 v d ps) :
    ∃ a l : Int, v = .agg #[.int .i64 a, .int .i64 l] ∧ (Lit.int .i64 a).wf = true ∧ (Lit.int .i64 l).wf = true := by
  unfold Value.okWide at hval
  rw [Try.underlying49] at hval
  obtain ⟨cs, rfl, hs, _⟩ := hval
  rw [cells7_qual] at hs
  obtain ⟨c0, c1, rfl⟩ := array2 hs
  obtain ⟨fuel, hf⟩ := h
  obtain ⟨y0, y1, n, t0, t1⟩ := trod_struct2 Try.underlying49 hf
  simp only [cells7_int, List.drop, List.take, Value.cells] at t0 t1
  obtain ⟨a, h0, _, w0⟩ := DataW.trod_int Try.underlying3 t0
  obtain ⟨l, h1, _, w1⟩ := DataW.trod_int Try.underlying3 t1
  simp only [List.cons.injEq, and_true] at h0 h1
  subst h0 h1
  exact ⟨a, l, rfl, w0, w1⟩
end Go.Proofs.Ytfiacpbpfdencaa
