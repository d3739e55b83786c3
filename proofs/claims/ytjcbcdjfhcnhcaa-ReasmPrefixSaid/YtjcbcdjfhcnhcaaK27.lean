/-
  Own text: layer 18 (reasm): the struct of the laws, opened; the law ReasmPrefix as its frame wants it.
-/
import Derived.Test.YtjcbcdjfhcnhcaaK26
import Derived.Test.YtjcbcdjfhcnhcaaRows
import Derived.WalkKit
import Derived.ProofKit
import Derived.OpenShut
import Derived.ShutString
import Derived.ChangeOld
namespace Go.Proofs.Ytjcbcdjfhcnhcaa
open Go.ChangeShapes Go.WideShapes Go.ChangeAt Go.RowKit Go.Deep
theorem row_ins18 {w : World} {a : Option Addr} {n cap : Nat} {zs : List Int} (h : IsRow .u16 w a n cap zs) : Ins w a n (zs.take n) ∧ ∀ z ∈ zs.take n, 0 ≤ z ∧ z ≤ 65535 := by
  rcases h.at_ with h0 | ⟨h0, b, off, e, g⟩
  · subst h0
    exact ⟨⟨by simp, .inl rfl⟩, by simp⟩
  · have hs := g.size
    have hl := g.le
    have hlen : (zs.take n).length = n := by rw [List.length_take]; omega
    refine ⟨⟨hlen, .inr ⟨b, off, e, World.block_lt_of_cell? w _ (g.cell 0 h0), fun i hi => ?_⟩⟩, fun z hz => ?_⟩
    · rw [g.cell i hi]
      simp only [List.getD_eq_getElem?_getD, List.getElem?_take_of_lt hi]
    · obtain ⟨i, hi⟩ := List.mem_iff_getElem?.1 hz
      have hin : i < n := by have := (List.getElem?_eq_some_iff.1 hi).1; omega
      rw [List.getElem?_take_of_lt hin] at hi
      have hw := g.wf i hin
      rw [List.getD_eq_getElem?_getD, hi] at hw
      simp [Lit.wf, IntKind.min, IntKind.max, IntKind.signed, IntKind.bits] at hw
      omega
theorem isrow_ints18 {w : World} {a : Option Addr} {len cap : Nat} {zs : List Int} (h : IsRow .i64 w a len cap zs) : Ints w a len (fun i => zs.getD i 0) := by
  rcases h.at_ with h0 | ⟨h0, b, off, e, g⟩
  · exact .inl h0
  · exact .inr ⟨b, off, e, World.block_lt_of_cell? w _ (g.cell 0 h0), g.cell⟩
theorem isrow_cap18 {k : IntKind} {w : World} {a : Option Addr} {len cap : Nat} {zs : List Int} (h : IsRow k w a len cap zs) : len ≤ cap ∧ cap ≤ 9223372036854775807 := by
  rcases h with ⟨_, rfl, rfl, _⟩ | ⟨_, _, h1, h2, _⟩
  · omega
  · unfold maxLen at h2
    omega
theorem array4_18 {cs : Array Value} (h : cs.size = 4) : ∃ c0 c1 c2 c3, cs = #[c0, c1, c2, c3] := by
  obtain ⟨l⟩ := cs
  simp at h
  match l, h with
  | [c0, c1, c2, c3], _ => exact ⟨c0, c1, c2, c3, rfl⟩
theorem ints18_of {H : Type} {enc : TypeId × Value → H} {W : World} {fuel : Nat} {v : Value} {x : DataW H × List MemPlace} (h : DataW.trod enc Try.prog W 0 (fun _ => true) true fuel 63 [v] = some x) :
    ∃ a n cap zs, v = .slice a n cap ∧ IsRow .i64 W a n cap zs := by
  rcases open_ints Try.underlying63 Try.underlying3 (by kernel_rfl) h with ⟨hcs, _⟩ | ⟨x, l, c, zs, hcs, _, hl, hm, hz, _, hcell, hwz⟩
  · simp at hcs
    exact ⟨none, 0, 0, [], hcs, .inl ⟨rfl, rfl, rfl, rfl⟩⟩
  · simp at hcs
    exact ⟨some x, l, c, zs, hcs, .inr ⟨_, rfl, hl, hm, by simpa using hz, hcell, hwz⟩⟩
theorem ins18_of {H : Type} {enc : TypeId × Value → H} {W : World} {fuel : Nat} {v : Value} {x : DataW H × List MemPlace} (h : DataW.trod enc Try.prog W 0 (fun _ => true) true fuel 24 [v] = some x) :
    ∃ a n cap zs, v = .slice a n cap ∧ IsRow .u16 W a n cap zs := by
  rcases open_ints Try.underlying24 Try.underlying79 (by kernel_rfl) h with ⟨hcs, _⟩ | ⟨x, l, c, zs, hcs, _, hl, hm, hz, _, hcell, hwz⟩
  · simp at hcs
    exact ⟨none, 0, 0, [], hcs, .inl ⟨rfl, rfl, rfl, rfl⟩⟩
  · simp at hcs
    exact ⟨some x, l, c, zs, hcs, .inr ⟨_, rfl, hl, hm, by simpa using hz, hcell, hwz⟩⟩
set_option maxRecDepth 100000 in
theorem sent18_arg {H : Type} {enc : TypeId × Value → H} {W : World} {base : Nat} {v : Value} {d : DataW H} {ps : List MemPlace} (hval : Value.okWide Try.prog W .any base 65 v) (h : DataW.Trod enc Try.prog W 0 (fun _ => true) true 65 v d ps) :
    ∃ (ai : Option Addr) (ni ci : Nat) (Z : List Int) (az : Option Addr) (ns cs : Nat) (zs : List Int) (M : Int) (ac : Option Addr) (nc cc : Nat) (cz : List Int), v = .agg #[.slice ai ni ci, .slice az ns cs, .int .i64 M, .slice ac nc cc] ∧ IsRow .u16 W ai ni ci Z ∧ IsRow .i64 W az ns cs zs ∧ IsRow .i64 W ac nc cc cz := by
  unfold Value.okWide at hval
  rw [Try.underlying65] at hval
  obtain ⟨cs, rfl, hs, _⟩ := hval
  have ce : Try.prog.cellsOf 65 = 4 := by kernel_rfl
  have ci : Try.prog.cellsOf 3 = 1 := by kernel_rfl
  have ci1 : Try.prog.cellsOf 63 = 1 := by kernel_rfl
  have ci2 : Try.prog.cellsOf 24 = 1 := by kernel_rfl
  rw [ce] at hs
  obtain ⟨c0, c1, c2, c3, rfl⟩ := array4_18 hs
  obtain ⟨fuel, hf⟩ := h
  obtain ⟨xs, k, _, _, _, hxl, hf⟩ := DataW.trod_struct Try.underlying65 hf
  match xs, hxl with
  | [y0, y1, y2, y3], _ =>
    have g0 := hf 0 _ rfl
    have g1 := hf 1 _ rfl
    have g2 := hf 2 _ rfl
    have g3 := hf 3 _ rfl
    simp [ci, ci1, ci2, Value.cells] at g0 g1 g2 g3
    obtain ⟨ai, ni, ci, Z, e0, r0⟩ := ins18_of g0
    obtain ⟨az, ns, cs, zs, e1, r1⟩ := ints18_of g1
    obtain ⟨M, e2, _⟩ := DataW.trod_int Try.underlying3 g2
    obtain ⟨ac, nc, cc, cz, e3, r3⟩ := ints18_of g3
    simp at e2
    subst e0 e1 e2 e3
    exact ⟨ai, ni, ci, Z, az, ns, cs, zs, M, ac, nc, cc, cz, rfl, r0, r1, r3⟩
theorem prefix18_walk (ai : Option Addr) (ni ci : Nat) (Z : List Int) (az : Option Addr) (ns cs : Nat) (zs : List Int) (M : Int) (ac : Option Addr) (nc cc : Nat) (cz : List Int) (w : World) (h0 : IsRow .u16 w ai ni ci Z) (h1 : IsRow .i64 w az ns cs zs) (h2 : IsRow .i64 w ac nc cc cz) :
    Calls Try.prog 5 #[.agg #[.slice ai ni ci, .slice az ns cs, .int .i64 M, .slice ac nc cc]] w fun e w' => e = .returned (.bool true) ∧ Below w.heap.size w w' := by
  obtain ⟨q1, q2⟩ := row_ins18 h0
  have c1 := isrow_cap18 h1
  have c2 := isrow_cap18 h2
  exact prefix18 (Z.take ni) zs cz M ai az ac ni ci ns cs nc cc w q1 (isrow_cap18 h0) (isrow_ints18 h1) (isrow_ints18 h2) q2 (by omega) (by omega)
end Go.Proofs.Ytjcbcdjfhcnhcaa
