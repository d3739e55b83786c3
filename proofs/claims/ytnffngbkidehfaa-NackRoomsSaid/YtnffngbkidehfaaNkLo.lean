/-
  Own text: a script that comes in; a call by value.
-/
import Derived.Test.YtnffngbkidehfaaNkLg
import Derived.Deep.SlicePairs
import Derived.ShutString
import Derived.ChangeOld
namespace Go.Proofs.Ytnffngbkidehfaa.Nk
open Go.ChangeShapes Go.WideShapes Go.ChangeAt Go.RowKit Go.Deep

theorem add_19 (b off k : Nat) : (⟨b, off, none⟩ : Addr).add k = ⟨b, off + k, none⟩ := by unfold Addr.add; split <;> simp_all
set_option maxRecDepth 100000 in
theorem op19_cells {H : Type} {enc : TypeId × Value → H} {w : World} {base : Nat} {spare : Nat → Bool} {held : Bool} {fuel : Nat} {a : Addr} {cs : List Value} {x : DataW H × List MemPlace}
    (h1 : w.cells? base a (Try.prog.cellsOf 67) = some cs) (h2 : DataW.trod enc Try.prog w base spare held fuel 67 cs = some x) :
    ∃ k n t f : Int, w.cell? a = some (.int .i64 k) ∧ w.cell? (a.add 1) = some (.int .u32 n) ∧ w.cell? (a.add 2) = some (.int .i64 t) ∧ w.cell? (a.add 3) = some (.int .i64 f) ∧ (0 ≤ n ∧ n ≤ 4294967295) := by
  have ce : Try.prog.cellsOf 67 = 4 := by kernel_rfl
  have ci : Try.prog.cellsOf 3 = 1 := by kernel_rfl
  have cb : Try.prog.cellsOf 28 = 1 := by kernel_rfl
  rw [ce] at h1
  obtain ⟨_, hlen, hcell⟩ := World.cells?_some h1
  obtain ⟨xs, k, _, _, _, hxl, hf⟩ := DataW.trod_struct Try.underlying67 h2
  match xs, hxl, cs, hlen with
  | [y0, y1, y2, y3], _, [v0, v1, v2, v3], _ =>
    have g0 := hf 0 _ rfl
    have g1 := hf 1 _ rfl
    have g2 := hf 2 _ rfl
    have g3 := hf 3 _ rfl
    simp [ci, cb] at g0 g1 g2 g3
    obtain ⟨z0, e0, _⟩ := DataW.trod_int Try.underlying3 g0
    obtain ⟨z1, e1, _, w1⟩ := DataW.trod_int Try.underlying28 g1
    obtain ⟨z2, e2, _⟩ := DataW.trod_int Try.underlying3 g2
    obtain ⟨z3, e3, _⟩ := DataW.trod_int Try.underlying3 g3
    simp at e0 e1 e2 e3
    have c0 := hcell 0 (by omega)
    have c1 := hcell 1 (by omega)
    have c2 := hcell 2 (by omega)
    have c3 := hcell 3 (by omega)
    simp [e0, e1, e2, e3] at c0 c1 c2 c3
    obtain ⟨l0, l1⟩ := u32_lo w1
    exact ⟨z0, z1, z2, z3, c0, c1, c2, c3, by omega, by omega⟩
theorem ops19_arg {H : Type} {enc : TypeId × Value → H} {w : World} {base : Nat} {spare : Nat → Bool} {held : Bool} {fuel : Nat} {a : Option Addr} {len cap : Nat} {x : DataW H × List MemPlace}
    (h : DataW.trod enc Try.prog w base spare held fuel 58 [.slice a len cap] = some x) : In19 w a len := by
  rcases open_slice Try.underlying58 h with ⟨e, _⟩ | ⟨a', len', cap', m, n, D, Pl, e, hb, hl, hm, hmm, _, hx⟩
  · simp at e
    obtain ⟨rfl, rfl, rfl⟩ := e
    exact ⟨fun _ => 0, fun _ => 0, fun _ => 0, fun _ => 0, .inl rfl⟩
  · simp at e
    obtain ⟨rfl, rfl, rfl⟩ := e
    have hlm : len ≤ m := by rw [hmm]; split <;> omega
    have ce : Try.prog.cellsOf 67 = 4 := by kernel_rfl
    have each : ∀ i : Nat, ∃ q : Int × Int × Int × Int, i < len → w.cell? (a'.add (i * 4)) = some (.int .i64 q.1) ∧ w.cell? ((a'.add (i * 4)).add 1) = some (.int .u32 q.2.1) ∧ w.cell? ((a'.add (i * 4)).add 2) = some (.int .i64 q.2.2.1) ∧ w.cell? ((a'.add (i * 4)).add 3) = some (.int .i64 q.2.2.2) ∧ (0 ≤ q.2.1 ∧ q.2.1 ≤ 4294967295) := fun i => by
      by_cases hi : i < len
      · obtain ⟨cs, h1, h2⟩ := hx i (by omega)
        obtain ⟨k, nn, v, f, c0, c1, c2, c3, c4⟩ := op19_cells h1 h2
        rw [ce] at c0 c1 c2 c3
        exact ⟨(k, nn, v, f), fun _ => ⟨c0, c1, c2, c3, c4⟩⟩
      · exact ⟨(0, 0, 0, 0), fun e => absurd e hi⟩
    obtain ⟨q, hq⟩ := Classical.axiomOfChoice each
    refine ⟨fun i => (q i).1, fun i => (q i).2.1, fun i => (q i).2.2.1, fun i => (q i).2.2.2, ?_⟩
    by_cases h0 : len = 0
    · exact .inl h0
    · obtain ⟨b, off, spot⟩ := a'
      have c0 := (hq 0 (by omega)).1
      have : spot = none := by simpa [Addr.add] using World.cell?_spot c0
      subst this
      rw [add_19] at c0
      refine .inr ⟨b, off, rfl, World.block_lt_of_cell? w _ c0, fun i hi => ?_⟩
      have h := hq i hi
      rw [add_19, add_19, add_19, add_19] at h
      exact ⟨⟨h.1, h.2.1, h.2.2.1, h.2.2.2.1⟩, h.2.2.2.2⟩
theorem array4 {a : Array Value} (h : a.size = 4) : ∃ c0 c1 c2 c3, a = #[c0, c1, c2, c3] := by
  obtain ⟨l⟩ := a
  match l, h with
  | [c0, c1, c2, c3], _ => exact ⟨c0, c1, c2, c3, rfl⟩
set_option maxRecDepth 100000 in
theorem op19_arg {H : Type} {enc : TypeId × Value → H} {W : World} {base : Nat} {v : Value} {d : DataW H} {ps : List MemPlace} (hval : Value.okWide Try.prog W .any base 67 v) (h : DataW.Trod enc Try.prog W 0 (fun _ => true) true 67 v d ps) :
    ∃ x y z u : Int, v = .agg #[.int .i64 x, .int .u32 y, .int .i64 z, .int .i64 u] ∧ (0 ≤ y ∧ y ≤ 4294967295) := by
  unfold Value.okWide at hval
  rw [Try.underlying67] at hval
  obtain ⟨cs, rfl, hs, _⟩ := hval
  have ce : Try.prog.cellsOf 67 = 4 := by kernel_rfl
  have ci : Try.prog.cellsOf 3 = 1 := by kernel_rfl
  have cj : Try.prog.cellsOf 28 = 1 := by kernel_rfl
  rw [ce] at hs
  obtain ⟨c0, c1, c2, c3, rfl⟩ := array4 hs
  obtain ⟨fuel, hf⟩ := h
  obtain ⟨xs, k, _, _, _, hxl, hf⟩ := DataW.trod_struct Try.underlying67 hf
  match xs, hxl with
  | [y0, y1, y2, y3], _ =>
    have g0 := hf 0 _ rfl
    have g1 := hf 1 _ rfl
    have g2 := hf 2 _ rfl
    have g3 := hf 3 _ rfl
    simp [ci, cj, Value.cells] at g0 g1 g2 g3
    obtain ⟨z0, e0, _⟩ := DataW.trod_int Try.underlying3 g0
    obtain ⟨z1, e1, _, w1⟩ := DataW.trod_int Try.underlying28 g1
    obtain ⟨z2, e2, _⟩ := DataW.trod_int Try.underlying3 g2
    obtain ⟨z3, e3, _⟩ := DataW.trod_int Try.underlying3 g3
    simp at e0 e1 e2 e3
    subst e0 e1 e2 e3
    obtain ⟨l0, l1⟩ := u32_lo w1
    exact ⟨z0, z1, z2, z3, rfl, by omega, by omega⟩
end Go.Proofs.Ytnffngbkidehfaa.Nk
