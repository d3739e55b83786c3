/-
  Own text: layer 17 (group): sizes and a script that come in.
-/
import Derived.Test.YtphddcbkjikgfaaGrI
import Derived.Deep.SlicePairs
import Derived.ShutString
import Derived.ChangeOld
namespace Go.Proofs.Ytphddcbkjikgfaa
open Go.ChangeShapes Go.WideShapes Go.ChangeAt Go.RowKit Go.Deep

theorem array3_17 {cs : Array Value} (h : cs.size = 3) : ∃ c0 c1 c2, cs = #[c0, c1, c2] := by
  obtain ⟨l⟩ := cs
  simp at h
  match l, h with
  | [c0, c1, c2], _ => exact ⟨c0, c1, c2, rfl⟩
set_option maxRecDepth 100000 in
theorem sizes17_arg {H : Type} {enc : TypeId × Value → H} {W : World} {base : Nat} {v : Value} {d : DataW H} {ps : List MemPlace} (hval : Value.okWide Try.prog W .any base 58 v) (h : DataW.Trod enc Try.prog W 0 (fun _ => true) true 58 v d ps) :
    ∃ x y z : Int, v = .agg #[.int .i64 x, .int .i64 y, .int .i64 z] := by
  unfold Value.okWide at hval
  rw [Try.underlying58] at hval
  obtain ⟨cs, rfl, hs, _⟩ := hval
  have ce : Try.prog.cellsOf 58 = 3 := by kernel_rfl
  have ci : Try.prog.cellsOf 3 = 1 := by kernel_rfl
  rw [ce] at hs
  obtain ⟨c0, c1, c2, rfl⟩ := array3_17 hs
  obtain ⟨fuel, hf⟩ := h
  obtain ⟨xs, k, _, _, _, hxl, hf⟩ := DataW.trod_struct Try.underlying58 hf
  match xs, hxl with
  | [y0, y1, y2], _ =>
    have g0 := hf 0 _ rfl
    have g1 := hf 1 _ rfl
    have g2 := hf 2 _ rfl
    simp [ci, Value.cells] at g0 g1 g2
    obtain ⟨z0, e0, _⟩ := DataW.trod_int Try.underlying3 g0
    obtain ⟨z1, e1, _⟩ := DataW.trod_int Try.underlying3 g1
    obtain ⟨z2, e2, _⟩ := DataW.trod_int Try.underlying3 g2
    simp at e0 e1 e2
    subst e0 e1 e2
    exact ⟨z0, z1, z2, rfl⟩
/-- A script of a bool, an input and an int a call. -/
def Ops17 (w : World) (a : Option Addr) (n : Nat) (P : Nat → Bool) (I L : Nat → Int) : Prop :=
  n = 0 ∨ ∃ g off, a = some ⟨g, off, none⟩ ∧ g < w.heap.size ∧ ∀ j, j < n → (w.cell? ⟨g, off + j * 3, none⟩ = some (.bool (P j)) ∧ w.cell? ⟨g, off + j * 3 + 1, none⟩ = some (.int .u16 (I j)) ∧ w.cell? ⟨g, off + j * 3 + 2, none⟩ = some (.int .i64 (L j))) ∧ 0 ≤ I j ∧ I j ≤ 65535
theorem Ops17.at_ {w : World} {a : Option Addr} {n : Nat} {P : Nat → Bool} {I L : Nat → Int} (h : Ops17 w a n P I L) {j : Nat} (hj : j < n) : (∃ g off, a = some ⟨g, off, none⟩ ∧ ∀ w', Below w.heap.size w w' → w'.cell? ⟨g, off + j * 3, none⟩ = some (.bool (P j)) ∧ w'.cell? ⟨g, off + j * 3 + 1, none⟩ = some (.int .u16 (I j)) ∧ w'.cell? ⟨g, off + j * 3 + 2, none⟩ = some (.int .i64 (L j))) ∧ 0 ≤ I j ∧ I j ≤ 65535 := by
  rcases h with h | ⟨g, off, e, hl, h⟩
  · omega
  · obtain ⟨⟨h1, h2, h3⟩, h4⟩ := h j hj
    exact ⟨⟨g, off, e, fun w' hb => ⟨(hb.cell (p := ⟨g, off + j * 3, none⟩) hl).trans h1, (hb.cell (p := ⟨g, off + j * 3 + 1, none⟩) hl).trans h2, (hb.cell (p := ⟨g, off + j * 3 + 2, none⟩) hl).trans h3⟩⟩, h4⟩
theorem add_17 (b off k : Nat) : (⟨b, off, none⟩ : Addr).add k = ⟨b, off + k, none⟩ := by unfold Addr.add; split <;> simp_all
set_option maxRecDepth 100000 in
theorem op17_cells {H : Type} {enc : TypeId × Value → H} {w : World} {base : Nat} {spare : Nat → Bool} {held : Bool} {fuel : Nat} {a : Addr} {cs : List Value} {x : DataW H × List MemPlace}
    (h1 : w.cells? base a (Try.prog.cellsOf 68) = some cs) (h2 : DataW.trod enc Try.prog w base spare held fuel 68 cs = some x) :
    ∃ (p : Bool) (i t : Int), (w.cell? a = some (.bool p) ∧ w.cell? (a.add 1) = some (.int .u16 i) ∧ w.cell? (a.add 2) = some (.int .i64 t)) ∧ 0 ≤ i ∧ i ≤ 65535 := by
  have ce : Try.prog.cellsOf 68 = 3 := by kernel_rfl
  have ci : Try.prog.cellsOf 3 = 1 := by kernel_rfl
  have cu : Try.prog.cellsOf 54 = 1 := by kernel_rfl
  have cb : Try.prog.cellsOf 4 = 1 := by kernel_rfl
  rw [ce] at h1
  obtain ⟨_, hlen, hcell⟩ := World.cells?_some h1
  obtain ⟨xs, k, _, _, _, hxl, hf⟩ := DataW.trod_struct Try.underlying68 h2
  match xs, hxl, cs, hlen with
  | [y0, y1, y2], _, [v0, v1, v2], _ =>
    have g0 := hf 0 _ rfl
    have g1 := hf 1 _ rfl
    have g2 := hf 2 _ rfl
    simp [ci, cb, cu] at g0 g1 g2
    obtain ⟨z0, e0, _⟩ := DataW.trod_bool Try.underlying4 g0
    obtain ⟨z1, e1, w1⟩ := DataW.trod_int Try.underlying54 g1
    obtain ⟨z2, e2, _⟩ := DataW.trod_int Try.underlying3 g2
    simp at e0 e1 e2
    have c0 := hcell 0 (by omega)
    have c1 := hcell 1 (by omega)
    have c2 := hcell 2 (by omega)
    simp [e0, e1, e2] at c0 c1 c2
    have w2 := w1.2
    simp [Lit.wf, IntKind.min, IntKind.max, IntKind.bits, IntKind.signed] at w2
    exact ⟨z0, z1, z2, ⟨c0, c1, c2⟩, by omega, by omega⟩
set_option maxRecDepth 100000 in
theorem ops17_arg {H : Type} {enc : TypeId × Value → H} {w : World} {base : Nat} {spare : Nat → Bool} {held : Bool} {fuel : Nat} {a : Option Addr} {len cap : Nat} {x : DataW H × List MemPlace}
    (h : DataW.trod enc Try.prog w base spare held fuel 59 [.slice a len cap] = some x) : ∃ P I L, Ops17 w a len P I L := by
  rcases open_slice Try.underlying59 h with ⟨e, _⟩ | ⟨a', len', cap', m, n, D, Pl, e, hb, hl, hm, hmm, _, hx⟩
  · simp at e
    obtain ⟨rfl, rfl, rfl⟩ := e
    exact ⟨fun _ => false, fun _ => 0, fun _ => 0, .inl rfl⟩
  · simp at e
    obtain ⟨rfl, rfl, rfl⟩ := e
    have hlm : len ≤ m := by rw [hmm]; split <;> omega
    have ce : Try.prog.cellsOf 68 = 3 := by kernel_rfl
    have each : ∀ i : Nat, ∃ q : Bool × Int × Int, i < len → (w.cell? (a'.add (i * 3)) = some (.bool q.1) ∧ w.cell? ((a'.add (i * 3)).add 1) = some (.int .u16 q.2.1) ∧ w.cell? ((a'.add (i * 3)).add 2) = some (.int .i64 q.2.2)) ∧ 0 ≤ q.2.1 ∧ q.2.1 ≤ 65535 := fun i => by
      by_cases hi : i < len
      · obtain ⟨cs, h1, h2⟩ := hx i (by omega)
        obtain ⟨k, nn, v, c0, c1⟩ := op17_cells h1 h2
        rw [ce] at c0
        exact ⟨(k, nn, v), fun _ => ⟨c0, c1⟩⟩
      · exact ⟨(false, 0, 0), fun e => absurd e hi⟩
    obtain ⟨q, hq⟩ := Classical.axiomOfChoice each
    refine ⟨fun i => (q i).1, fun i => (q i).2.1, fun i => (q i).2.2, ?_⟩
    by_cases h0 : len = 0
    · exact .inl h0
    · obtain ⟨b, off, spot⟩ := a'
      have c0 := (hq 0 (by omega)).1.1
      have : spot = none := by simpa [Addr.add] using World.cell?_spot c0
      subst this
      rw [add_17] at c0
      refine .inr ⟨b, off, rfl, World.block_lt_of_cell? w _ c0, fun i hi => ?_⟩
      have h := hq i hi
      rw [add_17, add_17, add_17] at h
      exact h
end Go.Proofs.Ytphddcbkjikgfaa
