/-
  Own text: a script that comes in: its calls' cells.
-/
import Derived.Test.YthkckgdhaihmoaaTmK
import Derived.Deep.SlicePairs
import Derived.ShutString
import Derived.ChangeOld
namespace Go.Proofs.Ythkckgdhaihmoaa
open Go.ChangeShapes Go.WideShapes Go.ChangeAt Go.RowKit Go.Deep

set_option maxRecDepth 100000 in
theorem op_cells {H : Type} {enc : TypeId × Value → H} {w : World} {base : Nat} {spare : Nat → Bool} {held : Bool} {fuel : Nat} {a : Addr} {cs : List Value} {x : DataW H × List MemPlace}
    (h1 : w.cells? base a (Try.prog.cellsOf 44) = some cs) (h2 : DataW.trod enc Try.prog w base spare held fuel 44 cs = some x) :
    ∃ k n v : Int, w.cell? a = some (.int .i64 k) ∧ w.cell? (a.add 1) = some (.int .i64 n) ∧ w.cell? (a.add 2) = some (.int .i64 v) := by
  have ce : Try.prog.cellsOf 44 = 3 := by kernel_rfl
  have ci : Try.prog.cellsOf 3 = 1 := by kernel_rfl
  have cj : Try.prog.cellsOf 2 = 1 := by kernel_rfl
  rw [ce] at h1
  obtain ⟨_, hlen, hcell⟩ := World.cells?_some h1
  obtain ⟨xs, k, _, _, _, hxl, hf⟩ := DataW.trod_struct Try.underlying44 h2
  match xs, hxl, cs, hlen with
  | [y0, y1, y2], _, [v0, v1, v2], _ =>
    have g0 := hf 0 _ rfl
    have g1 := hf 1 _ rfl
    have g2 := hf 2 _ rfl
    simp [ci, cj] at g0 g1 g2
    obtain ⟨z0, e0, _⟩ := DataW.trod_int Try.underlying3 g0
    obtain ⟨z1, e1, _⟩ := DataW.trod_int Try.underlying3 g1
    obtain ⟨z2, e2, _⟩ := DataW.trod_int Try.underlying2 g2
    simp at e0 e1 e2
    have c0 := hcell 0 (by omega)
    have c1 := hcell 1 (by omega)
    have c2 := hcell 2 (by omega)
    simp [e0, e1, e2] at c0 c1 c2
    exact ⟨z0, z1, z2, c0, c1, c2⟩
theorem ops_arg {H : Type} {enc : TypeId × Value → H} {w : World} {base : Nat} {spare : Nat → Bool} {held : Bool} {fuel : Nat} {a : Option Addr} {len cap : Nat} {x : DataW H × List MemPlace}
    (h : DataW.trod enc Try.prog w base spare held fuel 22 [.slice a len cap] = some x) : ∃ K N V, Ops w a len K N V := by
  rcases open_slice Try.underlying22 h with ⟨e, _⟩ | ⟨a', len', cap', m, n, D, Pl, e, hb, hl, hm, hmm, _, hx⟩
  · simp at e
    obtain ⟨rfl, rfl, rfl⟩ := e
    exact ⟨fun _ => 0, fun _ => 0, fun _ => 0, .inl rfl⟩
  · simp at e
    obtain ⟨rfl, rfl, rfl⟩ := e
    have hlm : len ≤ m := by rw [hmm]; split <;> omega
    have ce : Try.prog.cellsOf 44 = 3 := by kernel_rfl
    have each : ∀ i : Nat, ∃ q : Int × Int × Int, i < len → w.cell? (a'.add (i * 3)) = some (.int .i64 q.1) ∧ w.cell? ((a'.add (i * 3)).add 1) = some (.int .i64 q.2.1) ∧ w.cell? ((a'.add (i * 3)).add 2) = some (.int .i64 q.2.2) := fun i => by
      by_cases hi : i < len
      · obtain ⟨cs, h1, h2⟩ := hx i (by omega)
        obtain ⟨k, nn, v, c0, c1, c2⟩ := op_cells h1 h2
        rw [ce] at c0 c1 c2
        exact ⟨(k, nn, v), fun _ => ⟨c0, c1, c2⟩⟩
      · exact ⟨(0, 0, 0), fun e => absurd e hi⟩
    obtain ⟨q, hq⟩ := Classical.axiomOfChoice each
    refine ⟨fun i => (q i).1, fun i => (q i).2.1, fun i => (q i).2.2, ?_⟩
    by_cases h0 : len = 0
    · exact .inl h0
    · obtain ⟨b, off, spot⟩ := a'
      have c0 := (hq 0 (by omega)).1
      have : spot = none := by simpa [Addr.add] using World.cell?_spot c0
      subst this
      rw [add_place] at c0
      refine .inr ⟨b, off, rfl, cell_in c0, fun i hi => ?_⟩
      have h := hq i hi
      rw [add_place, add_place, add_place] at h
      exact h
end Go.Proofs.Ythkckgdhaihmoaa
