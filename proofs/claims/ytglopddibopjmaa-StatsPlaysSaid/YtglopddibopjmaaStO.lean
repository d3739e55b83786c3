/-
  Own text: a script that comes in.
-/
import Derived.Test.YtglopddibopjmaaStI
import Derived.Deep.SlicePairs
import Derived.ShutString
import Derived.ChangeOld
namespace Go.Proofs.Ytglopddibopjmaa
open Go.ChangeShapes Go.WideShapes Go.ChangeAt Go.RowKit Go.Deep

theorem add_13 (b off k : Nat) : (⟨b, off, none⟩ : Addr).add k = ⟨b, off + k, none⟩ := by unfold Addr.add; split <;> simp_all
theorem op13_cells {H : Type} {enc : TypeId × Value → H} {w : World} {base : Nat} {spare : Nat → Bool} {held : Bool} {fuel : Nat} {a : Addr} {cs : List Value} {x : DataW H × List MemPlace}
    (h1 : w.cells? base a (Try.prog.cellsOf 41) = some cs) (h2 : DataW.trod enc Try.prog w base spare held fuel 41 cs = some x) :
    ∃ (p l : Bool) (t : Int), w.cell? a = some (.bool p) ∧ w.cell? (a.add 1) = some (.bool l) ∧ w.cell? (a.add 2) = some (.int .i64 t) := by
  have ce : Try.prog.cellsOf 41 = 3 := by kernel_rfl
  have ci : Try.prog.cellsOf 3 = 1 := by kernel_rfl
  have cb : Try.prog.cellsOf 4 = 1 := by kernel_rfl
  rw [ce] at h1
  obtain ⟨_, hlen, hcell⟩ := World.cells?_some h1
  obtain ⟨xs, k, _, _, _, hxl, hf⟩ := DataW.trod_struct Try.underlying41 h2
  match xs, hxl, cs, hlen with
  | [y0, y1, y2], _, [v0, v1, v2], _ =>
    have g0 := hf 0 _ rfl
    have g1 := hf 1 _ rfl
    have g2 := hf 2 _ rfl
    simp [ci, cb] at g0 g1 g2
    obtain ⟨z0, e0, _⟩ := DataW.trod_bool Try.underlying4 g0
    obtain ⟨z1, e1, _⟩ := DataW.trod_bool Try.underlying4 g1
    obtain ⟨z2, e2, _⟩ := DataW.trod_int Try.underlying3 g2
    simp at e0 e1 e2
    have c0 := hcell 0 (by omega)
    have c1 := hcell 1 (by omega)
    have c2 := hcell 2 (by omega)
    simp [e0, e1, e2] at c0 c1 c2
    exact ⟨z0, z1, z2, c0, c1, c2⟩
theorem ops13_arg {H : Type} {enc : TypeId × Value → H} {w : World} {base : Nat} {spare : Nat → Bool} {held : Bool} {fuel : Nat} {a : Option Addr} {len cap : Nat} {x : DataW H × List MemPlace}
    (h : DataW.trod enc Try.prog w base spare held fuel 22 [.slice a len cap] = some x) : ∃ P L T, Ops13 w a len P L T := by
  rcases open_slice Try.underlying22 h with ⟨e, _⟩ | ⟨a', len', cap', m, n, D, Pl, e, hb, hl, hm, hmm, _, hx⟩
  · simp at e
    obtain ⟨rfl, rfl, rfl⟩ := e
    exact ⟨fun _ => false, fun _ => false, fun _ => 0, .inl rfl⟩
  · simp at e
    obtain ⟨rfl, rfl, rfl⟩ := e
    have hlm : len ≤ m := by rw [hmm]; split <;> omega
    have ce : Try.prog.cellsOf 41 = 3 := by kernel_rfl
    have each : ∀ i : Nat, ∃ q : Bool × Bool × Int, i < len → w.cell? (a'.add (i * 3)) = some (.bool q.1) ∧ w.cell? ((a'.add (i * 3)).add 1) = some (.bool q.2.1) ∧ w.cell? ((a'.add (i * 3)).add 2) = some (.int .i64 q.2.2) := fun i => by
      by_cases hi : i < len
      · obtain ⟨cs, h1, h2⟩ := hx i (by omega)
        obtain ⟨k, nn, v, c0, c1, c2⟩ := op13_cells h1 h2
        rw [ce] at c0 c1 c2
        exact ⟨(k, nn, v), fun _ => ⟨c0, c1, c2⟩⟩
      · exact ⟨(false, false, 0), fun e => absurd e hi⟩
    obtain ⟨q, hq⟩ := Classical.axiomOfChoice each
    refine ⟨fun i => (q i).1, fun i => (q i).2.1, fun i => (q i).2.2, ?_⟩
    by_cases h0 : len = 0
    · exact .inl h0
    · obtain ⟨b, off, spot⟩ := a'
      have c0 := (hq 0 (by omega)).1
      have : spot = none := by simpa [Addr.add] using World.cell?_spot c0
      subst this
      rw [add_13] at c0
      refine .inr ⟨b, off, rfl, World.block_lt_of_cell? w _ c0, fun i hi => ?_⟩
      have h := hq i hi
      rw [add_13, add_13, add_13] at h
      exact h
end Go.Proofs.Ytglopddibopjmaa
