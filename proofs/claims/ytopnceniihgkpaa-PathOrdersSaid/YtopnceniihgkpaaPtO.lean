/-
  Own text: a script that comes in; several of them.
-/
import Derived.Test.YtopnceniihgkpaaPtI
import Derived.Deep.SlicePairs
import Derived.ShutString
import Derived.ChangeOld
namespace Go.Proofs.Ytopnceniihgkpaa
open Go.ChangeShapes Go.WideShapes Go.ChangeAt Go.RowKit Go.Deep

theorem add_14 (b off k : Nat) : (⟨b, off, none⟩ : Addr).add k = ⟨b, off + k, none⟩ := by unfold Addr.add; split <;> simp_all
theorem add0_14 (a : Addr) : a.add 0 = a := by unfold Addr.add; split <;> simp_all
theorem op14_cells {H : Type} {enc : TypeId × Value → H} {w : World} {base : Nat} {spare : Nat → Bool} {held : Bool} {fuel : Nat} {a : Addr} {cs : List Value} {x : DataW H × List MemPlace}
    (h1 : w.cells? base a (Try.prog.cellsOf 54) = some cs) (h2 : DataW.trod enc Try.prog w base spare held fuel 54 cs = some x) :
    ∃ (k : Int) (n : Nat) (t : Int), w.cell? a = some (.int .i64 k) ∧ w.cell? (a.add 1) = some (.int .u32 n) ∧ w.cell? (a.add 2) = some (.int .i64 t) ∧ n < 4294967296 := by
  have ce : Try.prog.cellsOf 54 = 3 := by kernel_rfl
  have ci : Try.prog.cellsOf 3 = 1 := by kernel_rfl
  have cb : Try.prog.cellsOf 26 = 1 := by kernel_rfl
  rw [ce] at h1
  obtain ⟨_, hlen, hcell⟩ := World.cells?_some h1
  obtain ⟨xs, k, _, _, _, hxl, hf⟩ := DataW.trod_struct Try.underlying54 h2
  match xs, hxl, cs, hlen with
  | [y0, y1, y2], _, [v0, v1, v2], _ =>
    have g0 := hf 0 _ rfl
    have g1 := hf 1 _ rfl
    have g2 := hf 2 _ rfl
    simp [ci, cb] at g0 g1 g2
    obtain ⟨z0, e0, _⟩ := DataW.trod_int Try.underlying3 g0
    obtain ⟨z1, e1, _, w1⟩ := DataW.trod_int Try.underlying26 g1
    obtain ⟨z2, e2, _⟩ := DataW.trod_int Try.underlying3 g2
    simp at e0 e1 e2
    have c0 := hcell 0 (by omega)
    have c1 := hcell 1 (by omega)
    have c2 := hcell 2 (by omega)
    simp [e0, e1, e2] at c0 c1 c2
    obtain ⟨l0, l1⟩ := u32_lo w1
    obtain ⟨m, rfl⟩ : ∃ m : Nat, z1 = m := ⟨z1.toNat, by omega⟩
    exact ⟨z0, m, z2, c0, c1, c2, by omega⟩
theorem ops14_arg {H : Type} {enc : TypeId × Value → H} {w : World} {base : Nat} {spare : Nat → Bool} {held : Bool} {fuel : Nat} {a : Option Addr} {len cap : Nat} {x : DataW H × List MemPlace}
    (h : DataW.trod enc Try.prog w base spare held fuel 22 [.slice a len cap] = some x) : ∃ K N T, Ops14 w a len K N T := by
  rcases open_slice Try.underlying22 h with ⟨e, _⟩ | ⟨a', len', cap', m, n, D, Pl, e, hb, hl, hm, hmm, _, hx⟩
  · simp at e
    obtain ⟨rfl, rfl, rfl⟩ := e
    exact ⟨fun _ => 0, fun _ => 0, fun _ => 0, .inl rfl⟩
  · simp at e
    obtain ⟨rfl, rfl, rfl⟩ := e
    have hlm : len ≤ m := by rw [hmm]; split <;> omega
    have ce : Try.prog.cellsOf 54 = 3 := by kernel_rfl
    have each : ∀ i : Nat, ∃ q : Int × Nat × Int, i < len → w.cell? (a'.add (i * 3)) = some (.int .i64 q.1) ∧ w.cell? ((a'.add (i * 3)).add 1) = some (.int .u32 q.2.1) ∧ w.cell? ((a'.add (i * 3)).add 2) = some (.int .i64 q.2.2) ∧ q.2.1 < 4294967296 := fun i => by
      by_cases hi : i < len
      · obtain ⟨cs, h1, h2⟩ := hx i (by omega)
        obtain ⟨k, nn, v, c0, c1, c2, c3⟩ := op14_cells h1 h2
        rw [ce] at c0 c1 c2
        exact ⟨(k, nn, v), fun _ => ⟨c0, c1, c2, c3⟩⟩
      · exact ⟨(0, 0, 0), fun e => absurd e hi⟩
    obtain ⟨q, hq⟩ := Classical.axiomOfChoice each
    refine ⟨fun i => (q i).1, fun i => (q i).2.1, fun i => (q i).2.2, ?_⟩
    by_cases h0 : len = 0
    · exact .inl h0
    · obtain ⟨b, off, spot⟩ := a'
      have c0 := (hq 0 (by omega)).1
      have : spot = none := by simpa [Addr.add] using World.cell?_spot c0
      subst this
      rw [add_14] at c0
      refine .inr ⟨b, off, rfl, World.block_lt_of_cell? w _ c0, fun i hi => ?_⟩
      have h := hq i hi
      rw [add_14, add_14, add_14] at h
      exact h
/-- Several scripts that came in. -/
def OpsL (w : World) (a : Option Addr) (n : Nat) : Prop :=
  n = 0 ∨ ∃ g off, a = some ⟨g, off, none⟩ ∧ g < w.heap.size ∧ ∀ i, i < n → ∃ a' n' c' K N T, w.cell? ⟨g, off + i, none⟩ = some (.slice a' n' c') ∧ Ops14 w a' n' K N T
theorem opsl_arg {H : Type} {enc : TypeId × Value → H} {w : World} {base : Nat} {spare : Nat → Bool} {held : Bool} {fuel : Nat} {a : Option Addr} {len cap : Nat} {x : DataW H × List MemPlace}
    (h : DataW.trod enc Try.prog w base spare held fuel 41 [.slice a len cap] = some x) : OpsL w a len := by
  rcases open_slice Try.underlying41 h with ⟨e, _⟩ | ⟨a', len', cap', m, n, D, Pl, e, hb, hl, hm, hmm, _, hx⟩
  · simp at e
    obtain ⟨rfl, rfl, rfl⟩ := e
    exact .inl rfl
  · simp at e
    obtain ⟨rfl, rfl, rfl⟩ := e
    have hlm : len ≤ m := by rw [hmm]; split <;> omega
    have ce : Try.prog.cellsOf 22 = 1 := by kernel_rfl
    have each : ∀ i, i < len → ∃ a1 n1 c1 K N T, w.cell? (a'.add i) = some (.slice a1 n1 c1) ∧ Ops14 w a1 n1 K N T := fun i hi => by
      obtain ⟨cs, h1, h2⟩ := hx i (by omega)
      rw [ce, Nat.mul_one] at h1
      obtain ⟨_, hlen, hcell⟩ := World.cells?_some h1
      match cs, hlen with
      | [v], _ =>
        have c0 := hcell 0 (by omega)
        have hv : ∃ a1 n1 c1, v = .slice a1 n1 c1 := by
          rcases open_slice Try.underlying22 h2 with ⟨e, _⟩ | ⟨y, l, c, _, _, _, _, e, _⟩
          · exact ⟨none, 0, 0, by simpa using e⟩
          · exact ⟨some y, l, c, by simpa using e⟩
        obtain ⟨a1, n1, c1, rfl⟩ := hv
        obtain ⟨K, N, T, ho⟩ := ops14_arg h2
        exact ⟨a1, n1, c1, K, N, T, by rw [add0_14] at c0; simpa using c0, ho⟩
    by_cases h0 : len = 0
    · exact .inl h0
    · obtain ⟨b, off, spot⟩ := a'
      obtain ⟨_, _, _, _, _, _, c0, _⟩ := each 0 (by omega)
      have : spot = none := by simpa [Addr.add] using World.cell?_spot c0
      subst this
      rw [add_14] at c0
      refine .inr ⟨b, off, rfl, World.block_lt_of_cell? w _ c0, fun i hi => ?_⟩
      have h := each i hi
      rw [add_14] at h
      exact h
end Go.Proofs.Ytopnceniihgkpaa
