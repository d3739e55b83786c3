/-
  Own text: a list of groups that comes in.
-/
import Derived.Test.YtldhlknmabpanaaRuB
import Derived.Deep.SlicePairs
import Derived.ShutString
import Derived.ChangeOld
namespace Go.Proofs.Ytldhlknmabpanaa
open Go.ChangeShapes Go.WideShapes Go.ChangeAt Go.RowKit Go.Deep

/-- A list that came in: of how many, with what losses. -/
def Ops16 (w : World) (a : Option Addr) (n : Nat) (K L : Nat → Int) : Prop :=
  n = 0 ∨ ∃ g off, a = some ⟨g, off, none⟩ ∧ g < w.heap.size ∧ ∀ i, i < n → w.cell? ⟨g, off + i * 2, none⟩ = some (.int .i64 (K i)) ∧ w.cell? ⟨g, off + i * 2 + 1, none⟩ = some (.int .i64 (L i))
theorem Ops16.below {w w' : World} {a : Option Addr} {n : Nat} {K L : Nat → Int} (h : Ops16 w a n K L) {B : Nat} (hb : Below B w w') (hB : w.heap.size ≤ B) : Ops16 w' a n K L :=
  h.imp id fun ⟨g, off, e, hl, hc⟩ => ⟨g, off, e, Nat.lt_of_lt_of_le hl hb.size, fun i hi => ⟨(hb.cell (p := ⟨g, off + i * 2, none⟩) (by show g < B; omega)).trans (hc i hi).1, (hb.cell (p := ⟨g, off + i * 2 + 1, none⟩) (by show g < B; omega)).trans (hc i hi).2⟩⟩
theorem Ops16.at_ {w : World} {a : Option Addr} {n : Nat} {K L : Nat → Int} (h : Ops16 w a n K L) {j : Nat} (hj : j < n) : ∃ g off, a = some ⟨g, off, none⟩ ∧ g < w.heap.size ∧ w.cell? ⟨g, off + j * 2, none⟩ = some (.int .i64 (K j)) ∧ w.cell? ⟨g, off + j * 2 + 1, none⟩ = some (.int .i64 (L j)) := by
  rcases h with h | ⟨g, off, e, hg, h⟩
  · omega
  · exact ⟨g, off, e, hg, h j hj⟩
theorem add_16 (b off k : Nat) : (⟨b, off, none⟩ : Addr).add k = ⟨b, off + k, none⟩ := by unfold Addr.add; split <;> simp_all
theorem op16_cells {H : Type} {enc : TypeId × Value → H} {w : World} {base : Nat} {spare : Nat → Bool} {held : Bool} {fuel : Nat} {a : Addr} {cs : List Value} {x : DataW H × List MemPlace}
    (h1 : w.cells? base a (Try.prog.cellsOf 32) = some cs) (h2 : DataW.trod enc Try.prog w base spare held fuel 32 cs = some x) :
    ∃ (p l : Int), w.cell? a = some (.int .i64 p) ∧ w.cell? (a.add 1) = some (.int .i64 l) := by
  have ce : Try.prog.cellsOf 32 = 2 := by kernel_rfl
  have ci : Try.prog.cellsOf 3 = 1 := by kernel_rfl
  rw [ce] at h1
  obtain ⟨_, hlen, hcell⟩ := World.cells?_some h1
  obtain ⟨xs, k, _, _, _, hxl, hf⟩ := DataW.trod_struct Try.underlying32 h2
  match xs, hxl, cs, hlen with
  | [y0, y1], _, [v0, v1], _ =>
    have g0 := hf 0 _ rfl
    have g1 := hf 1 _ rfl
    simp [ci] at g0 g1
    obtain ⟨z0, e0, _⟩ := DataW.trod_int Try.underlying3 g0
    obtain ⟨z1, e1, _⟩ := DataW.trod_int Try.underlying3 g1
    simp at e0 e1
    have c0 := hcell 0 (by omega)
    have c1 := hcell 1 (by omega)
    simp [e0, e1] at c0 c1
    exact ⟨z0, z1, c0, c1⟩
theorem ops16_arg {H : Type} {enc : TypeId × Value → H} {w : World} {base : Nat} {spare : Nat → Bool} {held : Bool} {fuel : Nat} {a : Option Addr} {len cap : Nat} {x : DataW H × List MemPlace}
    (h : DataW.trod enc Try.prog w base spare held fuel 22 [.slice a len cap] = some x) : ∃ K L, Ops16 w a len K L := by
  rcases open_slice Try.underlying22 h with ⟨e, _⟩ | ⟨a', len', cap', m, n, D, Pl, e, hb, hl, hm, hmm, _, hx⟩
  · simp at e
    obtain ⟨rfl, rfl, rfl⟩ := e
    exact ⟨fun _ => 0, fun _ => 0, .inl rfl⟩
  · simp at e
    obtain ⟨rfl, rfl, rfl⟩ := e
    have hlm : len ≤ m := by rw [hmm]; split <;> omega
    have ce : Try.prog.cellsOf 32 = 2 := by kernel_rfl
    have each : ∀ i : Nat, ∃ q : Int × Int, i < len → w.cell? (a'.add (i * 2)) = some (.int .i64 q.1) ∧ w.cell? ((a'.add (i * 2)).add 1) = some (.int .i64 q.2) := fun i => by
      by_cases hi : i < len
      · obtain ⟨cs, h1, h2⟩ := hx i (by omega)
        obtain ⟨k, v, c0, c1⟩ := op16_cells h1 h2
        rw [ce] at c0 c1
        exact ⟨(k, v), fun _ => ⟨c0, c1⟩⟩
      · exact ⟨(0, 0), fun e => absurd e hi⟩
    obtain ⟨q, hq⟩ := Classical.axiomOfChoice each
    refine ⟨fun i => (q i).1, fun i => (q i).2, ?_⟩
    by_cases h0 : len = 0
    · exact .inl h0
    · obtain ⟨b, off, spot⟩ := a'
      have c0 := (hq 0 (by omega)).1
      have : spot = none := by simpa [Addr.add] using World.cell?_spot c0
      subst this
      rw [add_16] at c0
      refine .inr ⟨b, off, rfl, World.block_lt_of_cell? w _ c0, fun i hi => ?_⟩
      have h := hq i hi
      rw [add_16, add_16] at h
      exact h
end Go.Proofs.Ytldhlknmabpanaa
