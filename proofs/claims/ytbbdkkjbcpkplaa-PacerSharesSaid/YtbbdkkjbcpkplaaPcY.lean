/-
  Own text: a script that comes in, two numbers by value; law PacerPlays, walked.
-/
import Derived.Test.YtbbdkkjbcpkplaaPcW
import Derived.Deep.SlicePairs
import Derived.ShutString
import Derived.ChangeOld
namespace Go.Proofs.Ytbbdkkjbcpkplaa
open Go.ChangeShapes Go.WideShapes Go.ChangeAt Go.RowKit Go.Deep

theorem cell_in {w : World} {a : Addr} {v : Value} (h : w.cell? a = some v) : a.block < w.heap.size := World.block_lt_of_cell? w a h
theorem op_cells {H : Type} {enc : TypeId × Value → H} {w : World} {base : Nat} {spare : Nat → Bool} {held : Bool} {fuel : Nat} {a : Addr} {cs : List Value} {x : DataW H × List MemPlace}
    (h1 : w.cells? base a (Try.prog.cellsOf 38) = some cs) (h2 : DataW.trod enc Try.prog w base spare held fuel 38 cs = some x) :
    ∃ k n v : Int, (I64 k ∧ I64 n ∧ I64 v) ∧ w.cell? a = some (.int .i64 k) ∧ w.cell? (a.add 1) = some (.int .i64 n) ∧ w.cell? (a.add 2) = some (.int .i64 v) := by
  have ce : Try.prog.cellsOf 38 = 3 := by kernel_rfl
  have ci : Try.prog.cellsOf 3 = 1 := by kernel_rfl
  rw [ce] at h1
  obtain ⟨_, hlen, hcell⟩ := World.cells?_some h1
  obtain ⟨xs, k, _, _, _, hxl, hf⟩ := DataW.trod_struct Try.underlying38 h2
  match xs, hxl, cs, hlen with
  | [y0, y1, y2], _, [v0, v1, v2], _ =>
    have g0 := hf 0 _ rfl
    have g1 := hf 1 _ rfl
    have g2 := hf 2 _ rfl
    simp [ci] at g0 g1 g2
    obtain ⟨z0, e0, _, f0⟩ := DataW.trod_int Try.underlying3 g0
    obtain ⟨z1, e1, _, f1⟩ := DataW.trod_int Try.underlying3 g1
    obtain ⟨z2, e2, _, f2⟩ := DataW.trod_int Try.underlying3 g2
    simp at e0 e1 e2
    have c0 := hcell 0 (by omega)
    have c1 := hcell 1 (by omega)
    have c2 := hcell 2 (by omega)
    simp [e0, e1, e2] at c0 c1 c2
    exact ⟨z0, z1, z2, ⟨i64_lo f0, i64_lo f1, i64_lo f2⟩, c0, c1, c2⟩
theorem ops_arg {H : Type} {enc : TypeId × Value → H} {w : World} {base : Nat} {spare : Nat → Bool} {held : Bool} {fuel : Nat} {a : Option Addr} {len cap : Nat} {x : DataW H × List MemPlace}
    (h : DataW.trod enc Try.prog w base spare held fuel 22 [.slice a len cap] = some x) : ∃ K N V, Ops w a len K N V := by
  rcases open_slice Try.underlying22 h with ⟨e, _⟩ | ⟨a', len', cap', m, n, D, Pl, e, hb, hl, hm, hmm, _, hx⟩
  · simp at e
    obtain ⟨rfl, rfl, rfl⟩ := e
    exact ⟨fun _ => 0, fun _ => 0, fun _ => 0, .inl rfl⟩
  · simp at e
    obtain ⟨rfl, rfl, rfl⟩ := e
    have hlm : len ≤ m := by rw [hmm]; split <;> omega
    have ce : Try.prog.cellsOf 38 = 3 := by kernel_rfl
    have each : ∀ i : Nat, ∃ q : Int × Int × Int, i < len → (I64 q.1 ∧ I64 q.2.1 ∧ I64 q.2.2) ∧ w.cell? (a'.add (i * 3)) = some (.int .i64 q.1) ∧ w.cell? ((a'.add (i * 3)).add 1) = some (.int .i64 q.2.1) ∧ w.cell? ((a'.add (i * 3)).add 2) = some (.int .i64 q.2.2) := fun i => by
      by_cases hi : i < len
      · obtain ⟨cs, h1, h2⟩ := hx i (by omega)
        obtain ⟨k, nn, v, hv, c0, c1, c2⟩ := op_cells h1 h2
        rw [ce] at c0 c1 c2
        exact ⟨(k, nn, v), fun _ => ⟨hv, c0, c1, c2⟩⟩
      · exact ⟨(0, 0, 0), fun e => absurd e hi⟩
    obtain ⟨q, hq⟩ := Classical.axiomOfChoice each
    refine ⟨fun i => (q i).1, fun i => (q i).2.1, fun i => (q i).2.2, ?_⟩
    by_cases h0 : len = 0
    · exact .inl h0
    · obtain ⟨b, off, spot⟩ := a'
      have c0 := (hq 0 (by omega)).2.1
      have : spot = none := by simpa [Addr.add] using World.cell?_spot c0
      subst this
      rw [add_place] at c0
      refine .inr ⟨b, off, rfl, cell_in c0, fun i hi => ?_⟩
      have h := hq i hi
      rw [add_place, add_place, add_place] at h
      exact h

theorem array2 {α : Type} {cs : Array α} (h : cs.size = 2) : ∃ c0 c1, cs = #[c0, c1] := by
  obtain ⟨l⟩ := cs
  match l, h with
  | [c0, c1], _ => exact ⟨c0, c1, rfl⟩
set_option maxRecDepth 100000 in
theorem pair_arg {H : Type} {enc : TypeId × Value → H} {W : World} {base : Nat} {v : Value} {d : DataW H} {ps : List MemPlace} (hval : Value.okWide Try.prog W .any base 30 v) (h : DataW.Trod enc Try.prog W 0 (fun _ => true) true 30 v d ps) :
    ∃ x y : Int, v = .agg #[.int .i64 x, .int .i64 y] := by
  unfold Value.okWide at hval
  rw [Try.underlying30] at hval
  obtain ⟨cs, rfl, hs, _⟩ := hval
  have ce : Try.prog.cellsOf 30 = 2 := by kernel_rfl
  have ci : Try.prog.cellsOf 3 = 1 := by kernel_rfl
  rw [ce] at hs
  obtain ⟨c0, c1, rfl⟩ := array2 hs
  obtain ⟨fuel, hf⟩ := h
  obtain ⟨xs, k, _, _, _, hxl, hf⟩ := DataW.trod_array Try.underlying30 hf
  match xs, hxl with
  | [y0, y1], _ =>
    have g0 := hf 0 (by omega)
    have g1 := hf 1 (by omega)
    simp [ci, Value.cells] at g0 g1
    obtain ⟨z0, e0, _⟩ := DataW.trod_int Try.underlying3 g0
    obtain ⟨z1, e1, _⟩ := DataW.trod_int Try.underlying3 g1
    simp at e0 e1
    subst e0 e1
    exact ⟨z0, z1, rfl⟩
/-- The law answers true; only new blocks were made. -/
def Yes12 (w : World) (e : Ending) (w' : World) : Prop := e = .returned (.bool true) ∧ Below w.heap.size w w'
theorem Fin12.bel {w : World} {b : Nat} {k : Bk} {W : World} (h : Fin12 w b k W) : Below w.heap.size w W := h.2.2
set_option maxRecDepth 100000 in
theorem plays12_walk (r bb : Int) (a : Option Addr) (n c : Nat) (w : World) (hp : True → ∃ K N V, Ops w a n K N V) :
    Calls Try.prog 3 #[.int .i64 r, .int .i64 bb, .slice a n c] w (Yes12 w) := by
  obtain ⟨K, N, V, ho⟩ := hp trivial
  cases hok : okB r bb
  · have CP := Lib.hid (played12_no r bb hok a n c)
    clear hok ho hp
    unfold KV Bk.zero at CP
    dsimp only at CP
    go_enter Try.func3, Try.ntmps3
    go_wp2_with (first
      | (go_at_call 7; (refine (awake12_any _).mono ?_); rintro e w1 ⟨rfl, hb1⟩; have HB1 := Lib.hid hb1; clear hb1)
      | (go_at_call 8; (with_reducible refine (CP.out _).mono ?_); rintro e w2 ⟨rfl, hb⟩; have HB2 := Lib.hid (HB1.out.trans (hb.mono HB1.out.size)); clear hb)
      | fail)
    go_ret
    exact ⟨rfl, HB2.out.alloc HB2.out.size _⟩
  · have CP := Lib.hid (fun w1 (hb : Below w.heap.size w w1) => played12_yes r bb hok a n c K N V w1 (ho.below hb (Nat.le_refl _)))
    clear hok ho hp
    unfold KV at CP
    go_enter Try.func3, Try.ntmps3
    go_wp2_with (first
      | (go_at_call 7; (refine (awake12_any _).mono ?_); rintro e w1 ⟨rfl, hb1⟩; have HB1 := Lib.hid hb1; clear hb1)
      | (go_at_call 8; (with_reducible refine (CP.out _ HB1.out).mono ?_); rintro e w2 ⟨b, k, rfl, HF, HN⟩; have HB2 := Lib.hid (HB1.out.trans (HN.out.bel.mono HB1.out.size)))
      | fail)
    go_ret
    exact ⟨rfl, HB2.out.alloc HB2.out.size _⟩
end Go.Proofs.Ytbbdkkjbcpkplaa
