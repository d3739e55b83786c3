/-
  Own text: a script of layer 15 that comes in: calls, each with a datagram.
-/
import Derived.Test.YtblnmddphichgaaRows
import Derived.Test.YtblnmddphichgaaDgM
import Derived.Test.YtblnmddphichgaaMpW
import Derived.Deep.SlicePairs
import Derived.ShutString
import Derived.ChangeOld
namespace Go.Proofs.Ytblnmddphichgaa
open Go.ChangeShapes Go.WideShapes Go.ChangeAt Go.RowKit Go.Deep

/-- A call of the script. -/
structure Op15 where
  kind : Int
  rank : Int
  d : Dg
  n : Int
  way : Int
  th : Nat
abbrev Op15.cells (o : Op15) : Array Value := #[.int .i64 o.kind, .int .i64 o.rank, .int .i64 o.d.kind, .int .u32 o.d.ses, .int .u32 o.d.seq, .int .i64 o.d.path, .int .u32 o.d.tick, .int .u32 o.d.A, .int .u32 o.d.B, .int .i64 o.d.K, .int .i64 o.d.M, .int .i64 o.d.ix, .slice o.d.da o.d.dl o.d.dc, .int .i64 o.n, .int .i64 o.way, .int .u32 (o.th : Int)]
/-- Its numbers fit, and its bytes are there. -/
structure Op15.ok (o : Op15) (w : World) : Prop where
  th : o.th < 4294967296
  d : o.d.fit
  by_ : ∃ l, Bytes w o.d.da o.d.dl l
  nil : o.d.da = none → o.d.dc = 0
  kind : -9223372036854775808 ≤ o.kind ∧ o.kind ≤ 9223372036854775807
  n : -9223372036854775808 ≤ o.n ∧ o.n ≤ 9223372036854775807
theorem Op15.ok.below {o : Op15} {w w' : World} (h : o.ok w) (hb : Below w.heap.size w w') : o.ok w' := ⟨h.th, h.d, h.by_.imp fun _ hl => hl.below hb (Nat.le_refl _), h.nil, h.kind, h.n⟩
/-- A script: its cells, and what each call bears. -/
def Ops15 (w : World) (a : Option Addr) (n : Nat) (f : Nat → Op15) : Prop :=
  n = 0 ∨ ∃ b off, a = some ⟨b, off, none⟩ ∧ b < w.heap.size ∧ ∀ i, i < n → w.rangeAt b (off + i * 16) (f i).cells.toList ∧ (f i).ok w
theorem Ops15.below {w w' : World} {a : Option Addr} {n : Nat} {f : Nat → Op15} (h : Ops15 w a n f) (hb : Below w.heap.size w w') : Ops15 w' a n f :=
  h.imp id fun ⟨b, off, e, hl, hc⟩ => ⟨b, off, e, Nat.lt_of_lt_of_le hl hb.size, fun i hi => ⟨fun j v hv => (hb.cell (p := ⟨b, off + i * 16 + j, none⟩) hl).trans ((hc i hi).1 j v hv), (hc i hi).2.below hb⟩⟩
theorem cells15_int : Try.prog.cellsOf 3 = 1 := by kernel_rfl
theorem cells15_u32 : Try.prog.cellsOf 30 = 1 := by kernel_rfl
theorem cells15_byte : Try.prog.cellsOf 5 = 1 := by kernel_rfl
theorem cells15_row : Try.prog.cellsOf 33 = 1 := by kernel_rfl
set_option maxRecDepth 100000 in
theorem cells15_dg : Try.prog.cellsOf 35 = 11 := by kernel_rfl
set_option maxRecDepth 100000 in
theorem cells15_op : Try.prog.cellsOf 37 = 16 := by kernel_rfl
theorem row15_of {H : Type} {enc : TypeId × Value → H} {W : World} {fuel : Nat} {v : Value} {x : DataW H × List MemPlace} (h : DataW.trod enc Try.prog W 0 (fun _ => true) true fuel 33 [v] = some x) :
    ∃ a n cap zs, v = .slice a n cap ∧ IsRow .u8 W a n cap zs := by
  rcases open_ints Try.underlying33 Try.underlying5 cells15_byte h with ⟨hcs, _⟩ | ⟨x, l, c, zs, hcs, _, hl, hm, hz, _, hcell, hwz⟩
  · simp at hcs
    exact ⟨none, 0, 0, [], hcs, .inl ⟨rfl, rfl, rfl, rfl⟩⟩
  · simp at hcs
    exact ⟨some x, l, c, zs, hcs, .inr ⟨_, rfl, hl, hm, by simpa using hz, hcell, hwz⟩⟩
theorem list16 {α : Type} {l : List α} (h : l.length = 16) : ∃ c0 c1 c2 c3 c4 c5 c6 c7 c8 c9 c10 c11 c12 c13 c14 c15, l = [c0, c1, c2, c3, c4, c5, c6, c7, c8, c9, c10, c11, c12, c13, c14, c15] := by
  match l, h with
  | [c0, c1, c2, c3, c4, c5, c6, c7, c8, c9, c10, c11, c12, c13, c14, c15], _ => exact ⟨c0, c1, c2, c3, c4, c5, c6, c7, c8, c9, c10, c11, c12, c13, c14, c15, rfl⟩
theorem dg15_cells {H : Type} {enc : TypeId × Value → H} {w : World} {fuel : Nat} {c0 c1 c2 c3 c4 c5 c6 c7 c8 c9 c10 : Value} {x : DataW H × List MemPlace}
    (h : DataW.trod enc Try.prog w 0 (fun _ => true) true fuel 35 [c0, c1, c2, c3, c4, c5, c6, c7, c8, c9, c10] = some x) :
    ∃ (d : Dg) (zs : List Int), [c0, c1, c2, c3, c4, c5, c6, c7, c8, c9, c10] = [.int .i64 d.kind, .int .u32 d.ses, .int .u32 d.seq, .int .i64 d.path, .int .u32 d.tick, .int .u32 d.A, .int .u32 d.B, .int .i64 d.K, .int .i64 d.M, .int .i64 d.ix, .slice d.da d.dl d.dc] ∧ d.fit ∧ IsRow .u8 w d.da d.dl d.dc zs := by
  obtain ⟨xs, k, _, _, _, hxl, hf⟩ := DataW.trod_struct Try.underlying35 h
  match xs, hxl with
  | [y0, y1, y2, y3, y4, y5, y6, y7, y8, y9, y10], _ =>
    have t0 := hf 0 _ rfl
    have t1 := hf 1 _ rfl
    have t2 := hf 2 _ rfl
    have t3 := hf 3 _ rfl
    have t4 := hf 4 _ rfl
    have t5 := hf 5 _ rfl
    have t6 := hf 6 _ rfl
    have t7 := hf 7 _ rfl
    have t8 := hf 8 _ rfl
    have t9 := hf 9 _ rfl
    have t10 := hf 10 _ rfl
    simp [cells15_int, cells15_u32, cells15_row] at t0 t1 t2 t3 t4 t5 t6 t7 t8 t9 t10
    obtain ⟨v0, h0, _, w0⟩ := DataW.trod_int Try.underlying3 t0
    obtain ⟨v1, h1, _, w1⟩ := DataW.trod_int Try.underlying30 t1
    obtain ⟨v2, h2, _, w2⟩ := DataW.trod_int Try.underlying30 t2
    obtain ⟨v3, h3, _, w3⟩ := DataW.trod_int Try.underlying3 t3
    obtain ⟨v4, h4, _, w4⟩ := DataW.trod_int Try.underlying30 t4
    obtain ⟨v5, h5, _, w5⟩ := DataW.trod_int Try.underlying30 t5
    obtain ⟨v6, h6, _, w6⟩ := DataW.trod_int Try.underlying30 t6
    obtain ⟨v7, h7, _, w7⟩ := DataW.trod_int Try.underlying3 t7
    obtain ⟨v8, h8, _, w8⟩ := DataW.trod_int Try.underlying3 t8
    obtain ⟨v9, h9, _, w9⟩ := DataW.trod_int Try.underlying3 t9
    obtain ⟨a, na, capa, zs, ha, hrow⟩ := row15_of t10
    simp only [List.cons.injEq, and_true] at h0 h1 h2 h3 h4 h5 h6 h7 h8 h9
    subst h0 h1 h2 h3 h4 h5 h6 h7 h8 h9 ha
    have hb := hrow.bound
    exact ⟨⟨v0, v1, v2, v3, v4, v5, v6, v7, v8, v9, a, na, capa⟩, zs, rfl, ⟨i64_lo w0, i64_lo w3, i64_lo w7, i64_lo w8, i64_lo w9, u32_lo w1, u32_lo w2, u32_lo w4, u32_lo w5, u32_lo w6, hb.1, hb.2⟩, hrow⟩
theorem op15_cells {H : Type} {enc : TypeId × Value → H} {w : World} {fuel : Nat} {cs : List Value} {x : DataW H × List MemPlace} (hlen : cs.length = 16)
    (h2 : DataW.trod enc Try.prog w 0 (fun _ => true) true fuel 37 cs = some x) : ∃ o : Op15, cs = o.cells.toList ∧ o.ok w := by
  obtain ⟨c0, c1, c2, c3, c4, c5, c6, c7, c8, c9, c10, c11, c12, c13, c14, c15, rfl⟩ := list16 hlen
  obtain ⟨xs, k, _, _, _, hxl, hf⟩ := DataW.trod_struct Try.underlying37 h2
  match xs, hxl with
  | [y0, y1, y2, y3, y4, y5], _ =>
    have t0 := hf 0 _ rfl
    have t1 := hf 1 _ rfl
    have t2 := hf 2 _ rfl
    have t3 := hf 3 _ rfl
    have t4 := hf 4 _ rfl
    have t5 := hf 5 _ rfl
    simp [cells15_int, cells15_u32, cells15_dg] at t0 t1 t2 t3 t4 t5
    obtain ⟨v0, h0, _, w0⟩ := DataW.trod_int Try.underlying3 t0
    obtain ⟨v1, h1, _, w1⟩ := DataW.trod_int Try.underlying3 t1
    obtain ⟨d, zs, hd, hfit, hrow⟩ := dg15_cells t2
    obtain ⟨v3, h3, _, w3⟩ := DataW.trod_int Try.underlying3 t3
    obtain ⟨v4, h4, _, w4⟩ := DataW.trod_int Try.underlying3 t4
    obtain ⟨v5, h5, _, w5⟩ := DataW.trod_int Try.underlying30 t5
    simp only [List.cons.injEq, and_true] at h0 h1 hd h3 h4 h5
    obtain ⟨l5, g5⟩ := u32_lo w5
    obtain ⟨m, rfl⟩ : ∃ m : Nat, v5 = (m : Int) := ⟨v5.toNat, by omega⟩
    obtain ⟨rfl, rfl, rfl, rfl, rfl, rfl, rfl, rfl, rfl, rfl, rfl⟩ := hd
    subst h0 h1 h3 h4 h5
    exact ⟨⟨v0, v1, d, v3, v4, m⟩, rfl, ⟨by show m < _; omega, hfit, ⟨_, hrow.bytes⟩, hrow.nil_cap, i64_lo w0, i64_lo w3⟩⟩
theorem add_15 (b off k : Nat) : (⟨b, off, none⟩ : Addr).add k = ⟨b, off + k, none⟩ := by unfold Addr.add; split <;> simp_all
theorem ops15_arg {H : Type} {enc : TypeId × Value → H} {w : World} {fuel : Nat} {a : Option Addr} {len cap : Nat} {x : DataW H × List MemPlace}
    (h : DataW.trod enc Try.prog w 0 (fun _ => true) true fuel 24 [.slice a len cap] = some x) : ∃ f, Ops15 w a len f := by
  rcases open_slice Try.underlying24 h with ⟨e, _⟩ | ⟨a', len', cap', m, n, D, Pl, e, hb, hl, hm, hmm, _, hx⟩
  · simp at e
    obtain ⟨rfl, rfl, rfl⟩ := e
    exact ⟨fun _ => ⟨0, 0, ⟨0, 0, 0, 0, 0, 0, 0, 0, 0, 0, none, 0, 0⟩, 0, 0, 0⟩, .inl rfl⟩
  · simp at e
    obtain ⟨rfl, rfl, rfl⟩ := e
    have hlm : len ≤ m := by rw [hmm]; split <;> omega
    have each : ∀ i : Nat, ∃ o : Op15, i < len → (∀ j v, o.cells.toList[j]? = some v → w.cell? ((a'.add (i * 16)).add j) = some v) ∧ o.ok w := fun i => by
      by_cases hi : i < len
      · obtain ⟨cs, h1, h2⟩ := hx i (by omega)
        rw [cells15_op] at h1
        obtain ⟨_, hlen, hcell⟩ := World.cells?_some h1
        obtain ⟨o, rfl, hok⟩ := op15_cells hlen h2
        refine ⟨o, fun _ => ⟨fun j v hv => ?_, hok⟩⟩
        have hj := (List.getElem?_eq_some_iff.1 hv).1
        rw [hcell j (by rw [← hlen]; exact hj), hv]
      · exact ⟨⟨0, 0, ⟨0, 0, 0, 0, 0, 0, 0, 0, 0, 0, none, 0, 0⟩, 0, 0, 0⟩, fun e => absurd e hi⟩
    obtain ⟨q, hq⟩ := Classical.axiomOfChoice each
    refine ⟨q, ?_⟩
    by_cases h0 : len = 0
    · exact .inl h0
    · obtain ⟨b, off, spot⟩ := a'
      have c0 := (hq 0 (by omega)).1 0 _ rfl
      have : spot = none := by simpa [Addr.add] using World.cell?_spot c0
      subst this
      rw [add_15, add_15] at c0
      refine .inr ⟨b, off, rfl, World.block_lt_of_cell? w _ c0, fun i hi => ⟨fun j v hv => ?_, (hq i hi).2⟩⟩
      have h := (hq i hi).1 j v hv
      rw [add_15, add_15] at h
      exact h
end Go.Proofs.Ytblnmddphichgaa
