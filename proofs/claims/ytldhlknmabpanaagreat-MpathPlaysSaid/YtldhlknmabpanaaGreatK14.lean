/-
  Own text: a script of layer 15 that comes in: calls, each with a datagram.
  Own text: a bucket in its block; the code's calls alone (New, Tick, May, Take, Change), walked. (Written by gen_paa.py out of XPcA, XPcB, XPcC: they hold the document's, too.)
  Own text: a wide number's pieces of 16 bits, the lowest first; how they are added, taken away, multiplied. Plain arithmetic.
  Own text: what the document's wide numbers answer (Of, plus, minus, less, Turn), walked.
-/
import Derived.Test.YtldhlknmabpanaaGreatRows
import Derived.Test.YtldhlknmabpanaaGreatK07
import Derived.Test.YtldhlknmabpanaaGreatK13
import Derived.Test.YtldhlknmabpanaaGreatK01
import Derived.Test.YtldhlknmabpanaaGreatK06
import Derived.Deep.SlicePairs
import Derived.ShutString
import Derived.ChangeOld
import Derived.Deep.QuietTactic
import Derived.BigQuiet
import Derived.BigRegion
import Derived.Lib.Hide
import Derived.WalkKit
import Derived.ProofKit
import Derived.OpenShut
import Derived.Deep.OwnRows
namespace Go.Proofs.YtldhlknmabpanaaGreat
open Go.ChangeShapes Go.WideShapes Go.ChangeAt Go.RowKit Go.Deep

/-- A call of the script. -/
structure Op15 where
  kind : Int
  rank : Int
  d : Dg
  n : Int
  way : Int
  th : Nat
abbrev Op15.cells (o : Op15) : Array Value := #[.int .i64 o.kind, .int .i64 o.rank, .int .i64 o.d.kind, .int .u32 o.d.ses, .int .u32 o.d.seq, .int .i64 o.d.path, .int .u32 o.d.tick, .int .u32 o.d.A, .int .u32 o.d.B, .int .i64 o.d.K, .int .i64 o.d.M, .int .i64 o.d.ix, .slice o.d.da o.d.dl o.d.dc, .int .i64 o.n, .int .i64 o.way, .int .u32 (o.th : Int)]
/-- Its numbers fit, and its bytes are there. -/
structure Op15.ok (o : Op15) (w : World) : Prop where
  th : o.th < 4294967296
  d : o.d.fit
  by_ : ∃ l, Bytes w o.d.da o.d.dl l
  nil : o.d.da = none → o.d.dc = 0
  kind : -9223372036854775808 ≤ o.kind ∧ o.kind ≤ 9223372036854775807
  n : -9223372036854775808 ≤ o.n ∧ o.n ≤ 9223372036854775807
theorem Op15.ok.below {o : Op15} {w w' : World} (h : o.ok w) (hb : Below w.heap.size w w') : o.ok w' := ⟨h.th, h.d, h.by_.imp fun _ hl => hl.below hb (Nat.le_refl _), h.nil, h.kind, h.n⟩
/-- A script: its cells, and what each call bears. -/
def Ops15 (w : World) (a : Option Addr) (n : Nat) (f : Nat → Op15) : Prop :=
  n = 0 ∨ ∃ b off, a = some ⟨b, off, none⟩ ∧ b < w.heap.size ∧ ∀ i, i < n → w.rangeAt b (off + i * 16) (f i).cells.toList ∧ (f i).ok w
theorem Ops15.below {w w' : World} {a : Option Addr} {n : Nat} {f : Nat → Op15} (h : Ops15 w a n f) (hb : Below w.heap.size w w') : Ops15 w' a n f :=
  h.imp id fun ⟨b, off, e, hl, hc⟩ => ⟨b, off, e, Nat.lt_of_lt_of_le hl hb.size, fun i hi => ⟨fun j v hv => (hb.cell (p := ⟨b, off + i * 16 + j, none⟩) hl).trans ((hc i hi).1 j v hv), (hc i hi).2.below hb⟩⟩
theorem cells15_int : Tryz.prog.cellsOf 3 = 1 := by kernel_rfl
theorem cells15_u32 : Tryz.prog.cellsOf 29 = 1 := by kernel_rfl
theorem cells15_byte : Tryz.prog.cellsOf 5 = 1 := by kernel_rfl
theorem cells15_row : Tryz.prog.cellsOf 48 = 1 := by kernel_rfl
set_option maxRecDepth 100000 in
theorem cells15_dg : Tryz.prog.cellsOf 50 = 11 := by kernel_rfl
set_option maxRecDepth 100000 in
theorem cells15_op : Tryz.prog.cellsOf 58 = 16 := by kernel_rfl
theorem row15_of {H : Type} {enc : TypeId × Value → H} {W : World} {fuel : Nat} {v : Value} {x : DataW H × List MemPlace} (h : DataW.trod enc Tryz.prog W 0 (fun _ => true) true fuel 48 [v] = some x) :
    ∃ a n cap zs, v = .slice a n cap ∧ IsRow .u8 W a n cap zs := by
  rcases open_ints Tryz.underlying48 Tryz.underlying5 cells15_byte h with ⟨hcs, _⟩ | ⟨x, l, c, zs, hcs, _, hl, hm, hz, _, hcell, hwz⟩
  · simp at hcs
    exact ⟨none, 0, 0, [], hcs, .inl ⟨rfl, rfl, rfl, rfl⟩⟩
  · simp at hcs
    exact ⟨some x, l, c, zs, hcs, .inr ⟨_, rfl, hl, hm, by simpa using hz, hcell, hwz⟩⟩
theorem list16 {α : Type} {l : List α} (h : l.length = 16) : ∃ c0 c1 c2 c3 c4 c5 c6 c7 c8 c9 c10 c11 c12 c13 c14 c15, l = [c0, c1, c2, c3, c4, c5, c6, c7, c8, c9, c10, c11, c12, c13, c14, c15] := by
  match l, h with
  | [c0, c1, c2, c3, c4, c5, c6, c7, c8, c9, c10, c11, c12, c13, c14, c15], _ => exact ⟨c0, c1, c2, c3, c4, c5, c6, c7, c8, c9, c10, c11, c12, c13, c14, c15, rfl⟩
theorem dg15_cells {H : Type} {enc : TypeId × Value → H} {w : World} {fuel : Nat} {c0 c1 c2 c3 c4 c5 c6 c7 c8 c9 c10 : Value} {x : DataW H × List MemPlace}
    (h : DataW.trod enc Tryz.prog w 0 (fun _ => true) true fuel 50 [c0, c1, c2, c3, c4, c5, c6, c7, c8, c9, c10] = some x) :
    ∃ (d : Dg) (zs : List Int), [c0, c1, c2, c3, c4, c5, c6, c7, c8, c9, c10] = [.int .i64 d.kind, .int .u32 d.ses, .int .u32 d.seq, .int .i64 d.path, .int .u32 d.tick, .int .u32 d.A, .int .u32 d.B, .int .i64 d.K, .int .i64 d.M, .int .i64 d.ix, .slice d.da d.dl d.dc] ∧ d.fit ∧ IsRow .u8 w d.da d.dl d.dc zs := by
  obtain ⟨xs, k, _, _, _, hxl, hf⟩ := DataW.trod_struct Tryz.underlying50 h
  match xs, hxl with
  | [y0, y1, y2, y3, y4, y5, y6, y7, y8, y9, y10], _ =>
    have t0 := hf 0 _ rfl
    have t1 := hf 1 _ rfl
    have t2 := hf 2 _ rfl
    have t3 := hf 3 _ rfl
    have t4 := hf 4 _ rfl
    have t5 := hf 5 _ rfl
    have t6 := hf 6 _ rfl
    have t7 := hf 7 _ rfl
    have t8 := hf 8 _ rfl
    have t9 := hf 9 _ rfl
    have t10 := hf 10 _ rfl
    simp [cells15_int, cells15_u32, cells15_row] at t0 t1 t2 t3 t4 t5 t6 t7 t8 t9 t10
    obtain ⟨v0, h0, _, w0⟩ := DataW.trod_int Tryz.underlying3 t0
    obtain ⟨v1, h1, _, w1⟩ := DataW.trod_int Tryz.underlying29 t1
    obtain ⟨v2, h2, _, w2⟩ := DataW.trod_int Tryz.underlying29 t2
    obtain ⟨v3, h3, _, w3⟩ := DataW.trod_int Tryz.underlying3 t3
    obtain ⟨v4, h4, _, w4⟩ := DataW.trod_int Tryz.underlying29 t4
    obtain ⟨v5, h5, _, w5⟩ := DataW.trod_int Tryz.underlying29 t5
    obtain ⟨v6, h6, _, w6⟩ := DataW.trod_int Tryz.underlying29 t6
    obtain ⟨v7, h7, _, w7⟩ := DataW.trod_int Tryz.underlying3 t7
    obtain ⟨v8, h8, _, w8⟩ := DataW.trod_int Tryz.underlying3 t8
    obtain ⟨v9, h9, _, w9⟩ := DataW.trod_int Tryz.underlying3 t9
    obtain ⟨a, na, capa, zs, ha, hrow⟩ := row15_of t10
    simp only [List.cons.injEq, and_true] at h0 h1 h2 h3 h4 h5 h6 h7 h8 h9
    subst h0 h1 h2 h3 h4 h5 h6 h7 h8 h9 ha
    have hb := hrow.bound
    exact ⟨⟨v0, v1, v2, v3, v4, v5, v6, v7, v8, v9, a, na, capa⟩, zs, rfl, ⟨i64_lo w0, i64_lo w3, i64_lo w7, i64_lo w8, i64_lo w9, u32_lo w1, u32_lo w2, u32_lo w4, u32_lo w5, u32_lo w6, hb.1, hb.2⟩, hrow⟩
theorem op15_cells {H : Type} {enc : TypeId × Value → H} {w : World} {fuel : Nat} {cs : List Value} {x : DataW H × List MemPlace} (hlen : cs.length = 16)
    (h2 : DataW.trod enc Tryz.prog w 0 (fun _ => true) true fuel 58 cs = some x) : ∃ o : Op15, cs = o.cells.toList ∧ o.ok w := by
  obtain ⟨c0, c1, c2, c3, c4, c5, c6, c7, c8, c9, c10, c11, c12, c13, c14, c15, rfl⟩ := list16 hlen
  obtain ⟨xs, k, _, _, _, hxl, hf⟩ := DataW.trod_struct Tryz.underlying58 h2
  match xs, hxl with
  | [y0, y1, y2, y3, y4, y5], _ =>
    have t0 := hf 0 _ rfl
    have t1 := hf 1 _ rfl
    have t2 := hf 2 _ rfl
    have t3 := hf 3 _ rfl
    have t4 := hf 4 _ rfl
    have t5 := hf 5 _ rfl
    simp [cells15_int, cells15_u32, cells15_dg] at t0 t1 t2 t3 t4 t5
    obtain ⟨v0, h0, _, w0⟩ := DataW.trod_int Tryz.underlying3 t0
    obtain ⟨v1, h1, _, w1⟩ := DataW.trod_int Tryz.underlying3 t1
    obtain ⟨d, zs, hd, hfit, hrow⟩ := dg15_cells t2
    obtain ⟨v3, h3, _, w3⟩ := DataW.trod_int Tryz.underlying3 t3
    obtain ⟨v4, h4, _, w4⟩ := DataW.trod_int Tryz.underlying3 t4
    obtain ⟨v5, h5, _, w5⟩ := DataW.trod_int Tryz.underlying29 t5
    simp only [List.cons.injEq, and_true] at h0 h1 hd h3 h4 h5
    obtain ⟨l5, g5⟩ := u32_lo w5
    obtain ⟨m, rfl⟩ : ∃ m : Nat, v5 = (m : Int) := ⟨v5.toNat, by omega⟩
    obtain ⟨rfl, rfl, rfl, rfl, rfl, rfl, rfl, rfl, rfl, rfl, rfl⟩ := hd
    subst h0 h1 h3 h4 h5
    exact ⟨⟨v0, v1, d, v3, v4, m⟩, rfl, ⟨by show m < _; omega, hfit, ⟨_, hrow.bytes⟩, hrow.nil_cap, i64_lo w0, i64_lo w3⟩⟩
theorem add_15 (b off k : Nat) : (⟨b, off, none⟩ : Addr).add k = ⟨b, off + k, none⟩ := by unfold Addr.add; split <;> simp_all
theorem ops15_arg {H : Type} {enc : TypeId × Value → H} {w : World} {fuel : Nat} {a : Option Addr} {len cap : Nat} {x : DataW H × List MemPlace}
    (h : DataW.trod enc Tryz.prog w 0 (fun _ => true) true fuel 24 [.slice a len cap] = some x) : ∃ f, Ops15 w a len f := by
  rcases open_slice Tryz.underlying24 h with ⟨e, _⟩ | ⟨a', len', cap', m, n, D, Pl, e, hb, hl, hm, hmm, _, hx⟩
  · simp at e
    obtain ⟨rfl, rfl, rfl⟩ := e
    exact ⟨fun _ => ⟨0, 0, ⟨0, 0, 0, 0, 0, 0, 0, 0, 0, 0, none, 0, 0⟩, 0, 0, 0⟩, .inl rfl⟩
  · simp at e
    obtain ⟨rfl, rfl, rfl⟩ := e
    have hlm : len ≤ m := by rw [hmm]; split <;> omega
    have each : ∀ i : Nat, ∃ o : Op15, i < len → (∀ j v, o.cells.toList[j]? = some v → w.cell? ((a'.add (i * 16)).add j) = some v) ∧ o.ok w := fun i => by
      by_cases hi : i < len
      · obtain ⟨cs, h1, h2⟩ := hx i (by omega)
        rw [cells15_op] at h1
        obtain ⟨_, hlen, hcell⟩ := World.cells?_some h1
        obtain ⟨o, rfl, hok⟩ := op15_cells hlen h2
        refine ⟨o, fun _ => ⟨fun j v hv => ?_, hok⟩⟩
        have hj := (List.getElem?_eq_some_iff.1 hv).1
        rw [hcell j (by rw [← hlen]; exact hj), hv]
      · exact ⟨⟨0, 0, ⟨0, 0, 0, 0, 0, 0, 0, 0, 0, 0, none, 0, 0⟩, 0, 0, 0⟩, fun e => absurd e hi⟩
    obtain ⟨q, hq⟩ := Classical.axiomOfChoice each
    refine ⟨q, ?_⟩
    by_cases h0 : len = 0
    · exact .inl h0
    · obtain ⟨b, off, spot⟩ := a'
      have c0 := (hq 0 (by omega)).1 0 _ rfl
      have : spot = none := by simpa [Addr.add] using World.cell?_spot c0
      subst this
      rw [add_15, add_15] at c0
      refine .inr ⟨b, off, rfl, World.block_lt_of_cell? w _ c0, fun i hi => ⟨fun j v hv => ?_, (hq i hi).2⟩⟩
      have h := (hq i hi).1 j v hv
      rw [add_15, add_15] at h
      exact h
end Go.Proofs.YtldhlknmabpanaaGreat
namespace Go.Proofs.YtldhlknmabpanaaGreat.Pa
open Go.RowKit

/-- A bucket's block. -/
def KBlk (t : TypeId) (w : World) (b : Nat) (k : Bk) : Prop := w.heap[b]? = some (.cells #[.int .i64 k.ra, .int .i64 k.bu, .int .i64 k.he, .int .i64 k.sp, .int .i64 k.fu] t (0, 0))
/-- A bucket by value. -/
def KV (k : Bk) : Value := .agg #[.int .i64 k.ra, .int .i64 k.bu, .int .i64 k.he, .int .i64 k.sp, .int .i64 k.fu]
section
variable {t : TypeId} {w : World} {b : Nat} {k : Bk}
theorem KBlk.lt (h : KBlk t w b k) : b < w.heap.size := (Array.getElem?_eq_some_iff.1 h).1
theorem KBlk.cells (h : KBlk t w b k) : w.cell? ⟨b, 0, none⟩ = some (.int .i64 k.ra) ∧ w.cell? ⟨b, 1, none⟩ = some (.int .i64 k.bu) ∧ w.cell? ⟨b, 2, none⟩ = some (.int .i64 k.he) ∧ w.cell? ⟨b, 3, none⟩ = some (.int .i64 k.sp) ∧ w.cell? ⟨b, 4, none⟩ = some (.int .i64 k.fu) := by
  unfold KBlk at h
  simp [World.cell?, h]
theorem KBlk.frozen (h : KBlk t w b k) (i : Nat) : w.frozen? ⟨b, i, none⟩ = false := by
  unfold KBlk at h
  simp [World.frozen?, h]
theorem KBlk.keep {w' : World} (h : KBlk t w b k) (e : w'.heap[b]? = w.heap[b]?) : KBlk t w' b k := e.trans h
theorem KBlk.drewN (h : KBlk t w b k) (j : Nat) : KBlk t (w.drewN j) b k := h.keep rfl
theorem KBlk.below {w' : World} {B : Nat} (h : KBlk t w b k) (hb : Below B w w') (hB : b < B) : KBlk t w' b k := h.keep (hb.block b hB)
theorem KBlk.set0 (h : KBlk t w b k) (n : Int) : KBlk t (w.setCell ⟨b, 0, none⟩ (.int .i64 n)) b ⟨n, k.bu, k.he, k.sp, k.fu⟩ := by
  unfold KBlk at *
  simp [World.setCell, Array.getElem?_modify, h]
theorem KBlk.set1 (h : KBlk t w b k) (n : Int) : KBlk t (w.setCell ⟨b, 1, none⟩ (.int .i64 n)) b ⟨k.ra, n, k.he, k.sp, k.fu⟩ := by
  unfold KBlk at *
  simp [World.setCell, Array.getElem?_modify, h]
theorem KBlk.set2 (h : KBlk t w b k) (n : Int) : KBlk t (w.setCell ⟨b, 2, none⟩ (.int .i64 n)) b ⟨k.ra, k.bu, n, k.sp, k.fu⟩ := by
  unfold KBlk at *
  simp [World.setCell, Array.getElem?_modify, h]
theorem KBlk.set3 (h : KBlk t w b k) (n : Int) : KBlk t (w.setCell ⟨b, 3, none⟩ (.int .i64 n)) b ⟨k.ra, k.bu, k.he, n, k.fu⟩ := by
  unfold KBlk at *
  simp [World.setCell, Array.getElem?_modify, h]
theorem KBlk.set4 (h : KBlk t w b k) (n : Int) : KBlk t (w.setCell ⟨b, 4, none⟩ (.int .i64 n)) b ⟨k.ra, k.bu, k.he, k.sp, n⟩ := by
  unfold KBlk at *
  simp [World.setCell, Array.getElem?_modify, h]
theorem KBlk.other (h : KBlk t w b k) {p : Addr} (hp : b ≠ p.block) (u : Value) : KBlk t (w.setCell p u) b k := h.keep (Below.heap_setCell w p u b hp)
theorem KBlk.new (w : World) (k : Bk) (t : TypeId) : KBlk t (w.alloc (.cells #[.int .i64 k.ra, .int .i64 k.bu, .int .i64 k.he, .int .i64 k.sp, .int .i64 k.fu] t)) w.heap.size k := Go.Deep.blk_alloc_new w _
end
/-- What a bucket's call may turn: its block, and what is new. -/
structure Frm (b : Nat) (w w' : World) : Prop where
  os : w'.os = w.os
  tape : w'.tape = w.tape
  output : w'.output = w.output
  size : w.heap.size ≤ w'.heap.size
  block : ∀ k, k < w.heap.size → k ≠ b → w'.heap[k]? = w.heap[k]?
theorem Frm.refl (b : Nat) (w : World) : Frm b w w := ⟨rfl, rfl, rfl, Nat.le_refl _, fun _ _ _ => rfl⟩
theorem Frm.trans {b : Nat} {w w1 w2 : World} (h : Frm b w w1) (k : Frm b w1 w2) : Frm b w w2 :=
  ⟨k.os.trans h.os, k.tape.trans h.tape, k.output.trans h.output, Nat.le_trans h.size k.size, fun i hi h1 => (k.block i (Nat.lt_of_lt_of_le hi h.size) h1).trans (h.block i hi h1)⟩
theorem Frm.drewN {b : Nat} {w w' : World} (h : Frm b w w') (k : Nat) : Frm b w (w'.drewN k) := ⟨h.os, h.tape, h.output, h.size, h.block⟩
theorem Frm.set {b : Nat} {w w' : World} (h : Frm b w w') (i : Nat) (v : Value) : Frm b w (w'.setCell ⟨b, i, none⟩ v) :=
  ⟨h.os, h.tape, h.output, by simpa using h.size, fun k hk h1 => (Below.heap_setCell _ _ _ k h1).trans (h.block k hk h1)⟩
theorem Frm.bel {b B : Nat} {w w' w0 : World} (h : Frm b w w') (h0 : Below B w0 w) (hB : B ≤ w.heap.size) (hb : B ≤ b) : Below B w0 w' :=
  h0.trans ⟨h.os, h.tape, h.output, h.size, fun k hk => h.block k (by omega) (by omega)⟩
theorem Frm.of_below {b : Nat} {w w' : World} (h : Below w.heap.size w w') : Frm b w w' := ⟨h.os, h.tape, h.output, h.size, fun k hk _ => h.block k hk⟩

theorem may_any (n : Int) (b : Nat) (k : Bk) (w : World) (h : KBlk 107 w b k) :
    Calls Tryz.prog 51 #[.pointer (some ⟨b, 0, none⟩), .int .i64 n] w fun e w' => e = .returned (.bool (k.may n)) ∧ w = w' := by
  obtain ⟨c0, c1, c2, c3, c4⟩ := h.cells
  have hm : k.may n = decide (0 ≤ n ∧ n ≤ k.he) := rfl
  rw [hm]
  clear h hm
  generalize k.he = he at *
  go_enter Tryz.func51, Tryz.ntmps51
  go_wp2
  all_goals go_ret
  all_goals exact ⟨ret_bool (by simp [*] <;> omega), rfl⟩
set_option maxRecDepth 100000 in
theorem take_any (n : Int) (b i : Nat) (k : Bk) (hf : k.fit i) (hi : i ≤ 1000000000) (w : World) (h : KBlk 107 w b k) :
    Calls Tryz.prog 22 #[.pointer (some ⟨b, 0, none⟩), .int .i64 n] w fun e w' => e = .returned (.bool (k.may n)) ∧ Hid (KBlk 107 w' b (k.take n)) ∧ Hid (Frm b w w') := by
  have CM := Lib.hid (may_any n b k w h)
  have HT : k.take n = if k.may n = true then ⟨k.ra, k.bu, k.he - n, k.sp + n, k.fu⟩ else k := rfl
  rw [HT]
  have hm : k.may n = decide (0 ≤ n ∧ n ≤ k.he) := rfl
  obtain ⟨c0, c1, c2, c3, c4⟩ := h.cells
  have f2 := h.frozen 2
  have f3 := h.frozen 3
  have HK := Lib.hid h
  have h1 := hf.h1
  have h2 := hf.h2
  have h3 := hf.b2
  have h4 := hf.s1
  have h5 := hf.s2
  clear h hf HT
  generalize k.may n = m at *
  cases m
  · clear hm h1 h2 h3 h4 h5 hi
    go_enter Tryz.func22, Tryz.ntmps22
    go_wp2_with (first
      | (go_at_call 51; (with_reducible refine (CM.out).mono ?_); rintro e w1 ⟨rfl, rfl⟩)
      | fail)
    all_goals go_ret
    all_goals exact ⟨rfl, by simpa using HK, Lib.hid (Frm.refl _ _)⟩
  · have hn : 0 ≤ n ∧ n ≤ k.he := of_decide_eq_true hm.symm
    clear hm
    have w1 : IntKind.i64.wrap (k.he - n) = k.he - n := by rw [IntKind.wrap_i64]; omega
    have w2 : IntKind.i64.wrap (k.sp + n) = k.sp + n := by rw [IntKind.wrap_i64]; omega
    obtain ⟨n1, n2⟩ := hn
    clear h1 h2 h3 h4 h5 hi
    have HF := Lib.hid ((HK.out.set2 (k.he - n)).set3 (k.sp + n))
    dsimp only at HF
    clear HK
    generalize hhe : k.he = he at *
    generalize hsp : k.sp = sp at *
    generalize k.ra = ra at *
    generalize k.bu = bu at *
    generalize k.fu = fu at *
    go_enter Tryz.func22, Tryz.ntmps22
    go_wp2_with (first
      | (go_at_call 51; (with_reducible refine (CM.out).mono ?_); rintro e w1 ⟨rfl, rfl⟩)
      | fail)
    all_goals go_ret
    all_goals exact ⟨rfl, by simpa using HF, Lib.hid (((Frm.refl _ _).set _ _).set _ _)⟩
set_option maxRecDepth 100000 in
theorem change_any (r b' : Int) (b : Nat) (k : Bk) (w : World) (h : KBlk 107 w b k) :
    Calls Tryz.prog 44 #[.pointer (some ⟨b, 0, none⟩), .int .i64 r, .int .i64 b'] w fun e w' => e = .returned (.int .i64 (if okB r b' = true then 0 else 1)) ∧ Hid (KBlk 107 w' b (k.change r b')) ∧ Hid (Frm b w w') := by
  have HT : k.change r b' = if okB r b' = true then ⟨r, b', if b' < k.he then b' else k.he, k.sp, k.fu⟩ else k := rfl
  rw [HT]
  have hm : okB r b' = decide (1 ≤ r ∧ r ≤ 1048576 ∧ 1 ≤ b' ∧ b' ≤ 16777216) := rfl
  obtain ⟨c0, c1, c2, c3, c4⟩ := h.cells
  have f0 := h.frozen 0
  have f1 := h.frozen 1
  have f2 := h.frozen 2
  have HK := Lib.hid h
  have HF := Lib.hid (((h.set0 r).set1 b').set2 (if b' < k.he then b' else k.he))
  dsimp only at HF
  clear h HT
  generalize okB r b' = m at *
  cases m
  · have hn : r < 1 ∨ 1048576 < r ∨ b' < 1 ∨ 16777216 < b' := by
      have := of_decide_eq_false hm.symm
      omega
    clear hm HF
    rcases hn with hn | hn | hn | hn
    all_goals
      go_enter Tryz.func44, Tryz.ntmps44
      go_wp2
      all_goals go_ret
      all_goals exact ⟨ret_int (by simp), by simpa using HK, Lib.hid (Frm.refl _ _)⟩
  · have hn := of_decide_eq_true hm.symm
    obtain ⟨n1, n2, n3, n4⟩ := hn
    clear hm HK
    have m1 : ¬ r < 1 := by omega
    have m2 : ¬ 1048576 < r := by omega
    have m3 : ¬ b' < 1 := by omega
    have m4 : ¬ 16777216 < b' := by omega
    generalize hhe : k.he = he at *
    by_cases hmin : b' < he
    all_goals
      have hmin' : (he ≤ b') = decide (¬ b' < he) := by simp [hmin] <;> omega
      go_enter Tryz.func44, Tryz.ntmps44
      go_wp2
      all_goals go_ret
      all_goals exact ⟨ret_int (by simp), by first | (simp only [if_pos hmin] at HF ⊢; exact HF) | (rw [if_neg (show ¬ b' < he by omega)] at HF; first | exact HF | (rw [if_neg (show ¬ b' < he by omega)]; exact HF)), Lib.hid ((((Frm.refl _ _).set _ _).set _ _).set _ _)⟩
set_option maxRecDepth 100000 in
theorem new12_yes (r b : Int) (hok : okB r b = true) (w : World) :
    Calls Tryz.prog 13 #[.int .i64 r, .int .i64 b] w fun e w' => e = .returned (.tuple #[.pointer (some ⟨w.heap.size, 0, none⟩), .int .i64 0]) ∧ Hid (KBlk 107 w' w.heap.size (Bk.new r b)) ∧ Hid (Below w.heap.size w w') := by
  obtain ⟨W1, hW1⟩ : ∃ W1, W1 = w.alloc (.cells #[.int .i64 0, .int .i64 0, .int .i64 b, .int .i64 0, .int .i64 0] 107) := ⟨_, rfl⟩
  have HB1 : Hid (Below w.heap.size w W1) := Lib.hid (by rw [hW1]; exact (Below.refl _ _).alloc (Nat.le_refl _) _)
  have HS : Hid (w.heap.size + 1 = W1.heap.size) := Lib.hid (by rw [hW1]; simp)
  have k1 : KBlk 107 W1 w.heap.size ⟨0, 0, b, 0, 0⟩ := by rw [hW1]; exact KBlk.new w ⟨0, 0, b, 0, 0⟩ _
  have HC : (⟨0, 0, b, 0, 0⟩ : Bk).change r b = Bk.new r b := by
    unfold Bk.change Bk.new
    rw [if_pos hok]
    simp
  have CC := Lib.hid (change_any r b w.heap.size ⟨0, 0, b, 0, 0⟩ W1 k1)
  rw [HC, hok] at CC
  clear k1 HC hok
  go_enter Tryz.func13, Tryz.ntmps13
  go_upto_region 2 with fail
  rw [← hW1]
  clear hW1
  go_wp2_with (first
    | (go_at_call 44; (with_reducible refine (CC.out).mono ?_); rintro e w2 ⟨rfl, HK, HF⟩)
    | fail)
  all_goals go_ret2
  all_goals exact ⟨rfl, HK, Lib.hid (HF.out.bel HB1.out (by have := HS.out; omega) (Nat.le_refl _))⟩
set_option maxRecDepth 100000 in
theorem new12_no (r b : Int) (hok : okB r b = false) (w : World) :
    Calls Tryz.prog 13 #[.int .i64 r, .int .i64 b] w fun e w' => e = .returned (.tuple #[.pointer none, .int .i64 1]) ∧ Hid (Below w.heap.size w w') := by
  obtain ⟨W1, hW1⟩ : ∃ W1, W1 = w.alloc (.cells #[.int .i64 0, .int .i64 0, .int .i64 b, .int .i64 0, .int .i64 0] 107) := ⟨_, rfl⟩
  have HB1 : Hid (Below w.heap.size w W1) := Lib.hid (by rw [hW1]; exact (Below.refl _ _).alloc (Nat.le_refl _) _)
  have HS : Hid (w.heap.size + 1 = W1.heap.size) := Lib.hid (by rw [hW1]; simp)
  have k1 : KBlk 107 W1 w.heap.size ⟨0, 0, b, 0, 0⟩ := by rw [hW1]; exact KBlk.new w ⟨0, 0, b, 0, 0⟩ _
  have CC := Lib.hid (change_any r b w.heap.size ⟨0, 0, b, 0, 0⟩ W1 k1)
  rw [hok] at CC
  clear k1 hok
  go_enter Tryz.func13, Tryz.ntmps13
  go_upto_region 2 with fail
  rw [← hW1]
  clear hW1
  go_wp2_with (first
    | (go_at_call 44; (with_reducible refine (CC.out).mono ?_); rintro e w2 ⟨rfl, HK, HF⟩)
    | fail)
  all_goals go_ret2
  all_goals exact ⟨rfl, Lib.hid (HF.out.bel HB1.out (by have := HS.out; omega) (Nat.le_refl _))⟩
set_option maxRecDepth 100000 in
theorem tick12_any (t : Int) (ht : -9223372036854775808 ≤ t) (ht' : t ≤ 9223372036854775807) (b i : Nat) (k : Bk) (hf : k.fit i) (w : World) (h : KBlk 107 w b k) :
    Calls Tryz.prog 68 #[.pointer (some ⟨b, 0, none⟩), .int .i64 t] w fun e w' => e = .returned (.tuple #[]) ∧ Hid (KBlk 107 w' b (k.tick t)) ∧ Hid (Frm b w w') := by
  have hcl := k.come_lo hf t
  have hkl := k.kept_lo hf t
  have h1 := hf.h1
  have h2 := hf.h2
  have r1 := hf.r1
  have r2 := hf.r2
  have b2 := hf.b2
  have f1 := hf.f1
  have f2 := hf.f2
  obtain ⟨c0, c1, c2, c3, c4⟩ := h.cells
  have z2 := h.frozen 2
  have z4 := h.frozen 4
  have CM : Hid (∀ w', Calls Tryz.prog 95 #[.int .i64 k.ra, .int .i64 (if t < 0 then 0 else t)] w' fun e w1 => e = .returned (.int .i64 (k.come t)) ∧ w' = w1) := Lib.hid (fun w' => mul_any _ _ w' (by omega) (by omega) (by split <;> omega) (by split <;> omega))
  have hk : k.kept t = if k.bu - k.he < k.come t then k.bu - k.he else k.come t := rfl
  have CA : Hid (∀ w', Calls Tryz.prog 96 #[.int .i64 k.fu, .int .i64 (k.come t - k.kept t)] w' fun e w1 => e = .returned (.int .i64 (held (k.fu + (k.come t - k.kept t)))) ∧ w' = w1) := Lib.hid (fun w' => add_any _ _ w' (by omega) (by omega) (by omega) (by omega))
  have HT : k.tick t = ⟨k.ra, k.bu, k.he + k.kept t, k.sp, held (k.fu + (k.come t - k.kept t))⟩ := rfl
  rw [HT]
  have HF := Lib.hid (fun j => ((h.drewN j).set2 (k.he + k.kept t)).set4 (held (k.fu + (k.come t - k.kept t))))
  dsimp only at HF
  have e1 : IntKind.i64.wrap (k.bu - k.he) = k.bu - k.he := by rw [IntKind.wrap_i64]; omega
  have e2 : IntKind.i64.wrap (k.he + k.kept t) = k.he + k.kept t := by rw [IntKind.wrap_i64]; omega
  have e3 : IntKind.i64.wrap (k.come t - k.kept t) = k.come t - k.kept t := by rw [IntKind.wrap_i64]; omega
  clear h hf HT f1 f2 r1 r2
  generalize hfu : held (k.fu + (k.come t - k.kept t)) = fu' at *
  clear hfu
  generalize k.kept t = m at *
  generalize k.come t = co at *
  generalize k.ra = ra at *
  generalize k.he = he at *
  generalize k.bu = bu at *
  generalize k.sp = sp at *
  generalize k.fu = fu at *
  by_cases hn : t < 0
  all_goals
    first | rw [if_pos hn] at CM | rw [if_neg hn] at CM
    by_cases hm : bu - he < co
    all_goals
      first | rw [if_pos hm] at hk | rw [if_neg hm] at hk
      subst hk
      (try simp only [Int.sub_self] at CA e3)
      go_enter Tryz.func68, Tryz.ntmps68
      go_upto_region 1 with (first
        | (go_at_call 95; (with_reducible refine (CM.out _).mono ?_); rintro e w1 ⟨rfl, rfl⟩)
        | fail)
      go_quiet (fail)
      go_wp2_with (first
        | (go_at_call 96; (with_reducible refine (CA.out _).mono ?_); rintro e w1 ⟨rfl, rfl⟩)
        | fail)
      all_goals go_end0
      all_goals exact ⟨rfl, Lib.hid (HF.out _), Lib.hid ((((Frm.refl _ _).drewN _).set _ _).set _ _)⟩
end Go.Proofs.YtldhlknmabpanaaGreat.Pa
namespace Go.Proofs.YtldhlknmabpanaaGreat
open Go.RowKit

theorem rowIs_drewN {w : World} {b : Nat} {t : TypeId} {n : Nat} {f : Nat → Value} (h : w.rowIs b t n f) (k : Nat) : (w.drewN k).rowIs b t n f := h
/-- The piece number i of x. -/
def limb (x i : Nat) : Nat := x / 65536 ^ i % 65536
theorem limb_lt (x i : Nat) : limb x i < 65536 := Nat.mod_lt _ (by decide)
/-- What is carried into piece i, where x and y are added. -/
def carry (x y i : Nat) : Nat := (x % 65536 ^ i + y % 65536 ^ i) / 65536 ^ i
theorem pow_pos' (i : Nat) : 0 < 65536 ^ i := Nat.pow_pos (by decide)
theorem mod_split (x i : Nat) : x % 65536 ^ (i + 1) = 65536 ^ i * limb x i + x % 65536 ^ i := by
  rw [Nat.pow_succ, Nat.mod_mul, limb]; omega
theorem limb_div (x i : Nat) : x / 65536 ^ i = 65536 * (x / 65536 ^ (i + 1)) + limb x i := by
  rw [Nat.pow_succ, ← Nat.div_div_eq_div_mul, limb]; omega
theorem carry_zero (x y : Nat) : carry x y 0 = 0 := by simp [carry, Nat.mod_one]
theorem carry_le (x y i : Nat) : carry x y i ≤ 1 := by
  unfold carry
  have h := pow_pos' i
  have a := Nat.mod_lt x h
  have b := Nat.mod_lt y h
  have : (x % 65536 ^ i + y % 65536 ^ i) / 65536 ^ i < 2 := by rw [Nat.div_lt_iff_lt_mul h]; omega
  omega
theorem carry_succ (x y i : Nat) : carry x y (i + 1) = (limb x i + limb y i + carry x y i) / 65536 := by
  unfold carry
  have h := pow_pos' i
  rw [mod_split, mod_split, Nat.pow_succ, ← Nat.div_div_eq_div_mul]
  have e : 65536 ^ i * limb x i + x % 65536 ^ i + (65536 ^ i * limb y i + y % 65536 ^ i) = (x % 65536 ^ i + y % 65536 ^ i) + 65536 ^ i * (limb x i + limb y i) := by
    rw [Nat.mul_add]; omega
  rw [e, Nat.add_mul_div_left _ _ h]
  congr 1
  omega
theorem limb_add (x y i : Nat) : limb (x + y) i = (limb x i + limb y i + carry x y i) % 65536 := by
  have h := pow_pos' i
  have e : (x + y) / 65536 ^ i = x / 65536 ^ i + y / 65536 ^ i + carry x y i := by
    unfold carry
    have hx := Nat.div_add_mod x (65536 ^ i)
    have hy := Nat.div_add_mod y (65536 ^ i)
    have e2 : x + y = (x % 65536 ^ i + y % 65536 ^ i) + 65536 ^ i * (x / 65536 ^ i + y / 65536 ^ i) := by rw [Nat.mul_add]; omega
    rw [e2, Nat.add_mul_div_left _ _ h]
    omega
  unfold limb
  rw [e]
  omega
theorem limb_big (x i : Nat) (h : x < 65536 ^ i) : limb x i = 0 := by unfold limb; rw [Nat.div_eq_of_lt h]
/-- What is taken from piece i, where y is taken from x. -/
def take (x y i : Nat) : Nat := if x % 65536 ^ i < y % 65536 ^ i then 1 else 0
theorem take_zero (x y : Nat) : take x y 0 = 0 := by simp [take, Nat.mod_one]
theorem take_succ (x y i : Nat) : take x y (i + 1) = 1 - (limb x i + 65536 - limb y i - take x y i) / 65536 := by
  have h := pow_pos' i
  have a := Nat.mod_lt x h
  have b := Nat.mod_lt y h
  have lx := limb_lt x i
  have ly := limb_lt y i
  unfold take
  rw [mod_split, mod_split]
  rcases Nat.lt_trichotomy (limb x i) (limb y i) with c | c | c
  · have d := Nat.mul_le_mul_left (65536 ^ i) (show limb x i + 1 ≤ limb y i from c)
    rw [Nat.mul_add] at d
    rw [if_pos (by omega)]
    split <;> omega
  · rw [c]
    by_cases e : x % 65536 ^ i < y % 65536 ^ i
    · rw [if_pos (by omega), if_pos e]; omega
    · rw [if_neg (by omega), if_neg e]; omega
  · have d := Nat.mul_le_mul_left (65536 ^ i) (show limb y i + 1 ≤ limb x i from c)
    rw [Nat.mul_add] at d
    rw [if_neg (by omega)]
    split <;> omega
theorem limb_sub (x y i : Nat) (hyx : y ≤ x) : limb (x - y) i = (limb x i + 65536 - limb y i - take x y i) % 65536 := by
  have h := pow_pos' i
  have hx := Nat.div_add_mod x (65536 ^ i)
  have hy := Nat.div_add_mod y (65536 ^ i)
  have a := Nat.mod_lt x h
  have b := Nat.mod_lt y h
  have hd : y / 65536 ^ i ≤ x / 65536 ^ i := Nat.div_le_div_right hyx
  unfold limb take
  by_cases e : x % 65536 ^ i < y % 65536 ^ i
  · have hlt : y / 65536 ^ i < x / 65536 ^ i := by
      rcases Nat.lt_or_ge (y / 65536 ^ i) (x / 65536 ^ i) with g | g
      · exact g
      · have : y / 65536 ^ i = x / 65536 ^ i := by omega
        rw [this] at hy; omega
    have q : x - y = (65536 ^ i + x % 65536 ^ i - y % 65536 ^ i) + 65536 ^ i * (x / 65536 ^ i - y / 65536 ^ i - 1) := by
      have : 65536 ^ i * (x / 65536 ^ i) = 65536 ^ i * (y / 65536 ^ i) + 65536 ^ i + 65536 ^ i * (x / 65536 ^ i - y / 65536 ^ i - 1) := by
        rw [← Nat.mul_succ, ← Nat.mul_add]; congr 1; omega
      omega
    have r : (x - y) / 65536 ^ i = x / 65536 ^ i - y / 65536 ^ i - 1 := by
      rw [q, Nat.add_mul_div_left _ _ h, Nat.div_eq_of_lt (by omega)]; omega
    rw [r, if_pos e]
    omega
  · have q : x - y = (x % 65536 ^ i - y % 65536 ^ i) + 65536 ^ i * (x / 65536 ^ i - y / 65536 ^ i) := by
      have : 65536 ^ i * (x / 65536 ^ i) = 65536 ^ i * (y / 65536 ^ i) + 65536 ^ i * (x / 65536 ^ i - y / 65536 ^ i) := by
        rw [← Nat.mul_add]; congr 1; omega
      omega
    have r : (x - y) / 65536 ^ i = x / 65536 ^ i - y / 65536 ^ i := by
      rw [q, Nat.add_mul_div_left _ _ h, Nat.div_eq_of_lt (by omega)]; omega
    rw [r, if_neg e]
    omega
theorem take_le (x y i : Nat) : take x y i ≤ 1 := by unfold take; split <;> omega

theorem limb_digits (x : Nat) (h : x < 18446744073709551616) : (limb x 0 : Int) = x % 65536 ∧ (limb x 1 : Int) = x / 65536 % 65536 ∧ (limb x 2 : Int) = x / 65536 / 65536 % 65536 ∧ (limb x 3 : Int) = x / 65536 / 65536 / 65536 % 65536 ∧
    limb x 4 = 0 ∧ limb x 5 = 0 ∧ limb x 6 = 0 ∧ limb x 7 = 0 ∧ limb x 8 = 0 := by
  refine ⟨?_, ?_, ?_, ?_, limb_big _ _ (by omega), limb_big _ _ (by omega), limb_big _ _ (by omega), limb_big _ _ (by omega), limb_big _ _ (by omega)⟩ <;> simp only [limb] <;> omega
theorem limb_same (x y j : Nat) (h : x / 65536 ^ (j + 1) = y / 65536 ^ (j + 1)) (e : limb x j = limb y j) : x / 65536 ^ j = y / 65536 ^ j := by
  rw [limb_div x j, limb_div y j, h, e]
theorem limb_cmp (x y j : Nat) (h : x / 65536 ^ (j + 1) = y / 65536 ^ (j + 1)) (e : limb x j ≠ limb y j) : limb x j < limb y j ↔ x < y := by
  have a := limb_div x j
  have b := limb_div y j
  constructor
  · intro c
    exact Nat.lt_of_div_lt_div (c := 65536 ^ j) (by omega)
  · intro c
    have : x / 65536 ^ j ≤ y / 65536 ^ j := Nat.div_le_div_right (by omega)
    omega
/-- A wide number's cells: the sign, and nine pieces. -/
def wcell (m : Bool) (g : Nat → Nat) : Nat → Value
  | 0 => .bool m
  | i + 1 => .int .u64 (g i)
/-- A wide number. -/
abbrev wideV (m : Bool) (x : Nat) : Value := .agg #[.bool m, .int .u64 (limb x 0), .int .u64 (limb x 1), .int .u64 (limb x 2), .int .u64 (limb x 3), .int .u64 (limb x 4), .int .u64 (limb x 5), .int .u64 (limb x 6), .int .u64 (limb x 7), .int .u64 (limb x 8)]
theorem wide_cells {w : World} {b : Nat} {t : TypeId} {m : Bool} {g : Nat → Nat} (R : w.rowIs b t 10 (wcell m g)) :
    w.cell? ⟨b, 0, none⟩ = some (.bool m) ∧ w.cell? ⟨b, 1, none⟩ = some (.int .u64 (g 0)) ∧ w.cell? ⟨b, 2, none⟩ = some (.int .u64 (g 1)) ∧ w.cell? ⟨b, 3, none⟩ = some (.int .u64 (g 2)) ∧ w.cell? ⟨b, 4, none⟩ = some (.int .u64 (g 3)) ∧ w.cell? ⟨b, 5, none⟩ = some (.int .u64 (g 4)) ∧ w.cell? ⟨b, 6, none⟩ = some (.int .u64 (g 5)) ∧ w.cell? ⟨b, 7, none⟩ = some (.int .u64 (g 6)) ∧ w.cell? ⟨b, 8, none⟩ = some (.int .u64 (g 7)) ∧ w.cell? ⟨b, 9, none⟩ = some (.int .u64 (g 8)) :=
  ⟨R.cell (i := 0) (by omega), R.cell (i := 1) (by omega), R.cell (i := 2) (by omega), R.cell (i := 3) (by omega), R.cell (i := 4) (by omega), R.cell (i := 5) (by omega), R.cell (i := 6) (by omega), R.cell (i := 7) (by omega), R.cell (i := 8) (by omega), R.cell (i := 9) (by omega)⟩
theorem wide_free {w : World} {b : Nat} {t : TypeId} {n : Nat} {f : Nat → Value} (R : w.rowIs b t n f) :
    w.frozen? ⟨b, 0, none⟩ = false ∧ w.frozen? ⟨b, 1, none⟩ = false ∧ w.frozen? ⟨b, 2, none⟩ = false ∧ w.frozen? ⟨b, 3, none⟩ = false ∧ w.frozen? ⟨b, 4, none⟩ = false ∧ w.frozen? ⟨b, 5, none⟩ = false ∧ w.frozen? ⟨b, 6, none⟩ = false ∧ w.frozen? ⟨b, 7, none⟩ = false ∧ w.frozen? ⟨b, 8, none⟩ = false ∧ w.frozen? ⟨b, 9, none⟩ = false :=
  ⟨R.frozen 0, R.frozen 1, R.frozen 2, R.frozen 3, R.frozen 4, R.frozen 5, R.frozen 6, R.frozen 7, R.frozen 8, R.frozen 9⟩
theorem below_wide {B : Nat} {a w : World} (h : Below B a w) {b : Nat} (hb : B ≤ b) (v0 v1 v2 v3 v4 v5 v6 v7 v8 v9 : Value) :
    Below B a ((((((((((w.setCell ⟨b, 0, none⟩ v0).setCell ⟨b, 1, none⟩ v1).setCell ⟨b, 2, none⟩ v2).setCell ⟨b, 3, none⟩ v3).setCell ⟨b, 4, none⟩ v4).setCell ⟨b, 5, none⟩ v5).setCell ⟨b, 6, none⟩ v6).setCell ⟨b, 7, none⟩ v7).setCell ⟨b, 8, none⟩ v8).setCell ⟨b, 9, none⟩ v9) :=
  (Below.setCell (Below.setCell (Below.setCell (Below.setCell (Below.setCell (Below.setCell (Below.setCell (Below.setCell (Below.setCell (Below.setCell h (p := ⟨b, 0, none⟩) hb v0) (p := ⟨b, 1, none⟩) hb v1) (p := ⟨b, 2, none⟩) hb v2) (p := ⟨b, 3, none⟩) hb v3) (p := ⟨b, 4, none⟩) hb v4) (p := ⟨b, 5, none⟩) hb v5) (p := ⟨b, 6, none⟩) hb v6) (p := ⟨b, 7, none⟩) hb v7) (p := ⟨b, 8, none⟩) hb v8) (p := ⟨b, 9, none⟩) hb v9)
end Go.Proofs.YtldhlknmabpanaaGreat
namespace Go.Proofs.YtldhlknmabpanaaGreat
open Go.RowKit

theorem of_any (n : Int) (w : World) (hn : -9223372036854775808 ≤ n) (hn' : n ≤ 9223372036854775807) :
    Calls Tryz.prog 116 #[.int .i64 n] w fun e w' => e = .returned (wideV (decide (n < 0)) n.natAbs) ∧ Below w.heap.size w w' := by
  have L := limb_digits n.natAbs (by omega)
  by_cases h : n < 0
  · obtain ⟨x, hx⟩ : ∃ x : Nat, x = n.natAbs := ⟨_, rfl⟩
    have H : IntKind.u64.wrap (-IntKind.u64.wrap n) = x := by rw [IntKind.wrap_u64, IntKind.wrap_u64]; omega
    have hx2 : (x : Int) ≤ 9223372036854775808 := by omega
    have E : decide (n < 0) = true := by simp [h]
    rw [← hx] at L ⊢
    rw [E]
    have HL := Lib.hid L
    clear hx E L
    go_enter Tryz.func116, Tryz.ntmps116
    go_wp2
    refine wp_loop_rounds 5 ?_
    iterate 5 (rw [rounds_succ]; go_wp2)
    exact bodyPost_ret (v := wideV true x) (by simp [results, Tryz.results116, go_sem, HL.out]) rfl ⟨rfl, ((Below.refl _ _).alloc (by simp) _).alloc (by simp) _⟩
  · obtain ⟨x, rfl⟩ : ∃ x : Nat, n = x := ⟨n.natAbs, by omega⟩
    have H : IntKind.u64.wrap (x : Int) = x := by rw [IntKind.wrap_u64]; omega
    have E : decide ((x : Int) < 0) = false := by simp
    rw [E]
    rw [Int.natAbs_natCast] at L ⊢
    have HL := Lib.hid L
    clear E L
    go_enter Tryz.func116, Tryz.ntmps116
    go_wp2
    refine wp_loop_rounds 5 ?_
    iterate 5 (rw [rounds_succ]; go_wp2)
    exact bodyPost_ret (v := wideV false x) (by simp [results, Tryz.results116, go_sem, HL.out]) rfl ⟨rfl, ((Below.refl _ _).alloc (by simp) _).alloc (by simp) _⟩

theorem wide_row (w : World) (m : Bool) (x : Nat) : (w.alloc (.cells #[.bool m, .int .u64 (limb x 0), .int .u64 (limb x 1), .int .u64 (limb x 2), .int .u64 (limb x 3), .int .u64 (limb x 4), .int .u64 (limb x 5), .int .u64 (limb x 6), .int .u64 (limb x 7), .int .u64 (limb x 8)] 177)).rowIs w.heap.size 177 10 (wcell m (limb x)) :=
  World.rowIs_alloc w _ _ _ (by
    intro i hi
    match i, hi with
    | 0, _ => rfl
    | 1, _ => rfl
    | 2, _ => rfl
    | 3, _ => rfl
    | 4, _ => rfl
    | 5, _ => rfl
    | 6, _ => rfl
    | 7, _ => rfl
    | 8, _ => rfl
    | 9, _ => rfl
    | n + 10, h => simp at h; omega)
theorem wide_row0 (w : World) : (w.alloc (.cells #[.bool false, .int .u64 0, .int .u64 0, .int .u64 0, .int .u64 0, .int .u64 0, .int .u64 0, .int .u64 0, .int .u64 0, .int .u64 0] 177)).rowIs w.heap.size 177 10 (wcell false (fun _ => 0)) := by
  have h := wide_row w false 0
  have z : ∀ i, limb 0 i = 0 := fun i => limb_big 0 i (pow_pos' i)
  simp only [z] at h
  exact h.congr fun i _ => by cases i <;> simp [wcell, z]

theorem wide_row_2 (w : World) (c0 c2 : Array Value) (m : Bool) (x : Nat) : (((w.alloc (.cells c0 177)).alloc (.cells #[.bool m, .int .u64 (limb x 0), .int .u64 (limb x 1), .int .u64 (limb x 2), .int .u64 (limb x 3), .int .u64 (limb x 4), .int .u64 (limb x 5), .int .u64 (limb x 6), .int .u64 (limb x 7), .int .u64 (limb x 8)] 177)).alloc (.cells c2 177)).rowIs (w.heap.size + 1) 177 10 (wcell m (limb x)) := by
  have := wide_row (w.alloc (.cells c0 177)) m x
  simp only [World.size_alloc] at this
  exact this.alloc _
theorem wide_row_3 (w : World) (c0 c1 : Array Value) : (((w.alloc (.cells c0 177)).alloc (.cells c1 177)).alloc (.cells #[.bool false, .int .u64 0, .int .u64 0, .int .u64 0, .int .u64 0, .int .u64 0, .int .u64 0, .int .u64 0, .int .u64 0, .int .u64 0] 177)).rowIs (w.heap.size + 1 + 1) 177 10 (wcell false (fun _ => 0)) := by
  have := wide_row0 ((w.alloc (.cells c0 177)).alloc (.cells c1 177))
  simp only [World.size_alloc] at this
  exact this

theorem plus_any (m m' : Bool) (x y : Nat) (w : World) :
    Calls Tryz.prog 132 #[wideV m x, wideV m' y] w fun e w' => e = .returned (wideV m (x + y)) ∧ Below w.heap.size w w' := by
  go_enter Tryz.func132, Tryz.ntmps132
  go_wp2
  go_loopw [5, 6] (fun c i wr => ∃ k : Nat, k ≤ 9 ∧ i = .int .i64 k ∧ c = .int .u64 (carry x y k) ∧ wr.rowIs w.heap.size 177 10 (wcell m (fun j => if j < k then limb (x + y) j else limb x j)) ∧
      wr.rowIs (w.heap.size + 1) 177 10 (wcell m' (limb y)) ∧ wr.rowIs (w.heap.size + 1 + 1) 177 10 (wcell false (fun _ => 0)) ∧ Below w.heap.size w wr)
    (fun _ i _ => 9 - (intOf i).toNat)
  case atStart =>
    refine ⟨0, Nat.zero_le _, rfl, by rw [carry_zero]; rfl, ?_, ?_, ?_, ?_⟩
    · exact (((wide_row w m x).alloc _).alloc _).congr fun i _ => by cases i <;> simp [wcell]
    · exact wide_row_2 w _ _ m' y
    · exact wide_row_3 w _ _
    · exact (((Below.refl _ _).alloc (by simp) _).alloc (by simp) _).alloc (by simp; omega) _
  case round =>
    obtain ⟨k, hk, rfl, rfl, R1, R2, R3, hb⟩ := hrel
    by_cases hlt : k < 9
    · have c1 : wr.cell? ⟨w.heap.size, 1 + k, none⟩ = some (.int .u64 (limb x k)) := by rw [Nat.add_comm 1 k, R1.cell (by omega)]; simp [wcell]
      have c2 : wr.cell? ⟨w.heap.size + 1, 1 + k, none⟩ = some (.int .u64 (limb y k)) := by rw [Nat.add_comm 1 k, R2.cell (by omega)]; simp [wcell]
      have f1 := R1.frozen (1 + k)
      have l1 := limb_lt x k
      have l2 := limb_lt y k
      have l3 := carry_le x y k
      have s1 : IntKind.u64.wrap ((limb x k : Int) + (limb y k : Int)) = (limb x k : Int) + (limb y k : Int) := by rw [IntKind.wrap_u64]; omega
      have s2 : IntKind.u64.wrap ((limb x k : Int) + (limb y k : Int) + (carry x y k : Int)) = (limb x k : Int) + (limb y k : Int) + (carry x y k : Int) := by rw [IntKind.wrap_u64]; omega
      go_wp2
      go_quiet (fail)
      go_wp2
      go_roundw
      case rel =>
        refine ⟨k + 1, by omega, by go_num, ?_, ?_, ?_, ?_, ?_⟩
        · rw [carry_succ]; congr 1
        · rw [Nat.add_comm 1 k]
          refine ((rowIs_drewN R1 nq).set (k + 1) _).congr fun i hi => ?_
          cases i with
          | zero => simp [wcell]
          | succ i =>
            by_cases e : i = k
            · subst e; simp [wcell, limb_add]
            · have e1 : (i < k + 1) ↔ i < k := by omega
              simp [wcell, e, e1]
        · exact (rowIs_drewN R2 nq).setOther (by simp) _
        · exact (rowIs_drewN R3 nq).setOther (by simp; omega) _
        · exact (below_drewN hb nq).setCell (by simp) _
      case measure => simp [intOf]; omega
    · obtain rfl : k = 9 := by omega
      have R1' : wr.rowIs w.heap.size 177 10 (wcell m (limb (x + y))) := R1.congr fun i hi => by
        cases i with
        | zero => rfl
        | succ i => simp only [wcell]; rw [if_pos (by omega)]
      clear R1
      obtain ⟨c0, c1, c2, c3, c4, c5, c6, c7, c8, c9⟩ := wide_cells R1'
      obtain ⟨d0, d1, d2, d3, d4, d5, d6, d7, d8, d9⟩ := wide_cells R3
      obtain ⟨f0, f1, f2, f3, f4, f5, f6, f7, f8, f9⟩ := wide_free R3
      clear R1' R2 R3
      go_wp2
      exact bodyPost_ret (v := wideV m (x + y)) (by simp [results, Tryz.results132, go_sem, d0, d1, d2, d3, d4, d5, d6, d7, d8, d9]) rfl
        ⟨rfl, below_wide hb (by omega) _ _ _ _ _ _ _ _ _ _⟩

theorem minus_any (m m' : Bool) (x y : Nat) (w : World) (hyx : y ≤ x) :
    Calls Tryz.prog 134 #[wideV m x, wideV m' y] w fun e w' => e = .returned (wideV m (x - y)) ∧ Below w.heap.size w w' := by
  go_enter Tryz.func134, Tryz.ntmps134
  go_wp2
  go_loopw [5, 6] (fun c i wr => ∃ k : Nat, k ≤ 9 ∧ i = .int .i64 k ∧ c = .int .u64 (take x y k) ∧ wr.rowIs w.heap.size 177 10 (wcell m (fun j => if j < k then limb (x - y) j else limb x j)) ∧
      wr.rowIs (w.heap.size + 1) 177 10 (wcell m' (limb y)) ∧ wr.rowIs (w.heap.size + 1 + 1) 177 10 (wcell false (fun _ => 0)) ∧ Below w.heap.size w wr)
    (fun _ i _ => 9 - (intOf i).toNat)
  case atStart =>
    refine ⟨0, Nat.zero_le _, rfl, by rw [take_zero]; rfl, ?_, ?_, ?_, ?_⟩
    · exact (((wide_row w m x).alloc _).alloc _).congr fun i _ => by cases i <;> simp [wcell]
    · exact wide_row_2 w _ _ m' y
    · exact wide_row_3 w _ _
    · exact (((Below.refl _ _).alloc (by simp) _).alloc (by simp) _).alloc (by simp; omega) _
  case round =>
    obtain ⟨k, hk, rfl, rfl, R1, R2, R3, hb⟩ := hrel
    by_cases hlt : k < 9
    · have c1 : wr.cell? ⟨w.heap.size, 1 + k, none⟩ = some (.int .u64 (limb x k)) := by rw [Nat.add_comm 1 k, R1.cell (by omega)]; simp [wcell]
      have c2 : wr.cell? ⟨w.heap.size + 1, 1 + k, none⟩ = some (.int .u64 (limb y k)) := by rw [Nat.add_comm 1 k, R2.cell (by omega)]; simp [wcell]
      have f1 := R1.frozen (1 + k)
      have l1 := limb_lt x k
      have l2 := limb_lt y k
      have l3 := take_le x y k
      have s1 : IntKind.u64.wrap ((limb x k : Int) + 65536) = (limb x k : Int) + 65536 := by rw [IntKind.wrap_u64]; omega
      have s2 : IntKind.u64.wrap ((limb x k : Int) + 65536 - (limb y k : Int)) = (limb x k : Int) + 65536 - (limb y k : Int) := by rw [IntKind.wrap_u64]; omega
      have s3 : IntKind.u64.wrap ((limb x k : Int) + 65536 - (limb y k : Int) - (take x y k : Int)) = (limb x k : Int) + 65536 - (limb y k : Int) - (take x y k : Int) := by rw [IntKind.wrap_u64]; omega
      go_wp2
      go_quiet (fail)
      go_wp2
      go_roundw
      case rel =>
        refine ⟨k + 1, by omega, by go_num, ?_, ?_, ?_, ?_, ?_⟩
        · rw [take_succ]; congr 1; omega
        · rw [Nat.add_comm 1 k]
          refine ((rowIs_drewN R1 nq).set (k + 1) _).congr fun i hi => ?_
          cases i with
          | zero => simp [wcell]
          | succ i =>
            by_cases e : i = k
            · subst e; simp [wcell, limb_sub _ _ _ hyx]; omega
            · have e1 : (i < k + 1) ↔ i < k := by omega
              simp [wcell, e, e1]
        · exact (rowIs_drewN R2 nq).setOther (by simp) _
        · exact (rowIs_drewN R3 nq).setOther (by simp; omega) _
        · exact (below_drewN hb nq).setCell (by simp) _
      case measure => simp [intOf]; omega
    · obtain rfl : k = 9 := by omega
      have R1' : wr.rowIs w.heap.size 177 10 (wcell m (limb (x - y))) := R1.congr fun i hi => by
        cases i with
        | zero => rfl
        | succ i => simp only [wcell]; rw [if_pos (by omega)]
      clear R1
      obtain ⟨c0, c1, c2, c3, c4, c5, c6, c7, c8, c9⟩ := wide_cells R1'
      obtain ⟨d0, d1, d2, d3, d4, d5, d6, d7, d8, d9⟩ := wide_cells R3
      obtain ⟨f0, f1, f2, f3, f4, f5, f6, f7, f8, f9⟩ := wide_free R3
      clear R1' R2 R3
      go_wp2
      exact bodyPost_ret (v := wideV m (x - y)) (by simp [results, Tryz.results134, go_sem, d0, d1, d2, d3, d4, d5, d6, d7, d8, d9]) rfl
        ⟨rfl, below_wide hb (by omega) _ _ _ _ _ _ _ _ _ _⟩
end Go.Proofs.YtldhlknmabpanaaGreat
