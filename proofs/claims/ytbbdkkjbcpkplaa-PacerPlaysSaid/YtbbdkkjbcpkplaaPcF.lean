/-
  Own text: what holds between two calls of a play.
-/
import Derived.Test.YtbbdkkjbcpkplaaPcE
namespace Go.Proofs.Ytbbdkkjbcpkplaa
open Go.RowKit

/-- A number of 64 bits. -/
def I64 (z : Int) : Prop := -9223372036854775808 ≤ z ∧ z ≤ 9223372036854775807
/-- A script that came in. -/
def Ops (w : World) (a : Option Addr) (n : Nat) (K R V : Nat → Int) : Prop :=
  n = 0 ∨ ∃ g off, a = some ⟨g, off, none⟩ ∧ g < w.heap.size ∧ ∀ i, i < n → (I64 (K i) ∧ I64 (R i) ∧ I64 (V i)) ∧ w.cell? ⟨g, off + i * 3, none⟩ = some (.int .i64 (K i)) ∧ w.cell? ⟨g, off + i * 3 + 1, none⟩ = some (.int .i64 (R i)) ∧ w.cell? ⟨g, off + i * 3 + 2, none⟩ = some (.int .i64 (V i))
theorem Ops.below {w w' : World} {a : Option Addr} {n : Nat} {K N V : Nat → Int} (h : Ops w a n K N V) {B : Nat} (hb : Below B w w') (hB : w.heap.size ≤ B) : Ops w' a n K N V :=
  h.imp id fun ⟨g, off, e, hl, hc⟩ => ⟨g, off, e, Nat.lt_of_lt_of_le hl hb.size, fun i hi => ⟨(hc i hi).1, (hb.cell (p := ⟨g, off + i * 3, none⟩) (by show g < B; omega)).trans (hc i hi).2.1, (hb.cell (p := ⟨g, off + i * 3 + 1, none⟩) (by show g < B; omega)).trans (hc i hi).2.2.1, (hb.cell (p := ⟨g, off + i * 3 + 2, none⟩) (by show g < B; omega)).trans (hc i hi).2.2.2⟩⟩
theorem Ops.at_ {w : World} {a : Option Addr} {n : Nat} {K N V : Nat → Int} (h : Ops w a n K N V) {j : Nat} (hj : j < n) : ∃ g off, a = some ⟨g, off, none⟩ ∧ g < w.heap.size ∧ (I64 (K j) ∧ I64 (N j) ∧ I64 (V j)) ∧ w.cell? ⟨g, off + j * 3, none⟩ = some (.int .i64 (K j)) ∧ w.cell? ⟨g, off + j * 3 + 1, none⟩ = some (.int .i64 (N j)) ∧ w.cell? ⟨g, off + j * 3 + 2, none⟩ = some (.int .i64 (V j)) := by
  rcases h with h | ⟨g, off, e, hg, h⟩
  · omega
  · exact ⟨g, off, e, hg, h j hj⟩
/-- A call's box. -/
def OBlk (w : World) (c : Nat) (kd x y : Int) : Prop := w.heap[c]? = some (.cells #[.int .i64 kd, .int .i64 x, .int .i64 y] 38 (0, 0))
theorem OBlk.lt {w : World} {c : Nat} {kd x y : Int} (h : OBlk w c kd x y) : c < w.heap.size := (Array.getElem?_eq_some_iff.1 h).1
theorem OBlk.cells {w : World} {c : Nat} {kd x y : Int} (h : OBlk w c kd x y) : w.cell? ⟨c, 0, none⟩ = some (.int .i64 kd) ∧ w.cell? ⟨c, 1, none⟩ = some (.int .i64 x) ∧ w.cell? ⟨c, 2, none⟩ = some (.int .i64 y) := by
  unfold OBlk at h
  simp [World.cell?, h]
theorem OBlk.keep {w w' : World} {c : Nat} {kd x y : Int} (h : OBlk w c kd x y) (e : w'.heap[c]? = w.heap[c]?) : OBlk w' c kd x y := e.trans h
/-- Between two calls, in a play that began at w: the code's bucket is k1, the document's k2. -/
structure St (w : World) (b c : Nat) (kd x y : Int) (k1 k2 : Bk) (W : World) : Prop where
  code : KBlk 33 W b k1
  doc : KBlk 26 W (w.heap.size + 1) k2
  res : KBlk 26 W w.heap.size Bk.zero
  op : OBlk W c kd x y
  bel : Below w.heap.size w W
  hb : w.heap.size + 2 ≤ b
  hc : b < c
section
variable {w : World} {b c : Nat} {kd x y : Int} {k1 k2 : Bk} {W : World}
theorem St.below {W' : World} (h : St w b c kd x y k1 k2 W) (hb : Below W.heap.size W W') : St w b c kd x y k1 k2 W' :=
  ⟨h.code.below hb h.code.lt, h.doc.below hb h.doc.lt, h.res.below hb h.res.lt, h.op.keep (hb.block _ h.op.lt), h.bel.trans (hb.mono h.bel.size), h.hb, h.hc⟩
theorem St.frm {W' : World} {k' : Bk} (h : St w b c kd x y k1 k2 W) (hk : KBlk 33 W' b k') (hf : Frm b W W') : St w b c kd x y k' k2 W' := by
  have h1 := h.hb
  have h2 := h.hc
  exact ⟨hk, h.doc.keep (hf.block _ h.doc.lt (by omega)), h.res.keep (hf.block _ h.res.lt (by omega)), h.op.keep (hf.block _ h.op.lt (by omega)), hf.bel h.bel h.bel.size (by omega), h.hb, h.hc⟩
/-- The document's box is written. -/
theorem St.write {k' : Bk} {i : Nat} {v : Value} (h : St w b c kd x y k1 k2 W) (hk : KBlk 26 (W.setCell ⟨w.heap.size + 1, i, none⟩ v) (w.heap.size + 1) k') : St w b c kd x y k1 k' (W.setCell ⟨w.heap.size + 1, i, none⟩ v) := by
  have h1 := h.hb
  have h2 := h.hc
  exact ⟨h.code.other (p := ⟨w.heap.size + 1, i, none⟩) (show b ≠ w.heap.size + 1 by omega) _, hk, h.res.other (p := ⟨w.heap.size + 1, i, none⟩) (show w.heap.size ≠ w.heap.size + 1 by omega) _, h.op.keep (Below.heap_setCell _ _ _ _ (show c ≠ w.heap.size + 1 by omega)), h.bel.setCell (p := ⟨w.heap.size + 1, i, none⟩) (show w.heap.size ≤ w.heap.size + 1 by omega) _, h.hb, h.hc⟩
theorem St.s0 (h : St w b c kd x y k1 k2 W) (z : Int) : St w b c kd x y k1 ⟨z, k2.bu, k2.he, k2.sp, k2.fu⟩ (W.setCell ⟨w.heap.size + 1, 0, none⟩ (.int .i64 z)) := h.write (h.doc.set0 z)
theorem St.s1 (h : St w b c kd x y k1 k2 W) (z : Int) : St w b c kd x y k1 ⟨k2.ra, z, k2.he, k2.sp, k2.fu⟩ (W.setCell ⟨w.heap.size + 1, 1, none⟩ (.int .i64 z)) := h.write (h.doc.set1 z)
theorem St.s2 (h : St w b c kd x y k1 k2 W) (z : Int) : St w b c kd x y k1 ⟨k2.ra, k2.bu, z, k2.sp, k2.fu⟩ (W.setCell ⟨w.heap.size + 1, 2, none⟩ (.int .i64 z)) := h.write (h.doc.set2 z)
theorem St.s3 (h : St w b c kd x y k1 k2 W) (z : Int) : St w b c kd x y k1 ⟨k2.ra, k2.bu, k2.he, z, k2.fu⟩ (W.setCell ⟨w.heap.size + 1, 3, none⟩ (.int .i64 z)) := h.write (h.doc.set3 z)
theorem St.s4 (h : St w b c kd x y k1 k2 W) (z : Int) : St w b c kd x y k1 ⟨k2.ra, k2.bu, k2.he, k2.sp, z⟩ (W.setCell ⟨w.heap.size + 1, 4, none⟩ (.int .i64 z)) := h.write (h.doc.set4 z)
theorem St.drewN (h : St w b c kd x y k1 k2 W) (j : Nat) : St w b c kd x y k1 k2 (W.drewN j) := h.below (below_drewN (Below.refl _ _) j)
theorem may_st (h : St w b c kd x y k1 k2 W) (n : Int) :
    Calls Try.prog 11 #[.pointer (some ⟨b, 0, none⟩), .int .i64 n] W fun e W' => e = .returned (.bool (k1.may n)) ∧ W = W' := may_any n b k1 W h.code
theorem take_st {i : Nat} (hf : k1.fit i) (hi : i ≤ 1000) (h : St w b c kd x y k1 k2 W) (n : Int) :
    Calls Try.prog 12 #[.pointer (some ⟨b, 0, none⟩), .int .i64 n] W fun e W' => e = .returned (.bool (k1.may n)) ∧ Hid (St w b c kd x y (k1.take n) k2 W') :=
  (take_any n b i k1 hf hi W h.code).mono fun _ _ ⟨e, h1, h2⟩ => ⟨e, Lib.hid (h.frm h1.out h2.out)⟩
theorem tick_st {i : Nat} (hf : k1.fit i) (h : St w b c kd x y k1 k2 W) (n : Int) (hn : I64 n) :
    Calls Try.prog 10 #[.pointer (some ⟨b, 0, none⟩), .int .i64 n] W fun e W' => e = .returned (.tuple #[]) ∧ Hid (St w b c kd x y (k1.tick n) k2 W') :=
  (tick12_any n hn.1 hn.2 b i k1 hf W h.code).mono fun _ _ ⟨e, h1, h2⟩ => ⟨e, Lib.hid (h.frm h1.out h2.out)⟩
theorem change_st (h : St w b c kd x y k1 k2 W) (r b' : Int) :
    Calls Try.prog 18 #[.pointer (some ⟨b, 0, none⟩), .int .i64 r, .int .i64 b'] W fun e W' => e = .returned (.int .i64 (if okB r b' = true then 0 else 1)) ∧ Hid (St w b c kd x y (k1.change r b') k2 W') :=
  (change_any r b' b k1 W h.code).mono fun _ _ ⟨e, h1, h2⟩ => ⟨e, Lib.hid (h.frm h1.out h2.out)⟩
theorem rtick_st {i : Nat} (hf : k2.fit i) (h : St w b c kd x y k1 k2 W) (n : Int) (hn : I64 n) :
    Calls Try.prog 17 #[KV k2, .int .i64 n] W fun e W' => e = .returned (KV (k2.tick n)) ∧ Hid (St w b c kd x y k1 k2 W') :=
  (rtick12_any n hn.1 hn.2 i k2 hf W).mono fun _ _ ⟨e, h1⟩ => ⟨e, Lib.hid (h.below h1)⟩
theorem same_st (h : St w b c kd x y k1 k1 W) :
    Calls Try.prog 19 #[.pointer (some ⟨b, 0, none⟩), KV k1] W fun e W' => e = .returned (.bool true) ∧ Hid (St w b c kd x y k1 k1 W') :=
  (same12_any b k1 W h.code).mono fun _ _ ⟨e, h1⟩ => ⟨e, Lib.hid (h.below h1)⟩
end
/-- The same, between two rounds. -/
structure Lo (w : World) (b : Nat) (k : Bk) (W : World) : Prop where
  code : KBlk 33 W b k
  doc : KBlk 26 W (w.heap.size + 1) k
  res : KBlk 26 W w.heap.size Bk.zero
  bel : Below w.heap.size w W
  hb : w.heap.size + 2 ≤ b
theorem Lo.below {w : World} {b : Nat} {k : Bk} {W W' : World} (h : Lo w b k W) (hb : Below W.heap.size W W') : Lo w b k W' :=
  ⟨h.code.below hb h.code.lt, h.doc.below hb h.doc.lt, h.res.below hb h.res.lt, h.bel.trans (hb.mono h.bel.size), h.hb⟩
theorem St.lo {w : World} {b c : Nat} {kd x y : Int} {k : Bk} {W : World} (h : St w b c kd x y k k W) : Lo w b k W := ⟨h.code, h.doc, h.res, h.bel, h.hb⟩
theorem Lo.st {w : World} {b : Nat} {k : Bk} {W : World} (h : Lo w b k W) (kd x y : Int) : St w b W.heap.size kd x y k k (W.alloc (.cells #[.int .i64 kd, .int .i64 x, .int .i64 y] 38)) := by
  have ha : Below W.heap.size W (W.alloc (.cells #[.int .i64 kd, .int .i64 x, .int .i64 y] 38)) := (Below.refl _ _).alloc (Nat.le_refl _) _
  exact ⟨h.code.below ha h.code.lt, h.doc.below ha h.doc.lt, h.res.below ha h.res.lt, Go.Deep.blk_alloc_new W _, h.bel.trans (ha.mono h.bel.size), h.hb, h.code.lt⟩
/-- The play begins: the box of the answer, the document's box, the code's bucket. -/
theorem Lo.start (w : World) (r bb : Int) {W : World} (hW : W = (w.alloc (.cells #[.int .i64 0, .int .i64 0, .int .i64 0, .int .i64 0, .int .i64 0] 26)).alloc (.cells #[.int .i64 0, .int .i64 0, .int .i64 0, .int .i64 0, .int .i64 0] 26)) :
    W.heap.size = w.heap.size + 2 ∧ Below w.heap.size w W ∧ KBlk 26 W w.heap.size Bk.zero ∧ KBlk 26 W (w.heap.size + 1) Bk.zero ∧
    ∀ w1, KBlk 33 w1 W.heap.size (Bk.new r bb) → Below W.heap.size W w1 → Lo w W.heap.size (Bk.new r bb) (((w1.setCell ⟨w.heap.size + 1, 0, none⟩ (.int .i64 r)).setCell ⟨w.heap.size + 1, 1, none⟩ (.int .i64 bb)).setCell ⟨w.heap.size + 1, 2, none⟩ (.int .i64 bb)) := by
  have hs : W.heap.size = w.heap.size + 2 := by rw [hW]; simp
  have hb : Below w.heap.size w W := by rw [hW]; exact ((Below.refl w.heap.size w).alloc (Nat.le_refl _) _).alloc (by simp) _
  have h0 : KBlk 26 W w.heap.size Bk.zero := by rw [hW]; exact (KBlk.new w Bk.zero _).keep (Below.heap_alloc _ _ _ (by simp))
  have h1 : KBlk 26 W (w.heap.size + 1) Bk.zero := by
    rw [hW]
    have := KBlk.new (w.alloc (.cells #[.int .i64 0, .int .i64 0, .int .i64 0, .int .i64 0, .int .i64 0] 26)) Bk.zero 26
    simpa [Bk.zero] using this
  refine ⟨hs, hb, h0, h1, fun w1 hk hb1 => ?_⟩
  have r0 := h0.below hb1 (by omega)
  have r1 := h1.below hb1 (by omega)
  have d := ((r1.set0 r).set1 bb).set2 bb
  refine ⟨?_, d, ?_, ?_, by omega⟩
  · exact ((hk.other (p := ⟨w.heap.size + 1, 0, none⟩) (show W.heap.size ≠ w.heap.size + 1 by omega) _).other (p := ⟨w.heap.size + 1, 1, none⟩) (show W.heap.size ≠ w.heap.size + 1 by omega) _).other (p := ⟨w.heap.size + 1, 2, none⟩) (show W.heap.size ≠ w.heap.size + 1 by omega) _
  · exact ((r0.other (p := ⟨w.heap.size + 1, 0, none⟩) (show w.heap.size ≠ w.heap.size + 1 by omega) _).other (p := ⟨w.heap.size + 1, 1, none⟩) (show w.heap.size ≠ w.heap.size + 1 by omega) _).other (p := ⟨w.heap.size + 1, 2, none⟩) (show w.heap.size ≠ w.heap.size + 1 by omega) _
  · exact (((hb.trans (hb1.mono (by omega))).setCell (p := ⟨w.heap.size + 1, 0, none⟩) (show w.heap.size ≤ w.heap.size + 1 by omega) _).setCell (p := ⟨w.heap.size + 1, 1, none⟩) (show w.heap.size ≤ w.heap.size + 1 by omega) _).setCell (p := ⟨w.heap.size + 1, 2, none⟩) (show w.heap.size ≤ w.heap.size + 1 by omega) _
/-- What the play leaves. -/
def Fin12 (w : World) (b : Nat) (k : Bk) (W : World) : Prop := KBlk 33 W b k ∧ w.heap.size ≤ b ∧ Below w.heap.size w W
theorem Lo.fin {w : World} {b : Nat} {k : Bk} {W : World} (h : Lo w b k W) (v0 v1 v2 v3 v4 : Value) : Fin12 w b k (((((W.setCell ⟨w.heap.size, 0, none⟩ v0).setCell ⟨w.heap.size, 1, none⟩ v1).setCell ⟨w.heap.size, 2, none⟩ v2).setCell ⟨w.heap.size, 3, none⟩ v3).setCell ⟨w.heap.size, 4, none⟩ v4) := by
  have hb := h.hb
  refine ⟨?_, by omega, set5_below h.bel (Nat.le_refl _) _ _ _ _ _⟩
  exact ((((h.code.other (p := ⟨w.heap.size, 0, none⟩) (show b ≠ w.heap.size by omega) _).other (p := ⟨w.heap.size, 1, none⟩) (show b ≠ w.heap.size by omega) _).other (p := ⟨w.heap.size, 2, none⟩) (show b ≠ w.heap.size by omega) _).other (p := ⟨w.heap.size, 3, none⟩) (show b ≠ w.heap.size by omega) _).other (p := ⟨w.heap.size, 4, none⟩) (show b ≠ w.heap.size by omega) _
theorem Fin12.drew {w : World} {b : Nat} {k : Bk} {W : World} (h : Fin12 w b k W) : Fin12 w b k W.drew := ⟨h.1.keep rfl, h.2.1, h.2.2.drew⟩
end Go.Proofs.Ytbbdkkjbcpkplaa
