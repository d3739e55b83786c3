/-
  Own text: a block that holds a datagram (cut out of Form7 and Read7).
-/
import Derived.Test.YtjcbcdjfhcnhcaaDgM
namespace Go.Proofs.Ytjcbcdjfhcnhcaa
open Go.RowKit

/-- A datagram in its box. -/
structure DBox (w : World) (b : Nat) (d : Dg) : Prop where
  lt : b < w.heap.size
  c0 : w.cell? ⟨b, 0, none⟩ = some (.int .i64 d.kind)
  c1 : w.cell? ⟨b, 1, none⟩ = some (.int .u32 d.ses)
  c2 : w.cell? ⟨b, 2, none⟩ = some (.int .u32 d.seq)
  c3 : w.cell? ⟨b, 3, none⟩ = some (.int .i64 d.path)
  c4 : w.cell? ⟨b, 4, none⟩ = some (.int .u32 d.tick)
  c5 : w.cell? ⟨b, 5, none⟩ = some (.int .u32 d.A)
  c6 : w.cell? ⟨b, 6, none⟩ = some (.int .u32 d.B)
  c7 : w.cell? ⟨b, 7, none⟩ = some (.int .i64 d.K)
  c8 : w.cell? ⟨b, 8, none⟩ = some (.int .i64 d.M)
  c9 : w.cell? ⟨b, 9, none⟩ = some (.int .i64 d.ix)
  c10 : w.cell? ⟨b, 10, none⟩ = some (.slice d.da d.dl d.dc)
theorem DBox.below {w w' : World} {b B : Nat} {d : Dg} (h : DBox w b d) (hb : Below B w w') (hB : b < B) : DBox w' b d :=
  ⟨Nat.lt_of_lt_of_le h.lt hb.size, (hb.cell (p := ⟨b, 0, none⟩) hB).trans h.c0, (hb.cell (p := ⟨b, 1, none⟩) hB).trans h.c1, (hb.cell (p := ⟨b, 2, none⟩) hB).trans h.c2, (hb.cell (p := ⟨b, 3, none⟩) hB).trans h.c3, (hb.cell (p := ⟨b, 4, none⟩) hB).trans h.c4,
    (hb.cell (p := ⟨b, 5, none⟩) hB).trans h.c5, (hb.cell (p := ⟨b, 6, none⟩) hB).trans h.c6, (hb.cell (p := ⟨b, 7, none⟩) hB).trans h.c7, (hb.cell (p := ⟨b, 8, none⟩) hB).trans h.c8, (hb.cell (p := ⟨b, 9, none⟩) hB).trans h.c9, (hb.cell (p := ⟨b, 10, none⟩) hB).trans h.c10⟩
abbrev Dg.cells (d : Dg) : Array Value := #[.int .i64 d.kind, .int .u32 d.ses, .int .u32 d.seq, .int .i64 d.path, .int .u32 d.tick, .int .u32 d.A, .int .u32 d.B, .int .i64 d.K, .int .i64 d.M, .int .i64 d.ix, .slice d.da d.dl d.dc]
theorem dbox_new (W : World) (d : Dg) (t : TypeId) : DBox (W.alloc (.cells d.cells t)) W.heap.size d := by
  have h := Go.Deep.blk_alloc_new W (.cells d.cells t)
  refine ⟨by simp, ?_, ?_, ?_, ?_, ?_, ?_, ?_, ?_, ?_, ?_, ?_⟩ <;> (simp only [World.cell?, h]; rfl)
theorem dbox_all (w : World) (d : Dg) (t : TypeId) (l : List Int) (hl : Bytes w d.da d.dl l) : Hid (∀ w', Below (w.alloc (.cells d.cells t)).heap.size (w.alloc (.cells d.cells t)) w' → DBox w' w.heap.size d ∧ Bytes w' d.da d.dl l ∧ Below w.heap.size w w') :=
  Lib.hid fun w' h => ⟨(dbox_new w d t).below h (by simp), (hl.below ((Below.refl w.heap.size w).alloc (Nat.le_refl _) _) (Nat.le_refl _)).below h (Nat.le_refl _), ((Below.refl w.heap.size w).alloc (Nat.le_refl _) _).trans (h.mono (by simp))⟩
theorem blk_set {w : World} {b : Nat} {C : Array Value} {t : TypeId} {fr : Nat × Nat} (h : w.heap[b]? = some (.cells C t fr)) (i : Nat) (v : Value) : (w.setCell ⟨b, i, none⟩ v).heap[b]? = some (.cells (C.setIfInBounds i v) t fr) := by
  simp only [World.setCell, Array.getElem?_modify, h]
  simp
theorem blk_other {w : World} {b c : Nat} (i : Nat) (v : Value) (h : b ≠ c) : (w.setCell ⟨b, i, none⟩ v).heap[c]? = w.heap[c]? := by
  simp only [World.setCell, Array.getElem?_modify]
  rw [if_neg h]
theorem blk_frozen {w : World} {b : Nat} {C : Array Value} {t : TypeId} (h : w.heap[b]? = some (.cells C t (0, 0))) (i : Nat) : w.frozen? ⟨b, i, none⟩ = false := by simp [World.frozen?, h]
/-- A block that holds a datagram. -/
def DBlk (w : World) (b : Nat) (d : Dg) : Prop := w.heap[b]? = some (.cells d.cells 44 (0, 0))
theorem DBlk.lt {w : World} {b : Nat} {d : Dg} (h : DBlk w b d) : b < w.heap.size := (Array.getElem?_eq_some_iff.1 h).1
theorem DBlk.box {w : World} {b : Nat} {d : Dg} (h : DBlk w b d) : DBox w b d := by
  unfold DBlk at h
  refine ⟨DBlk.lt h, ?_, ?_, ?_, ?_, ?_, ?_, ?_, ?_, ?_, ?_, ?_⟩ <;> (simp only [World.cell?, h]; rfl)
theorem DBlk.frozen {w : World} {b : Nat} {d : Dg} (h : DBlk w b d) (i : Nat) : w.frozen? ⟨b, i, none⟩ = false := by
  unfold DBlk at h
  simp [World.frozen?, h]
theorem DBlk.keep {w w' : World} {b : Nat} {d : Dg} (h : DBlk w b d) (e : w'.heap[b]? = w.heap[b]?) : DBlk w' b d := e.trans h
theorem DBlk.below {w w' : World} {b B : Nat} {d : Dg} (h : DBlk w b d) (hb : Below B w w') (hB : b < B) : DBlk w' b d := h.keep (hb.block b hB)
theorem DBlk.drew {w : World} {b : Nat} {d : Dg} (h : DBlk w b d) : DBlk w.drew b d := h.keep rfl
/-- A store of a whole datagram. -/
abbrev setDg (w : World) (b : Nat) (d : Dg) : World := ((((((((((w.setCell ⟨b, 0, none⟩ (.int .i64 d.kind)).setCell ⟨b, 1, none⟩ (.int .u32 d.ses)).setCell ⟨b, 2, none⟩ (.int .u32 d.seq)).setCell ⟨b, 3, none⟩ (.int .i64 d.path)).setCell ⟨b, 4, none⟩ (.int .u32 d.tick)).setCell ⟨b, 5, none⟩ (.int .u32 d.A)).setCell ⟨b, 6, none⟩ (.int .u32 d.B)).setCell ⟨b, 7, none⟩ (.int .i64 d.K)).setCell ⟨b, 8, none⟩ (.int .i64 d.M)).setCell ⟨b, 9, none⟩ (.int .i64 d.ix)).setCell ⟨b, 10, none⟩ (.slice d.da d.dl d.dc)
theorem DBlk.write {w : World} {b : Nat} {d : Dg} (h : DBlk w b d) (d' : Dg) : DBlk (setDg w b d') b d' := by
  unfold DBlk at *
  have h := blk_set (blk_set (blk_set (blk_set (blk_set (blk_set (blk_set (blk_set (blk_set (blk_set (blk_set h 0 (.int .i64 d'.kind)) 1 (.int .u32 d'.ses)) 2 (.int .u32 d'.seq)) 3 (.int .i64 d'.path)) 4 (.int .u32 d'.tick)) 5 (.int .u32 d'.A)) 6 (.int .u32 d'.B)) 7 (.int .i64 d'.K)) 8 (.int .i64 d'.M)) 9 (.int .i64 d'.ix)) 10 (.slice d'.da d'.dl d'.dc)
  simp only [Dg.cells, List.setIfInBounds_toArray, List.set_cons_zero, List.set_cons_succ] at h
  exact h
theorem setDg_below {w : World} {b B : Nat} {w0 : World} (h : Below B w0 w) (hb : B ≤ b) (d : Dg) : Below B w0 (setDg w b d) :=
  ((((((((((h.setCell hb _).setCell hb _).setCell hb _).setCell hb _).setCell hb _).setCell hb _).setCell hb _).setCell hb _).setCell hb _).setCell hb _).setCell hb _
theorem setDg_other {w : World} {b c : Nat} (d : Dg) (h : b ≠ c) : (setDg w b d).heap[c]? = w.heap[c]? := by
  simp only [setDg, blk_other _ _ h]
def Dg.zero : Dg := ⟨0, 0, 0, 0, 0, 0, 0, 0, 0, 0, none, 0, 0⟩
end Go.Proofs.Ytjcbcdjfhcnhcaa
