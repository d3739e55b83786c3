/-
  Own text: what holds between two calls of the law's play.
-/
import Derived.Test.YtnffngbkidehfaaNkLa
namespace Go.Proofs.Ytnffngbkidehfaa.Nk
open Go.RowKit

/-- What is of another type than the code's is as it was. -/
def KeepN (w w' : World) : Prop := ∀ (k : Nat) (cur : Array Value) (t : TypeId), w.heap[k]? = some (Obj.cells cur t (0, 0)) → t ≠ 129 → t ≠ 164 → t ≠ 167 → w'.heap[k]? = w.heap[k]?
/-- A list whose blocks lie from a place on. -/
def NF (w : World) (B b s m : Nat) (N : Nl) : Prop := ∃ A C, NS w b s m A C N ∧ B ≤ b ∧ B ≤ s ∧ B ≤ m ∧ B ≤ w.heap.size ∧ ∀ k, A.map Addr.block = some k → B ≤ k
section
variable {w w' : World} {B B' b s m : Nat} {N N' : Nl}
theorem NF.below (h : NF w B b s m N) (hb : Below B' w w') (hB : w.heap.size ≤ B') : NF w' B b s m N := by
  obtain ⟨A, C, h1, h2, h3, h4, h5, h6⟩ := h
  exact ⟨A, C, NB.below h1 hb hB, h2, h3, h4, Nat.le_trans h5 hb.size, h6⟩
theorem NF.call {A : Option Addr} {C : Nat} (h1 : NS w b s m A C N) (h2 : B ≤ b) (h3 : B ≤ s) (h4 : B ≤ m) (h5 : B ≤ w.heap.size) (h6 : ∀ k, A.map Addr.block = some k → B ≤ k) (ht : NTo w b s m A N' w') : NF w' B b s m N' ∧ Below B w w' ∧ KeepN w w' := by
  obtain ⟨A', C', k1, k2, k3⟩ := ht
  refine ⟨⟨A', C', k1, h2, h3, h4, Nat.le_trans h5 k3.size, fun k hk => ?_⟩, ⟨k3.os, k3.tape, k3.output, k3.size, fun k hk => k3.block k (by omega) (by omega) (by omega) (by omega) (fun e => by have := h6 k e.symm; omega)⟩, fun k cur t hk e1 e2 e3 => NFr.typ h1 k3 hk e1 e2 e3⟩
  rcases k2 with e | e
  · exact h6 k (by rw [← e]; exact hk)
  · exact Nat.le_trans h5 (e k hk)
end
theorem wait_from (k t : Int) (hk : 0 ≤ k ∧ k ≤ 4294967295) (B b s m : Nat) (N : Nl) (j : Nat) (hf : N.fit j) (hj : j ≤ 1000000) (w : World) (h : NF w B b s m N) :
    Calls Try.prog 24 #[.pointer (some ⟨b, 0, none⟩), .int .u32 k, .int .i64 t] w fun e w' => e = .returned (.tuple #[]) ∧ Hid (NF w' B b s m (N.wait k t) ∧ Below B w w' ∧ KeepN w w') := by
  obtain ⟨A, C, h1, h2, h3, h4, h5, h6⟩ := h
  exact (nwait_any k t hk b s m A C j N hf hj w h1).mono fun _ _ hh => ⟨hh.1, Lib.hid (NF.call h1 h2 h3 h4 h5 h6 hh.2.out)⟩
theorem stop_from (k : Int) (hk : 0 ≤ k ∧ k ≤ 4294967295) (B b s m : Nat) (N : Nl) (j : Nat) (hf : N.fit j) (w : World) (h : NF w B b s m N) :
    Calls Try.prog 28 #[.pointer (some ⟨b, 0, none⟩), .int .u32 k] w fun e w' => e = .returned (.tuple #[]) ∧ Hid (NF w' B b s m (N.stop k) ∧ Below B w w' ∧ KeepN w w') := by
  obtain ⟨A, C, h1, h2, h3, h4, h5, h6⟩ := h
  exact (nstop_any k hk b s m A C j N hf w h1).mono fun _ _ hh => ⟨hh.1, Lib.hid (NF.call h1 h2 h3 h4 h5 h6 hh.2.out)⟩
theorem below_from (no : Int) (hno : 0 ≤ no ∧ no ≤ 4294967295) (B b s m : Nat) (N : Nl) (j : Nat) (hf : N.fit j) (hj : j ≤ 1000000) (w : World) (h : NF w B b s m N) :
    Calls Try.prog 57 #[.pointer (some ⟨b, 0, none⟩), .int .u32 no] w fun e w' => e = .returned (.int .i64 ((N.q.l.length : Int) - ((N.strike (fun z => decide (behindZ z no < 0))).q.l.length : Int))) ∧ Hid (NF w' B b s m (N.strike (fun z => decide (behindZ z no < 0))) ∧ Below B w w' ∧ KeepN w w') := by
  obtain ⟨A, C, h1, h2, h3, h4, h5, h6⟩ := h
  exact (nbelow_any no hno b s m A C j N hf hj w h1).mono fun _ _ hh => ⟨hh.1, Lib.hid (NF.call h1 h2 h3 h4 h5 h6 hh.2.out)⟩
theorem tick_from (t : Int) (B b s m : Nat) (N : Nl) (j : Nat) (hf : N.fit j) (hj : j ≤ 1000000) (w : World) (h : NF w B b s m N) :
    Calls Try.prog 26 #[.pointer (some ⟨b, 0, none⟩), .int .i64 t] w fun e w' => ∃ A3 C3, e = .returned (.slice A3 (N.q.came 1).length C3) ∧ Hid (OwnW w' w.heap.size (.slice A3 (N.q.came 1).length C3) (N.q.came 1).length (N.q.came 1)) ∧ Hid (NF w' B b s m (N.tick t) ∧ Below B w w' ∧ KeepN w w') := by
  obtain ⟨A, C, h1, h2, h3, h4, h5, h6⟩ := h
  exact (ntick_any t b s m A C j N hf hj w h1).mono fun _ _ ⟨A3, C3, e, ho, ht⟩ => ⟨A3, C3, e, ho, Lib.hid (NF.call h1 h2 h3 h4 h5 h6 ht.out)⟩
theorem has_from (k : Int) (hk : 0 ≤ k ∧ k ≤ 4294967295) (B b s m : Nat) (N : Nl) (w : World) (h : NF w B b s m N) :
    Calls Try.prog 25 #[.pointer (some ⟨b, 0, none⟩), .int .u32 k] w fun e w' => e = .returned (.bool (N.has k)) ∧ w' = w := by
  obtain ⟨A, C, h1, h2⟩ := h
  exact has_any b s m C N.asked N.full N.q.l.length A N.q N.has N.t k hk w h1
theorem len_from (B b s m : Nat) (N : Nl) (w : World) (h : NF w B b s m N) :
    Calls Try.prog 27 #[.pointer (some ⟨b, 0, none⟩)] w fun e w' => e = .returned (.int .i64 (N.q.l.length : Int)) ∧ w' = w := by
  obtain ⟨A, C, h1, h2⟩ := h
  exact nlen_any b s m C N.asked N.full N.q.l.length A N.q N.has N.t w h1
/-- The box of the document's list. -/
def DN (w : World) (k : Nat) (N : Nl) (A : Option Addr) (C : Nat) : Prop := DBx w k (N.q.room : Int) (N.asked : Int) (N.full : Int) (.slice A N.q.l.length C)
/-- The op's box. -/
def OpB (w : World) (e : Nat) (kd no tk fo : Int) : Prop := w.heap[e]? = some (Obj.cells #[.int .i64 kd, .int .u32 no, .int .i64 tk, .int .i64 fo] 67 (0, 0))
theorem OpB.cells {w : World} {e : Nat} {kd no tk fo : Int} (h : OpB w e kd no tk fo) : w.cell? ⟨e, 0, none⟩ = some (.int .i64 kd) ∧ w.cell? ⟨e, 1, none⟩ = some (.int .u32 no) ∧ w.cell? ⟨e, 2, none⟩ = some (.int .i64 tk) ∧ w.cell? ⟨e, 3, none⟩ = some (.int .i64 fo) := by
  unfold OpB at h
  simp [World.cell?, h]
theorem OpB.lt {w : World} {e : Nat} {kd no tk fo : Int} (h : OpB w e kd no tk fo) : e < w.heap.size := (Array.getElem?_eq_some_iff.1 h).1
/-- Between two calls: the code's list is N1, the document's N2. -/
structure Lo (w : World) (b s m : Nat) (N1 N2 : Nl) (A2 : Option Addr) (C2 : Nat) (W : World) : Prop where
  nf : NF W (w.heap.size + 2) b s m N1
  res : DBx W w.heap.size 0 0 0 (.slice none 0 0)
  box : DN W (w.heap.size + 1) N2 A2 C2
  dl : DL W (w.heap.size + 2) A2 N2.q.l.length C2 N2.ref
  bel : Below w.heap.size w W
  size : w.heap.size + 2 ≤ W.heap.size
structure St (w : World) (e : Nat) (kd no tk fo : Int) (b s m : Nat) (N1 N2 : Nl) (A2 : Option Addr) (C2 : Nat) (W : World) : Prop where
  lo : Lo w b s m N1 N2 A2 C2 W
  op : OpB W e kd no tk fo
  he : w.heap.size + 2 ≤ e
section
variable {w W W' : World} {e b s m : Nat} {kd no tk fo : Int} {N1 N2 N' : Nl} {A2 A3 : Option Addr} {C2 C3 : Nat}
theorem Lo.below (h : Lo w b s m N1 N2 A2 C2 W) (hb : Below W.heap.size W W') : Lo w b s m N1 N2 A2 C2 W' :=
  ⟨h.nf.below hb (Nat.le_refl _), h.res.below hb h.res.lt, DBx.below h.box hb (DBx.lt h.box), h.dl.below hb (Nat.le_refl _), h.bel.trans (hb.mono (by have := h.size; omega)), Nat.le_trans h.size hb.size⟩
theorem St.below (h : St w e kd no tk fo b s m N1 N2 A2 C2 W) (hb : Below W.heap.size W W') : St w e kd no tk fo b s m N1 N2 A2 C2 W' :=
  ⟨h.lo.below hb, (hb.block e h.op.lt).trans h.op, h.he⟩
theorem Lo.start (h : Lo w b s m N1 N2 A2 C2 W) (kd no tk fo : Int) : St w W.heap.size kd no tk fo b s m N1 N2 A2 C2 (W.alloc (.cells #[.int .i64 kd, .int .u32 no, .int .i64 tk, .int .i64 fo] 67)) :=
  ⟨h.below ((Below.refl _ _).alloc (Nat.le_refl _) _), Go.Deep.blk_alloc_new W _, h.size⟩
theorem St.code (h : St w e kd no tk fo b s m N1 N2 A2 C2 W) (ht : NF W' (w.heap.size + 2) b s m N' ∧ Below (w.heap.size + 2) W W' ∧ KeepN W W') : St w e kd no tk fo b s m N' N2 A2 C2 W' := by
  obtain ⟨h1, h2, h3⟩ := ht
  exact ⟨⟨h1, h.lo.res.below h2 (by omega), DBx.below h.lo.box h2 (by omega), h.lo.dl.keep (fun g cur _ _ hg => h3 g cur _ hg (by decide) (by decide) (by decide)), h.lo.bel.trans (h2.mono (by omega)), Nat.le_trans h.lo.size h2.size⟩, (h3 e _ _ h.op (by decide) (by decide) (by decide)).trans h.op, h.he⟩
theorem St.loads (h : St w e kd no tk fo b s m N1 N2 A2 C2 W) : (W.cell? ⟨e, 0, none⟩ = some (.int .i64 kd) ∧ W.cell? ⟨e, 1, none⟩ = some (.int .u32 no) ∧ W.cell? ⟨e, 2, none⟩ = some (.int .i64 tk) ∧ W.cell? ⟨e, 3, none⟩ = some (.int .i64 fo)) ∧
    W.cell? ⟨w.heap.size + 1, 0, none⟩ = some (.int .i64 (N2.q.room : Int)) ∧ W.cell? ⟨w.heap.size + 1, 1, none⟩ = some (.int .i64 (N2.asked : Int)) ∧ W.cell? ⟨w.heap.size + 1, 2, none⟩ = some (.int .i64 (N2.full : Int)) ∧ W.cell? ⟨w.heap.size + 1, 3, none⟩ = some (.slice A2 N2.q.l.length C2) := ⟨h.op.cells, DBx.cells h.lo.box⟩
/-- The document's box is written. -/
def wr4 (W : World) (k : Nat) (N : Nl) (A : Option Addr) (C : Nat) : World := (((W.setCell ⟨k, 0, none⟩ (.int .i64 (N.q.room : Int))).setCell ⟨k, 1, none⟩ (.int .i64 (N.asked : Int))).setCell ⟨k, 2, none⟩ (.int .i64 (N.full : Int))).setCell ⟨k, 3, none⟩ (.slice A N.q.l.length C)
theorem wr4_far (W : World) (k : Nat) (N : Nl) (A : Option Addr) (C : Nat) (i : Nat) (h : i ≠ k) : (wr4 W k N A C).heap[i]? = W.heap[i]? := four_far _ _ _ _ _ _ i h
theorem wr4_box {r a f : Int} {v : Value} {k : Nat} (h : DBx W k r a f v) (N : Nl) (A : Option Addr) (C : Nat) : DN (wr4 W k N A C) k N A C := by
  unfold DN wr4 DBx at *
  simp [World.setCell, Array.getElem?_modify, h]
theorem St.write (h : St w e kd no tk fo b s m N1 N2 A2 C2 W) (N : Nl) (hd : DL W (w.heap.size + 2) A3 N.q.l.length C3 N.ref) : St w e kd no tk fo b s m N1 N A3 C3 (wr4 W (w.heap.size + 1) N A3 C3) := by
  have hk : ∀ i, i ≠ w.heap.size + 1 → (wr4 W (w.heap.size + 1) N A3 C3).heap[i]? = W.heap[i]? := fun i hi => wr4_far W _ N A3 C3 i hi
  have hsz : (wr4 W (w.heap.size + 1) N A3 C3).heap.size = W.heap.size := by unfold wr4; simp
  have hhe := h.he
  obtain ⟨A, C, n1, n2, n3, n4, n5, n6⟩ := h.lo.nf
  refine ⟨⟨⟨A, C, NB.keep n1 (hk b (by omega)) (hk s (by omega)) (hk m (by omega)) (fun g hg => hk g (by have := n6 g hg; omega)), n2, n3, n4, by rw [hsz]; exact n5, n6⟩, h.lo.res.keep (hk _ (by omega)), wr4_box h.lo.box N A3 C3, hd.keep (fun g _ _ hg _ => hk g (by omega)), four_below h.lo.bel _ (Nat.le_succ _) _ _ _ _, by rw [hsz]; exact h.lo.size⟩, (hk e (by omega)).trans h.op, h.he⟩
/-- With the document's next list in a box of its own. -/
structure Sp (w : World) (e : Nat) (kd no tk fo : Int) (b s m : Nat) (N1 N2 N' : Nl) (A2 : Option Addr) (C2 : Nat) (A3 : Option Addr) (C3 f : Nat) (W : World) : Prop where
  st : St w e kd no tk fo b s m N1 N2 A2 C2 W
  new : DN W f N' A3 C3
  dl : DL W (w.heap.size + 2) A3 N'.q.l.length C3 N'.ref
theorem St.spare (h : St w e kd no tk fo b s m N1 N2 A2 C2 W) (N' : Nl) (hd : DL W (w.heap.size + 2) A3 N'.q.l.length C3 N'.ref) :
    Sp w e kd no tk fo b s m N1 N2 N' A2 C2 A3 C3 W.heap.size (W.alloc (.cells #[.int .i64 (N'.q.room : Int), .int .i64 (N'.asked : Int), .int .i64 (N'.full : Int), .slice A3 N'.q.l.length C3] 62)) :=
  have hb : Below W.heap.size W (W.alloc (.cells #[.int .i64 (N'.q.room : Int), .int .i64 (N'.asked : Int), .int .i64 (N'.full : Int), .slice A3 N'.q.l.length C3] 62)) := (Below.refl _ _).alloc (Nat.le_refl _) _
  ⟨h.below hb, DBx.new W _ _ _ _, hd.below hb (Nat.le_refl _)⟩
theorem Sp.below {f : Nat} (h : Sp w e kd no tk fo b s m N1 N2 N' A2 C2 A3 C3 f W) (hb : Below W.heap.size W W') : Sp w e kd no tk fo b s m N1 N2 N' A2 C2 A3 C3 f W' :=
  ⟨h.st.below hb, DBx.below h.new hb (DBx.lt h.new), h.dl.below hb (Nat.le_refl _)⟩
theorem Sp.code {f : Nat} {N3 : Nl} (h : Sp w e kd no tk fo b s m N1 N2 N' A2 C2 A3 C3 f W) (ht : NF W' (w.heap.size + 2) b s m N3 ∧ Below (w.heap.size + 2) W W' ∧ KeepN W W') : Sp w e kd no tk fo b s m N3 N2 N' A2 C2 A3 C3 f W' :=
  ⟨h.st.code ht, DBx.keep h.new (ht.2.2 f _ _ h.new (by decide) (by decide) (by decide)), h.dl.keep (fun g cur _ _ hg => ht.2.2 g cur _ hg (by decide) (by decide) (by decide))⟩
theorem Sp.done {f : Nat} (h : Sp w e kd no tk fo b s m N1 N2 N' A2 C2 A3 C3 f W) : St w e kd no tk fo b s m N1 N' A3 C3 (wr4 W (w.heap.size + 1) N' A3 C3) := h.st.write N' h.dl
-- the calls
variable {j : Nat}
theorem wait_st (hno : 0 ≤ no ∧ no ≤ 4294967295) (hf : N1.fit j) (hj : j ≤ 1000000) (h : St w e kd no tk fo b s m N1 N2 A2 C2 W) :
    Calls Try.prog 24 #[.pointer (some ⟨b, 0, none⟩), .int .u32 no, .int .i64 tk] W fun x W' => x = .returned (.tuple #[]) ∧ Hid (St w e kd no tk fo b s m (N1.wait no tk) N2 A2 C2 W') :=
  (wait_from no tk hno _ b s m N1 j hf hj W h.lo.nf).mono fun _ _ hh => ⟨hh.1, Lib.hid (h.code hh.2.out)⟩
theorem rwait_st (hf : N2.fit j) (hj : j ≤ 1000000) (h : St w e kd no tk fo b s m N1 N2 A2 C2 W) :
    Calls Try.prog 54 #[NV N2 A2 C2, .int .u32 no, .int .i64 tk] W fun x W' => ∃ A3 C3, x = .returned (NV (N2.wait no tk) A3 C3) ∧ Hid (DN W' (w.heap.size + 1) N2 A2 C2) ∧ Hid (St w e kd no tk fo b s m N1 (N2.wait no tk) A3 C3 (wr4 W' (w.heap.size + 1) (N2.wait no tk) A3 C3)) :=
  (rnwait_any no tk N2 j hf hj (w.heap.size + 2) A2 C2 W h.lo.size h.lo.dl).mono fun _ _ ⟨A3, C3, e1, h1, h2⟩ => ⟨A3, C3, e1, Lib.hid (h.below h2.out).lo.box, Lib.hid ((h.below h2.out).write _ h1.out)⟩
theorem stop_st (hno : 0 ≤ no ∧ no ≤ 4294967295) (hf : N1.fit j) (h : St w e kd no tk fo b s m N1 N2 A2 C2 W) :
    Calls Try.prog 28 #[.pointer (some ⟨b, 0, none⟩), .int .u32 no] W fun x W' => x = .returned (.tuple #[]) ∧ Hid (St w e kd no tk fo b s m (N1.stop no) N2 A2 C2 W') :=
  (stop_from no hno _ b s m N1 j hf W h.lo.nf).mono fun _ _ hh => ⟨hh.1, Lib.hid (h.code hh.2.out)⟩
theorem rstop_st (hf : N2.fit j) (h : St w e kd no tk fo b s m N1 N2 A2 C2 W) :
    Calls Try.prog 55 #[NV N2 A2 C2, .int .u32 no] W fun x W' => ∃ A3 C3, x = .returned (NV (N2.stop no) A3 C3) ∧ Hid (DN W' (w.heap.size + 1) N2 A2 C2) ∧ Hid (St w e kd no tk fo b s m N1 (N2.stop no) A3 C3 (wr4 W' (w.heap.size + 1) (N2.stop no) A3 C3)) :=
  (rnstop_any no N2 j hf (w.heap.size + 2) A2 C2 W h.lo.size h.lo.dl).mono fun _ _ ⟨A3, C3, e1, h1, h2⟩ => ⟨A3, C3, e1, Lib.hid (h.below h2.out).lo.box, Lib.hid ((h.below h2.out).write _ h1.out)⟩
def Nl.cut (N : Nl) (no : Int) : Nl := N.strike (fun z => decide (behindZ z no < 0))
theorem rbelow_st (hno : 0 ≤ no ∧ no ≤ 4294967295) (hf : N2.fit j) (h : St w e kd no tk fo b s m N1 N2 A2 C2 W) :
    Calls Try.prog 56 #[NV N2 A2 C2, .int .u32 no] W fun x W' => ∃ A3 C3, x = .returned (.tuple #[NV (N2.cut no) A3 C3, .int .i64 ((N2.q.l.length : Int) - ((N2.cut no).q.l.length : Int))]) ∧ Hid (Sp w e kd no tk fo b s m N1 N2 (N2.cut no) A2 C2 A3 C3 W'.heap.size (W'.alloc (.cells #[.int .i64 ((N2.cut no).q.room : Int), .int .i64 ((N2.cut no).asked : Int), .int .i64 ((N2.cut no).full : Int), .slice A3 (N2.cut no).q.l.length C3] 62))) :=
  (rnbelow_any no hno N2 j hf (w.heap.size + 2) A2 C2 W h.lo.size h.lo.dl).mono fun _ _ ⟨A3, C3, e1, h1, h2⟩ => ⟨A3, C3, e1, Lib.hid ((h.below h2.out).spare _ h1.out)⟩
theorem below_sp {f : Nat} (hno : 0 ≤ no ∧ no ≤ 4294967295) (hf : N1.fit j) (hj : j ≤ 1000000) (h : Sp w e kd no tk fo b s m N1 N2 N' A2 C2 A3 C3 f W) :
    Calls Try.prog 57 #[.pointer (some ⟨b, 0, none⟩), .int .u32 no] W fun x W' => x = .returned (.int .i64 ((N1.q.l.length : Int) - ((N1.cut no).q.l.length : Int))) ∧ Hid (Sp w e kd no tk fo b s m (N1.cut no) N2 N' A2 C2 A3 C3 f W') :=
  (below_from no hno _ b s m N1 j hf hj W h.st.lo.nf).mono fun _ _ hh => ⟨hh.1, Lib.hid (h.code hh.2.out)⟩
theorem rtick_st (hf : N2.fit j) (hj : j ≤ 1000000) (h : St w e kd no tk fo b s m N1 N2 A2 C2 W) :
    Calls Try.prog 58 #[NV N2 A2 C2, .int .i64 tk] W fun x W' => ∃ A3 C3 A9 C9, x = .returned (.tuple #[NV (N2.tick tk) A3 C3, .slice A9 (N2.q.came 1).length C9]) ∧ Hid (Sp w e kd no tk fo b s m N1 N2 (N2.tick tk) A2 C2 A3 C3 W'.heap.size (W'.alloc (.cells #[.int .i64 ((N2.tick tk).q.room : Int), .int .i64 ((N2.tick tk).asked : Int), .int .i64 ((N2.tick tk).full : Int), .slice A3 (N2.tick tk).q.l.length C3] 62)) ∧ OwnW (W'.alloc (.cells #[.int .i64 ((N2.tick tk).q.room : Int), .int .i64 ((N2.tick tk).asked : Int), .int .i64 ((N2.tick tk).full : Int), .slice A3 (N2.tick tk).q.l.length C3] 62)) 0 (.slice A9 (N2.q.came 1).length C9) (N2.q.came 1).length (N2.q.came 1)) :=
  (rntick_any tk N2 j hf hj (w.heap.size + 2) A2 C2 W h.lo.size h.lo.dl).mono fun _ _ ⟨A3, C3, A9, C9, e1, h1, h2, h3⟩ => ⟨A3, C3, A9, C9, e1, Lib.hid ⟨(h.below h3.out).spare _ h1.out, (OwnW.low h2.out (Nat.zero_le _)).below ((Below.refl _ _).alloc (Nat.le_refl _) _) (Nat.le_refl _)⟩⟩
theorem tick_sp {f n9 C9 : Nat} {A9 : Option Addr} {L : List Int} (hf : N1.fit j) (hj : j ≤ 1000000) (h : Sp w e kd no tk fo b s m N1 N2 N' A2 C2 A3 C3 f W) (ho : OwnW W 0 (.slice A9 n9 C9) n9 L) :
    Calls Try.prog 26 #[.pointer (some ⟨b, 0, none⟩), .int .i64 tk] W fun x W' => ∃ A8 C8, x = .returned (.slice A8 (N1.q.came 1).length C8) ∧ Hid (Sp w e kd no tk fo b s m (N1.tick tk) N2 N' A2 C2 A3 C3 f W') ∧ Hid (OwnW W' 0 (.slice A8 (N1.q.came 1).length C8) (N1.q.came 1).length (N1.q.came 1) ∧ OwnW W' 0 (.slice A9 n9 C9) n9 L) :=
  (tick_from tk _ b s m N1 j hf hj W h.st.lo.nf).mono fun _ _ ⟨A8, C8, e1, h1, h2⟩ => ⟨A8, C8, e1, Lib.hid (h.code h2.out), Lib.hid ⟨OwnW.low h1.out (Nat.zero_le _), ho.typ (fun k cur hk => h2.out.2.2 k cur _ hk (by decide) (by decide) (by decide))⟩⟩
theorem same_st (hf : N2.fit j) (hj : j ≤ 1000000) (h : St w e kd no tk fo b s m N2 N2 A2 C2 W) :
    Calls Try.prog 60 #[.pointer (some ⟨b, 0, none⟩), NV N2 A2 C2] W fun x W' => x = .returned (.bool true) ∧ St w e kd no tk fo b s m N2 N2 A2 C2 W' := by
  obtain ⟨A, C, h1, _⟩ := h.lo.nf
  exact (same19_any b s m A C j N2 hf hj (w.heap.size + 2) A2 C2 W h1 h.lo.dl).mono fun _ _ hh => ⟨hh.1, h.below hh.2⟩
theorem has_st (hno : 0 ≤ no ∧ no ≤ 4294967295) (h : St w e kd no tk fo b s m N2 N2 A2 C2 W) :
    Calls Try.prog 25 #[.pointer (some ⟨b, 0, none⟩), .int .u32 no] W fun x W' => x = .returned (.bool (N2.has no)) ∧ St w e kd no tk fo b s m N2 N2 A2 C2 W' :=
  (has_from no hno _ b s m N2 W h.lo.nf).mono fun _ _ hh => ⟨hh.1, by rw [hh.2]; exact h⟩
theorem rhas_st (hf : N2.fit j) (h : St w e kd no tk fo b s m N2 N2 A2 C2 W) :
    Calls Try.prog 23 #[NV N2 A2 C2, .int .u32 no] W fun x W' => x = .returned (.bool (N2.has no)) ∧ St w e kd no tk fo b s m N2 N2 A2 C2 W' :=
  (rnhas_any no N2 j hf (w.heap.size + 2) A2 C2 W h.lo.dl).mono fun _ _ hh => ⟨hh.1, h.below hh.2⟩
end
end Go.Proofs.Ytnffngbkidehfaa.Nk
