/-
  Own text: Wait, Score, Better, walked.
    Better, Need, walked.
    Need, walked.
    the document's Mark and Trip, walked.
  Own text: the document's Trip, walked.
    the document's Wait, Score, Need; the law's Same, walked.
  Own text: layer 16 (redund): the code's and the document's targets, New, Next, walked.
  Own text: layer 16 (redund): a control's block; New, the code's and the document's Next, walked.
  Own text: layer 17 (group): a group as the document's, groups alike; New, and how many there are, walked.
  Own text: the document's Same, walked.
-/
import Derived.Test.YtjcbcdjfhcnhcaaK14
import Derived.Test.YtjcbcdjfhcnhcaaK01
import Derived.Deep.DeepCutAuto
import Derived.WalkKit
import Derived.ProofKit
import Derived.Below
namespace Go.Proofs.Ytjcbcdjfhcnhcaa
open Go.RowKit

/-- A box that is new. -/
theorem Blk13.box (w : World) (s : Sk) (t : TypeId) {W : World} (hW : W = w.alloc (.cells #[.int .i64 s.lo, .int .i64 s.rt, .int .i64 s.va, .int .i64 s.ma, .int .i64 s.tr] t)) :
    Below w.heap.size w W ∧ ∀ w', Below W.heap.size W w' → Blk13 t w' w.heap.size s := by
  have hk : Blk13 t W w.heap.size s := by rw [hW]; exact Blk13.new w s t
  exact ⟨by rw [hW]; exact (Below.refl _ _).alloc (Nat.le_refl _) _, fun w' h => hk.below h hk.lt⟩
end Go.Proofs.Ytjcbcdjfhcnhcaa
namespace Go.Proofs.Ytjcbcdjfhcnhcaa
open Go.RowKit

/-- Two boxes that are new. -/
theorem Blk13.two (w : World) (s s' : Sk) (t t' : TypeId) {W : World} (hW : W = (w.alloc (.cells #[.int .i64 s.lo, .int .i64 s.rt, .int .i64 s.va, .int .i64 s.ma, .int .i64 s.tr] t)).alloc (.cells #[.int .i64 s'.lo, .int .i64 s'.rt, .int .i64 s'.va, .int .i64 s'.ma, .int .i64 s'.tr] t')) :
    Below w.heap.size w W ∧ ∀ w', Below W.heap.size W w' → Blk13 t w' w.heap.size s ∧ Blk13 t' w' (w.heap.size + 1) s' := by
  obtain ⟨hb, hx⟩ := Blk13.box w s t rfl
  obtain ⟨hb', hx'⟩ := Blk13.box _ s' t' hW
  have hz : w.heap.size + 1 = (w.alloc (.cells #[.int .i64 s.lo, .int .i64 s.rt, .int .i64 s.va, .int .i64 s.ma, .int .i64 s.tr] t)).heap.size := by simp
  have h0 := hx _ hb'
  rw [hz]
  exact ⟨hb.trans (hb'.mono hb.size), fun w' h => ⟨h0.below h (Nat.lt_of_lt_of_le (by omega) hb'.size), hx' w' h⟩⟩
end Go.Proofs.Ytjcbcdjfhcnhcaa
namespace Go.Proofs.Ytjcbcdjfhcnhcaa
open Go.RowKit

end Go.Proofs.Ytjcbcdjfhcnhcaa
namespace Go.Proofs.Ytjcbcdjfhcnhcaa
open Go.RowKit

end Go.Proofs.Ytjcbcdjfhcnhcaa
namespace Go.Proofs.Ytjcbcdjfhcnhcaa
open Go.RowKit

end Go.Proofs.Ytjcbcdjfhcnhcaa
namespace Go.Proofs.Ytjcbcdjfhcnhcaa
open Go.RowKit

end Go.Proofs.Ytjcbcdjfhcnhcaa
namespace Go.Proofs.Ytjcbcdjfhcnhcaa
open Go.RowKit

end Go.Proofs.Ytjcbcdjfhcnhcaa
namespace Go.Proofs.Ytjcbcdjfhcnhcaa
open Go.RowKit

/-- A control's block. -/
def Blk16 (t : TypeId) (w : World) (b : Nat) (c : Cn) : Prop := w.heap[b]? = some (.cells #[.int .i64 c.now, .int .i64 c.most, .int .i64 c.calm] t (0, 0))
/-- A control by value. -/
def CV (c : Cn) : Value := .agg #[.int .i64 c.now, .int .i64 c.most, .int .i64 c.calm]
section
variable {t : TypeId} {w : World} {b : Nat} {c : Cn}
theorem Blk16.lt (h : Blk16 t w b c) : b < w.heap.size := (Array.getElem?_eq_some_iff.1 h).1
theorem Blk16.cells (h : Blk16 t w b c) : w.cell? ⟨b, 0, none⟩ = some (.int .i64 c.now) ∧ w.cell? ⟨b, 1, none⟩ = some (.int .i64 c.most) ∧ w.cell? ⟨b, 2, none⟩ = some (.int .i64 c.calm) := by
  unfold Blk16 at h
  simp [World.cell?, h]
theorem Blk16.frozen (h : Blk16 t w b c) (i : Nat) : w.frozen? ⟨b, i, none⟩ = false := by
  unfold Blk16 at h
  simp [World.frozen?, h]
theorem Blk16.keep {w' : World} (h : Blk16 t w b c) (e : w'.heap[b]? = w.heap[b]?) : Blk16 t w' b c := e.trans h
theorem Blk16.below {w' : World} {B : Nat} (h : Blk16 t w b c) (hb : Below B w w') (hB : b < B) : Blk16 t w' b c := h.keep (hb.block b hB)
theorem Blk16.set0 (h : Blk16 t w b c) (n : Int) : Blk16 t (w.setCell ⟨b, 0, none⟩ (.int .i64 n)) b ⟨n, c.most, c.calm⟩ := by
  unfold Blk16 at *
  simp [World.setCell, Array.getElem?_modify, h]
theorem Blk16.other (h : Blk16 t w b c) {p : Addr} (hp : b ≠ p.block) (u : Value) : Blk16 t (w.setCell p u) b c := h.keep (Below.heap_setCell w p u b hp)
theorem Blk16.new (w : World) (c : Cn) (t : TypeId) : Blk16 t (w.alloc (.cells #[.int .i64 c.now, .int .i64 c.most, .int .i64 c.calm] t)) w.heap.size c := Go.Deep.blk_alloc_new w _
end
/-- A box that is new. -/
theorem Blk16.box (w : World) (c : Cn) (t : TypeId) {W : World} (hW : W = w.alloc (.cells #[.int .i64 c.now, .int .i64 c.most, .int .i64 c.calm] t)) :
    Below w.heap.size w W ∧ ∀ w', Below W.heap.size W w' → Blk16 t w' w.heap.size c := by
  have hk : Blk16 t W w.heap.size c := by rw [hW]; exact Blk16.new w c t
  exact ⟨by rw [hW]; exact (Below.refl _ _).alloc (Nat.le_refl _) _, fun w' h => hk.below h hk.lt⟩
end Go.Proofs.Ytjcbcdjfhcnhcaa
namespace Go.Proofs.Ytjcbcdjfhcnhcaa
open Go.RowKit

/-- A builder's block: eight cells. -/
def B8 (w : World) (b : Nat) (t : Nat) (size age : Int) (c : Nat) (v : Value) (old frames groups : Int) : Prop :=
  w.heap[b]? = some (.cells #[.pointer (some ⟨t, 0, none⟩), .int .i64 size, .int .i64 age, .pointer (some ⟨c, 0, none⟩), v, .int .i64 old, .int .i64 frames, .int .i64 groups] 133 (0, 0))
section
variable {w : World} {b t c : Nat} {size age old frames groups : Int} {v : Value}
theorem B8.lt (h : B8 w b t size age c v old frames groups) : b < w.heap.size := (Array.getElem?_eq_some_iff.1 h).1
theorem B8.cells (h : B8 w b t size age c v old frames groups) : w.cell? ⟨b, 0, none⟩ = some (.pointer (some ⟨t, 0, none⟩)) ∧ w.cell? ⟨b, 1, none⟩ = some (.int .i64 size) ∧ w.cell? ⟨b, 2, none⟩ = some (.int .i64 age) ∧ w.cell? ⟨b, 3, none⟩ = some (.pointer (some ⟨c, 0, none⟩)) ∧ w.cell? ⟨b, 4, none⟩ = some v ∧ w.cell? ⟨b, 5, none⟩ = some (.int .i64 old) ∧ w.cell? ⟨b, 6, none⟩ = some (.int .i64 frames) ∧ w.cell? ⟨b, 7, none⟩ = some (.int .i64 groups) := by
  unfold B8 at h
  simp [World.cell?, h]
theorem B8.frozen (h : B8 w b t size age c v old frames groups) (i : Nat) : w.frozen? ⟨b, i, none⟩ = false := by
  unfold B8 at h
  simp [World.frozen?, h]
theorem B8.keep {w' : World} (h : B8 w b t size age c v old frames groups) (e : w'.heap[b]? = w.heap[b]?) : B8 w' b t size age c v old frames groups := e.trans h
theorem B8.below {w' : World} {B : Nat} (h : B8 w b t size age c v old frames groups) (hb : Below B w w') (hB : b < B) : B8 w' b t size age c v old frames groups := h.keep (hb.block b hB)
theorem B8.set4 (h : B8 w b t size age c v old frames groups) (u : Value) : B8 (w.setCell ⟨b, 4, none⟩ u) b t size age c u old frames groups := by
  unfold B8 at *
  simp [World.setCell, Array.getElem?_modify, h]
end
/-- A group in plain numbers: of what inputs, how many shards besides. -/
structure Gd where
  no : Int
  fst : Int
  m : Nat
  z : List Int
/-- How many shards it has. -/
def Gd.n (g : Gd) : Nat := g.z.length + g.m
/-- A group as a value. -/
@[reducible] def Gd.val (g : Gd) (A : Option Addr) (C : Nat) : Value := .agg #[.int .u32 g.no, .int .u32 g.fst, .int .i64 (g.z.length : Nat), .int .i64 (g.m : Nat), .slice A g.n C]
/-- None. -/
def Gd.zero : Gd := ⟨0, 0, 0, []⟩
/-- A builder in plain numbers. -/
structure Bd where
  size : Nat
  age : Nat
  ctl : Cn
  old : Nat
  frames : Nat
  groups : Nat
  z : List Int
/-- What waits is closed. -/
def Bd.close (S : Bd) (loss : Int) : Bd × Gd :=
  (⟨S.size, S.age, S.ctl.next (S.z.length : Nat) loss, 0, S.frames, S.groups + 1, []⟩, ⟨(S.groups : Nat), ((S.frames - S.z.length : Nat) : Int), (S.ctl.next (S.z.length : Nat) loss).now.toNat, S.z⟩)
/-- One more waits. -/
def Bd.came (S : Bd) (i : Int) : Bd := ⟨S.size, S.age, S.ctl, S.old, S.frames + 1, S.groups, S.z ++ [i]⟩
def Bd.add (S : Bd) (i loss : Int) : Bd × Gd × Bool :=
  if S.z.length + 1 < S.size then (S.came i, Gd.zero, false) else (((S.came i).close loss).1, ((S.came i).close loss).2, true)
/-- A tick more. -/
def Bd.older (S : Bd) : Bd := ⟨S.size, S.age, S.ctl, S.old + 1, S.frames, S.groups, S.z⟩
def Bd.tick (S : Bd) (loss : Int) : Bd × Gd × Bool :=
  if S.z.length = 0 then (S, Gd.zero, false) else if S.old + 1 < S.age then (S.older, Gd.zero, false) else ((S.older.close loss).1, (S.older.close loss).2, true)
/-- Between two calls; so many calls were made. -/
structure Bd.ok (S : Bd) (k : Nat) : Prop where
  s0 : 1 ≤ S.size
  s1 : S.size ≤ 16
  a1 : S.age ≤ 4096
  ctl : S.ctl.ok
  old : S.old < S.age
  wait : S.z.length < S.size
  frames : S.frames ≤ k
  front : S.z.length ≤ S.frames
  groups : S.groups ≤ k
  vals : ∀ z ∈ S.z, 0 ≤ z ∧ z ≤ 65535
end Go.Proofs.Ytjcbcdjfhcnhcaa
namespace Go.Proofs.Ytjcbcdjfhcnhcaa
open Go.RowKit

/-- Are two lists the same? -/
def sameB (x y : List Int) : Bool := decide (x = y)
end Go.Proofs.Ytjcbcdjfhcnhcaa
