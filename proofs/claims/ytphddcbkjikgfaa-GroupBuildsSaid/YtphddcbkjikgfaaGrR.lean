/-
  Own text: layer 17 (group): both builders side by side.
-/
import Derived.Test.YtphddcbkjikgfaaGrL
import Derived.Test.YtphddcbkjikgfaaGrN
import Derived.Test.YtphddcbkjikgfaaGrQ
namespace Go.Proofs.Ytphddcbkjikgfaa
open Go.RowKit

theorem Bd.tick_frames (S : Bd) (loss : Int) : (S.tick loss).1.frames = S.frames := by
  unfold Bd.tick
  split
  · rfl
  · split <;> rfl
theorem Bd.add_frames (S : Bd) (i loss : Int) : (S.add i loss).1.frames = S.frames + 1 := by
  unfold Bd.add
  split <;> rfl
theorem Bd.close_n {S : Bd} (h1 : S.z.length ≤ 16) (hk : S.ctl.ok) (loss : Int) : (S.close loss).2.n ≤ 1000 := by
  have h2 := Cn.next_ok hk (S.z.length : Nat) loss
  have h3 := h2.n1
  have h4 := h2.m1
  show S.z.length + (S.ctl.next (S.z.length : Nat) loss).now.toNat ≤ 1000
  omega
theorem Bd.tick_n {S : Bd} {k : Nat} (h : S.ok k) (loss : Int) : (S.tick loss).2.1.n ≤ 1000 := by
  unfold Bd.tick
  split
  · exact Nat.zero_le _
  · split
    · exact Nat.zero_le _
    · exact Bd.close_n (S := S.older) (by have := h.wait; have := h.s1; show S.z.length ≤ 16; omega) h.ctl loss
theorem Bd.add_n {S : Bd} {k : Nat} (h : S.ok k) (i loss : Int) : (S.add i loss).2.1.n ≤ 1000 := by
  unfold Bd.add
  split
  · exact Nat.zero_le _
  · exact Bd.close_n (S := S.came i) (by have := h.wait; have := h.s1; show (S.z ++ [i]).length ≤ 16; simp; omega) h.ctl loss
/-- The document's builder in its box. -/
def D9 (W : World) (p : Nat) (S : Bd) (A : Option Addr) (C : Nat) : Prop := B9 66 W p (.int .i64 S.ctl.now) (.int .i64 S.ctl.most) (.int .i64 S.ctl.calm) (.int .i64 (S.size : Nat)) (.int .i64 (S.age : Nat)) (.int .i64 (S.old : Nat)) (.int .u32 (S.groups : Nat)) (.int .u32 ((S.frames - S.z.length : Nat) : Int)) (.slice A S.z.length C)
/-- A group in a box. -/
def D5 (t : TypeId) (W : World) (p : Nat) (g : Gd) (A : Option Addr) (C : Nat) : Prop := B5 t W p (.int .u32 g.no) (.int .u32 g.fst) (.int .i64 (g.z.length : Nat)) (.int .i64 (g.m : Nat)) (.slice A g.n C)
/-- No block bears both. -/
def Apart (v v' : Value) : Prop := ∀ q, v.ownBlock = some q → v'.ownBlock = some q → False
/-- Between two rounds, in a law's call that began at w. -/
structure Pl17 (w : World) (b c t p : Nat) (A : Option Addr) (C : Nat) (A2 : Option Addr) (C2 : Nat) (S : Bd) (W : World) : Prop where
  code : BSt W w.heap.size b c t A C S
  box : D9 W p S A2 C2
  doc : OwnU W w.heap.size (.slice A2 S.z.length C2) S.z.length S.z
  ap : Apart (.slice A S.z.length C) (.slice A2 S.z.length C2)
  hp : w.heap.size ≤ p
  bel : Below w.heap.size w W
theorem Pl17.below {w : World} {b c t p : Nat} {A : Option Addr} {C : Nat} {A2 : Option Addr} {C2 : Nat} {S : Bd} {W W' : World} (h : Pl17 w b c t p A C A2 C2 S W) (hb : Below W.heap.size W W') : Pl17 w b c t p A C A2 C2 S W' :=
  ⟨h.code.below hb (Nat.le_refl _), B9.below h.box hb (B9.lt h.box), h.doc.below hb (Nat.le_refl _), h.ap, h.hp, h.bel.trans (hb.mono h.bel.size)⟩
/-- The document has answered: in the boxes x, y. -/
structure Mid17 (w : World) (b c t p x y : Nat) (A : Option Addr) (C : Nat) (A2 : Option Addr) (C2 : Nat) (S : Bd) (r : Bd × Gd × Bool) (A3 : Option Addr) (C3 : Nat) (A4 : Option Addr) (C4 : Nat) (W : World) : Prop where
  pl : Pl17 w b c t p A C A2 C2 S W
  x9 : D9 W x r.1 A3 C3
  y5 : D5 34 W y r.2.1 A4 C4
  sh : Shs W w.heap.size (.slice A4 r.2.1.n C4) r.2.1.n (G17 r.2.1.z r.2.1.z.length)
  doc : OwnU W w.heap.size (.slice A3 r.1.z.length C3) r.1.z.length r.1.z
  ap : Apart (.slice A S.z.length C) (.slice A3 r.1.z.length C3)
  hx : w.heap.size ≤ x
  hy : w.heap.size ≤ y
  xp : x ≠ p
theorem Mid17.below {w : World} {b c t p x y : Nat} {A : Option Addr} {C : Nat} {A2 : Option Addr} {C2 : Nat} {S : Bd} {r : Bd × Gd × Bool} {A3 : Option Addr} {C3 : Nat} {A4 : Option Addr} {C4 : Nat} {W W' : World} (h : Mid17 w b c t p x y A C A2 C2 S r A3 C3 A4 C4 W) (hb : Below W.heap.size W W') : Mid17 w b c t p x y A C A2 C2 S r A3 C3 A4 C4 W' :=
  ⟨h.pl.below hb, B9.below h.x9 hb (B9.lt h.x9), B5.below h.y5 hb (B5.lt h.y5), h.sh.below hb (Nat.le_refl _), h.doc.below hb (Nat.le_refl _), h.ap, h.hx, h.hy, h.xp⟩
/-- The document's first answer of a round, in two boxes that are new. -/
theorem Pl17.asked {w : World} {b c t p : Nat} {A : Option Addr} {C : Nat} {A2 : Option Addr} {C2 : Nat} {S : Bd} {W w2 W3 : World} {r : Bd × Gd × Bool} {A3 : Option Addr} {C3 : Nat} {A4 : Option Addr} {C4 : Nat} (h : Pl17 w b c t p A C A2 C2 S W)
    (hs : Shs w2 W.heap.size (.slice A4 r.2.1.n C4) r.2.1.n (G17 r.2.1.z r.2.1.z.length)) (ho : OwnU w2 w.heap.size (.slice A3 r.1.z.length C3) r.1.z.length r.1.z) (hf : ∀ q, (Value.slice A3 r.1.z.length C3).ownBlock = some q → (Value.slice A2 S.z.length C2).ownBlock = some q ∨ W.heap.size ≤ q) (hb : Below W.heap.size W w2)
    (hb3 : Below w2.heap.size w2 W3) {x y : Nat} (hx : w2.heap.size ≤ x) (hy : w2.heap.size ≤ y) (x9 : D9 W3 x r.1 A3 C3) (y5 : D5 34 W3 y r.2.1 A4 C4) : Mid17 w b c t p x y A C A2 C2 S r A3 C3 A4 C4 W3 := by
  have hwz := h.bel.size
  have hz := hb.size
  have hpl := B9.lt h.box
  refine ⟨(h.below hb).below hb3, x9, y5, (hs.low hwz).below hb3 (Nat.le_refl _), ho.below hb3 (Nat.le_refl _), fun q e1 e2 => ?_, by omega, by omega, by omega⟩
  rcases hf q e2 with h1 | h1
  · exact h.ap q e1 h1
  · have := (h.code.row.lt q e1).2
    omega
/-- The document's second answer of a round, put into the same boxes. -/
theorem Mid17.again {w : World} {b c t p x y : Nat} {A : Option Addr} {C : Nat} {A2 : Option Addr} {C2 : Nat} {S : Bd} {r0 : Bd × Gd × Bool} {A5 : Option Addr} {C5 : Nat} {A6 : Option Addr} {C6 : Nat} {W w2 : World} {r : Bd × Gd × Bool} {A3 : Option Addr} {C3 : Nat} {A4 : Option Addr} {C4 : Nat} (h : Mid17 w b c t p x y A C A2 C2 S r0 A5 C5 A6 C6 W)
    (hs : Shs w2 W.heap.size (.slice A4 r.2.1.n C4) r.2.1.n (G17 r.2.1.z r.2.1.z.length)) (ho : OwnU w2 w.heap.size (.slice A3 r.1.z.length C3) r.1.z.length r.1.z) (hf : ∀ q, (Value.slice A3 r.1.z.length C3).ownBlock = some q → (Value.slice A2 S.z.length C2).ownBlock = some q ∨ W.heap.size ≤ q) (hb : Below W.heap.size W w2) {W3 : World}
    (hW : W3 = (((((put9 w2 x (.int .i64 r.1.ctl.now) (.int .i64 r.1.ctl.most) (.int .i64 r.1.ctl.calm) (.int .i64 (r.1.size : Nat)) (.int .i64 (r.1.age : Nat)) (.int .i64 (r.1.old : Nat)) (.int .u32 (r.1.groups : Nat)) (.int .u32 ((r.1.frames - r.1.z.length : Nat) : Int)) (.slice A3 r.1.z.length C3)).setCell ⟨y, 0, none⟩ (.int .u32 r.2.1.no)).setCell ⟨y, 1, none⟩ (.int .u32 r.2.1.fst)).setCell ⟨y, 2, none⟩ (.int .i64 (r.2.1.z.length : Nat))).setCell ⟨y, 3, none⟩ (.int .i64 (r.2.1.m : Nat))).setCell ⟨y, 4, none⟩ (.slice A4 r.2.1.n C4)) :
    Mid17 w b c t p x y A C A2 C2 S r A3 C3 A4 C4 W3 := by
  subst hW
  have h2 := h.below hb
  have hyx : y ≠ x := two_types h2.y5 h2.x9 (by decide)
  have hyp : p ≠ y := two_types h2.pl.box h2.y5 (by decide)
  have y2 : D5 34 (put9 w2 x (.int .i64 r.1.ctl.now) (.int .i64 r.1.ctl.most) (.int .i64 r.1.ctl.calm) (.int .i64 (r.1.size : Nat)) (.int .i64 (r.1.age : Nat)) (.int .i64 (r.1.old : Nat)) (.int .u32 (r.1.groups : Nat)) (.int .u32 ((r.1.frames - r.1.z.length : Nat) : Int)) (.slice A3 r.1.z.length C3)) y r0.2.1 A6 C6 := B5.keep h2.y5 (heap_put9 _ _ _ _ _ _ _ _ _ _ _ _ hyx)
  have hty : ∀ (k : Nat) (D : Array Value) (ty : TypeId), w2.heap[k]? = some (Obj.cells D ty (0, 0)) → ty ≠ 66 → ty ≠ 34 → ((((((put9 w2 x (.int .i64 r.1.ctl.now) (.int .i64 r.1.ctl.most) (.int .i64 r.1.ctl.calm) (.int .i64 (r.1.size : Nat)) (.int .i64 (r.1.age : Nat)) (.int .i64 (r.1.old : Nat)) (.int .u32 (r.1.groups : Nat)) (.int .u32 ((r.1.frames - r.1.z.length : Nat) : Int)) (.slice A3 r.1.z.length C3)).setCell ⟨y, 0, none⟩ (.int .u32 r.2.1.no)).setCell ⟨y, 1, none⟩ (.int .u32 r.2.1.fst)).setCell ⟨y, 2, none⟩ (.int .i64 (r.2.1.z.length : Nat))).setCell ⟨y, 3, none⟩ (.int .i64 (r.2.1.m : Nat))).setCell ⟨y, 4, none⟩ (.slice A4 r.2.1.n C4)).heap[k]? = w2.heap[k]? := fun k D ty hk h1 h2' => (heap_put5 _ _ _ _ _ _ _ _ (two_types hk h2.y5 h2')).trans (heap_put9 _ _ _ _ _ _ _ _ _ _ _ _ (two_types hk h2.x9 h1))
  have hall : ∀ q, q ≠ x → q ≠ y → ((((((put9 w2 x (.int .i64 r.1.ctl.now) (.int .i64 r.1.ctl.most) (.int .i64 r.1.ctl.calm) (.int .i64 (r.1.size : Nat)) (.int .i64 (r.1.age : Nat)) (.int .i64 (r.1.old : Nat)) (.int .u32 (r.1.groups : Nat)) (.int .u32 ((r.1.frames - r.1.z.length : Nat) : Int)) (.slice A3 r.1.z.length C3)).setCell ⟨y, 0, none⟩ (.int .u32 r.2.1.no)).setCell ⟨y, 1, none⟩ (.int .u32 r.2.1.fst)).setCell ⟨y, 2, none⟩ (.int .i64 (r.2.1.z.length : Nat))).setCell ⟨y, 3, none⟩ (.int .i64 (r.2.1.m : Nat))).setCell ⟨y, 4, none⟩ (.slice A4 r.2.1.n C4)).heap[q]? = w2.heap[q]? := fun q h1 h2 => (heap_put5 _ _ _ _ _ _ _ _ h2).trans (heap_put9 _ _ _ _ _ _ _ _ _ _ _ _ h1)
  have hfx := h2.pl.code.far h2.x9 (by decide) (by decide) (by decide) (by decide)
  have hfy := h2.pl.code.far h2.y5 (by decide) (by decide) (by decide) (by decide)
  refine ⟨⟨⟨h2.pl.code.hb, h2.pl.code.hc, h2.pl.code.blk.keep (hall b hfx.1 hfy.1), h2.pl.code.ctl.keep (hall c hfx.2.1 hfy.2.1), World.rowIs.of_block h2.pl.code.tab (hall t hfx.2.2.1 hfy.2.2.1), h2.pl.code.row.keep (fun q hq => hall q (hfx.2.2.2 q hq) (hfy.2.2.2 q hq))⟩, B9.keep h2.pl.box (hall p (Ne.symm h.xp) hyp), h2.pl.doc.keep (fun q hq => ?_), h2.pl.ap, h2.pl.hp, ?_⟩, ?_, B5.put y2 _ _ _ _ _, (hs.low h.pl.bel.size).keep (fun k D ty hk ht => hty k D ty hk (by rcases ht with rfl | rfl <;> decide) (by rcases ht with rfl | rfl <;> decide)), ho.keep (fun q hq => ?_), fun q e1 e2 => ?_, h.hx, h.hy, h.xp⟩
  · obtain ⟨cur, hc⟩ := own_type h2.pl.doc hq
    exact hty q cur _ hc (by decide) (by decide)
  · exact below_put5 (below_put9 h2.pl.bel h.hx _ _ _ _ _ _ _ _ _) h.hy _ _ _ _ _
  · exact (B9.put h2.x9 _ _ _ _ _ _ _ _ _).keep (heap_put5 _ _ _ _ _ _ _ _ (Ne.symm hyx))
  · obtain ⟨cur, hc⟩ := own_type ho hq
    exact hty q cur _ hc (by decide) (by decide)
  · rcases hf q e2 with h1 | h1
    · exact h.pl.ap q e1 h1
    · have := (h.pl.code.row.lt q e1).2
      omega
/-- Both have answered. -/
structure End17 (w : World) (b c t p y z : Nat) (r : Bd × Gd × Bool) (A : Option Addr) (C : Nat) (A3 : Option Addr) (C3 : Nat) (A4 : Option Addr) (C4 : Nat) (A7 : Option Addr) (C7 : Nat) (W : World) : Prop where
  pl : Pl17 w b c t p A C A3 C3 r.1 W
  y5 : D5 34 W y r.2.1 A4 C4
  z5 : D5 28 W z r.2.1 A7 C7
  sy : Shs W w.heap.size (.slice A4 r.2.1.n C4) r.2.1.n (G17 r.2.1.z r.2.1.z.length)
  sz : Shs W w.heap.size (.slice A7 r.2.1.n C7) r.2.1.n (G17 r.2.1.z r.2.1.z.length)
theorem End17.below {w : World} {b c t p y z : Nat} {r : Bd × Gd × Bool} {A : Option Addr} {C : Nat} {A3 : Option Addr} {C3 : Nat} {A4 : Option Addr} {C4 : Nat} {A7 : Option Addr} {C7 : Nat} {W W' : World} (h : End17 w b c t p y z r A C A3 C3 A4 C4 A7 C7 W) (hb : Below W.heap.size W W') : End17 w b c t p y z r A C A3 C3 A4 C4 A7 C7 W' :=
  ⟨h.pl.below hb, B5.below h.y5 hb (B5.lt h.y5), B5.below h.z5 hb (B5.lt h.z5), h.sy.below hb (Nat.le_refl _), h.sz.below hb (Nat.le_refl _)⟩
/-- The code has answered: its answer is stored, and the document's builder taken over. -/
theorem Mid17.done {w : World} {b c t p x y z : Nat} {A : Option Addr} {C : Nat} {A2 : Option Addr} {C2 : Nat} {S : Bd} {r : Bd × Gd × Bool} {A3 : Option Addr} {C3 : Nat} {A4 : Option Addr} {C4 : Nat} {W w5 : World} {A7 : Option Addr} {C7 : Nat} {A8 : Option Addr} {C8 : Nat} (h : Mid17 w b c t p x y A C A2 C2 S r A3 C3 A4 C4 W) (z5 : B5 28 W z (.int .u32 0) (.int .u32 0) (.int .i64 0) (.int .i64 0) (.slice none 0 0)) (hz : w.heap.size ≤ z)
    (hs : Shs w5 W.heap.size (.slice A7 r.2.1.n C7) r.2.1.n (G17 r.2.1.z r.2.1.z.length)) (hB : BSt w5 w.heap.size b c t A8 C8 r.1) (hF : FrG b c (.slice A S.z.length C) W w5) (hV : ∀ q, (Value.slice A8 r.1.z.length C8).ownBlock = some q → (Value.slice A S.z.length C).ownBlock = some q ∨ W.heap.size ≤ q) {W6 : World}
    (hW : W6 = put9 (((((w5.setCell ⟨z, 0, none⟩ (.int .u32 r.2.1.no)).setCell ⟨z, 1, none⟩ (.int .u32 r.2.1.fst)).setCell ⟨z, 2, none⟩ (.int .i64 (r.2.1.z.length : Nat))).setCell ⟨z, 3, none⟩ (.int .i64 (r.2.1.m : Nat))).setCell ⟨z, 4, none⟩ (.slice A7 r.2.1.n C7)) p (.int .i64 r.1.ctl.now) (.int .i64 r.1.ctl.most) (.int .i64 r.1.ctl.calm) (.int .i64 (r.1.size : Nat)) (.int .i64 (r.1.age : Nat)) (.int .i64 (r.1.old : Nat)) (.int .u32 (r.1.groups : Nat)) (.int .u32 ((r.1.frames - r.1.z.length : Nat) : Int)) (.slice A3 r.1.z.length C3)) :
    End17 w b c t p y z r A8 C8 A3 C3 A4 C4 A7 C7 W6 ∧ B9 66 w5 p (.int .i64 S.ctl.now) (.int .i64 S.ctl.most) (.int .i64 S.ctl.calm) (.int .i64 (S.size : Nat)) (.int .i64 (S.age : Nat)) (.int .i64 (S.old : Nat)) (.int .u32 (S.groups : Nat)) (.int .u32 ((S.frames - S.z.length : Nat) : Int)) (.slice A2 S.z.length C2) := by
  subst hW
  have hoth := h.pl.code.other rfl rfl hF
  have p5 : D9 w5 p S A2 C2 := B9.keep h.pl.box (hoth p _ _ h.pl.box (by decide) (by decide) (by decide))
  have y5' : D5 34 w5 y r.2.1 A4 C4 := B5.keep h.y5 (hoth y _ _ h.y5 (by decide) (by decide) (by decide))
  have z5' := z5.keep (hoth z _ _ z5 (by decide) (by decide) (by decide))
  have sh5 : Shs w5 w.heap.size (.slice A4 r.2.1.n C4) r.2.1.n (G17 r.2.1.z r.2.1.z.length) := h.sh.keep (fun k D ty hk ht => hoth k D ty hk (by rcases ht with rfl | rfl <;> decide) (by rcases ht with rfl | rfl <;> decide) (by rcases ht with rfl | rfl <;> decide))
  have doc5 : OwnU w5 w.heap.size (.slice A3 r.1.z.length C3) r.1.z.length r.1.z := h.doc.keep (fun q hq => by
    obtain ⟨cur, hc⟩ := own_type h.doc hq
    have hb := h.pl.code.blk
    have hcc := h.pl.code.ctl
    unfold B8 at hb
    unfold Blk16 at hcc
    exact hF.block q (h.doc.lt q hq).2 (two_types hc hb (by decide)) (two_types hc hcc (by decide)) (fun e => h.ap q e.symm hq))
  have bel5 : Below w.heap.size w w5 := h.pl.code.bel hF h.pl.bel (Nat.le_refl _)
  refine ⟨?_, p5⟩
  have hzp : p ≠ z := two_types p5 z5' (by decide)
  have hyz : y ≠ z := two_types y5' z5' (by decide)
  have hyp : y ≠ p := two_types y5' p5 (by decide)
  have hfz := hB.far z5' (by decide) (by decide) (by decide) (by decide)
  have hfp := hB.far p5 (by decide) (by decide) (by decide) (by decide)
  have hall : ∀ q, q ≠ z → q ≠ p → (put9 (((((w5.setCell ⟨z, 0, none⟩ (.int .u32 r.2.1.no)).setCell ⟨z, 1, none⟩ (.int .u32 r.2.1.fst)).setCell ⟨z, 2, none⟩ (.int .i64 (r.2.1.z.length : Nat))).setCell ⟨z, 3, none⟩ (.int .i64 (r.2.1.m : Nat))).setCell ⟨z, 4, none⟩ (.slice A7 r.2.1.n C7)) p (.int .i64 r.1.ctl.now) (.int .i64 r.1.ctl.most) (.int .i64 r.1.ctl.calm) (.int .i64 (r.1.size : Nat)) (.int .i64 (r.1.age : Nat)) (.int .i64 (r.1.old : Nat)) (.int .u32 (r.1.groups : Nat)) (.int .u32 ((r.1.frames - r.1.z.length : Nat) : Int)) (.slice A3 r.1.z.length C3)).heap[q]? = w5.heap[q]? := fun q h1 h2 => (heap_put9 _ _ _ _ _ _ _ _ _ _ _ _ h2).trans (heap_put5 _ _ _ _ _ _ _ _ h1)
  have hty : ∀ (k : Nat) (D : Array Value) (ty : TypeId), w5.heap[k]? = some (Obj.cells D ty (0, 0)) → ty ≠ 28 → ty ≠ 66 → (put9 (((((w5.setCell ⟨z, 0, none⟩ (.int .u32 r.2.1.no)).setCell ⟨z, 1, none⟩ (.int .u32 r.2.1.fst)).setCell ⟨z, 2, none⟩ (.int .i64 (r.2.1.z.length : Nat))).setCell ⟨z, 3, none⟩ (.int .i64 (r.2.1.m : Nat))).setCell ⟨z, 4, none⟩ (.slice A7 r.2.1.n C7)) p (.int .i64 r.1.ctl.now) (.int .i64 r.1.ctl.most) (.int .i64 r.1.ctl.calm) (.int .i64 (r.1.size : Nat)) (.int .i64 (r.1.age : Nat)) (.int .i64 (r.1.old : Nat)) (.int .u32 (r.1.groups : Nat)) (.int .u32 ((r.1.frames - r.1.z.length : Nat) : Int)) (.slice A3 r.1.z.length C3)).heap[k]? = w5.heap[k]? := fun k D ty hk h1 h2 => hall k (two_types hk z5' h1) (two_types hk p5 h2)
  refine ⟨⟨⟨hB.hb, hB.hc, hB.blk.keep (hall b hfz.1 hfp.1), hB.ctl.keep (hall c hfz.2.1 hfp.2.1), World.rowIs.of_block hB.tab (hall t hfz.2.2.1 hfp.2.2.1), hB.row.keep (fun q hq => hall q (hfz.2.2.2 q hq) (hfp.2.2.2 q hq))⟩, ?_, doc5.keep (fun q hq => ?_), fun q e1 e2 => ?_, h.pl.hp, below_put9 (below_put5 bel5 hz _ _ _ _ _) h.pl.hp _ _ _ _ _ _ _ _ _⟩, B5.keep y5' (hall y hyz hyp), (z5'.put _ _ _ _ _).keep (heap_put9 _ _ _ _ _ _ _ _ _ _ _ _ (Ne.symm hzp)), sh5.keep (fun k D ty hk ht => hty k D ty hk (by rcases ht with rfl | rfl <;> decide) (by rcases ht with rfl | rfl <;> decide)), (hs.low h.pl.bel.size).keep (fun k D ty hk ht => hty k D ty hk (by rcases ht with rfl | rfl <;> decide) (by rcases ht with rfl | rfl <;> decide))⟩
  · exact B9.put (B9.keep p5 (heap_put5 _ _ _ _ _ _ _ _ hzp)) _ _ _ _ _ _ _ _ _
  · obtain ⟨cur, hc⟩ := own_type doc5 hq
    exact hty q cur _ hc (by decide) (by decide)
  · rcases hV q e1 with h1 | h1
    · exact h.ap q h1 e2
    · have := (h.doc.lt q e2).2
      omega
end Go.Proofs.Ytphddcbkjikgfaa
