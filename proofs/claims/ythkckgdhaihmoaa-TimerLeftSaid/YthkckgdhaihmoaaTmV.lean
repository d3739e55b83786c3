/-
  Own text: both sets side by side: what a call does to both.
-/
import Derived.Test.YthkckgdhaihmoaaTmU
import Derived.Test.YthkckgdhaihmoaaTmT
import Derived.Test.YthkckgdhaihmoaaTmX
namespace Go.Proofs.Ythkckgdhaihmoaa
open Go.RowKit

/-- What a call of the script makes of the set. -/
def Qn.act (Q : Qn) (K k t : Int) : Qn := if K = 0 then Q.start k t else if K = 1 then Q.stop k else if K = 2 then Q.tick t else if K = 3 then Q.clear else Q
theorem Qn.act_fit {Q : Qn} (h : Q.fit) (K k t : Int) : (Q.act K k t).fit := by
  unfold Qn.act
  repeat' split
  · exact Qn.start_fit h k t
  · exact Qn.stop_fit h k
  · exact Qn.tick_fit h t
  · exact Qn.clear_fit h
  · exact h
theorem Qn.start_room (Q : Qn) (k t : Int) : (Q.start k t).room = Q.room ∧ (Q.start k t).now = Q.now := by
  unfold Qn.start
  split <;> exact ⟨rfl, rfl⟩
theorem Qn.act_room (Q : Qn) (K k t : Int) : (Q.act K k t).room = Q.room := by
  unfold Qn.act
  repeat' split
  · exact (Q.start_room k t).1
  all_goals rfl
/-- A call of the script in its box. -/
def OBx (w : World) (e : Nat) (K R V : Int) : Prop := w.heap[e]? = some (.cells #[.int .i64 K, .int .i64 R, .int .i64 V] 44 (0, 0))
theorem OBx.cells {w : World} {e : Nat} {K R V : Int} (h : OBx w e K R V) : w.cell? ⟨e, 0, none⟩ = some (.int .i64 K) ∧ w.cell? ⟨e, 1, none⟩ = some (.int .i64 R) ∧ w.cell? ⟨e, 2, none⟩ = some (.int .i64 V) := by
  unfold OBx at h
  simp [World.cell?, h]
/-- The code's set and the document's list, from a place on. -/
structure Two (w : World) (B b : Nat) (Q : Qn) (A : Option Addr) (C : Nat) (D : Option Addr) (C2 : Nat) : Prop where
  qb : QB w b Q A C
  dl : DL w B D Q.l.length C2 Q.l
  hb : B ≤ b
  hw : B ≤ w.heap.size
  hA : ∀ k, A.map Addr.block = some k → B ≤ k
theorem Two.below {w w' : World} {B b : Nat} {Q : Qn} {A : Option Addr} {C : Nat} {D : Option Addr} {C2 : Nat} (h : Two w B b Q A C D C2) (hb : Below w.heap.size w w') : Two w' B b Q A C D C2 :=
  ⟨h.qb.below hb (Nat.le_refl _), h.dl.below hb (Nat.le_refl _), h.hb, Nat.le_trans h.hw hb.size, h.hA⟩
theorem DL.kept {w w' : World} {B n C : Nat} {A : Option Addr} {l : List It} (h : DL w B A n C l) (hk : Keep w w') : DL w' B A n C l :=
  h.keep (fun g cur _ _ hg => hk g cur _ hg (by decide) (by decide))
theorem DBx.kept {w w' : World} {b room : Nat} {now : Int} {s : Value} (h : DBx w b room now s) (hk : Keep w w') : DBx w' b room now s :=
  h.keep (hk _ _ _ h (by decide) (by decide))
theorem OBx.kept {w w' : World} {e : Nat} {K R V : Int} (h : OBx w e K R V) (hk : Keep w w') : OBx w' e K R V := (hk _ _ _ h (by decide) (by decide)).trans h
/-- A call at the code's set, where the document's list is already the new one. -/
theorem Two.code {w w' : World} {B b : Nat} {Q Q' : Qn} {A : Option Addr} {C : Nat} {D D' : Option Addr} {C2 C2' : Nat} (h : Two w B b Q A C D C2) (hd : DL w B D' Q'.l.length C2' Q'.l) (hq : QTo w b A Q' w') : ∃ A' C', Two w' B b Q' A' C' D' C2' ∧ Below B w w' ∧ Keep w w' := by
  obtain ⟨A', C', h1, h2, h3⟩ := hq
  have hk := Keep.code h3 h.qb
  refine ⟨A', C', ⟨h1, hd.kept hk, h.hb, Nat.le_trans h.hw h3.size, fun k hk => ?_⟩, h3.bel (Below.refl _ _) h.hw h.hb h.hA, hk⟩
  rcases h2 with e | e
  · exact h.hA k (by rw [← e]; exact hk)
  · exact Nat.le_trans h.hw (e k hk)
/-- The three boxes of a call of the law's. -/
structure Bxs (w0 : World) (room : Nat) (now : Int) (s : Value) (K R V : Int) (w : World) : Prop where
  box : DBx w w0.heap.size room now s
  op : OBx w (w0.heap.size + 1) K R V
  res : DBx w (w0.heap.size + 2) 0 0 (.slice none 0 0)
theorem Bxs.below {w0 w w' : World} {room : Nat} {now : Int} {s : Value} {K R V : Int} (h : Bxs w0 room now s K R V w) (hb : Below w.heap.size w w') : Bxs w0 room now s K R V w' :=
  ⟨h.box.below hb h.box.lt, (hb.block _ (Array.getElem?_eq_some_iff.1 h.op).1).trans h.op, h.res.below hb h.res.lt⟩
/-- How a call of the law's begins. -/
theorem Bxs.start (w : World) (room : Nat) (now : Int) (s : Value) (K R V : Int) (W : World) (hW : W = ((w.alloc (.cells #[.int .i64 (room : Int), .int .i64 now, s] 27)).alloc (.cells #[.int .i64 K, .int .i64 R, .int .i64 V] 44)).alloc (.cells #[.int .i64 0, .int .i64 0, .slice none 0 0] 27)) :
    Bxs w room now s K R V W ∧ Below w.heap.size w W ∧ W.heap.size = w.heap.size + 3 := by
  have h1 := DBx.new w room now s
  have h2 := Go.Deep.blk_alloc_new (w.alloc (.cells #[.int .i64 (room : Int), .int .i64 now, s] 27)) (.cells #[.int .i64 K, .int .i64 R, .int .i64 V] 44)
  have h3 := DBx.new ((w.alloc (.cells #[.int .i64 (room : Int), .int .i64 now, s] 27)).alloc (.cells #[.int .i64 K, .int .i64 R, .int .i64 V] 44)) 0 0 (.slice none 0 0)
  refine ⟨⟨?_, ?_, ?_⟩, ?_, by rw [hW]; simp⟩
  · rw [hW]
    exact (h1.keep (Below.heap_alloc _ _ _ (by simp))).keep (Below.heap_alloc _ _ _ (by simp; omega))
  · rw [hW]
    unfold OBx
    refine (Below.heap_alloc _ _ _ (by simp)).trans ?_
    simpa using h2
  · rw [hW]
    simpa using h3
  · rw [hW]
    exact (((Below.refl _ _).alloc (Nat.le_refl _) _).alloc (by simp) _).alloc (by simp <;> omega) _
/-- What a call of the law's answers. -/
def DoTo (w : World) (B b : Nat) (Q : Qn) (e : Ending) (w' : World) : Prop :=
  ∃ A C D C2, e = .returned (.tuple #[DV Q.room Q.now D Q.l.length C2, .bool true]) ∧ Hid (Two w' B b Q A C D C2) ∧ Hid (Below B w w') ∧ Hid (Keep w w')
/-- Behind both calls: the answer waits in a box of its own. -/
structure Af (w : World) (B b c : Nat) (Q : Qn) (D : Option Addr) (C2 : Nat) (K k t : Int) (W : World) : Prop where
  two : ∃ A C, Two W B b Q A C D C2
  nxt : DBx W c Q.room Q.now (.slice D Q.l.length C2)
  op : OBx W (w.heap.size + 1) K k t
  res : DBx W (w.heap.size + 2) 0 0 (.slice none 0 0)
  bel : Below B w W
  kp : Keep w W
theorem Af.below {w W W' : World} {B b c : Nat} {Q : Qn} {D : Option Addr} {C2 : Nat} {K k t : Int} (h : Af w B b c Q D C2 K k t W) (hb : Below W.heap.size W W') : Af w B b c Q D C2 K k t W' := by
  obtain ⟨A, C, h2⟩ := h.two
  exact ⟨⟨A, C, h2.below hb⟩, h.nxt.below hb h.nxt.lt, (hb.block _ (Array.getElem?_eq_some_iff.1 h.op).1).trans h.op, h.res.below hb h.res.lt, h.bel.trans (hb.mono h2.hw), h.kp.trans (Keep.of_below hb)⟩
/-- The answer is written. -/
theorem Af.done {w W : World} {B b c : Nat} {Q : Qn} {D : Option Addr} {C2 : Nat} {K k t : Int} (h : Af w B b c Q D C2 K k t W) (hB : B ≤ w.heap.size) (x y z : Value) :
    DoTo w B b Q (.returned (.tuple #[DV Q.room Q.now D Q.l.length C2, .bool true])) (((W.setCell ⟨w.heap.size + 2, 0, none⟩ x).setCell ⟨w.heap.size + 2, 1, none⟩ y).setCell ⟨w.heap.size + 2, 2, none⟩ z) := by
  obtain ⟨A, C, h2⟩ := h.two
  have hres := h.res
  have hkeep : ∀ (k : Nat) (cur : Array Value) (t : TypeId), W.heap[k]? = some (.cells cur t (0, 0)) → t ≠ 27 → (((W.setCell ⟨w.heap.size + 2, 0, none⟩ x).setCell ⟨w.heap.size + 2, 1, none⟩ y).setCell ⟨w.heap.size + 2, 2, none⟩ z).heap[k]? = W.heap[k]? := fun k cur t hk ht =>
    three_far _ _ _ _ _ k (fun e => by
      subst e
      unfold DBx at hres
      rw [hk] at hres
      simp at hres
      exact ht hres.2)
  refine ⟨A, C, D, C2, rfl, Lib.hid ⟨h2.qb.keep (hkeep _ _ _ h2.qb.blk (by decide)) (fun g hg => ?_), h2.dl.keep (fun g cur _ _ hg => hkeep _ _ _ hg (by decide)), h2.hb, ?_, h2.hA⟩, Lib.hid (three_below h.bel _ (by omega) _ _ _), Lib.hid (((h.kp.setCell (p := ⟨w.heap.size + 2, 0, none⟩) (by show w.heap.size ≤ w.heap.size + 2; omega) x).setCell (p := ⟨w.heap.size + 2, 1, none⟩) (by show w.heap.size ≤ w.heap.size + 2; omega) y).setCell (p := ⟨w.heap.size + 2, 2, none⟩) (by show w.heap.size ≤ w.heap.size + 2; omega) z)⟩
  · rcases h2.qb.own.form with ⟨e, _⟩ | ⟨g', R', e, _, _, hg', _⟩
    · rw [e] at hg; simp at hg
    · rw [e] at hg
      simp at hg
      subst hg
      exact hkeep _ _ _ hg' (by decide)
  · have := h2.hw
    simpa using this
end Go.Proofs.Ythkckgdhaihmoaa
