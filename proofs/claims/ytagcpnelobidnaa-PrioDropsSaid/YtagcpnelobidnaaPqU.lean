/-
  Own text: both queues side by side: what a call does to both.
-/
import Derived.Test.YtagcpnelobidnaaPqT
namespace Go.Proofs.Ytagcpnelobidnaa
open Go.RowKit

theorem map_pos (r : Int) (l : List It) : dpos r (l.map It.di) = pos r l := by
  unfold dpos pos
  rw [List.takeWhile_map, List.length_map]
  rfl
theorem map_ins (Q : Qn) (r v : Int) : (Q.ins r v).map It.di = dins r v (Q.l.map It.di) := by
  unfold Qn.ins dins
  rw [map_pos, List.map_append, List.map_cons, List.map_take, List.map_drop]
  rfl
theorem push_map (Q : Qn) (r v : Int) : (Q.push r v).l.map It.di = dpush Q.room r v (Q.l.map It.di) := by
  unfold Qn.push dpush
  rw [List.length_map]
  by_cases h : Q.l.length < Q.room
  · rw [if_pos h, if_pos (by omega)]
    exact map_ins Q r v
  · rw [if_neg h, if_neg (by omega)]
    show (Q.ins r v).dropLast.map It.di = _
    rw [← map_ins, List.dropLast_eq_take, Q.ins_length, List.map_take]
    rfl
theorem gone_map (Q : Qn) (r v : Int) : dgone Q.room r v (Q.l.map It.di) = Q.gone r v := by
  unfold Qn.gone dgone
  rw [List.length_map]
  by_cases h : Q.l.length < Q.room
  · rw [if_pos (by omega), if_pos h]
  · rw [if_neg (by omega), if_neg h, ← map_ins, List.getD_eq_getElem?_getD, List.getElem?_map]
    obtain ⟨h1, h2⟩ := last_split (Q.ins r v) Q.l.length (Q.ins_length r v)
    generalize (Q.ins r v).getLastD ⟨0, 0, 0⟩ = y at *
    rw [h1, List.getElem?_append_right (by omega), h2, Nat.sub_self]
    rfl
theorem filter_map (Q : Qn) (d : Int) : (Q.filter d).l.map It.di = dkeep d (Q.l.map It.di) := by
  unfold Qn.filter dkeep
  rw [List.filter_map]
  rfl
/-- A call of the script in its box. -/
def OBx (w : World) (e : Nat) (K R V : Int) : Prop := w.heap[e]? = some (.cells #[.int .i64 K, .int .i64 R, .int .i64 V] 53 (0, 0))
theorem OBx.cells {w : World} {e : Nat} {K R V : Int} (h : OBx w e K R V) : w.cell? ⟨e, 0, none⟩ = some (.int .i64 K) ∧ w.cell? ⟨e, 1, none⟩ = some (.int .i64 R) ∧ w.cell? ⟨e, 2, none⟩ = some (.int .i64 V) := by
  unfold OBx at h
  simp [World.cell?, h]
/-- A queue's call leaves what is of another type. -/
theorem Frm.keeps {w w' : World} {b C : Nat} {Q : Qn} {A : Option Addr} (h : Frm b (A.map Addr.block) w w') (hq : QB w b Q A C) {k : Nat} {cur : Array Value} {t : TypeId} (hk : w.heap[k]? = some (.cells cur t (0, 0))) (h1 : t ≠ 60) (h2 : t ≠ 62) : w'.heap[k]? = w.heap[k]? := by
  refine h.block k (Array.getElem?_eq_some_iff.1 hk).1 (fun e => ?_) (fun e => ?_)
  · subst e
    have := hq.blk
    unfold QBlk at this
    rw [hk] at this
    simp at this
    exact h1 this.2
  · rcases hq.own.form with ⟨e2, _⟩ | ⟨g, R, e2, _, _, hg, _⟩
    · rw [e2] at e; simp at e
    · rw [e2] at e
      simp at e
      subst e
      unfold TBlk at hg
      rw [hk] at hg
      simp at hg
      exact h2 hg.2
/-- What is of another type than the code's is as it was. -/
def Keep (w w' : World) : Prop := ∀ (k : Nat) (cur : Array Value) (t : TypeId), w.heap[k]? = some (.cells cur t (0, 0)) → t ≠ 60 → t ≠ 62 → w'.heap[k]? = w.heap[k]?
theorem Keep.trans {w w1 w2 : World} (h : Keep w w1) (k : Keep w1 w2) : Keep w w2 := fun i cur t hi h1 h2 => by
  have e := h i cur t hi h1 h2
  exact (k i cur t (e.trans hi) h1 h2).trans e
theorem Keep.of_below {w w' : World} (h : Below w.heap.size w w') : Keep w w' := fun i _ _ hi _ _ => h.block i (Array.getElem?_eq_some_iff.1 hi).1
theorem Keep.code {w w' : World} {b C : Nat} {Q : Qn} {A : Option Addr} (h : Frm b (A.map Addr.block) w w') (hq : QB w b Q A C) : Keep w w' := fun _ _ _ hi h1 h2 => h.keeps hq hi h1 h2
theorem Keep.setCell {w w' : World} (h : Keep w w') {p : Addr} (hp : w.heap.size ≤ p.block) (v : Value) : Keep w (w'.setCell p v) := fun i cur t hi h1 h2 =>
  (Below.heap_setCell w' p v i (by have := (Array.getElem?_eq_some_iff.1 hi).1; omega)).trans (h i cur t hi h1 h2)
theorem Keep.drewN {w w' : World} (h : Keep w w') (n : Nat) : Keep w (w'.drewN n) := fun i cur t hi h1 h2 => h i cur t hi h1 h2
/-- The code's queue and the document's list, from a place on. -/
structure Two (w : World) (B b : Nat) (Q : Qn) (A : Option Addr) (C : Nat) (D : Option Addr) (n C2 : Nat) (L : List DI) : Prop where
  qb : QB w b Q A C
  dl : DL w B D n C2 L
  hb : B ≤ b
  hw : B ≤ w.heap.size
  hA : ∀ k, A.map Addr.block = some k → B ≤ k
theorem Two.below {w w' : World} {B b : Nat} {Q : Qn} {A : Option Addr} {C : Nat} {D : Option Addr} {n C2 : Nat} {L : List DI} (h : Two w B b Q A C D n C2 L) (hb : Below w.heap.size w w') : Two w' B b Q A C D n C2 L :=
  ⟨h.qb.below hb (Nat.le_refl _), h.dl.below hb (Nat.le_refl _), h.hb, Nat.le_trans h.hw hb.size, h.hA⟩
/-- A call at the code's queue. -/
theorem Two.code {w w' : World} {B b : Nat} {Q Q' : Qn} {A : Option Addr} {C : Nat} {D : Option Addr} {n C2 : Nat} {L : List DI} (h : Two w B b Q A C D n C2 L) (hq : QTo w b A Q' w') : ∃ A' C', Two w' B b Q' A' C' D n C2 L ∧ Below B w w' ∧ Frm b (A.map Addr.block) w w' ∧ Moved w (A.map Addr.block) (A'.map Addr.block) := by
  obtain ⟨A', C', h1, h2, h3⟩ := hq
  refine ⟨A', C', ⟨h1, h.dl.keep (fun g cur _ _ hg => h3.keeps h.qb hg (by decide) (by decide)), h.hb, Nat.le_trans h.hw h3.size, fun k hk => ?_⟩, h3.bel (Below.refl _ _) h.hw h.hb h.hA, h3, h2⟩
  rcases h2 with e | e
  · exact h.hA k (by rw [← e]; exact hk)
  · exact Nat.le_trans h.hw (e k hk)
/-- Another list. -/
theorem Two.list {w : World} {B b : Nat} {Q : Qn} {A : Option Addr} {C : Nat} {D D' : Option Addr} {n C2 n' C2' : Nat} {L L' : List DI} (h : Two w B b Q A C D n C2 L) (hd : DL w B D' n' C2' L') : Two w B b Q A C D' n' C2' L' := ⟨h.qb, hd, h.hb, h.hw, h.hA⟩
/-- The three boxes of a call of the law's. -/
structure Bxs (w0 : World) (room : Nat) (s : Value) (K R V : Int) (w : World) : Prop where
  box : DBx w w0.heap.size room s
  op : OBx w (w0.heap.size + 1) K R V
  res : DBx w (w0.heap.size + 2) 0 (.slice none 0 0)
theorem Bxs.code {w0 w w' : World} {room b C : Nat} {s : Value} {K R V : Int} {Q : Qn} {A : Option Addr} (h : Bxs w0 room s K R V w) (hf : Frm b (A.map Addr.block) w w') (hq : QB w b Q A C) : Bxs w0 room s K R V w' :=
  ⟨h.box.keep (hf.keeps hq h.box (by decide) (by decide)), (hf.keeps hq h.op (by decide) (by decide)).trans h.op, h.res.keep (hf.keeps hq h.res (by decide) (by decide))⟩
theorem Bxs.below {w0 w w' : World} {room : Nat} {s : Value} {K R V : Int} (h : Bxs w0 room s K R V w) (hb : Below w.heap.size w w') : Bxs w0 room s K R V w' :=
  ⟨h.box.below hb h.box.lt, (hb.block _ (Array.getElem?_eq_some_iff.1 h.op).1).trans h.op, h.res.below hb h.res.lt⟩
/-- How a call of the law's begins. -/
theorem Bxs.start (w : World) (room : Nat) (s : Value) (K R V : Int) (W : World) (hW : W = ((w.alloc (.cells #[.int .i64 (room : Int), s] 27)).alloc (.cells #[.int .i64 K, .int .i64 R, .int .i64 V] 53)).alloc (.cells #[.int .i64 0, .slice none 0 0] 27)) :
    Bxs w room s K R V W ∧ Below w.heap.size w W ∧ W.heap.size = w.heap.size + 3 := by
  have h1 := DBx.new w room s
  have h2 := Go.Deep.blk_alloc_new (w.alloc (.cells #[.int .i64 (room : Int), s] 27)) (.cells #[.int .i64 K, .int .i64 R, .int .i64 V] 53)
  have h3 := DBx.new ((w.alloc (.cells #[.int .i64 (room : Int), s] 27)).alloc (.cells #[.int .i64 K, .int .i64 R, .int .i64 V] 53)) 0 (.slice none 0 0)
  refine ⟨⟨?_, ?_, ?_⟩, ?_, by rw [hW]; simp⟩
  · rw [hW]
    exact (h1.keep (Below.heap_alloc _ _ _ (by simp))).keep (Below.heap_alloc _ _ _ (by simp; omega))
  · rw [hW]
    unfold OBx
    refine (Below.heap_alloc _ _ _ (by simp)).trans ?_
    simpa using h2
  · rw [hW]
    simpa using h3
  · rw [hW]
    exact (((Below.refl _ _).alloc (Nat.le_refl _) _).alloc (by simp) _).alloc (by simp <;> omega) _
/-- What a call of the law's answers. -/
def DoTo (w : World) (B k room : Nat) (e : Ending) (w' : World) : Prop :=
  ∃ b Q A C D n C2, e = .returned (.tuple #[.pointer (some ⟨b, 0, none⟩), DV room D n C2, .bool true]) ∧ Hid (Two w' B b Q A C D n C2 (Q.l.map It.di)) ∧ Hid (Q.fit k ∧ Q.room = room) ∧ Hid (Below B w w') ∧ Hid (Keep w w')
/-- The answer is written. -/
theorem done_any {w W : World} {B b k room : Nat} {Q : Qn} {A : Option Addr} {C : Nat} {D : Option Addr} {n C2 : Nat} {s : Value} {K R V : Int} (h : Two W B b Q A C D n C2 (Q.l.map It.di)) (hx : Bxs w room s K R V W) (hf : Q.fit k) (hr : Q.room = room) (hb : Below B w W) (hkp : Keep w W) (hB : B ≤ w.heap.size) (j : Nat) (x y : Value) :
    DoTo w B k room (.returned (.tuple #[.pointer (some ⟨b, 0, none⟩), DV room D n C2, .bool true])) ((((W.drewN j).setCell ⟨w.heap.size + 2, 0, none⟩ x).setCell ⟨w.heap.size + 2, 1, none⟩ y)) := by
  have hres := hx.res
  have hne : ∀ (k : Nat) (cur : Array Value) (t : TypeId), W.heap[k]? = some (.cells cur t (0, 0)) → t ≠ 27 → k ≠ w.heap.size + 2 := fun k cur t hk ht e => by
    subst e
    unfold DBx at hres
    rw [hk] at hres
    simp at hres
    exact ht hres.2
  have hkeep : ∀ (k : Nat) (cur : Array Value) (t : TypeId), W.heap[k]? = some (.cells cur t (0, 0)) → t ≠ 27 → (((W.drewN j).setCell ⟨w.heap.size + 2, 0, none⟩ x).setCell ⟨w.heap.size + 2, 1, none⟩ y).heap[k]? = W.heap[k]? := fun k cur t hk ht => by
    have h1 := hne k cur t hk ht
    rw [Below.heap_setCell _ ⟨w.heap.size + 2, 1, none⟩ _ k h1, Below.heap_setCell _ ⟨w.heap.size + 2, 0, none⟩ _ k h1]
    rfl
  refine ⟨b, Q, A, C, D, n, C2, rfl, Lib.hid ⟨h.qb.keep (hkeep _ _ _ h.qb.blk (by decide)) (fun g hg => ?_), h.dl.keep (fun g cur _ _ hg => hkeep _ _ _ hg (by decide)), h.hb, ?_, h.hA⟩, Lib.hid ⟨hf, hr⟩, Lib.hid ?_, Lib.hid (((hkp.drewN j).setCell (p := ⟨w.heap.size + 2, 0, none⟩) (by show w.heap.size ≤ w.heap.size + 2; omega) x).setCell (p := ⟨w.heap.size + 2, 1, none⟩) (by show w.heap.size ≤ w.heap.size + 2; omega) y)⟩
  · rcases h.qb.own.form with ⟨e, _⟩ | ⟨g', R', e, _, _, hg', _⟩
    · rw [e] at hg; simp at hg
    · rw [e] at hg
      simp at hg
      subst hg
      exact hkeep _ _ _ hg' (by decide)
  · have := h.hw
    simpa using this
  · exact ((below_drewN hb j).setCell (p := ⟨w.heap.size + 2, 0, none⟩) (by show B ≤ w.heap.size + 2; omega) _).setCell (p := ⟨w.heap.size + 2, 1, none⟩) (by show B ≤ w.heap.size + 2; omega) _
/-- The box's list is written. -/
theorem Bxs.setBox {w0 w : World} {room : Nat} {s : Value} {K R V : Int} (h : Bxs w0 room s K R V w) (v : Value) : Bxs w0 room v K R V (w.setCell ⟨w0.heap.size, 1, none⟩ v) :=
  ⟨h.box.setList v, (Below.heap_setCell _ _ _ _ (by show w0.heap.size + 1 ≠ w0.heap.size; omega)).trans h.op, h.res.other (by show w0.heap.size + 2 ≠ w0.heap.size; omega) v⟩
theorem Two.setBox {w : World} {B b : Nat} {Q : Qn} {A : Option Addr} {C : Nat} {D : Option Addr} {n C2 : Nat} {L : List DI} (h : Two w B b Q A C D n C2 L) {c room : Nat} {s : Value} (hx : DBx w c room s) (v : Value) : Two (w.setCell ⟨c, 1, none⟩ v) B b Q A C D n C2 L := by
  have hkeep : ∀ (k : Nat) (cur : Array Value) (t : TypeId), w.heap[k]? = some (.cells cur t (0, 0)) → t ≠ 27 → (w.setCell ⟨c, 1, none⟩ v).heap[k]? = w.heap[k]? := fun k cur t hk ht => by
    refine Below.heap_setCell _ ⟨c, 1, none⟩ _ k (fun e => ?_)
    have e' : k = c := e
    subst e'
    unfold DBx at hx
    rw [hk] at hx
    simp at hx
    exact ht hx.2
  refine ⟨h.qb.keep (hkeep _ _ _ h.qb.blk (by decide)) (fun g hg => ?_), h.dl.keep (fun g cur _ _ hg => hkeep _ _ _ hg (by decide)), h.hb, by simpa using h.hw, h.hA⟩
  rcases h.qb.own.form with ⟨e, _⟩ | ⟨g', R', e, _, _, hg', _⟩
  · rw [e] at hg; simp at hg
  · rw [e] at hg
    simp at hg
    subst hg
    exact hkeep _ _ _ hg' (by decide)
/-- Pop, whatever there is. -/
theorem pop_any (b : Nat) (Q : Qn) (A : Option Addr) (C : Nat) (hn : Q.l.length ≤ 1000) (w : World) (h : QB w b Q A C) :
    Calls Try.prog 14 #[.pointer (some ⟨b, 0, none⟩)] w fun e w' => e = .returned Q.front ∧ Hid (QTo w b A Q.pop w') := by
  unfold Qn.front Qn.pop
  cases hl : Q.l with
  | nil =>
    refine (pop_none b Q A C hl w h).mono ?_
    rintro e w' ⟨rfl, k, rfl⟩
    have e1 : (⟨Q.room, Q.pushed, [].tail⟩ : Qn) = Q := by cases Q; simp at hl; subst hl; rfl
    rw [e1]
    exact ⟨rfl, Lib.hid ⟨A, C, h.drewN k, .inl rfl, (Frm.refl _ _ _).drewN k⟩⟩
  | cons x t =>
    refine (pop_some b Q A C x t hl hn w h).mono ?_
    rintro e w' ⟨rfl, hq, hf⟩
    exact ⟨rfl, Lib.hid ⟨A, C, hq.out, .inl rfl, hf.out⟩⟩
/-- The list without its first. -/
theorem DL.rest {w : World} {B : Nat} {g off n C : Nat} {l : List DI} (h : DL w B (some ⟨g, off, none⟩) (n + 1) C l) : DL w B (if C = 1 then some ⟨g, off, none⟩ else some ⟨g, off + 2, none⟩) n (C - 1) l.tail := by
  have hl := h.len
  have hc := h.cap
  refine ⟨by rw [List.length_tail]; omega, ⟨by omega, by omega⟩, ?_⟩
  by_cases hn : n = 0
  · exact .inl hn
  · right
    rw [if_neg (by omega)]
    rcases h.cell with h0 | ⟨g', off', cur, e, h1, h2, h3⟩
    · omega
    · simp only [Option.some.injEq, Addr.mk.injEq, and_true] at e
      obtain ⟨rfl, rfl⟩ := e
      refine ⟨g, off + 2, cur, rfl, h1, h2, fun i x hx => ?_⟩
      have := h3 (i + 1) x (by rw [← hx, List.getElem?_tail])
      rw [show off + (i + 1) * 2 = off + 2 + i * 2 by omega] at this
      exact this
end Go.Proofs.Ytagcpnelobidnaa
