/-
  Own text: the document's Tick, walked.
-/
import Derived.Test.YtnffngbkidehfaaNkDd
import Derived.Maps.AppendAt
namespace Go.Proofs.Ytnffngbkidehfaa.Nk
open Go.RowKit

/-- append of one number, and what it leaves. -/
theorem wpList_append_wG {w : World} {ops : Array Oper} {rest : List Oper} {o : Oper} {a : Act} {Q : Exit → Act → World → Prop} (hgd : o.guard = none) (s x : Operand)
    (ho : o.op = .call { callee := .builtin .append, args := #[s, x], argTypes := #[71, 71] })
    (base : Nat) (dp : Option Addr) (n dC : Nat) (hs : a.eval s = .slice dp n dC) (l : List Int) (hown : OwnW w base (.slice dp n dC) n l)
    (g : Nat) (hx : a.eval x = .slice (some ⟨g, 0, none⟩) 1 1) (z : Int) (hy : w.cell? ⟨g, 0, none⟩ = some (.int .u32 z)) (hb : n + 1 ≤ 100000) (hbase : base ≤ w.heap.size)
    (h : ∀ A C w', Hid (OwnW w' base (.slice A (n + 1) C) (n + 1) (l ++ [z])) → Hid (Below base w w') → Hid (w.grownBy w' (dp.map Addr.block)) → wpList Try.prog ops Q rest (a.put o.dst (.slice A (n + 1) C)) w') :
    wpList Try.prog ops Q (o :: rest) a w := by
  refine wpList_plain hgd fun K hK => ?_
  obtain ⟨i, hi, hzz⟩ := Option.map_eq_some_iff.1 info_u32
  simp only [Prod.mk.injEq] at hzz
  obtain ⟨hz, hsz, hby⟩ := hzz
  refine wp_append_own w s x 71 ho base 28 i (.int .u32 0) 1 4 Try.underlying71 hi hz hsz hby rfl (by omega) _ n _ hs hown ⟨g, 0, none⟩ 1 1 [.int .u32 z] hx rfl ?_ ?_ (by unfold maxLen; omega) (by omega) hbase ?_
  · intro j u hu
    cases j with
    | zero => simp at hu; subst hu; rw [add_place]; exact hy
    | succ j => simp at hu
  · intro u hu
    simp at hu
    subst hu
    rfl
  · intro v' w' h1 h2 _
    have h3 : OwnW w' base v' (n + 1) (l ++ [z]) := by unfold OwnW; rw [List.map_append]; exact h1
    have h4 : ∃ A C, v' = .slice A (n + 1) C := by
      rcases h3.2 with ⟨rfl, h0⟩ | ⟨g, cap, cur, rfl, _⟩
      · omega
      · exact ⟨_, _, rfl⟩
    obtain ⟨A, C, rfl⟩ := h4
    exact hK _ _ (h A C w' (Lib.hid h3) (Lib.hid (below_grown (Below.refl base w) h2 hbase (fun k hk => (hown.lt k hk).1))) (Lib.hid (by rw [← own_block dp n dC]; exact h2)))
set_option maxRecDepth 100000 in
/-- append of one item, and where it lies then. -/
theorem wpList_append_diL {w : World} {ops : Array Oper} {rest : List Oper} {o : Oper} {a : Act} {Q : Exit → Act → World → Prop} (hgd : o.guard = none) (s x : Operand)
    (ho : o.op = .call { callee := .builtin .append, args := #[s, x], argTypes := #[60, 60] })
    (base : Nat) (A : Option Addr) (n C : Nat) (hs : a.eval s = .slice A n C) (l : List DI) (hown : OwnD w base (.slice A n C) n l)
    (g : Nat) (hx : a.eval x = .slice (some ⟨g, 0, none⟩) 1 1) (z : DI) (hl : Lies w g 0 (dic z)) (hb : n + 1 ≤ 100000) (hbase : base ≤ w.heap.size)
    (h : ∀ A' C' w', Hid (OwnD w' base (.slice A' (n + 1) C') (n + 1) (l ++ [z])) → Hid (w.grownBy w' (A.map Addr.block)) → Hid (A'.map Addr.block = A.map Addr.block ∨ A'.map Addr.block = some w.heap.size) → wpList Try.prog ops Q rest (a.put o.dst (.slice A' (n + 1) C')) w') :
    wpList Try.prog ops Q (o :: rest) a w :=
  wpList_plain hgd fun _ hK => by
    obtain ⟨i, hi, hzz⟩ := Option.map_eq_some_iff.1 info_di
    simp only [Prod.mk.injEq] at hzz
    obtain ⟨hz0, hsz, hby0⟩ := hzz
    obtain ⟨v', w', hr, h2, h3, _, h5⟩ := run_append_own_at (P := Try.prog) (w := w) base 60 o.type 125 i _ 3 24 Try.underlying60 hi hz0 hsz hby0 rfl (by decide) _ n _ hown ⟨g, 0, none⟩ 1 1 (dic z).toList rfl
      (fun j u hu => by
        have hj : j < (dic z).size := by simpa using (List.getElem?_eq_some_iff.1 hu).1
        rw [add_place, hl.cell j hj, ← hu]
        simp) (fun u hu => (Array.all_eq_true_iff_forall_mem.1 (dic_cells z)) u (by simpa using hu)) (by unfold maxLen; omega) (by omega) hbase
    have h4 : ∃ A C, v' = .slice A (n + 1) C := by
      rcases h2.2 with ⟨rfl, h0⟩ | ⟨g, cap, cur, rfl, _⟩
      · omega
      · exact ⟨_, _, rfl⟩
    obtain ⟨A', C', rfl⟩ := h4
    have h6 : OwnD w' base (.slice A' (n + 1) C') (n + 1) (l ++ [z]) := by unfold OwnD; rw [dics_append, dics_one]; exact h2
    unfold Oper.wp
    simp [execOp, ho, resolve, invoke, builtin, hs, hx, hr, Result.andThen]
    exact hK _ _ (h A' C' w' (Lib.hid h6) (Lib.hid (by rw [← own_block A n C]; exact h3)) (Lib.hid (by rw [own_block, own_block] at h5; exact h5)))
theorem dtold_step (l : List DI) (i : Nat) (y : DI) (h : l[i]? = some y) : (dtold (l.take (i + 1)) = if y.left - 1 ≤ 0 then dtold (l.take i) ++ [⟨y.no, y.left - 1, y.tries⟩] else dtold (l.take i)) ∧ (drest (l.take (i + 1)) = if y.left - 1 ≤ 0 then drest (l.take i) else drest (l.take i) ++ [⟨y.no, y.left - 1, y.tries⟩]) := by
  unfold dtold drest
  rw [List.take_add_one, h, List.filter_append, List.filter_append, List.map_append, List.map_append]
  by_cases hk : y.left - 1 ≤ 0 <;> simp [hk]
/-- An item's box. -/
def XB (w : World) (g : Nat) (no left tries : Int) : Prop := w.heap[g]? = some (Obj.cells #[.int .u32 no, .int .i64 left, .int .i64 tries] 125 (0, 0))
section
variable {w : World} {g : Nat} {no left tries : Int}
theorem XB.cells (h : XB w g no left tries) : w.cell? ⟨g, 0, none⟩ = some (.int .u32 no) ∧ w.cell? ⟨g, 1, none⟩ = some (.int .i64 left) ∧ w.cell? ⟨g, 2, none⟩ = some (.int .i64 tries) := by
  unfold XB at h
  simp [World.cell?, h]
theorem XB.frozen (h : XB w g no left tries) (i : Nat) : w.frozen? ⟨g, i, none⟩ = false := by
  unfold XB at h
  simp [World.frozen?, h]
theorem XB.setLeft (h : XB w g no left tries) (n : Int) : XB (w.setCell ⟨g, 1, none⟩ (.int .i64 n)) g no n tries := by
  unfold XB at *
  simp [World.setCell, Array.getElem?_modify, h]
theorem XB.setTries (h : XB w g no left tries) (n : Int) : XB (w.setCell ⟨g, 2, none⟩ (.int .i64 n)) g no left n := by
  unfold XB at *
  simp [World.setCell, Array.getElem?_modify, h]
theorem XB.new (w : World) (no left tries : Int) : XB (w.alloc (.cells #[.int .u32 no, .int .i64 left, .int .i64 tries] 125)) w.heap.size no left tries := Go.Deep.blk_alloc_new w _
theorem XB.keep {w' : World} (h : XB w g no left tries) (e : w'.heap[g]? = w.heap[g]?) : XB w' g no left tries := e.trans h
theorem XB.lt (h : XB w g no left tries) : g < w.heap.size := (Array.getElem?_eq_some_iff.1 h).1
end
/-- Behind the first loop. -/
structure T1 (w : World) (B : Nat) (N : Nl) (A : Option Addr) (C : Nat) (W0 W : World) : Prop where
  x : DBx W w.heap.size N.q.room N.asked N.full (.slice A N.q.l.length C)
  z : DBx W (w.heap.size + 1) 0 0 0 (.slice none 0 0)
  l : DL W B A N.q.l.length C N.ref
  bel : Below w.heap.size w W
  size : W0.heap.size ≤ W.heap.size
/-- What Tick answers. -/
def RTick (w : World) (B : Nat) (N : Nl) (L : List Int) (e : Ending) (w' : World) : Prop :=
  ∃ A C A3 C3, e = .returned (.tuple #[NV N A C, .slice A3 L.length C3]) ∧ Hid (DL w' B A N.q.l.length C N.ref) ∧ Hid (OwnW w' w.heap.size (.slice A3 L.length C3) L.length L) ∧ Hid (Below w.heap.size w w')
/-- Between two that are told. -/
structure T2 (w W0 : World) (room full : Int) (n : Nat) (A : Option Addr) (C : Nat) (ak : Int) (A6 : Option Addr) (C6 : Nat) (T : List DI) (A7 : Option Addr) (C7 : Nat) (R : List DI) (A10 : Option Addr) (C10 i : Nat) (W : World) : Prop where
  x : DBx W w.heap.size room ak full (.slice A n C)
  z : DBx W (w.heap.size + 1) 0 0 0 (.slice none 0 0)
  told : DL W W0.heap.size A6 T.length C6 T
  rest : DL W W0.heap.size A7 R.length C7 R
  out : OwnW W W0.heap.size (.slice A10 i C10) i ((T.take i).map (fun y => y.no))
  bel : Below w.heap.size w W
  size : W0.heap.size ≤ W.heap.size
  lo : w.heap.size + 2 ≤ W0.heap.size
theorem dl_apart {w : World} {b1 n1 C1 : Nat} {A1 : Option Addr} {l1 : List Int} {g : Nat} {cur : Array Value} (h1 : OwnW w b1 (.slice A1 n1 C1) n1 l1) (e1 : A1.map Addr.block = some g) (hc : w.heap[g]? = some (Obj.cells cur 125 (0, 0))) : False := by
  rcases h1.2 with ⟨e, _⟩ | ⟨g1, cap, cur1, e, _, hg1, _⟩
  · simp only [Value.slice.injEq] at e
    rw [e.1] at e1
    simp at e1
  · simp only [Value.slice.injEq, true_and] at e
    obtain ⟨rfl, _⟩ := e
    simp at e1
    subst e1
    rw [hc] at hg1
    simp at hg1
/-- .. whatever grows but the list that is told. -/
theorem T2.grow {w W0 : World} {room full : Int} {n : Nat} {A : Option Addr} {C : Nat} {ak : Int} {A6 : Option Addr} {C6 : Nat} {T : List DI} {A7 : Option Addr} {C7 : Nat} {R : List DI} {A10 : Option Addr} {C10 i : Nat} {W W' : World}
    (h : T2 w W0 room full n A C ak A6 C6 T A7 C7 R A10 C10 i W) (hg : W.grownBy W' (A10.map Addr.block)) :
    DBx W' w.heap.size room ak full (.slice A n C) ∧ DBx W' (w.heap.size + 1) 0 0 0 (.slice none 0 0) ∧ DL W' W0.heap.size A6 T.length C6 T ∧ DL W' W0.heap.size A7 R.length C7 R ∧ Below w.heap.size w W' ∧ W0.heap.size ≤ W'.heap.size := by
  have hlo := h.lo
  have hsz := h.size
  have hb : ∀ k, A10.map Addr.block = some k → W0.heap.size ≤ k := fun k hk => (h.out.lt k (by rw [own_block]; exact hk)).1
  have hk : ∀ k, k < W0.heap.size → W'.heap[k]? = W.heap[k]? := fun k hk => hg.block k (by omega) (fun e => by have := hb k e.symm; omega)
  refine ⟨h.x.keep (hk _ (by omega)), h.z.keep (hk _ (by omega)), h.told.keep (fun g cur e1 _ hc => hg.block g (Array.getElem?_eq_some_iff.1 hc).1 (fun e => ?_)), h.rest.keep (fun g cur e1 _ hc => hg.block g (Array.getElem?_eq_some_iff.1 hc).1 (fun e => ?_)), below_grown h.bel hg (by omega) (fun k e => by have := hb k e; omega), Nat.le_trans hsz hg.size⟩
  · exact dl_apart h.out e.symm hc
  · exact dl_apart h.out e.symm hc
theorem grown_below {W W' W2 : World} {r : Option Nat} (h : W.grownBy W' r) (hb : Below W'.heap.size W' W2) : W.grownBy W2 r :=
  ⟨hb.os.trans h.os, hb.tape.trans h.tape, hb.output.trans h.output, Nat.le_trans h.size hb.size, fun k hk hr => (hb.block k (Nat.lt_of_lt_of_le hk h.size)).trans (h.block k hk hr)⟩
theorem grown_set {W W' : World} {r : Option Nat} (h : W.grownBy W' r) {g i : Nat} (hg : W.heap.size ≤ g) (v : Value) : W.grownBy (W'.setCell ⟨g, i, none⟩ v) r :=
  ⟨h.os, h.tape, h.output, by simpa using h.size, fun k hk hr => (Below.heap_setCell W' ⟨g, i, none⟩ v k (by show k ≠ g; omega)).trans (h.block k hk hr)⟩
/-- Within such a round: the item's box, the list that is told. -/
structure T3 (W0 Wo : World) (r : Option Nat) (g : Nat) (no left tries : Int) (A10 : Option Addr) (C10 m : Nat) (L : List Int) (W : World) : Prop where
  grown : Wo.grownBy W r
  box : XB W g no left tries
  out : OwnW W W0.heap.size (.slice A10 m C10) m L
  lo : Wo.heap.size ≤ g
section
variable {W0 Wo W W' : World} {r : Option Nat} {g : Nat} {no left tries : Int} {A10 : Option Addr} {C10 m : Nat} {L : List Int}
theorem T3.below (h : T3 W0 Wo r g no left tries A10 C10 m L W) (hb : Below W.heap.size W W') : T3 W0 Wo r g no left tries A10 C10 m L W' :=
  ⟨grown_below h.grown hb, h.box.keep (hb.block g h.box.lt), h.out.below hb (Nat.le_refl _), h.lo⟩
theorem T3.own (h : T3 W0 Wo r g no left tries A10 C10 m L W) (i : Nat) (v : Value) : OwnW (W.setCell ⟨g, i, none⟩ v) W0.heap.size (.slice A10 m C10) m L :=
  h.out.typ (fun k cur hk => Below.heap_setCell W ⟨g, i, none⟩ v k (fun e => by
    have e' : k = g := e
    subst e'
    have := h.box
    unfold XB at this
    rw [hk] at this
    simp at this))
theorem T3.setLeft (h : T3 W0 Wo r g no left tries A10 C10 m L W) (n : Int) : T3 W0 Wo r g no n tries A10 C10 m L (W.setCell ⟨g, 1, none⟩ (.int .i64 n)) := ⟨grown_set h.grown h.lo _, h.box.setLeft n, h.own 1 _, h.lo⟩
theorem T3.setTries (h : T3 W0 Wo r g no left tries A10 C10 m L W) (n : Int) : T3 W0 Wo r g no left n A10 C10 m L (W.setCell ⟨g, 2, none⟩ (.int .i64 n)) := ⟨grown_set h.grown h.lo _, h.box.setTries n, h.own 2 _, h.lo⟩
end
theorem dagain_length (h : Int) (r : List DI) (x : DI) : (dagain h r x).length = r.length + 1 := dput_length _ _
theorem fold_length (h : Int) : ∀ (T : List DI) (r : List DI), (T.foldl (dagain h) r).length = r.length + T.length
  | [], r => rfl
  | x :: T, r => by
    rw [List.foldl_cons, fold_length h T, dagain_length, List.length_cons]
    omega
theorem fold_step (h : Int) (T r : List DI) (k : Nat) (y : DI) (hy : T[k]? = some y) : (T.take (k + 1)).foldl (dagain h) r = dagain h ((T.take k).foldl (dagain h) r) y := by
  rw [← take_snoc hy, List.foldl_append]
  rfl
/-- One more is told. -/
theorem T2.next {w W0 : World} {room full : Int} {n : Nat} {A : Option Addr} {C : Nat} {ak : Int} {A6 : Option Addr} {C6 : Nat} {T : List DI} {A7 : Option Addr} {C7 : Nat} {R : List DI} {A10 : Option Addr} {C10 k : Nat} {W w9 w10 : World} {g : Nat} {y : DI} {zz : Int} {nn : Nat} {A' A11 : Option Addr} {C' C11 : Nat}
    (h : T2 w W0 room full n A C ak A6 C6 T A7 C7 R A10 C10 k W) (hy : T[k]? = some y) (t3 : T3 W0 W (A10.map Addr.block) g y.no zz nn A' C' (k + 1) ((T.take k).map (fun y => y.no) ++ [y.no]) w9)
    (ho : OwnD w10 w9.heap.size (.slice A11 (R.length + 1) C11) (R.length + 1) (dput ⟨y.no, zz, nn⟩ R)) (hb : Below w9.heap.size w9 w10) :
    (w10.cell? ⟨w.heap.size, 1, none⟩ = some (.int .i64 ak) ∧ w10.frozen? ⟨w.heap.size, 1, none⟩ = false) ∧ T2 w W0 room full n A C (ak + 1) A6 C6 T A11 C11 (dput ⟨y.no, zz, nn⟩ R) A' C' (k + 1) (w10.setCell ⟨w.heap.size, 1, none⟩ (.int .i64 (ak + 1))) := by
  obtain ⟨a1, a2, a3, a4, a5, a6⟩ := h.grow (grown_below t3.grown hb)
  have hlo := h.lo
  have hs9 : W0.heap.size ≤ w9.heap.size := Nat.le_trans h.size t3.grown.size
  have hk : ∀ k, W0.heap.size ≤ k → (w10.setCell ⟨w.heap.size, 1, none⟩ (.int .i64 (ak + 1))).heap[k]? = w10.heap[k]? := fun k hk => Below.heap_setCell w10 ⟨w.heap.size, 1, none⟩ _ k (by show k ≠ w.heap.size; omega)
  have e : (T.take (k + 1)).map (fun y => y.no) = (T.take k).map (fun y => y.no) ++ [y.no] := by rw [← take_snoc hy, List.map_append]; rfl
  refine ⟨⟨a1.cells.2.1, a1.frozen 1⟩, a1.setAsked _, a2.other (p := ⟨w.heap.size, 1, none⟩) (by show w.heap.size + 1 ≠ w.heap.size; omega) _, a3.keep (fun g _ _ hg _ => hk g hg), ?_, ?_, a5.setCell (p := ⟨w.heap.size, 1, none⟩) (Nat.le_refl _) _, by simpa using a6, hlo⟩
  · rw [dput_length]
    exact (ho.dl.keep (fun g _ _ hg _ => hk g (by omega))).low hs9
  · rw [e]
    exact (t3.out.below hb (Nat.le_refl _)).keep (fun g hg => hk g (t3.out.lt g hg).1)
end Go.Proofs.Ytnffngbkidehfaa.Nk
