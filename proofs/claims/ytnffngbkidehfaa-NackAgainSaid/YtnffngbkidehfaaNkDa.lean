/-
  Own text: the document's list of groups that are waited for.
-/
import Derived.Test.YtnffngbkidehfaaNkX
import Derived.Test.YtnffngbkidehfaaPtX
import Derived.Deep.DeepCutAuto
namespace Go.Proofs.Ytnffngbkidehfaa.Nk
open Go.RowKit

def dic (x : DI) : Array Value := #[.int .u32 x.no, .int .i64 x.left, .int .i64 (x.tries : Int)]
def dics : List DI → List Value
  | [] => []
  | x :: l => .int .u32 x.no :: .int .i64 x.left :: .int .i64 (x.tries : Int) :: dics l
theorem dics_append (a b : List DI) : dics (a ++ b) = dics a ++ dics b := by
  induction a with
  | nil => rfl
  | cons x a ih => simp [dics, ih]
theorem dics_length (l : List DI) : (dics l).length = l.length * 3 := by
  induction l with
  | nil => rfl
  | cons x l ih => simp [dics, ih]; omega
theorem dics_one (x : DI) : dics [x] = (dic x).toList := rfl
theorem dics_get (l : List DI) (i : Nat) (x : DI) (h : l[i]? = some x) : (dics l)[i * 3]? = some (.int .u32 x.no) ∧ (dics l)[i * 3 + 1]? = some (.int .i64 x.left) ∧ (dics l)[i * 3 + 2]? = some (.int .i64 (x.tries : Int)) := by
  induction l generalizing i with
  | nil => simp at h
  | cons y l ih =>
    cases i with
    | zero => simp at h; subst h; simp [dics]
    | succ i =>
      have := ih i (by simpa using h)
      rw [show (i + 1) * 3 = i * 3 + 3 by omega]
      simpa [dics] using this
theorem info_di : (Try.prog.info? 125).map (fun i => (i.zero, i.size, i.bytes)) = some (some (.agg #[.int .u32 0, .int .i64 0, .int .i64 0]), 3, 24) := by kernel_rfl
/-- Such a list in a slice of the call's own. -/
def OwnD (w : World) (base : Nat) (v : Value) (n : Nat) (l : List DI) : Prop := w.ownsRow base 125 3 v n (dics l)
/-- Such a list, read. -/
structure DL (w : World) (B : Nat) (A : Option Addr) (n C : Nat) (l : List DI) : Prop where
  len : l.length = n
  cap : n ≤ C ∧ C ≤ maxLen
  cell : n = 0 ∨ ∃ g off cur, A = some ⟨g, off, none⟩ ∧ B ≤ g ∧ w.heap[g]? = some (Obj.cells cur 125 (0, 0)) ∧ ∀ i x, l[i]? = some x → w.cell? ⟨g, off + i * 3, none⟩ = some (.int .u32 x.no) ∧ w.cell? ⟨g, off + i * 3 + 1, none⟩ = some (.int .i64 x.left) ∧ w.cell? ⟨g, off + i * 3 + 2, none⟩ = some (.int .i64 (x.tries : Int))
theorem OwnD.none (w : World) (base : Nat) : OwnD w base (.slice none 0 0) 0 [] := ⟨rfl, .inl ⟨rfl, rfl⟩⟩
theorem OwnD.length {w : World} {base : Nat} {v : Value} {n : Nat} {l : List DI} (h : OwnD w base v n l) : l.length = n := by
  have := h.1; rw [dics_length] at this; omega
theorem OwnD.keep {w w' : World} {base : Nat} {v : Value} {n : Nat} {l : List DI} (h : OwnD w base v n l) (hk : ∀ g, v.ownBlock = some g → w'.heap[g]? = w.heap[g]?) : OwnD w' base v n l :=
  ownsRow_keep h (fun g _ hg _ => hk g hg)
theorem OwnD.lt {w : World} {base : Nat} {v : Value} {n : Nat} {l : List DI} (h : OwnD w base v n l) : ∀ g, v.ownBlock = some g → base ≤ g ∧ g < w.heap.size := World.ownsRow.lt h
theorem OwnD.below {w w' : World} {base B : Nat} {v : Value} {n : Nat} {l : List DI} (h : OwnD w base v n l) (hb : Below B w w') (hB : w.heap.size ≤ B) : OwnD w' base v n l := ownsRow_below h hb hB
theorem OwnD.low {w : World} {base b : Nat} {v : Value} {n : Nat} {l : List DI} (h : OwnD w base v n l) (hb : b ≤ base) : OwnD w b v n l := ownsRow_low h hb
theorem OwnD.dl {w : World} {base : Nat} {A : Option Addr} {n C : Nat} {l : List DI} (h : OwnD w base (.slice A n C) n l) : DL w base A n C l := by
  have hl := h.length
  rcases h.2 with ⟨e, h0⟩ | ⟨g, cap, cur, e, h1, hg, h3, h4, h5, h6⟩
  · simp only [Value.slice.injEq] at e
    exact ⟨hl, by omega, .inl h0⟩
  · simp only [Value.slice.injEq, true_and] at e
    obtain ⟨rfl, rfl⟩ := e
    refine ⟨hl, ⟨h3, h4⟩, .inr ⟨g, 0, cur, rfl, h1, hg, fun i x hx => ?_⟩⟩
    have hi := (List.getElem?_eq_some_iff.1 hx).1
    obtain ⟨t0, t1, t2⟩ := dics_get l i x hx
    rw [← h6, List.getElem?_take, if_pos (by omega)] at t0
    rw [← h6, List.getElem?_take, if_pos (by omega)] at t1
    rw [← h6, List.getElem?_take, if_pos (by omega)] at t2
    rw [Nat.zero_add]
    have hc : ∀ j, w.cell? ⟨g, j, Option.none⟩ = cur.toList[j]? := fun j => by simp [World.cell?, hg]
    exact ⟨(hc _).trans t0, (hc _).trans t1, (hc _).trans t2⟩
theorem DL.keep {w w' : World} {B : Nat} {A : Option Addr} {n C : Nat} {l : List DI} (h : DL w B A n C l) (hk : ∀ (g : Nat) (cur : Array Value), A.map Addr.block = some g → B ≤ g → w.heap[g]? = some (Obj.cells cur 125 (0, 0)) → w'.heap[g]? = w.heap[g]?) : DL w' B A n C l := by
  refine ⟨h.len, h.cap, h.cell.imp id ?_⟩
  rintro ⟨g, off, cur, rfl, h1, h2, h3⟩
  have e := hk g cur rfl h1 h2
  refine ⟨g, off, cur, rfl, h1, e.trans h2, fun i x hx => ?_⟩
  have := h3 i x hx
  exact ⟨(World.cell?_of_block (a := ⟨g, off + i * 3, none⟩) e).trans this.1, (World.cell?_of_block (a := ⟨g, off + i * 3 + 1, none⟩) e).trans this.2.1, (World.cell?_of_block (a := ⟨g, off + i * 3 + 2, none⟩) e).trans this.2.2⟩
theorem DL.below {w w' : World} {B B' : Nat} {A : Option Addr} {n C : Nat} {l : List DI} (h : DL w B A n C l) (hb : Below B' w w') (hB : w.heap.size ≤ B') : DL w' B A n C l :=
  h.keep (fun g _ _ _ hg => hb.block g (Nat.lt_of_lt_of_le (Array.getElem?_eq_some_iff.1 hg).1 hB))
theorem DL.low {w : World} {B B' : Nat} {A : Option Addr} {n C : Nat} {l : List DI} (h : DL w B A n C l) (hB : B' ≤ B) : DL w B' A n C l := by
  refine ⟨h.len, h.cap, h.cell.imp id ?_⟩
  rintro ⟨g, off, cur, e, h1, h2⟩
  exact ⟨g, off, cur, e, by omega, h2⟩
theorem DL.at_ {w : World} {B : Nat} {A : Option Addr} {n C : Nat} {l : List DI} (h : DL w B A n C l) (i : Nat) (x : DI) (hx : l[i]? = some x) : ∃ g off, A = some ⟨g, off, none⟩ ∧ g < w.heap.size ∧ w.cell? ⟨g, off + i * 3, none⟩ = some (.int .u32 x.no) ∧ w.cell? ⟨g, off + i * 3 + 1, none⟩ = some (.int .i64 x.left) ∧ w.cell? ⟨g, off + i * 3 + 2, none⟩ = some (.int .i64 (x.tries : Int)) := by
  have hi := (List.getElem?_eq_some_iff.1 hx).1
  have hl := h.len
  rcases h.cell with h0 | ⟨g, off, cur, rfl, _, hg, hc⟩
  · omega
  · exact ⟨g, off, rfl, (Array.getElem?_eq_some_iff.1 hg).1, hc i x hx⟩
/-- An item's block, as the walk lays it. -/
theorem di_new (w : World) (x : DI) : Lies (w.alloc (.cells #[.int .u32 x.no, .int .i64 x.left, .int .i64 (x.tries : Int)] 125)) w.heap.size 0 (dic x) := Lies.new w (dic x) _ (Below.refl _ _)
theorem dic_cells (x : DI) : (dic x).all (·.oneCell') = true := by simp [dic, Value.oneCell']
theorem dic_size (x : DI) : (dic x).size = 3 := rfl
set_option maxRecDepth 100000 in
/-- append of one item. -/
theorem wpList_append_di {w : World} {ops : Array Oper} {rest : List Oper} {o : Oper} {a : Act} {Q : Exit → Act → World → Prop} (hgd : o.guard = none) (s x : Operand)
    (ho : o.op = .call { callee := .builtin .append, args := #[s, x], argTypes := #[60, 60] })
    (base : Nat) (A : Option Addr) (n C : Nat) (hs : a.eval s = .slice A n C) (l : List DI) (hown : OwnD w base (.slice A n C) n l)
    (g : Nat) (hx : a.eval x = .slice (some ⟨g, 0, none⟩) 1 1) (z : DI) (hl : Lies w g 0 (dic z)) (hb : n + 1 ≤ 100000) (hbase : base ≤ w.heap.size)
    (h : ∀ A' C' w', Hid (OwnD w' base (.slice A' (n + 1) C') (n + 1) (l ++ [z])) → Hid (Grew base 125 w w') → Hid (w.grownBy w' (A.map Addr.block)) → wpList Try.prog ops Q rest (a.put o.dst (.slice A' (n + 1) C')) w') :
    wpList Try.prog ops Q (o :: rest) a w :=
  wpList_plain hgd fun _ hK => by
    obtain ⟨i, hi, hzz⟩ := Option.map_eq_some_iff.1 info_di
    simp only [Prod.mk.injEq] at hzz
    obtain ⟨hz0, hsz, hby0⟩ := hzz
    refine wp_append_own w s x 60 ho base 125 i _ 3 24 Try.underlying60 hi hz0 hsz hby0 rfl (by decide) _ n _ hs hown ⟨g, 0, none⟩ 1 1 (dic z).toList hx rfl ?_ ?_ (by unfold maxLen; omega) ?_ hbase ?_
    · intro j u hu
      have hj : j < (dic z).size := by simpa using (List.getElem?_eq_some_iff.1 hu).1
      rw [add_place, hl.cell j hj, ← hu]
      simp
    · intro u hu
      exact (Array.all_eq_true_iff_forall_mem.1 (dic_cells z)) u (by simpa using hu)
    · omega
    · intro v' w' h2 h3 _
      have h4 : ∃ A C, v' = .slice A (n + 1) C := by
        rcases h2.2 with ⟨rfl, h0⟩ | ⟨g, cap, cur, rfl, _⟩
        · omega
        · exact ⟨_, _, rfl⟩
      obtain ⟨A', C', rfl⟩ := h4
      have h5 : OwnD w' base (.slice A' (n + 1) C') (n + 1) (l ++ [z]) := by unfold OwnD; rw [dics_append, dics_one]; exact h2
      refine hK _ _ (h A' C' w' (Lib.hid h5) (Lib.hid ⟨below_grown (Below.refl base w) h3 hbase (fun k hk => (hown.lt k hk).1), h3.size, fun k D t hk hne => ?_⟩) (Lib.hid (by rw [← own_block A n C]; exact h3)))
      refine h3.block k (Array.getElem?_eq_some_iff.1 hk).1 (fun ek => hne ?_)
      rcases hown.2 with ⟨he, _⟩ | ⟨g', cap, cur, he, _, hg', _⟩
      · rw [he] at ek; cases ek
      · rw [he] at ek
        obtain rfl : k = g' := by simpa [Value.ownBlock] using ek
        rw [hg'] at hk
        have := Option.some.inj hk
        injection this with _ h5 _
        exact h5.symm
/-- The document's list by value. -/
def DV (room asked full : Nat) (A : Option Addr) (n C : Nat) : Value := .agg #[.int .i64 (room : Int), .int .i64 (asked : Int), .int .i64 (full : Int), .slice A n C]
/-- Its box. -/
def DBx (w : World) (b : Nat) (room asked full : Int) (s : Value) : Prop := w.heap[b]? = some (Obj.cells #[.int .i64 room, .int .i64 asked, .int .i64 full, s] 62 (0, 0))
section
variable {w : World} {b : Nat} {room asked full : Int} {s : Value}
theorem DBx.lt (h : DBx w b room asked full s) : b < w.heap.size := (Array.getElem?_eq_some_iff.1 h).1
theorem DBx.cells (h : DBx w b room asked full s) : w.cell? ⟨b, 0, none⟩ = some (.int .i64 room) ∧ w.cell? ⟨b, 1, none⟩ = some (.int .i64 asked) ∧ w.cell? ⟨b, 2, none⟩ = some (.int .i64 full) ∧ w.cell? ⟨b, 3, none⟩ = some s := by
  unfold DBx at h
  simp [World.cell?, h]
theorem DBx.frozen (h : DBx w b room asked full s) (i : Nat) : w.frozen? ⟨b, i, none⟩ = false := by
  unfold DBx at h
  simp [World.frozen?, h]
theorem DBx.keep {w' : World} (h : DBx w b room asked full s) (e : w'.heap[b]? = w.heap[b]?) : DBx w' b room asked full s := e.trans h
theorem DBx.below {w' : World} {B : Nat} (h : DBx w b room asked full s) (hb : Below B w w') (hB : b < B) : DBx w' b room asked full s := h.keep (hb.block b hB)
theorem DBx.setList (h : DBx w b room asked full s) (v : Value) : DBx (w.setCell ⟨b, 3, none⟩ v) b room asked full v := by
  unfold DBx at *
  simp [World.setCell, Array.getElem?_modify, h]
theorem DBx.setAsked (h : DBx w b room asked full s) (n : Int) : DBx (w.setCell ⟨b, 1, none⟩ (.int .i64 n)) b room n full s := by
  unfold DBx at *
  simp [World.setCell, Array.getElem?_modify, h]
theorem DBx.setFull (h : DBx w b room asked full s) (n : Int) : DBx (w.setCell ⟨b, 2, none⟩ (.int .i64 n)) b room asked n s := by
  unfold DBx at *
  simp [World.setCell, Array.getElem?_modify, h]
theorem DBx.other (h : DBx w b room asked full s) {p : Addr} (hp : b ≠ p.block) (u : Value) : DBx (w.setCell p u) b room asked full s := h.keep (Below.heap_setCell w p u b hp)
theorem DBx.new (w : World) (room asked full : Int) (s : Value) : DBx (w.alloc (.cells #[.int .i64 room, .int .i64 asked, .int .i64 full, s] 62)) w.heap.size room asked full s := Go.Deep.blk_alloc_new w _
end
/-- A struct's answer is laid into its box. -/
theorem four_far (W : World) (b : Nat) (x y z u : Value) (k : Nat) (h : k ≠ b) : ((((W.setCell ⟨b, 0, none⟩ x).setCell ⟨b, 1, none⟩ y).setCell ⟨b, 2, none⟩ z).setCell ⟨b, 3, none⟩ u).heap[k]? = W.heap[k]? := by
  rw [Below.heap_setCell _ ⟨b, 3, none⟩ _ k h, Below.heap_setCell _ ⟨b, 2, none⟩ _ k h, Below.heap_setCell _ ⟨b, 1, none⟩ _ k h, Below.heap_setCell _ ⟨b, 0, none⟩ _ k h]
theorem four_below {B : Nat} {w W : World} (h : Below B w W) (b : Nat) (hb : B ≤ b) (x y z u : Value) : Below B w ((((W.setCell ⟨b, 0, none⟩ x).setCell ⟨b, 1, none⟩ y).setCell ⟨b, 2, none⟩ z).setCell ⟨b, 3, none⟩ u) :=
  (((h.setCell (p := ⟨b, 0, none⟩) hb _).setCell (p := ⟨b, 1, none⟩) hb _).setCell (p := ⟨b, 2, none⟩) hb _).setCell (p := ⟨b, 3, none⟩) hb _
/-- The boxes of a call of the document's, in all worlds to come. -/
theorem dboxes {w : World} {B n C : Nat} {room asked full : Int} {A : Option Addr} {l : List DI} (h : DL w B A n C l) (W : World) (hW : W = (w.alloc (.cells #[.int .i64 room, .int .i64 asked, .int .i64 full, .slice A n C] 62)).alloc (.cells #[.int .i64 0, .int .i64 0, .int .i64 0, .slice none 0 0] 62)) :
    W.heap.size = w.heap.size + 2 ∧ Below w.heap.size w W ∧ ∀ w', Below W.heap.size W w' → DBx w' w.heap.size room asked full (.slice A n C) ∧ DBx w' (w.heap.size + 1) 0 0 0 (.slice none 0 0) ∧ DL w' B A n C l := by
  have hs : W.heap.size = w.heap.size + 2 := by rw [hW]; simp
  have hb : Below w.heap.size w W := by rw [hW]; exact ((Below.refl w.heap.size w).alloc (Nat.le_refl _) _).alloc (by simp) _
  have h1 : DBx W w.heap.size room asked full (.slice A n C) := by rw [hW]; exact (DBx.new w _ _ _ _).keep (Below.heap_alloc _ _ _ (by simp))
  have h2 : DBx W (w.heap.size + 1) 0 0 0 (.slice none 0 0) := by
    rw [hW]
    have := DBx.new (w.alloc (.cells #[.int .i64 room, .int .i64 asked, .int .i64 full, .slice A n C] 62)) 0 0 0 (.slice none 0 0)
    simpa using this
  exact ⟨hs, hb, fun w' h' => ⟨h1.below h' (by omega), h2.below h' (by omega), (h.below hb (Nat.le_refl _)).below h' (Nat.le_refl _)⟩⟩
end Go.Proofs.Ytnffngbkidehfaa.Nk
