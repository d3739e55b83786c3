/-
  Own text: the document's list.
-/
import Derived.Test.YthkckgdhaihmoaaTmJ
namespace Go.Proofs.Ythkckgdhaihmoaa
open Go.RowKit

theorem info_ditem : (Try.prog.info? 41).map (fun i => (i.zero, i.size, i.bytes)) = some (some (.agg #[.int .i64 0, .int .i64 0]), 2, 16) := by kernel_rfl
/-- Such a list in a slice of the call's own. -/
def OwnD (w : World) (base : Nat) (v : Value) (n : Nat) (l : List It) : Prop := w.ownsRow base 41 2 v n (icells l)
/-- Such a list, read. -/
structure DL (w : World) (B : Nat) (A : Option Addr) (n C : Nat) (l : List It) : Prop where
  len : l.length = n
  cap : n ≤ C ∧ C ≤ maxLen
  cell : n = 0 ∨ ∃ g off cur, A = some ⟨g, off, none⟩ ∧ B ≤ g ∧ w.heap[g]? = some (.cells cur 41 (0, 0)) ∧ ∀ i x, l[i]? = some x → w.cell? ⟨g, off + i * 2, none⟩ = some (.int .i64 x.key) ∧ w.cell? ⟨g, off + i * 2 + 1, none⟩ = some (.int .i64 x.due)
theorem OwnD.none (w : World) (base : Nat) : OwnD w base (.slice none 0 0) 0 [] := ⟨rfl, .inl ⟨rfl, rfl⟩⟩
theorem OwnD.length {w : World} {base : Nat} {v : Value} {n : Nat} {l : List It} (h : OwnD w base v n l) : l.length = n := by
  have := h.1; rw [icells_length] at this; omega
theorem OwnD.keep {w w' : World} {base : Nat} {v : Value} {n : Nat} {l : List It} (h : OwnD w base v n l) (hk : ∀ g, v.ownBlock = some g → w'.heap[g]? = w.heap[g]?) : OwnD w' base v n l := by
  refine ⟨h.1, h.2.imp id ?_⟩
  rintro ⟨g, cap, cur, e, h1, hg, h2⟩
  exact ⟨g, cap, cur, e, h1, (hk g (by rw [e]; rfl)).trans hg, h2⟩
theorem OwnD.lt {w : World} {base : Nat} {v : Value} {n : Nat} {l : List It} (h : OwnD w base v n l) : ∀ g, v.ownBlock = some g → base ≤ g ∧ g < w.heap.size := World.ownsRow.lt h
theorem OwnD.below {w w' : World} {base B : Nat} {v : Value} {n : Nat} {l : List It} (h : OwnD w base v n l) (hb : Below B w w') (hB : w.heap.size ≤ B) : OwnD w' base v n l :=
  h.keep (fun g hg => hb.block g (Nat.lt_of_lt_of_le (h.lt g hg).2 hB))
theorem OwnD.dl {w : World} {base : Nat} {A : Option Addr} {n C : Nat} {l : List It} (h : OwnD w base (.slice A n C) n l) : DL w base A n C l := by
  have hl := h.length
  rcases h.2 with ⟨e, h0⟩ | ⟨g, cap, cur, e, h1, hg, h3, h4, h5, h6⟩
  · simp only [Value.slice.injEq] at e
    exact ⟨hl, by omega, .inl h0⟩
  · simp only [Value.slice.injEq, true_and] at e
    obtain ⟨rfl, rfl⟩ := e
    refine ⟨hl, ⟨h3, h4⟩, .inr ⟨g, 0, cur, rfl, h1, hg, fun i x hx => ?_⟩⟩
    have hi := (List.getElem?_eq_some_iff.1 hx).1
    obtain ⟨t0, t1⟩ := icells_get l i x hx
    rw [← h6, List.getElem?_take, if_pos (by omega)] at t0
    rw [← h6, List.getElem?_take, if_pos (by omega)] at t1
    rw [Nat.zero_add]
    have hc : ∀ j, w.cell? ⟨g, j, Option.none⟩ = cur.toList[j]? := fun j => by simp [World.cell?, hg]
    exact ⟨(hc _).trans t0, (hc _).trans t1⟩
theorem DL.keep {w w' : World} {B : Nat} {A : Option Addr} {n C : Nat} {l : List It} (h : DL w B A n C l) (hk : ∀ g cur, A.map Addr.block = some g → B ≤ g → w.heap[g]? = some (.cells cur 41 (0, 0)) → w'.heap[g]? = w.heap[g]?) : DL w' B A n C l := by
  refine ⟨h.len, h.cap, h.cell.imp id ?_⟩
  rintro ⟨g, off, cur, rfl, h1, h2, h3⟩
  have e := hk g cur rfl h1 h2
  refine ⟨g, off, cur, rfl, h1, e.trans h2, fun i x hx => ?_⟩
  have := h3 i x hx
  exact ⟨(World.cell?_of_block (a := ⟨g, off + i * 2, none⟩) e).trans this.1, (World.cell?_of_block (a := ⟨g, off + i * 2 + 1, none⟩) e).trans this.2⟩
theorem DL.below {w w' : World} {B B' : Nat} {A : Option Addr} {n C : Nat} {l : List It} (h : DL w B A n C l) (hb : Below B' w w') (hB : w.heap.size ≤ B') : DL w' B A n C l :=
  h.keep (fun g _ _ _ hg => hb.block g (Nat.lt_of_lt_of_le (Array.getElem?_eq_some_iff.1 hg).1 hB))
theorem DL.low {w : World} {B B' : Nat} {A : Option Addr} {n C : Nat} {l : List It} (h : DL w B A n C l) (hB : B' ≤ B) : DL w B' A n C l := by
  refine ⟨h.len, h.cap, h.cell.imp id ?_⟩
  rintro ⟨g, off, cur, e, h1, h2⟩
  exact ⟨g, off, cur, e, by omega, h2⟩
theorem DL.at_ {w : World} {B : Nat} {A : Option Addr} {n C : Nat} {l : List It} (h : DL w B A n C l) (i : Nat) (x : It) (hx : l[i]? = some x) : ∃ g off, A = some ⟨g, off, none⟩ ∧ g < w.heap.size ∧ w.cell? ⟨g, off + i * 2, none⟩ = some (.int .i64 x.key) ∧ w.cell? ⟨g, off + i * 2 + 1, none⟩ = some (.int .i64 x.due) := by
  have hi := (List.getElem?_eq_some_iff.1 hx).1
  have hl := h.len
  rcases h.cell with h0 | ⟨g, off, cur, rfl, _, hg, hc⟩
  · omega
  · exact ⟨g, off, rfl, (Array.getElem?_eq_some_iff.1 hg).1, hc i x hx⟩
theorem DL.front {w : World} {B : Nat} {A : Option Addr} {n m C : Nat} {l : List It} (h : DL w B A n C l) (hm : m ≤ n) : DL w B A m C (l.take m) := by
  refine ⟨by rw [List.length_take, h.len]; omega, ⟨by have := h.cap; omega, h.cap.2⟩, ?_⟩
  rcases h.cell with h0 | ⟨g, off, cur, rfl, h1, hg, hc⟩
  · exact .inl (by omega)
  · refine .inr ⟨g, off, cur, rfl, h1, hg, fun i x hx => ?_⟩
    have hi := (List.getElem?_eq_some_iff.1 hx).1
    rw [List.length_take] at hi
    rw [List.getElem?_take, if_pos (by omega)] at hx
    exact hc i x hx
/-- append of one entry. -/
theorem wp_append_ditem {w : World} {o : Oper} {a : Act} {K : Act → World → Prop} {Q : Exit → Act → World → Prop} (s x : Operand)
    (ho : o.op = .call { callee := .builtin .append, args := #[s, x], argTypes := #[25, 25] })
    (base : Nat) (dp : Option Addr) (n dC : Nat) (hs : a.eval s = .slice dp n dC) (l : List It) (hown : OwnD w base (.slice dp n dC) n l)
    (g : Nat) (hx : a.eval x = .slice (some ⟨g, 0, none⟩) 1 1) (z : It) (hy : w.cell? ⟨g, 0, none⟩ = some (.int .i64 z.key) ∧ w.cell? ⟨g, 1, none⟩ = some (.int .i64 z.due)) (hb : n + 1 ≤ 100000) (hbase : base ≤ w.heap.size)
    (h : ∀ A C w', Hid (OwnD w' base (.slice A (n + 1) C) (n + 1) (l ++ [z])) → Hid (Below base w w') → K (a.put o.dst (.slice A (n + 1) C)) w') :
    o.wp Try.prog a w K Q := by
  obtain ⟨i, hi, hzz⟩ := Option.map_eq_some_iff.1 info_ditem
  simp only [Prod.mk.injEq] at hzz
  obtain ⟨hz, hsz, hby⟩ := hzz
  refine wp_append_own w s x 25 ho base 41 i _ 2 16 Try.underlying25 hi hz hsz hby rfl (by omega) _ n _ hs hown ⟨g, 0, none⟩ 1 1 (icells [z]) hx rfl ?_ ?_ (by unfold maxLen; omega) (by omega) hbase ?_
  · intro j u hu
    match j, hu with
    | 0, hu => simp [icells] at hu; subst hu; rw [add_place]; exact hy.1
    | 1, hu => simp [icells] at hu; subst hu; rw [add_place]; exact hy.2
    | j + 2, hu => simp [icells] at hu
  · intro u hu
    simp [icells] at hu
    rcases hu with rfl | rfl <;> rfl
  · intro v' w' h1 h2 _
    rw [← icells_append] at h1
    have h3 : OwnD w' base v' (n + 1) (l ++ [z]) := h1
    have h4 : ∃ A C, v' = .slice A (n + 1) C := by
      rcases h3.2 with ⟨rfl, h0⟩ | ⟨g, cap, cur, rfl, _⟩
      · omega
      · exact ⟨_, _, rfl⟩
    obtain ⟨A, C, rfl⟩ := h4
    exact h A C w' (Lib.hid h3) (Lib.hid (below_grown (Below.refl base w) h2 hbase (fun k hk => (hown.lt k hk).1)))
theorem wpList_append_ditem {w : World} {ops : Array Oper} {rest : List Oper} {o : Oper} {a : Act} {Q : Exit → Act → World → Prop} (hgd : o.guard = none) (s x : Operand)
    (ho : o.op = .call { callee := .builtin .append, args := #[s, x], argTypes := #[25, 25] })
    (base : Nat) (dp : Option Addr) (n dC : Nat) (hs : a.eval s = .slice dp n dC) (l : List It) (hown : OwnD w base (.slice dp n dC) n l)
    (g : Nat) (hx : a.eval x = .slice (some ⟨g, 0, none⟩) 1 1) (z : It) (hy : w.cell? ⟨g, 0, none⟩ = some (.int .i64 z.key) ∧ w.cell? ⟨g, 1, none⟩ = some (.int .i64 z.due)) (hb : n + 1 ≤ 100000) (hbase : base ≤ w.heap.size)
    (h : ∀ A C w', Hid (OwnD w' base (.slice A (n + 1) C) (n + 1) (l ++ [z])) → Hid (Below base w w') → wpList Try.prog ops Q rest (a.put o.dst (.slice A (n + 1) C)) w') :
    wpList Try.prog ops Q (o :: rest) a w :=
  wpList_plain hgd fun _ hK => wp_append_ditem s x ho base dp n dC hs l hown g hx z hy hb hbase (fun A C w' h1 h2 => hK _ _ (h A C w' h1 h2))
/-- The entry's block, as the walk lays it. -/
theorem ditem_new (w : World) (x y : Int) : (w.alloc (.cells #[.int .i64 x, .int .i64 y] 41)).cell? ⟨w.heap.size, 0, none⟩ = some (.int .i64 x) ∧ (w.alloc (.cells #[.int .i64 x, .int .i64 y] 41)).cell? ⟨w.heap.size, 1, none⟩ = some (.int .i64 y) := by
  have hB := Go.Deep.blk_alloc_new w (.cells #[.int .i64 x, .int .i64 y] 41)
  constructor <;> (simp only [World.cell?, hB]; rfl)
/-- The document's set by value. -/
def DV (room : Nat) (now : Int) (A : Option Addr) (n C : Nat) : Value := .agg #[.int .i64 (room : Int), .int .i64 now, .slice A n C]
/-- Its box. -/
def DBx (w : World) (b room : Nat) (now : Int) (s : Value) : Prop := w.heap[b]? = some (.cells #[.int .i64 (room : Int), .int .i64 now, s] 27 (0, 0))
section
variable {w : World} {b room : Nat} {now : Int} {s : Value}
theorem DBx.lt (h : DBx w b room now s) : b < w.heap.size := (Array.getElem?_eq_some_iff.1 h).1
theorem DBx.cells (h : DBx w b room now s) : w.cell? ⟨b, 0, none⟩ = some (.int .i64 (room : Int)) ∧ w.cell? ⟨b, 1, none⟩ = some (.int .i64 now) ∧ w.cell? ⟨b, 2, none⟩ = some s := by
  unfold DBx at h
  simp [World.cell?, h]
theorem DBx.frozen (h : DBx w b room now s) (i : Nat) : w.frozen? ⟨b, i, none⟩ = false := by
  unfold DBx at h
  simp [World.frozen?, h]
theorem DBx.keep {w' : World} (h : DBx w b room now s) (e : w'.heap[b]? = w.heap[b]?) : DBx w' b room now s := e.trans h
theorem DBx.below {w' : World} {B : Nat} (h : DBx w b room now s) (hb : Below B w w') (hB : b < B) : DBx w' b room now s := h.keep (hb.block b hB)
theorem DBx.setList (h : DBx w b room now s) (v : Value) : DBx (w.setCell ⟨b, 2, none⟩ v) b room now v := by
  unfold DBx at *
  simp [World.setCell, Array.getElem?_modify, h]
theorem DBx.setNow (h : DBx w b room now s) (n : Int) : DBx (w.setCell ⟨b, 1, none⟩ (.int .i64 n)) b room n s := by
  unfold DBx at *
  simp [World.setCell, Array.getElem?_modify, h]
theorem DBx.other (h : DBx w b room now s) {p : Addr} (hp : b ≠ p.block) (u : Value) : DBx (w.setCell p u) b room now s := h.keep (Below.heap_setCell w p u b hp)
theorem DBx.new (w : World) (room : Nat) (now : Int) (s : Value) : DBx (w.alloc (.cells #[.int .i64 (room : Int), .int .i64 now, s] 27)) w.heap.size room now s := Go.Deep.blk_alloc_new w _
end
/-- A struct's answer is laid into its box. -/
theorem three_far (W : World) (b : Nat) (x y z : Value) (k : Nat) (h : k ≠ b) : (((W.setCell ⟨b, 0, none⟩ x).setCell ⟨b, 1, none⟩ y).setCell ⟨b, 2, none⟩ z).heap[k]? = W.heap[k]? := by
  rw [Below.heap_setCell _ ⟨b, 2, none⟩ _ k h, Below.heap_setCell _ ⟨b, 1, none⟩ _ k h, Below.heap_setCell _ ⟨b, 0, none⟩ _ k h]
theorem three_below {B : Nat} {w W : World} (h : Below B w W) (b : Nat) (hb : B ≤ b) (x y z : Value) : Below B w (((W.setCell ⟨b, 0, none⟩ x).setCell ⟨b, 1, none⟩ y).setCell ⟨b, 2, none⟩ z) :=
  ((h.setCell (p := ⟨b, 0, none⟩) hb _).setCell (p := ⟨b, 1, none⟩) hb _).setCell (p := ⟨b, 2, none⟩) hb _
/-- The boxes of a call of the document's, in all worlds to come. -/
theorem dboxes {w : World} {B room n C : Nat} {now : Int} {A : Option Addr} {l : List It} (h : DL w B A n C l) (W : World) (hW : W = (w.alloc (.cells #[.int .i64 (room : Int), .int .i64 now, .slice A n C] 27)).alloc (.cells #[.int .i64 0, .int .i64 0, .slice none 0 0] 27)) :
    W.heap.size = w.heap.size + 2 ∧ Below w.heap.size w W ∧ ∀ w', Below W.heap.size W w' → DBx w' w.heap.size room now (.slice A n C) ∧ DBx w' (w.heap.size + 1) 0 0 (.slice none 0 0) ∧ DL w' B A n C l := by
  have hs : W.heap.size = w.heap.size + 2 := by rw [hW]; simp
  have hb : Below w.heap.size w W := by rw [hW]; exact ((Below.refl w.heap.size w).alloc (Nat.le_refl _) _).alloc (by simp) _
  have h1 : DBx W w.heap.size room now (.slice A n C) := by rw [hW]; exact (DBx.new w room now _).keep (Below.heap_alloc _ _ _ (by simp))
  have h2 : DBx W (w.heap.size + 1) 0 0 (.slice none 0 0) := by
    rw [hW]
    have := DBx.new (w.alloc (.cells #[.int .i64 (room : Int), .int .i64 now, .slice A n C] 27)) 0 0 (.slice none 0 0)
    simpa using this
  exact ⟨hs, hb, fun w' h' => ⟨h1.below h' (by omega), h2.below h' (by omega), (h.below hb (Nat.le_refl _)).below h' (Nat.le_refl _)⟩⟩
end Go.Proofs.Ythkckgdhaihmoaa
