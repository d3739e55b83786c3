/-
  Own text: the document's list; its Push, walked.
-/
import Derived.Test.YtagcpnelobidnaaPqF
namespace Go.Proofs.Ytagcpnelobidnaa
open Go.RowKit

/-- An entry of the document's list: its rank and value. -/
abbrev DI := Int × Int
def dcells : List DI → List Value
  | [] => []
  | x :: l => .int .i64 x.1 :: .int .i64 x.2 :: dcells l
theorem dcells_append (a b : List DI) : dcells (a ++ b) = dcells a ++ dcells b := by
  induction a with
  | nil => rfl
  | cons x a ih => simp [dcells, ih]
theorem dcells_length (l : List DI) : (dcells l).length = l.length * 2 := by
  induction l with
  | nil => rfl
  | cons x l ih => simp [dcells, ih]; omega
theorem dcells_get (l : List DI) (i : Nat) (x : DI) (h : l[i]? = some x) : (dcells l)[i * 2]? = some (.int .i64 x.1) ∧ (dcells l)[i * 2 + 1]? = some (.int .i64 x.2) := by
  induction l generalizing i with
  | nil => simp at h
  | cons y l ih =>
    cases i with
    | zero => simp at h; subst h; simp [dcells]
    | succ i =>
      have := ih i (by simpa using h)
      rw [show (i + 1) * 2 = i * 2 + 2 by omega]
      simpa [dcells] using this
theorem info_ditem : (Try.prog.info? 49).map (fun i => (i.zero, i.size, i.bytes)) = some (some (.agg #[.int .i64 0, .int .i64 0]), 2, 16) := by kernel_rfl
/-- Such a list in a slice of the call's own. -/
def OwnD (w : World) (base : Nat) (v : Value) (n : Nat) (l : List DI) : Prop := w.ownsRow base 49 2 v n (dcells l)
/-- Such a list, read. -/
structure DL (w : World) (B : Nat) (A : Option Addr) (n C : Nat) (l : List DI) : Prop where
  len : l.length = n
  cap : n ≤ C ∧ C ≤ maxLen
  cell : n = 0 ∨ ∃ g off cur, A = some ⟨g, off, none⟩ ∧ B ≤ g ∧ w.heap[g]? = some (.cells cur 49 (0, 0)) ∧ ∀ i x, l[i]? = some x → w.cell? ⟨g, off + i * 2, none⟩ = some (.int .i64 x.1) ∧ w.cell? ⟨g, off + i * 2 + 1, none⟩ = some (.int .i64 x.2)
theorem OwnD.none (w : World) (base : Nat) : OwnD w base (.slice none 0 0) 0 [] := ⟨rfl, .inl ⟨rfl, rfl⟩⟩
theorem OwnD.length {w : World} {base : Nat} {v : Value} {n : Nat} {l : List DI} (h : OwnD w base v n l) : l.length = n := by
  have := h.1; rw [dcells_length] at this; omega
theorem OwnD.keep {w w' : World} {base : Nat} {v : Value} {n : Nat} {l : List DI} (h : OwnD w base v n l) (hk : ∀ g, v.ownBlock = some g → w'.heap[g]? = w.heap[g]?) : OwnD w' base v n l := by
  refine ⟨h.1, h.2.imp id ?_⟩
  rintro ⟨g, cap, cur, e, h1, hg, h2⟩
  exact ⟨g, cap, cur, e, h1, (hk g (by rw [e]; rfl)).trans hg, h2⟩
theorem OwnD.lt {w : World} {base : Nat} {v : Value} {n : Nat} {l : List DI} (h : OwnD w base v n l) : ∀ g, v.ownBlock = some g → base ≤ g ∧ g < w.heap.size := World.ownsRow.lt h
theorem OwnD.below {w w' : World} {base B : Nat} {v : Value} {n : Nat} {l : List DI} (h : OwnD w base v n l) (hb : Below B w w') (hB : w.heap.size ≤ B) : OwnD w' base v n l :=
  h.keep (fun g hg => hb.block g (Nat.lt_of_lt_of_le (h.lt g hg).2 hB))
theorem OwnD.dl {w : World} {base : Nat} {A : Option Addr} {n C : Nat} {l : List DI} (h : OwnD w base (.slice A n C) n l) : DL w base A n C l := by
  have hl := h.length
  rcases h.2 with ⟨e, h0⟩ | ⟨g, cap, cur, e, h1, hg, h3, h4, h5, h6⟩
  · simp only [Value.slice.injEq] at e
    exact ⟨hl, by omega, .inl h0⟩
  · simp only [Value.slice.injEq, true_and] at e
    obtain ⟨rfl, rfl⟩ := e
    refine ⟨hl, ⟨h3, h4⟩, .inr ⟨g, 0, cur, rfl, h1, hg, fun i x hx => ?_⟩⟩
    have hi := (List.getElem?_eq_some_iff.1 hx).1
    obtain ⟨t0, t1⟩ := dcells_get l i x hx
    rw [← h6, List.getElem?_take, if_pos (by omega)] at t0
    rw [← h6, List.getElem?_take, if_pos (by omega)] at t1
    rw [Nat.zero_add]
    have hc : ∀ j, w.cell? ⟨g, j, Option.none⟩ = cur.toList[j]? := fun j => by simp [World.cell?, hg]
    exact ⟨(hc _).trans t0, (hc _).trans t1⟩
theorem DL.keep {w w' : World} {B : Nat} {A : Option Addr} {n C : Nat} {l : List DI} (h : DL w B A n C l) (hk : ∀ g cur, A.map Addr.block = some g → B ≤ g → w.heap[g]? = some (.cells cur 49 (0, 0)) → w'.heap[g]? = w.heap[g]?) : DL w' B A n C l := by
  refine ⟨h.len, h.cap, h.cell.imp id ?_⟩
  rintro ⟨g, off, cur, rfl, h1, h2, h3⟩
  have e := hk g cur rfl h1 h2
  refine ⟨g, off, cur, rfl, h1, e.trans h2, fun i x hx => ?_⟩
  have := h3 i x hx
  exact ⟨(World.cell?_of_block (a := ⟨g, off + i * 2, none⟩) e).trans this.1, (World.cell?_of_block (a := ⟨g, off + i * 2 + 1, none⟩) e).trans this.2⟩
theorem DL.below {w w' : World} {B B' : Nat} {A : Option Addr} {n C : Nat} {l : List DI} (h : DL w B A n C l) (hb : Below B' w w') (hB : w.heap.size ≤ B') : DL w' B A n C l :=
  h.keep (fun g _ _ _ hg => hb.block g (Nat.lt_of_lt_of_le (Array.getElem?_eq_some_iff.1 hg).1 hB))
theorem DL.low {w : World} {B B' : Nat} {A : Option Addr} {n C : Nat} {l : List DI} (h : DL w B A n C l) (hB : B' ≤ B) : DL w B' A n C l := by
  refine ⟨h.len, h.cap, h.cell.imp id ?_⟩
  rintro ⟨g, off, cur, e, h1, h2⟩
  exact ⟨g, off, cur, e, by omega, h2⟩
theorem DL.at_ {w : World} {B : Nat} {A : Option Addr} {n C : Nat} {l : List DI} (h : DL w B A n C l) (i : Nat) (x : DI) (hx : l[i]? = some x) : ∃ g off, A = some ⟨g, off, none⟩ ∧ g < w.heap.size ∧ w.cell? ⟨g, off + i * 2, none⟩ = some (.int .i64 x.1) ∧ w.cell? ⟨g, off + i * 2 + 1, none⟩ = some (.int .i64 x.2) := by
  have hi := (List.getElem?_eq_some_iff.1 hx).1
  have hl := h.len
  rcases h.cell with h0 | ⟨g, off, cur, rfl, _, hg, hc⟩
  · omega
  · exact ⟨g, off, rfl, (Array.getElem?_eq_some_iff.1 hg).1, hc i x hx⟩
theorem DL.front {w : World} {B : Nat} {A : Option Addr} {n m C : Nat} {l : List DI} (h : DL w B A n C l) (hm : m ≤ n) : DL w B A m C (l.take m) := by
  refine ⟨by rw [List.length_take, h.len]; omega, ⟨by have := h.cap; omega, h.cap.2⟩, ?_⟩
  rcases h.cell with h0 | ⟨g, off, cur, rfl, h1, hg, hc⟩
  · exact .inl (by omega)
  · refine .inr ⟨g, off, cur, rfl, h1, hg, fun i x hx => ?_⟩
    have hi := (List.getElem?_eq_some_iff.1 hx).1
    rw [List.length_take] at hi
    rw [List.getElem?_take, if_pos (by omega)] at hx
    exact hc i x hx
/-- append of one entry. -/
theorem wp_append_ditem {w : World} {o : Oper} {a : Act} {K : Act → World → Prop} {Q : Exit → Act → World → Prop} (s x : Operand)
    (ho : o.op = .call { callee := .builtin .append, args := #[s, x], argTypes := #[25, 25] })
    (base : Nat) (dp : Option Addr) (n dC : Nat) (hs : a.eval s = .slice dp n dC) (l : List DI) (hown : OwnD w base (.slice dp n dC) n l)
    (g : Nat) (hx : a.eval x = .slice (some ⟨g, 0, none⟩) 1 1) (z : DI) (hy : w.cell? ⟨g, 0, none⟩ = some (.int .i64 z.1) ∧ w.cell? ⟨g, 1, none⟩ = some (.int .i64 z.2)) (hb : n + 1 ≤ 100000) (hbase : base ≤ w.heap.size)
    (h : ∀ A C w', Hid (OwnD w' base (.slice A (n + 1) C) (n + 1) (l ++ [z])) → Hid (Below base w w') → K (a.put o.dst (.slice A (n + 1) C)) w') :
    o.wp Try.prog a w K Q := by
  obtain ⟨i, hi, hzz⟩ := Option.map_eq_some_iff.1 info_ditem
  simp only [Prod.mk.injEq] at hzz
  obtain ⟨hz, hsz, hby⟩ := hzz
  refine wp_append_own w s x 25 ho base 49 i _ 2 16 Try.underlying25 hi hz hsz hby rfl (by omega) _ n _ hs hown ⟨g, 0, none⟩ 1 1 (dcells [z]) hx rfl ?_ ?_ (by unfold maxLen; omega) (by omega) hbase ?_
  · intro j u hu
    match j, hu with
    | 0, hu => simp [dcells] at hu; subst hu; rw [add_place]; exact hy.1
    | 1, hu => simp [dcells] at hu; subst hu; rw [add_place]; exact hy.2
    | j + 2, hu => simp [dcells] at hu
  · intro u hu
    simp [dcells] at hu
    rcases hu with rfl | rfl <;> rfl
  · intro v' w' h1 h2 _
    rw [← dcells_append] at h1
    have h3 : OwnD w' base v' (n + 1) (l ++ [z]) := h1
    have h4 : ∃ A C, v' = .slice A (n + 1) C := by
      rcases h3.2 with ⟨rfl, h0⟩ | ⟨g, cap, cur, rfl, _⟩
      · omega
      · exact ⟨_, _, rfl⟩
    obtain ⟨A, C, rfl⟩ := h4
    exact h A C w' (Lib.hid h3) (Lib.hid (below_grown (Below.refl base w) h2 hbase (fun k hk => (hown.lt k hk).1)))
theorem wpList_append_ditem {w : World} {ops : Array Oper} {rest : List Oper} {o : Oper} {a : Act} {Q : Exit → Act → World → Prop} (hgd : o.guard = none) (s x : Operand)
    (ho : o.op = .call { callee := .builtin .append, args := #[s, x], argTypes := #[25, 25] })
    (base : Nat) (dp : Option Addr) (n dC : Nat) (hs : a.eval s = .slice dp n dC) (l : List DI) (hown : OwnD w base (.slice dp n dC) n l)
    (g : Nat) (hx : a.eval x = .slice (some ⟨g, 0, none⟩) 1 1) (z : DI) (hy : w.cell? ⟨g, 0, none⟩ = some (.int .i64 z.1) ∧ w.cell? ⟨g, 1, none⟩ = some (.int .i64 z.2)) (hb : n + 1 ≤ 100000) (hbase : base ≤ w.heap.size)
    (h : ∀ A C w', Hid (OwnD w' base (.slice A (n + 1) C) (n + 1) (l ++ [z])) → Hid (Below base w w') → wpList Try.prog ops Q rest (a.put o.dst (.slice A (n + 1) C)) w') :
    wpList Try.prog ops Q (o :: rest) a w :=
  wpList_plain hgd fun _ hK => wp_append_ditem s x ho base dp n dC hs l hown g hx z hy hb hbase (fun A C w' h1 h2 => hK _ _ (h A C w' h1 h2))
/-- The entry's block, as the walk lays it. -/
theorem ditem_new (w : World) (x y : Int) : (w.alloc (.cells #[.int .i64 x, .int .i64 y] 49)).cell? ⟨w.heap.size, 0, none⟩ = some (.int .i64 x) ∧ (w.alloc (.cells #[.int .i64 x, .int .i64 y] 49)).cell? ⟨w.heap.size, 1, none⟩ = some (.int .i64 y) := by
  have hB := Go.Deep.blk_alloc_new w (.cells #[.int .i64 x, .int .i64 y] 49)
  constructor <;> (simp only [World.cell?, hB]; rfl)
/-- The document's queue by value. -/
def DV (room : Nat) (A : Option Addr) (n C : Nat) : Value := .agg #[.int .i64 (room : Int), .slice A n C]
/-- Its box. -/
def DBx (w : World) (b room : Nat) (s : Value) : Prop := w.heap[b]? = some (.cells #[.int .i64 (room : Int), s] 27 (0, 0))
section
variable {w : World} {b room : Nat} {s : Value}
theorem DBx.lt (h : DBx w b room s) : b < w.heap.size := (Array.getElem?_eq_some_iff.1 h).1
theorem DBx.cells (h : DBx w b room s) : w.cell? ⟨b, 0, none⟩ = some (.int .i64 (room : Int)) ∧ w.cell? ⟨b, 1, none⟩ = some s := by
  unfold DBx at h
  simp [World.cell?, h]
theorem DBx.frozen (h : DBx w b room s) (i : Nat) : w.frozen? ⟨b, i, none⟩ = false := by
  unfold DBx at h
  simp [World.frozen?, h]
theorem DBx.keep {w' : World} (h : DBx w b room s) (e : w'.heap[b]? = w.heap[b]?) : DBx w' b room s := e.trans h
theorem DBx.below {w' : World} {B : Nat} (h : DBx w b room s) (hb : Below B w w') (hB : b < B) : DBx w' b room s := h.keep (hb.block b hB)
theorem DBx.setList (h : DBx w b room s) (v : Value) : DBx (w.setCell ⟨b, 1, none⟩ v) b room v := by
  unfold DBx at *
  simp [World.setCell, Array.getElem?_modify, h]
theorem DBx.other (h : DBx w b room s) {p : Addr} (hp : b ≠ p.block) (u : Value) : DBx (w.setCell p u) b room s := h.keep (Below.heap_setCell w p u b hp)
theorem DBx.new (w : World) (room : Nat) (s : Value) : DBx (w.alloc (.cells #[.int .i64 (room : Int), s] 27)) w.heap.size room s := Go.Deep.blk_alloc_new w _
end
/-- Where the document puts a new entry. -/
def dpos (r : Int) (l : List DI) : Nat := (l.takeWhile (fun x => decide (x.1 ≤ r))).length
def dins (r v : Int) (l : List DI) : List DI := l.take (dpos r l) ++ (r, v) :: l.drop (dpos r l)
theorem dpos_le (r : Int) (l : List DI) : dpos r l ≤ l.length := List.IsPrefix.length_le (List.takeWhile_prefix _)
theorem dpos_take (r : Int) (l : List DI) : ∀ t y, t < dpos r l → l[t]? = some y → y.1 ≤ r := by
  intro t y ht hy
  unfold dpos at ht
  have hp : (l.takeWhile (fun x => decide (x.1 ≤ r))) <+: l := List.takeWhile_prefix _
  have h2 : (l.takeWhile (fun x => decide (x.1 ≤ r)))[t]? = some y := by
    rw [← hy]
    obtain ⟨s, hs⟩ := hp
    rw [← hs, List.getElem?_append_left]
    rw [hs]; exact ht
  have hm := List.mem_of_getElem? h2
  have := List.all_takeWhile (l := l) (p := fun x => decide (x.1 ≤ r))
  rw [List.all_eq_true] at this
  simpa using this y hm
theorem dpos_next (r : Int) (l : List DI) (y : DI) (h : l[dpos r l]? = some y) : r < y.1 := by
  induction l with
  | nil => simp at h
  | cons x l ih =>
    unfold dpos at *
    rw [List.takeWhile_cons] at h
    split at h
    · simp only [List.length_cons, List.getElem?_cons_succ] at h
      exact ih h
    · rename_i hx
      simp at h hx
      subst h
      omega
theorem dins_length (r v : Int) (l : List DI) : (dins r v l).length = l.length + 1 := by
  have := dpos_le r l
  unfold dins
  simp only [List.length_append, List.length_cons, List.length_take, List.length_drop]
  omega
theorem dins_lo (r v : Int) (l : List DI) (k : Nat) (h : k < dpos r l) : (dins r v l)[k]? = l[k]? := by
  have := dpos_le r l
  unfold dins
  rw [List.getElem?_append_left (by rw [List.length_take]; omega), List.getElem?_take, if_pos h]
theorem dins_at (r v : Int) (l : List DI) : (dins r v l)[dpos r l]? = some (r, v) := by
  have := dpos_le r l
  unfold dins
  rw [List.getElem?_append_right (by rw [List.length_take]; omega), List.length_take, Nat.min_eq_left this, Nat.sub_self]
  rfl
theorem dins_hi (r v : Int) (l : List DI) (k : Nat) (h : dpos r l ≤ k) : (dins r v l)[k + 1]? = l[k]? := by
  have := dpos_le r l
  unfold dins
  rw [List.getElem?_append_right (by rw [List.length_take]; omega), List.length_take, Nat.min_eq_left this, show k + 1 - dpos r l = (k - dpos r l) + 1 by omega, List.getElem?_cons_succ, List.getElem?_drop]
  congr 1
  omega
theorem take_more (l : List DI) (m : Nat) (x : DI) (h : l[m]? = some x) : l.take m ++ [x] = l.take (m + 1) := by
  rw [List.take_add_one, h]
  rfl
end Go.Proofs.Ytagcpnelobidnaa
