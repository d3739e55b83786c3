/-
  Own text: numbers of 32 bits in a slice of the call's own; what is appended to them, one at a time.
-/
import Derived.Test.YtnffngbkidehfaaOwnN
namespace Go.Proofs.Ytnffngbkidehfaa.Nk
open Go.RowKit

theorem info_u32 : (Try.prog.info? 28).map (fun i => (i.zero, i.size, i.bytes)) = some (some (.int .u32 0), 1, 4) := by kernel_rfl
/-- Numbers in a slice of the call's own. -/
def OwnW (w : World) (base : Nat) (v : Value) (n : Nat) (l : List Int) : Prop := w.ownsRow base 28 1 v n (l.map (Value.int .u32))
theorem OwnW.none (w : World) (base : Nat) : OwnW w base (.slice none 0 0) 0 [] := ⟨rfl, .inl ⟨rfl, rfl⟩⟩
theorem OwnW.length {w : World} {base : Nat} {v : Value} {n : Nat} {l : List Int} (h : OwnW w base v n l) : l.length = n := by
  have := h.1; simpa using this
theorem OwnW.slice {w : World} {base : Nat} {v : Value} {n : Nat} {l : List Int} (h : OwnW w base v n l) : ∃ A C, v = .slice A n C ∧ n ≤ C ∧ C ≤ maxLen := by
  rcases h.2 with ⟨rfl, rfl⟩ | ⟨g, cap, cur, rfl, _, _, h1, h2, _⟩
  · exact ⟨_, _, rfl, Nat.le_refl _, Nat.zero_le _⟩
  · exact ⟨_, _, rfl, h1, h2⟩
theorem OwnW.keep {w w' : World} {base : Nat} {v : Value} {n : Nat} {l : List Int} (h : OwnW w base v n l) (hk : ∀ g, v.ownBlock = some g → w'.heap[g]? = w.heap[g]?) : OwnW w' base v n l := by
  refine ⟨h.1, h.2.imp id ?_⟩
  rintro ⟨g, cap, cur, e, h1, hg, h2⟩
  exact ⟨g, cap, cur, e, h1, (hk g (by rw [e]; rfl)).trans hg, h2⟩
theorem OwnW.lt {w : World} {base : Nat} {v : Value} {n : Nat} {l : List Int} (h : OwnW w base v n l) : ∀ g, v.ownBlock = some g → base ≤ g ∧ g < w.heap.size := World.ownsRow.lt h
theorem OwnW.below {w w' : World} {base B : Nat} {v : Value} {n : Nat} {l : List Int} (h : OwnW w base v n l) (hb : Below B w w') (hB : w.heap.size ≤ B) : OwnW w' base v n l :=
  h.keep (fun g hg => hb.block g (Nat.lt_of_lt_of_le (h.lt g hg).2 hB))
theorem OwnW.low {w : World} {base b : Nat} {v : Value} {n : Nat} {l : List Int} (h : OwnW w base v n l) (hb : b ≤ base) : OwnW w b v n l := by
  refine ⟨h.1, h.2.imp id ?_⟩
  rintro ⟨g, cap, cur, e, h1, h2⟩
  exact ⟨g, cap, cur, e, by omega, h2⟩
/-- Where an element is: its block is no struct's. -/
theorem OwnW.at_ {w : World} {base : Nat} {A : Option Addr} {n C : Nat} {l : List Int} (h : OwnW w base (.slice A n C) n l) (i : Nat) (hi : i < n) :
    ∃ g, A = some ⟨g, 0, Option.none⟩ ∧ base ≤ g ∧ g < w.heap.size ∧ w.cell? ⟨g, i, Option.none⟩ = some (.int .u32 (l.getD i 0)) ∧ w.frozen? ⟨g, i, Option.none⟩ = false ∧ n ≤ C ∧ C ≤ maxLen ∧ (∃ cur : Array Value, w.heap[g]? = some (.cells cur 28 (0, 0))) := by
  have hl := h.length
  have hs := h.2
  rcases hs with ⟨e, h0⟩ | ⟨g, cap, cur, e, h1, hg, h3, h4, _⟩
  · omega
  · simp only [Value.slice.injEq, true_and] at e
    obtain ⟨rfl, rfl⟩ := e
    refine ⟨g, rfl, h1, (Array.getElem?_eq_some_iff.1 hg).1, ?_, World.ownsRow.frozenAt h i, h3, h4, cur, hg⟩
    rw [World.ownsRow.cellAt h i (by omega), List.getElem?_map, List.getD_eq_getElem?_getD, List.getElem?_eq_getElem (by omega)]
    rfl
theorem OwnW.cell {w : World} {base g : Nat} {n C : Nat} {l : List Int} (h : OwnW w base (.slice (some ⟨g, 0, Option.none⟩) n C) n l) (i : Nat) (hi : i < n) : w.cell? ⟨g, i, Option.none⟩ = some (.int .u32 (l.getD i 0)) := by
  obtain ⟨g', e, _, _, h, _⟩ := h.at_ i hi
  simp only [Option.some.injEq, Addr.mk.injEq, and_true] at e
  rw [e]; exact h
theorem OwnW.set {w : World} {base g : Nat} {n C : Nat} {l : List Int} (h : OwnW w base (.slice (some ⟨g, 0, Option.none⟩) n C) n l) (i : Nat) (z : Int) : OwnW (w.setCell ⟨g, i, Option.none⟩ (.int .u32 z)) base (.slice (some ⟨g, 0, Option.none⟩) n C) n (l.set i z) := by
  have := (World.ownsRow.stored h i (.int .u32 z)).1
  unfold OwnW
  rw [List.map_set]
  exact this
theorem wp_append_w {w : World} {o : Oper} {a : Act} {K : Act → World → Prop} {Q : Exit → Act → World → Prop} (s x : Operand)
    (ho : o.op = .call { callee := .builtin .append, args := #[s, x], argTypes := #[71, 71] })
    (base : Nat) (dp : Option Addr) (n dC : Nat) (hs : a.eval s = .slice dp n dC) (l : List Int) (hown : OwnW w base (.slice dp n dC) n l)
    (g : Nat) (hx : a.eval x = .slice (some ⟨g, 0, none⟩) 1 1) (z : Int) (hy : w.cell? ⟨g, 0, none⟩ = some (.int .u32 z)) (hb : n + 1 ≤ 100000) (hbase : base ≤ w.heap.size)
    (h : ∀ A C w', Hid (OwnW w' base (.slice A (n + 1) C) (n + 1) (l ++ [z])) → Hid (Below base w w') → K (a.put o.dst (.slice A (n + 1) C)) w') :
    o.wp Try.prog a w K Q := by
  obtain ⟨i, hi, hzz⟩ := Option.map_eq_some_iff.1 info_u32
  simp only [Prod.mk.injEq] at hzz
  obtain ⟨hz, hsz, hby⟩ := hzz
  refine wp_append_own w s x 71 ho base 28 i (.int .u32 0) 1 4 Try.underlying71 hi hz hsz hby rfl (by omega) _ n _ hs hown ⟨g, 0, none⟩ 1 1 [.int .u32 z] hx rfl ?_ ?_ (by unfold maxLen; omega) (by omega) hbase ?_
  · intro j u hu
    cases j with
    | zero => simp at hu; subst hu; rw [add_place]; exact hy
    | succ j => simp at hu
  · intro u hu
    simp at hu
    subst hu
    rfl
  · intro v' w' h1 h2 _
    have h3 : OwnW w' base v' (n + 1) (l ++ [z]) := by unfold OwnW; rw [List.map_append]; exact h1
    have h4 : ∃ A C, v' = .slice A (n + 1) C := by
      rcases h3.2 with ⟨rfl, h0⟩ | ⟨g, cap, cur, rfl, _⟩
      · omega
      · exact ⟨_, _, rfl⟩
    obtain ⟨A, C, rfl⟩ := h4
    exact h A C w' (Lib.hid h3) (Lib.hid (below_grown (Below.refl base w) h2 hbase (fun k hk => (hown.lt k hk).1)))
theorem wpList_append_w {w : World} {ops : Array Oper} {rest : List Oper} {o : Oper} {a : Act} {Q : Exit → Act → World → Prop} (hgd : o.guard = none) (s x : Operand)
    (ho : o.op = .call { callee := .builtin .append, args := #[s, x], argTypes := #[71, 71] })
    (base : Nat) (dp : Option Addr) (n dC : Nat) (hs : a.eval s = .slice dp n dC) (l : List Int) (hown : OwnW w base (.slice dp n dC) n l)
    (g : Nat) (hx : a.eval x = .slice (some ⟨g, 0, none⟩) 1 1) (z : Int) (hy : w.cell? ⟨g, 0, none⟩ = some (.int .u32 z)) (hb : n + 1 ≤ 100000) (hbase : base ≤ w.heap.size)
    (h : ∀ A C w', Hid (OwnW w' base (.slice A (n + 1) C) (n + 1) (l ++ [z])) → Hid (Below base w w') → wpList Try.prog ops Q rest (a.put o.dst (.slice A (n + 1) C)) w') :
    wpList Try.prog ops Q (o :: rest) a w :=
  wpList_plain hgd fun _ hK => wp_append_w s x ho base dp n dC hs l hown g hx z hy hb hbase (fun A C w' h1 h2 => hK _ _ (h A C w' h1 h2))
end Go.Proofs.Ytnffngbkidehfaa.Nk
