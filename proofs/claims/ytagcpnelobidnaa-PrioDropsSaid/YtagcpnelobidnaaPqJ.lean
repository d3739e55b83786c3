/-
  Own text: a set of numbers; the question that reads it; the first item that it names, walked.
-/
import Derived.Test.YtagcpnelobidnaaPqI
import Derived.Maps.OwnSet
import Derived.Maps.Views
namespace Go.Proofs.Ytagcpnelobidnaa
open Go.RowKit
open Go.Maps (Keyed)

theorem int_law : Keyed Try.prog 3 := Go.Maps.int_keyed (q := .i64) Try.underlying3
theorem isKey_int (y : Int) : WideAt.IsKeyLit (.int .i64 y) := by trivial
/-- A set of numbers in its block. -/
def Going (w : World) (m n : Nat) (S : Int → Bool) : Prop := ∃ D : DataW Unit, w.ownsMap Try.prog 3 unitElem m n D ∧ ∀ z, (Lit.int .i64 z).wf = true → Maps.has D (.int .i64 z) = S z
theorem Going.made (w : World) : Going (w.alloc (.map #[] 0)) w.heap.size 0 (fun _ => false) := ⟨_, World.ownsMap_made w _ _ _, fun _ _ => rfl⟩
theorem Going.keep {w w' : World} {m n : Nat} {S : Int → Bool} (h : Going w m n S) (e : w'.heap[m]? = w.heap[m]?) : Going w' m n S := by
  obtain ⟨D, ⟨es, clock, hb, r⟩, h2⟩ := h
  exact ⟨D, ⟨es, clock, e.trans hb, r⟩, h2⟩
theorem Going.lt {w : World} {m n : Nat} {S : Int → Bool} (h : Going w m n S) : m < w.heap.size := by
  obtain ⟨D, h, _⟩ := h
  exact h.lt
theorem wpList_going {w : World} {ops : Array Oper} {rest : List Oper} {o : Oper} {a : Act} {Q : Exit → Act → World → Prop} (hg : o.guard = none) (mm x : Operand) (hop : o.op = Op.lookup 81 mm x true)
    (m n : Nat) (S : Int → Bool) (hm : a.eval mm = .map (some m)) (h : Going w m n S) (z : Int) (hz : (Lit.int .i64 z).wf = true) (hx : a.eval x = .int .i64 z)
    (hK : wpList Try.prog ops Q rest (a.put o.dst (.tuple #[.agg #[], .bool (S z)])) w) : wpList Try.prog ops Q (o :: rest) a w := by
  obtain ⟨D, h1, h2⟩ := h
  refine wpList_lookup_own_unit w hg mm x 81 hop 3 83 int_law Try.underlying81 rfl m n D hm h1 (.int .i64 z) (.int .i64 z) hx (Go.Maps.keyOf_int_mk (q := .i64) Try.underlying3 hz) ?_
  rw [h2 z hz]
  exact hK
theorem wpList_mark {w : World} {ops : Array Oper} {rest : List Oper} {o : Oper} {a : Act} {Q : Exit → Act → World → Prop} (hg : o.guard = none) (mm x v : Operand) (hop : o.op = Op.mapUpdate 81 mm x v)
    (m n : Nat) (S : Int → Bool) (hm : a.eval mm = .map (some m)) (h : Going w m n S) (hn : n ≤ 100000) (z : Int) (hz : (Lit.int .i64 z).wf = true) (hx : a.eval x = .int .i64 z) (hv : a.eval v = .agg #[])
    (hK : ∀ w', Hid (Going w' m (n + 1) (fun y => S y || y == z)) → Hid (w.grownBy w' (some m)) → wpList Try.prog ops Q rest (a.put o.dst undef) w') : wpList Try.prog ops Q (o :: rest) a w := by
  obtain ⟨D, h1, h2⟩ := h
  refine wpList_mapUpdate_own w hg mm x v 81 hop 3 83 int_law Try.underlying81 unitElem m n D hm h1 (by unfold maxLen; omega) (.int .i64 z) (.agg #[]) (.int .i64 z) hx hv (Go.Maps.keyOf_int_mk (q := .i64) Try.underlying3 hz) (.agg []) [] unitElem_mk ?_
  intro w' h3 h4
  refine hK w' (Lib.hid ⟨_, h3, fun y hy => ?_⟩) (Lib.hid h4)
  by_cases e : y = z
  · subst e
    rw [Go.Maps.has_put_same h1.isMap (isKey_int y)]
    simp
  · rw [Go.Maps.has_put_other (by intro h; apply e; injection h), h2 y hy]
    simp [e]
/-- The question that reads the set: its variable's box, and the set. -/
structure Ask (w : World) (c m n : Nat) (S : Int → Bool) : Prop where
  box : w.cell? ⟨c, 0, none⟩ = some (.map (some m))
  lt : c < w.heap.size
  set : Going w m n S
theorem Ask.below {w w' : World} {c m n : Nat} {S : Int → Bool} (h : Ask w c m n S) (hb : Below w.heap.size w w') : Ask w' c m n S :=
  ⟨(hb.cell (p := ⟨c, 0, none⟩) h.lt).trans h.box, Nat.lt_of_lt_of_le h.lt hb.size, h.set.keep (hb.block m h.set.lt)⟩
theorem Ask.grown {w w' : World} {c m n : Nat} {S : Int → Bool} {s : Option Nat} (h : Ask w c m n S) (hg : w.grownBy w' s) (h1 : some c ≠ s) (h2 : some m ≠ s) : Ask w' c m n S :=
  ⟨(World.cell?_of_block (hg.block c h.lt h1)).trans h.box, Nat.lt_of_lt_of_le h.lt hg.size, h.set.keep (hg.block m h.set.lt h2)⟩
theorem gone_any (x : It) (hz : (Lit.int .i64 x.num).wf = true) (c m n : Nat) (S : Int → Bool) (w : World) (h : Ask w c m n S) :
    Calls Try.prog 39 #[x.val, .pointer (some ⟨c, 0, none⟩)] w fun e w' => e = .returned (.bool (S x.num)) ∧ Below w.heap.size w w' := by
  unfold It.val
  obtain ⟨W1, hW1⟩ : ∃ W1, W1 = w.alloc (.cells #[.int .i64 x.rank, .int .i64 x.num, .int .i64 x.v] 62) := ⟨_, rfl⟩
  have hb1 : Below w.heap.size w W1 := by rw [hW1]; exact (Below.refl _ _).alloc (Nat.le_refl _) _
  have ha1 := h.below hb1
  have hx1 : TBlk W1 w.heap.size (icells [x]) := by rw [hW1]; exact one_new w x _ rfl
  have x1 := hx1.cell 1
  simp only [icells, List.getElem?_cons_succ, List.getElem?_cons_zero] at x1
  have b1 := ha1.box
  have HG1 := Lib.hid ha1.set
  have HB1 := Lib.hid hb1
  have HW1 := Lib.hid hW1
  have HZ := Lib.hid hz
  clear h hz hb1 ha1 hx1 hW1
  generalize x.rank = xr at *
  generalize x.num = xn at *
  generalize x.v = xv at *
  go_enter Try.func39, Try.ntmps39
  go_upto_region 1 with fail
  rw [← HW1.out]
  go_wp2_with (first
    | ((with_reducible refine wpList_going rfl (.tmp 7) (.tmp 9) rfl m n S rfl HG1.out xn HZ.out rfl ?_))
    | fail)
  go_ret
  exact ⟨rfl, HB1.out.alloc HB1.out.size _⟩
end Go.Proofs.Ytagcpnelobidnaa
