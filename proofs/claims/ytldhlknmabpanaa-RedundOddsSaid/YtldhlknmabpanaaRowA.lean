/-
  Own text (general): rows of plain cells, given by a content: load, store, one cell of them turned.
-/
import Derived.Test.YtldhlknmabpanaaByteA
import Derived.StillTailTactics
import Derived.WalkKit
import Derived.ProofKit
import Derived.Below
import Derived.Test.YtldhlknmabpanaaPost
import Derived.Deep.WholeRow
import Derived.Deep.MidRow
import Derived.Laws.ResultCell
namespace Go.Proofs.Ytldhlknmabpanaa
open Go.RowKit

/-- The first n cells of a content. -/
def rowOf (n : Nat) (f : Nat → Value) : Array Value := ((List.range n).map f).toArray
theorem rowOf_size (n : Nat) (f : Nat → Value) : (rowOf n f).size = n := by simp [rowOf]
theorem rowOf_get (n : Nat) (f : Nat → Value) (i : Nat) (h : i < n) : (rowOf n f)[i]? = some (f i) := by simp [rowOf, h]
theorem rowOf_congr {n : Nat} {f g : Nat → Value} (h : ∀ i, i < n → f i = g i) : rowOf n f = rowOf n g := by
  unfold rowOf
  congr 1
  apply List.map_congr_left
  intro i hi
  exact h i (List.mem_range.1 hi)
theorem rowIs_heap {w : World} {b : Nat} {t : TypeId} {n : Nat} {f : Nat → Value} (h : w.rowIs b t n f) : w.heap[b]? = some (.cells (rowOf n f) t (0, 0)) := by
  obtain ⟨c, hb, hn, hc⟩ := h
  rw [hb]
  have : c = rowOf n f := by
    apply Array.ext_getElem?
    intro i
    rcases Nat.lt_or_ge i n with g | g
    · rw [hc i g, rowOf_get n f i g]
    · rw [Array.getElem?_eq_none (by omega), Array.getElem?_eq_none (by rw [rowOf_size]; omega)]
  rw [this]
theorem rowIs_new (w : World) (n : Nat) (f : Nat → Value) (t : TypeId) : (w.alloc (.cells (rowOf n f) t)).rowIs w.heap.size t n f := by
  have h := World.rowIs_alloc w (rowOf n f) t f (fun i hi => rowOf_get n f i (by rw [rowOf_size] at hi; exact hi))
  rwa [rowOf_size] at h
theorem rowOf_one {n : Nat} {f : Nat → Value} (h : ∀ i, (f i).oneCell' = true) : (rowOf n f).all (·.oneCell') = true :=
  all_oneCell_toArray (fun v hv => by
    obtain ⟨i, _, rfl⟩ := List.mem_map.1 hv
    exact h i)
/-- A whole row out of its block. -/
theorem wpList_load_rowIs {w : World} {ops : Array Oper} {rest : List Oper} {o : Oper} {a : Act} {Q : Exit → Act → World → Prop} (hgd : o.guard = none) (ty : TypeId) (x : Operand) (ho : o.op = .load ty x)
    (g : Nat) (hx : a.eval x = .pointer (some ⟨g, 0, none⟩)) (t : TypeId) (n : Nat) (f : Nat → Value) (hg : w.rowIs g t n f) (d : TypeDesc) (hu : Try.prog.underlying ty = some d)
    (hd : d.isRow = true) (hi : (Try.prog.info? ty).map (·.size) = some n)
    (h : wpList Try.prog ops Q rest (a.put o.dst (.agg (rowOf n f))) w) : wpList Try.prog ops Q (o :: rest) a w :=
  wpList_load_row hgd ty x ho g hx t (rowOf n f) (0, 0) d (rowIs_heap hg) hu (by cases d <;> first | rfl | exact hd) (by rw [rowOf_size]; exact hi) h
/-- A whole row into its block. -/
theorem wpList_store_rowIs {w : World} {ops : Array Oper} {rest : List Oper} {o : Oper} {a : Act} {Q : Exit → Act → World → Prop} (hgd : o.guard = none) (ty : TypeId) (x y : Operand) (ho : o.op = .store ty x y)
    (g : Nat) (hx : a.eval x = .pointer (some ⟨g, 0, none⟩)) (n : Nat) (f : Nat → Value) (hy : a.eval y = .agg (rowOf n f)) (t : TypeId) (f0 : Nat → Value) (hg : w.rowIs g t n f0)
    (hi : (Try.prog.info? ty).map (·.size) = some n) (h1 : ∀ i, (f i).oneCell' = true)
    (h : ∀ w', Hid (w'.rowIs g t n f) → Hid (∀ c, c ≠ g → w'.heap[c]? = w.heap[c]?) → Hid (Below g w w') → w'.heap.size = w.heap.size → wpList Try.prog ops Q rest (a.put o.dst undef) w') :
    wpList Try.prog ops Q (o :: rest) a w := by
  refine wpList_store_row hgd ty x y ho g (rowOf n f) hx hy t (rowOf n f0) (rowIs_heap hg) (by rw [rowOf_size]; exact hi) (by rw [rowOf_size, rowOf_size]) (rowOf_one h1) ?_
  refine h _ (Lib.hid ?_) (Lib.hid ?_) (Lib.hid (below_setRow (Below.refl _ _) (Nat.le_refl _) _)) (size_setRow _ _ _)
  · refine ⟨rowOf n f, ?_, rowOf_size n f, fun i hi => rowOf_get n f i hi⟩
    simp [World.setRow, Array.getElem?_modify, rowIs_heap hg]
  · intro c hc
    simp only [World.setRow, Array.getElem?_modify]
    rw [if_neg (fun e => hc e.symm)]
theorem rowIs_setCells {b : Nat} {t : TypeId} {n : Nat} : ∀ (vs : List Value) (o : Nat) (w : World) (f : Nat → Value), w.rowIs b t n f → (w.setCells b o vs).rowIs b t n (fun j => if o ≤ j then vs.getD (j - o) (f j) else f j)
  | [], o, w, f, h => h.congr (fun i _ => by simp)
  | v :: r, o, w, f, h => by
    rw [World.setCells]
    refine (rowIs_setCells r (o + 1) _ _ (h.set o v)).congr (fun j _ => ?_)
    by_cases h1 : o + 1 ≤ j
    · have h2 : ¬ j = o := by omega
      have h3 : o ≤ j := by omega
      have e1 : (v :: r).getD (j - o) (f j) = r.getD (j - (o + 1)) (f j) := by
        rw [show j - o = (j - (o + 1)) + 1 by omega]
        rfl
      simp only [h1, h2, h3, if_true, if_false, e1]
    · by_cases h2 : j = o
      · subst h2; simp; exact fun h => absurd h h1
      · have h3 : ¬ o ≤ j := by omega
        simp only [h1, h2, h3, if_false]
theorem setCells_other (b : Nat) : ∀ (vs : List Value) (o : Nat) (w : World) (c : Nat), c ≠ b → (w.setCells b o vs).heap[c]? = w.heap[c]?
  | [], _, _, _, _ => rfl
  | v :: r, o, w, c, h => by
    rw [World.setCells, setCells_other b r (o + 1) _ c h]
    simp only [World.setCell, Array.getElem?_modify]
    rw [if_neg (fun e => h e.symm)]
theorem setCells_below (b B : Nat) (hB : B ≤ b) : ∀ (vs : List Value) (o : Nat) (w w0 : World), Below B w0 w → Below B w0 (w.setCells b o vs)
  | [], _, _, _, h => h
  | v :: r, o, w, w0, h => by
    rw [World.setCells]
    exact setCells_below b B hB r (o + 1) _ _ (h.setCell (p := ⟨b, o, none⟩) hB _)
theorem rowOf_set (n : Nat) (f : Nat → Value) (i : Nat) (v : Value) : (rowOf n f).setIfInBounds i v = rowOf n (fun j => if j = i then v else f j) := by
  apply Array.ext_getElem?
  intro j
  rw [Array.getElem?_setIfInBounds, rowOf_size]
  rcases Nat.lt_or_ge j n with g | g
  · rw [rowOf_get _ _ j g, rowOf_get _ _ j g]
    by_cases h : i = j
    · subst h; simp [g]
    · have h2 : ¬ j = i := fun e => h e.symm
      simp [h, h2]
  · rw [Array.getElem?_eq_none (by rw [rowOf_size]; omega), Array.getElem?_eq_none (by rw [rowOf_size]; omega)]
    by_cases h : i = j
    · subst h; rw [if_pos rfl, if_neg (by omega)]
    · rw [if_neg h]
/-- What a call answers whose first result lies in a block. -/
theorem results_row_tmp {fn : Func} {p u : Tmp} {ty : TypeId} (h : fn.results = #[.cell p ty, .tmp u]) (tmps : Array Value) (w : World) (g : Nat) (t : TypeId) (n : Nat) (f : Nat → Value) (v : Value) (d : TypeDesc)
    (hp : tmps.getD p undef = .pointer (some ⟨g, 0, none⟩)) (hv : tmps.getD u undef = v) (hg : w.rowIs g t n f) (hu : Try.prog.underlying ty = some d) (hd : d.isRow = true) (hi : (Try.prog.info? ty).map (·.size) = some n) :
    (results fn tmps).run Try.prog w = .ok (.tuple #[.agg (rowOf n f), v]) w := by
  have hl := run_loadVar_row w g t ty (rowOf n f) (0, 0) d (rowIs_heap hg) hu (by cases d <;> first | rfl | exact hd) (by rw [rowOf_size]; exact hi)
  rw [results_cell_tmp h, hp, hv]
  simp only [asAddr, Sem.run_pure, Result.andThen_ok, hl]
end Go.Proofs.Ytldhlknmabpanaa
