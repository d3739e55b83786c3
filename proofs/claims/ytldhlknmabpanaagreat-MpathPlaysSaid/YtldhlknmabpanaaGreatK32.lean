/-
  Own text: a set of numbers; the question that reads it; the first item that it names, at items that bear a datagram. (Written by gen_mqj.py.)
  Own text: the items that a set names go: slices.DeleteFunc, walked, at items that bear a datagram. (Written by gen_mqj.py.)
  Own text: Filter, walked, at items that bear a datagram. (Written by gen_mqj.py.)
-/
import Derived.Test.YtldhlknmabpanaaGreatK10
import Derived.Test.YtldhlknmabpanaaGreatK18
import Derived.Maps.OwnSet
import Derived.Maps.Views
import Derived.Carry
import Derived.Lib.SliceRun
namespace Go.Proofs.YtldhlknmabpanaaGreat.Mq
open Go.RowKit
open Go.Maps (Keyed)

theorem int_law : Keyed Tryz.prog 3 := Go.Maps.int_keyed (q := .i64) Tryz.underlying3
theorem isKey_int (y : Int) : WideAt.IsKeyLit (.int .i64 y) := by trivial
/-- A set of numbers in its block. -/
def Going (w : World) (m n : Nat) (S : Int → Bool) : Prop := ∃ D : DataW Unit, w.ownsMap Tryz.prog 3 unitElem m n D ∧ ∀ z, (Lit.int .i64 z).wf = true → Maps.has D (.int .i64 z) = S z
theorem Going.made (w : World) : Going (w.alloc (.map #[] 0)) w.heap.size 0 (fun _ => false) := ⟨_, World.ownsMap_made w _ _ _, fun _ _ => rfl⟩
theorem Going.keep {w w' : World} {m n : Nat} {S : Int → Bool} (h : Going w m n S) (e : w'.heap[m]? = w.heap[m]?) : Going w' m n S := by
  obtain ⟨D, ⟨es, clock, hb, r⟩, h2⟩ := h
  exact ⟨D, ⟨es, clock, e.trans hb, r⟩, h2⟩
theorem Going.lt {w : World} {m n : Nat} {S : Int → Bool} (h : Going w m n S) : m < w.heap.size := by
  obtain ⟨D, h, _⟩ := h
  exact h.lt
set_option maxRecDepth 100000 in
theorem wpList_going {w : World} {ops : Array Oper} {rest : List Oper} {o : Oper} {a : Act} {Q : Exit → Act → World → Prop} (hg : o.guard = none) (mm x : Operand) (hop : o.op = Op.lookup 166 mm x true)
    (m n : Nat) (S : Int → Bool) (hm : a.eval mm = .map (some m)) (h : Going w m n S) (z : Int) (hz : (Lit.int .i64 z).wf = true) (hx : a.eval x = .int .i64 z)
    (hK : wpList Tryz.prog ops Q rest (a.put o.dst (.tuple #[.agg #[], .bool (S z)])) w) : wpList Tryz.prog ops Q (o :: rest) a w := by
  obtain ⟨D, h1, h2⟩ := h
  refine wpList_lookup_own_unit w hg mm x 166 hop 3 169 int_law Tryz.underlying166 rfl m n D hm h1 (.int .i64 z) (.int .i64 z) hx (Go.Maps.keyOf_int_mk (q := .i64) Tryz.underlying3 hz) ?_
  rw [h2 z hz]
  exact hK
set_option maxRecDepth 100000 in
theorem wpList_mark {w : World} {ops : Array Oper} {rest : List Oper} {o : Oper} {a : Act} {Q : Exit → Act → World → Prop} (hg : o.guard = none) (mm x v : Operand) (hop : o.op = Op.mapUpdate 166 mm x v)
    (m n : Nat) (S : Int → Bool) (hm : a.eval mm = .map (some m)) (h : Going w m n S) (hn : n ≤ 100000) (z : Int) (hz : (Lit.int .i64 z).wf = true) (hx : a.eval x = .int .i64 z) (hv : a.eval v = .agg #[])
    (hK : ∀ w', Hid (Going w' m (n + 1) (fun y => S y || y == z)) → Hid (w.grownBy w' (some m)) → wpList Tryz.prog ops Q rest (a.put o.dst undef) w') : wpList Tryz.prog ops Q (o :: rest) a w := by
  obtain ⟨D, h1, h2⟩ := h
  refine wpList_mapUpdate_own w hg mm x v 166 hop 3 169 int_law Tryz.underlying166 unitElem m n D hm h1 (by unfold maxLen; omega) (.int .i64 z) (.agg #[]) (.int .i64 z) hx hv (Go.Maps.keyOf_int_mk (q := .i64) Tryz.underlying3 hz) (.agg []) [] unitElem_mk ?_
  intro w' h3 h4
  refine hK w' (Lib.hid ⟨_, h3, fun y hy => ?_⟩) (Lib.hid h4)
  by_cases e : y = z
  · subst e
    rw [Go.Maps.has_put_same h1.isMap (isKey_int y)]
    simp
  · rw [Go.Maps.has_put_other (by intro h; apply e; injection h), h2 y hy]
    simp [e]
/-- The question that reads the set: its variable's box, and the set. -/
structure Ask (w : World) (c m n : Nat) (S : Int → Bool) : Prop where
  box : w.cell? ⟨c, 0, none⟩ = some (.map (some m))
  lt : c < w.heap.size
  set : Going w m n S
theorem Ask.below {w w' : World} {c m n : Nat} {S : Int → Bool} (h : Ask w c m n S) (hb : Below w.heap.size w w') : Ask w' c m n S :=
  ⟨(hb.cell (p := ⟨c, 0, none⟩) h.lt).trans h.box, Nat.lt_of_lt_of_le h.lt hb.size, h.set.keep (hb.block m h.set.lt)⟩
theorem Ask.grown {w w' : World} {c m n : Nat} {S : Int → Bool} {s : Option Nat} (h : Ask w c m n S) (hg : w.grownBy w' s) (h1 : some c ≠ s) (h2 : some m ≠ s) : Ask w' c m n S :=
  ⟨(World.cell?_of_block (hg.block c h.lt h1)).trans h.box, Nat.lt_of_lt_of_le h.lt hg.size, h.set.keep (hg.block m h.set.lt h2)⟩
theorem gone_any (x : It) (hz : (Lit.int .i64 x.num).wf = true) (c m n : Nat) (S : Int → Bool) (w : World) (h : Ask w c m n S) :
    Calls Tryz.prog 109 #[x.val, .pointer (some ⟨c, 0, none⟩)] w fun e w' => e = .returned (.bool (S x.num)) ∧ Below w.heap.size w w' := by
  obtain ⟨W1, hW1⟩ : ∃ W1, W1 = w.alloc (.cells x.cells 113) := ⟨_, rfl⟩
  have hb1 : Below w.heap.size w W1 := by rw [hW1]; exact (Below.refl _ _).alloc (Nat.le_refl _) _
  have ha1 := h.below hb1
  have hx1 : Lies W1 w.heap.size 0 x.cells := by rw [hW1]; exact Lies.new w x.cells _ (Below.refl _ _)
  have x1 : W1.cell? ⟨w.heap.size, 1, none⟩ = some (.int .i64 x.num) := hx1.cell 1 (by decide : 1 < 13)
  have b1 := ha1.box
  have HG1 := Lib.hid ha1.set
  have HB1 := Lib.hid hb1
  have HW1 := Lib.hid hW1
  have HZ := Lib.hid hz
  clear h hz hb1 ha1 hx1 hW1
  go_enter Tryz.func109, Tryz.ntmps109
  go_upto_region 1 with fail
  rw [← HW1.out]
  go_wp2_with (first
    | ((with_reducible refine wpList_going rfl (.tmp 7) (.tmp 9) rfl m n S rfl HG1.out x.num HZ.out rfl ?_))
    | fail)
  go_ret
  exact ⟨rfl, HB1.out.alloc HB1.out.size _⟩

/-- Where the first item stands that a set names. -/
def Hits (S : Int → Bool) (l : List It) (i : Nat) : Prop := (∀ (t : Nat) (y : It), t < i → l[t]? = some y → S y.num = false) ∧ ∃ y, l[i]? = some y ∧ S y.num = true
def NoHits (S : Int → Bool) (l : List It) : Prop := ∀ (t : Nat) (y : It), l[t]? = some y → S y.num = false
theorem hits_or (S : Int → Bool) (l : List It) : NoHits S l ∨ ∃ i, Hits S l i := by
  induction l with
  | nil => left; intro t y h; simp at h
  | cons x l ih =>
    cases hx : S x.num with
    | true => exact .inr ⟨0, fun t y ht _ => absurd ht (Nat.not_lt_zero _), x, rfl, hx⟩
    | false =>
      rcases ih with h | ⟨i, h1, y, h2, h3⟩
      · left
        intro t y hy
        cases t with
        | zero => simp at hy; subst hy; exact hx
        | succ t => exact h t y (by simpa using hy)
      · refine .inr ⟨i + 1, fun t z ht hz => ?_, y, by simpa using h2, h3⟩
        cases t with
        | zero => simp at hz; subst hz; exact hx
        | succ t => exact h1 t z (by omega) (by simpa using hz)
theorem index_none (S : Int → Bool) (A : Option Addr) (n C c m N : Nat) (l : List It) (hn : n ≤ 1000) (hw : ∀ y ∈ l, (Lit.int .i64 y.num).wf = true) (hno : NoHits S l) (w : World) (h : OwnT w 0 (.slice A n C) n l) (ha : Ask w c m N S) :
    Calls Tryz.prog 127 #[.slice A n C, .func (.func 109) #[] #[.pointer (some ⟨c, 0, none⟩)]] w fun e w' => e = .returned (.int .i64 (-1)) ∧ Below w.heap.size w w' := by
  have HO := Lib.hid h
  have HA := Lib.hid ha
  have HL := Lib.hid h.length
  have HW := Lib.hid hw
  have HNO := Lib.hid hno
  clear h ha hw hno
  go_enter Tryz.func127, Tryz.ntmps127
  go_wp2
  go_loopw [8] (fun i wr => ∃ k : Nat, k ≤ n ∧ i = .int .i64 (k : Int) ∧ Hid (Below w.heap.size w wr)) (fun i _ => n - (intOf i).toNat)
  case atStart => exact ⟨0, Nat.zero_le _, rfl, Lib.hid (Below.refl _ _)⟩
  case round =>
    obtain ⟨k, hk, rfl, HB⟩ := hrel
    by_cases hlt : k < n
    · obtain ⟨y, hy⟩ : ∃ y, l[k]? = some y := ⟨_, List.getElem?_eq_getElem (by rw [HL.out]; exact hlt)⟩
      obtain ⟨g, rfl, _, hgl, hx⟩ := (HO.out.below HB.out (Nat.le_refl _)).at_ k y hy
      have CG := Lib.hid (gone_any y (HW.out y (List.mem_of_getElem? hy)) c m N S wr (HA.out.below HB.out))
      rw [HNO.out k y hy] at CG
      have i1 : (k : Int) < n := by omega
      have HX := Lib.hid hx
      clear hy hgl hx
      go_wp2_with (first
        | (with_reducible refine wpList_load_lies rfl 113 (.tmp 14) rfl g (k * 13) rfl y.cells HX.out _ Tryz.underlying113 rfl (infoX y) ?_)
        | (go_at_call 109; (with_reducible refine (CG.out).mono ?_); rintro e w1 ⟨rfl, hb⟩; have HB1 := Lib.hid hb; clear hb)
        | fail)
      go_roundw
      case rel => exact ⟨k + 1, by omega, by go_num, Lib.hid (HB.out.trans (HB1.out.mono HB.out.size))⟩
      case measure => simp [intOf] <;> omega
    · obtain rfl : k = n := by omega
      go_wp2
      go_ret
      exact ⟨rfl, HB.out⟩
theorem index_some (S : Int → Bool) (A : Option Addr) (n C c m N i : Nat) (l : List It) (hn : n ≤ 1000) (hw : ∀ y ∈ l, (Lit.int .i64 y.num).wf = true) (hit : Hits S l i) (w : World) (h : OwnT w 0 (.slice A n C) n l) (ha : Ask w c m N S) :
    Calls Tryz.prog 127 #[.slice A n C, .func (.func 109) #[] #[.pointer (some ⟨c, 0, none⟩)]] w fun e w' => e = .returned (.int .i64 (i : Int)) ∧ Below w.heap.size w w' := by
  have HO := Lib.hid h
  have HA := Lib.hid ha
  have HL := Lib.hid h.length
  have HW := Lib.hid hw
  have HH := Lib.hid hit
  have hin : i < n := by obtain ⟨_, y, h1, _⟩ := hit; have := (List.getElem?_eq_some_iff.1 h1).1; have := h.length; omega
  clear h ha hw hit
  go_enter Tryz.func127, Tryz.ntmps127
  go_wp2
  go_loopw [8] (fun j wr => ∃ k : Nat, k ≤ i ∧ j = .int .i64 (k : Int) ∧ Hid (Below w.heap.size w wr)) (fun j _ => n - (intOf j).toNat)
  case atStart => exact ⟨0, Nat.zero_le _, rfl, Lib.hid (Below.refl _ _)⟩
  case round =>
    obtain ⟨k, hk, rfl, HB⟩ := hrel
    have hkn : k < n := by omega
    obtain ⟨y, hy⟩ : ∃ y, l[k]? = some y := ⟨_, List.getElem?_eq_getElem (by rw [HL.out]; exact hkn)⟩
    obtain ⟨g, rfl, _, hgl, hx⟩ := (HO.out.below HB.out (Nat.le_refl _)).at_ k y hy
    have CG := Lib.hid (gone_any y (HW.out y (List.mem_of_getElem? hy)) c m N S wr (HA.out.below HB.out))
    have i1 : (k : Int) < n := by omega
    by_cases hlt : k < i
    · rw [HH.out.1 k y hlt hy] at CG
      have HX := Lib.hid hx
      clear hy hgl hx
      go_wp2_with (first
        | (with_reducible refine wpList_load_lies rfl 113 (.tmp 14) rfl g (k * 13) rfl y.cells HX.out _ Tryz.underlying113 rfl (infoX y) ?_)
        | (go_at_call 109; (with_reducible refine (CG.out).mono ?_); rintro e w1 ⟨rfl, hb⟩; have HB1 := Lib.hid hb; clear hb)
        | fail)
      go_roundw
      case rel => exact ⟨k + 1, by omega, by go_num, Lib.hid (HB.out.trans (HB1.out.mono HB.out.size))⟩
      case measure => simp [intOf] <;> omega
    · obtain rfl : k = i := by omega
      have e : S y.num = true := by
        obtain ⟨_, y', h1, h2⟩ := HH.out
        rw [hy] at h1
        cases h1
        exact h2
      rw [e] at CG
      have HX := Lib.hid hx
      clear hy hgl hx e
      go_wp2_with (first
        | (with_reducible refine wpList_load_lies rfl 113 (.tmp 14) rfl g (k * 13) rfl y.cells HX.out _ Tryz.underlying113 rfl (infoX y) ?_)
        | (go_at_call 109; (with_reducible refine (CG.out).mono ?_); rintro e w1 ⟨rfl, hb⟩; have HB1 := Lib.hid hb; clear hb)
        | fail)
      go_ret
      exact ⟨rfl, HB.out.trans (HB1.out.mono HB.out.size)⟩
end Go.Proofs.YtldhlknmabpanaaGreat.Mq
namespace Go.Proofs.YtldhlknmabpanaaGreat.Mq
open Go.RowKit

theorem grown_prt {w w' : World} {g o n : Nat} (h : Prt g o n w w') : w.grownBy w' (some g) := ⟨h.os, h.tape, h.output, h.size, fun k hk hne => h.block k hk (fun e => hne (by rw [e]))⟩
theorem TBlk.lies {w : World} {g i : Nat} {d : List It} {R : List Value} {y : It} (h : TBlk w g (icells d ++ R)) (hy : d[i]? = some y) : Lies w g (i * 13) y.cells := by
  refine ⟨_, _, h, ?_, fun j hj => ?_⟩
  · have hi := (List.getElem?_eq_some_iff.1 hy).1
    have : (i + 1) * 13 ≤ d.length * 13 := Nat.mul_le_mul_right 13 hi
    simp only [List.size_toArray, List.length_append, icells_length]
    show i * 13 + 13 ≤ _
    omega
  · have h1 := icells_get d i y hy j hj
    have h2 : y.cells[j]? = some y.cells[j] := Array.getElem?_eq_getElem hj
    rw [h2] at h1 ⊢
    simp only [List.getElem?_toArray]
    rw [List.getElem?_append_left (List.getElem?_eq_some_iff.1 h1).1, h1]

/-- One item is set: the others stay. -/
theorem TBlk.setItem {w w' : World} {g : Nat} {d : List It} {R : List Value} (h : TBlk w g (icells d ++ R)) (i : Nat) (hi : i < d.length) (x : It) (hl : Lies w' g (i * 13) x.cells) (hp : Prt g (i * 13) 13 w w') : TBlk w' g (icells (d.set i x) ++ R) := by
  unfold TBlk at h ⊢
  obtain ⟨C, h1, h2, h3⟩ := hp.part _ _ h
  obtain ⟨C2, t2, e2, h4, h5⟩ := hl
  rw [h1] at e2
  have e3 := Option.some.inj e2
  injection e3 with e4 e5 _
  subst e4
  rw [h1]
  congr 2
  apply Array.ext'
  apply List.ext_getElem?
  intro j
  have hlen : (icells (d.set i x) ++ R).length = (icells d ++ R).length := by simp [icells_length]
  by_cases hj : i * 13 ≤ j ∧ j < i * 13 + 13
  · obtain ⟨k, rfl⟩ : ∃ k, j = i * 13 + k := ⟨j - i * 13, by omega⟩
    have hk : k < 13 := by omega
    have e6 := h5 k hk
    rw [← Array.getElem?_toList] at e6
    rw [e6]
    have hx : (d.set i x)[i]? = some x := List.getElem?_set_self hi
    have e7 := icells_get (d.set i x) i x hx k hk
    have hx1 : x.cells[k]? = some (x.cells[k]'hk) := Array.getElem?_eq_getElem hk
    rw [hx1] at e7 ⊢
    simp only
    rw [List.getElem?_append_left (List.getElem?_eq_some_iff.1 e7).1, e7]
  · have e6 := h3 j (by omega)
    rw [← Array.getElem?_toList] at e6
    rw [e6]
    simp only [List.getElem?_toArray]
    by_cases hlt : j < d.length * 13
    · rw [List.getElem?_append_left (by rw [icells_length]; exact hlt), List.getElem?_append_left (by rw [icells_length, List.length_set]; exact hlt)]
      have hq : j / 13 < d.length := by omega
      have hne : j / 13 ≠ i := by omega
      have ej : j = j / 13 * 13 + j % 13 := by omega
      have hx : d[j / 13]? = some (d[j / 13]'hq) := List.getElem?_eq_getElem hq
      have hx2 : (d.set i x)[j / 13]? = some (d[j / 13]'hq) := by rw [List.getElem?_set_ne (Ne.symm hne)]; exact hx
      have h13 : j % 13 < 13 := Nat.mod_lt _ (by decide)
      rw [ej, icells_get d (j / 13) _ hx (j % 13) h13, icells_get (d.set i x) (j / 13) _ hx2 (j % 13) h13]
    · rw [List.getElem?_append_right (by rw [icells_length]; omega), List.getElem?_append_right (by rw [icells_length, List.length_set]; omega), icells_length, icells_length, List.length_set]
theorem grown_below {w w' : World} {s : Option Nat} (h : Below w.heap.size w w') : w.grownBy w' s := ⟨h.os, h.tape, h.output, h.size, fun k hk _ => h.block k hk⟩
/-- Which stay. -/
def stay (S : Int → Bool) (l : List It) : List It := l.filter (fun x => !S x.num)
/-- How far the items are moved up. -/
structure Upto (S : Int → Bool) (l d : List It) (p q : Nat) : Prop where
  len : d.length = l.length
  pq : p < q
  front : d.take p = stay S (l.take q)
  back : d.drop q = l.drop q
theorem stay_all {S : Int → Bool} {l : List It} (h : NoHits S l) : stay S l = l := by
  unfold stay
  rw [List.filter_eq_self]
  intro x hx
  obtain ⟨t, ht, e⟩ := List.getElem_of_mem hx
  rw [h t x (by rw [← e, List.getElem?_eq_getElem ht])]
  rfl
theorem stay_step (S : Int → Bool) (l : List It) (q : Nat) (y : It) (h : l[q]? = some y) : stay S (l.take (q + 1)) = if S y.num then stay S (l.take q) else stay S (l.take q) ++ [y] := by
  unfold stay
  rw [List.take_add_one, h, List.filter_append]
  cases hs : S y.num <;> simp [hs]
theorem Upto.start {S : Int → Bool} {l : List It} {i : Nat} (h : Hits S l i) : Upto S l l i (i + 1) := by
  obtain ⟨h1, y, h2, h3⟩ := h
  refine ⟨rfl, Nat.lt_succ_self _, ?_, rfl⟩
  rw [stay_step S l i y h2, h3, if_pos rfl, stay_all]
  intro t z hz
  have ht := (List.getElem?_eq_some_iff.1 hz).1
  rw [List.length_take] at ht
  rw [List.getElem?_take, if_pos (by omega)] at hz
  exact h1 t z (by omega) hz
theorem Upto.skip {S : Int → Bool} {l d : List It} {p q : Nat} {y : It} (h : Upto S l d p q) (hy : l[q]? = some y) (hs : S y.num = true) : Upto S l d p (q + 1) := by
  refine ⟨h.len, Nat.lt_succ_of_lt h.pq, ?_, ?_⟩
  · rw [stay_step S l q y hy, hs, if_pos rfl]; exact h.front
  · rw [← List.drop_drop, h.back, List.drop_drop]
theorem Upto.take {S : Int → Bool} {l d : List It} {p q : Nat} {y : It} (h : Upto S l d p q) (hy : l[q]? = some y) (hs : S y.num = false) : Upto S l (d.set p y) (p + 1) (q + 1) := by
  have hq := (List.getElem?_eq_some_iff.1 hy).1
  have hl := h.len
  have hp := h.pq
  refine ⟨by rw [List.length_set]; exact hl, Nat.succ_lt_succ hp, ?_, ?_⟩
  · rw [stay_step S l q y hy, hs]
    simp only [Bool.false_eq_true, if_false]
    rw [List.take_add_one, List.take_set_of_le (by omega), h.front, List.getElem?_set_self (by omega)]
    rfl
  · rw [List.drop_set_of_lt (by omega), ← List.drop_drop, h.back, List.drop_drop]
theorem Upto.at_ {S : Int → Bool} {l d : List It} {p q : Nat} {y : It} (h : Upto S l d p q) (hy : l[q]? = some y) : d[q]? = some y := by
  have e : (d.drop q)[0]? = (l.drop q)[0]? := by rw [h.back]
  rw [List.getElem?_drop, List.getElem?_drop, Nat.add_zero] at e
  rw [e, hy]

/-- What is left of them. -/
def LeftTo (w : World) (A : Option Addr) (C : Nat) (l : List It) (e : Ending) (w' : World) : Prop := e = .returned (.slice A l.length C) ∧ Hid (OwnT w' 0 (.slice A l.length C) l.length l) ∧ Hid (w.grownBy w' (A.map Addr.block))
set_option maxRecDepth 100000 in
theorem delfunc_any (S : Int → Bool) (A : Option Addr) (n C c m N : Nat) (l : List It) (hn : n ≤ 1000) (hw : ∀ y ∈ l, (Lit.int .i64 y.num).wf = true) (w : World) (h : OwnT w 0 (.slice A n C) n l) (ha : Ask w c m N S) (hc : some c ≠ A.map Addr.block) (hm : some m ≠ A.map Addr.block) :
    Calls Tryz.prog 108 #[.slice A n C, .func (.func 109) #[] #[.pointer (some ⟨c, 0, none⟩)]] w (LeftTo w A C (stay S l)) := by
  have hl := h.length
  rcases hits_or S l with hno | ⟨i, hit⟩
  · have CX := Lib.hid (index_none S A n C c m N l hn hw hno w h ha)
    have HO := Lib.hid h
    have HE : Hid (stay S l = l) := Lib.hid (stay_all hno)
    have HL := Lib.hid hl
    clear h ha hno hw hl hc hm
    go_enter Tryz.func108, Tryz.ntmps108
    go_wp2_with (first
      | (go_at_call 127; (with_reducible refine (CX.out).mono ?_); rintro e w1 ⟨rfl, hb⟩; have HB1 := Lib.hid hb; clear hb)
      | fail)
    go_ret
    unfold LeftTo
    rw [HE.out, HL.out]
    exact ⟨rfl, Lib.hid (HO.out.below HB1.out (Nat.le_refl _)), Lib.hid (grown_below HB1.out)⟩
  · have CX := Lib.hid (index_some S A n C c m N i l hn hw hit w h ha)
    obtain ⟨_, y0, hy0, _⟩ := id hit
    have hin := (List.getElem?_eq_some_iff.1 hy0).1
    rcases h.form with ⟨_, h0, _, _⟩ | ⟨g, R, rfl, _, hgl, hg, hR, hCm⟩
    · omega
    have HG0 := Lib.hid hg
    have HA := Lib.hid ha
    have HL := Lib.hid hl
    have HW := Lib.hid hw
    have HH := Lib.hid hit
    have HGL := Lib.hid hgl
    have HC : Hid (some c ≠ some g ∧ some m ≠ some g) := Lib.hid ⟨by simpa using hc, by simpa using hm⟩
    have hnC : n ≤ C := by omega
    have HR : Hid (n * 13 + R.length = C * 13 ∧ C ≤ maxLen) := Lib.hid ⟨hR, hCm⟩
    have i1 : ((i : Int) == -1) = false := by rw [beq_eq_false_iff_ne]; omega
    have i2 : (i : Int) ≤ 1000 := by omega
    have hin2 : i < n := by omega
    have n1 : (n : Int) ≤ 1000 := by omega
    have n2 : (n : Int) ≤ (C : Int) := by omega
    clear h ha hit hw hl hc hm hg hgl hR hCm hy0 hin
    go_enter Tryz.func108, Tryz.ntmps108
    go_wp2_with (first
      | (go_at_call 127; (with_reducible refine (CX.out).mono ?_); rintro e w1 ⟨rfl, hb⟩; have HB1 := Lib.hid hb; clear hb)
      | fail)
    go_loopw [5, 6, 7] (fun s5 s6 _ wr => ∃ (p q : Nat) (d : List It), q ≤ n ∧ s5 = .int .i64 (p : Int) ∧ s6 = .int .i64 (q : Int) ∧ Hid (Upto S l d p q) ∧ Hid (TBlk wr g (icells d ++ R)) ∧ Hid (w.grownBy wr (some g))) (fun _ s6 _ _ => n - (intOf s6).toNat)
    case atStart => exact ⟨i, i + 1, l, by omega, rfl, by go_num, Lib.hid (Upto.start HH.out), Lib.hid ((HB1.out.block g HGL.out).trans HG0.out), Lib.hid (grown_below HB1.out)⟩
    case round =>
      obtain ⟨p, q, d, hq, rfl, rfl, HU, HT, HG⟩ := hrel
      by_cases hlt : q < n
      · obtain ⟨y, hy⟩ : ∃ y, l[q]? = some y := ⟨_, List.getElem?_eq_getElem (by rw [HL.out]; exact hlt)⟩
        have hdl : d.length = n := by rw [HU.out.len, HL.out]
        have hpq := HU.out.pq
        obtain ⟨z, hz⟩ : ∃ z, d[p]? = some z := ⟨_, List.getElem?_eq_getElem (by omega)⟩
        have hyd := HU.out.at_ hy
        have hxq : Lies wr g (q * 13) y.cells := TBlk.lies HT.out hyd
        have hxp : Lies wr g (p * 13) z.cells := TBlk.lies HT.out hz
        obtain ⟨W, hW⟩ : ∃ W, W = wr.alloc (.cells y.cells 113) := ⟨_, rfl⟩
        have hbW : Below wr.heap.size wr W := by rw [hW]; exact (Below.refl _ _).alloc (Nat.le_refl _) _
        have hsW : W.heap.size = wr.heap.size + 1 := by rw [hW]; simp
        have haW : Ask W c m N S := (HA.out.grown HG.out HC.out.1 HC.out.2).below hbW
        have hgr : g < wr.heap.size := Nat.lt_of_lt_of_le HGL.out HG.out.size
        have CG := Lib.hid (gone_any y (HW.out y (List.mem_of_getElem? hy)) c m N S W haW)
        have HLAT : Hid (∀ w1, Below W.heap.size W w1 → TBlk w1 g (icells d ++ R) ∧ Lies w1 wr.heap.size 0 y.cells ∧ w.grownBy w1 (some g) ∧ Lies w1 g (p * 13) z.cells) := Lib.hid (fun w1 hb => by
          have hx : Lies W wr.heap.size 0 y.cells := by rw [hW]; exact Lies.new wr y.cells _ (Below.refl _ _)
          exact ⟨(hb.block g (by omega)).trans ((hbW.block g hgr).trans HT.out), hx.below hb hx.lt, grown_trans HG.out (grown_trans (grown_below hbW) (grown_below hb)), (hxp.below hbW hgr).below hb (by omega)⟩)
        have HSET : Hid (∀ w1 w2, TBlk w1 g (icells d ++ R) → Lies w2 g (p * 13) y.cells → Prt g (p * 13) 13 w1 w2 → TBlk w2 g (icells (d.set p y) ++ R)) := Lib.hid (fun w1 w2 h h1 h2 => h.setItem p (by omega) y h1 h2)
        have HXQ := Lib.hid hxq
        have HWW := Lib.hid hW
        have j1 : (q : Int) < (n : Int) := by omega
        have j2 : (p : Int) < (n : Int) := by omega
        have HPQ := Lib.hid hpq
        have HX := Lib.hid (HLAT.out W (Below.refl _ _)).2.1
        cases hs : S y.num with
        | true =>
          have HU2 := Lib.hid (HU.out.skip hy hs)
          rw [hs] at CG
          clear hy hyd hz hdl hW hbW hsW haW hgr hs hpq HSET hxq hxp
          go_upto_region 8 with (first
            | (with_reducible refine wpList_load_lies rfl 113 (.tmp 24) rfl g (q * 13) rfl y.cells HXQ.out _ Tryz.underlying113 rfl (infoX y) ?_)
            | fail)
          rw [← HWW.out]
          go_wp2_with (first
            | (with_reducible refine wpList_load_lies rfl 113 (.tmp 7) rfl wr.heap.size 0 rfl y.cells HX.out _ Tryz.underlying113 rfl (infoX y) ?_)
            | (go_at_call 109; (with_reducible refine (CG.out).mono ?_); rintro e w2 ⟨rfl, hb⟩; have HB2 := Lib.hid hb; clear hb)
            | fail)
          go_roundw
          case rel => exact ⟨p, q + 1, d, by omega, rfl, by go_num, HU2, Lib.hid (HLAT.out w2 HB2.out).1, Lib.hid (HLAT.out w2 HB2.out).2.2.1⟩
          case measure => simp [intOf] <;> omega
        | false =>
          have HU2 := Lib.hid (HU.out.take hy hs)
          obtain ⟨d2, hd2⟩ : ∃ d2, d2 = d.set p y := ⟨_, rfl⟩
          rw [← hd2] at HU2 HSET
          rw [hs] at CG
          clear hy hyd hz hdl hW hbW hsW haW hgr hs hpq hd2 hxq hxp
          go_upto_region 8 with (first
            | (with_reducible refine wpList_load_lies rfl 113 (.tmp 24) rfl g (q * 13) rfl y.cells HXQ.out _ Tryz.underlying113 rfl (infoX y) ?_)
            | fail)
          rw [← HWW.out]
          go_wp2_with (first
            | (with_reducible refine wpList_load_lies rfl 113 (.tmp 7) rfl wr.heap.size 0 rfl y.cells HX.out _ Tryz.underlying113 rfl (infoX y) ?_)
            | (go_at_call 109; (with_reducible refine (CG.out).mono ?_); rintro e w2 ⟨rfl, hb⟩; have HB2 := Lib.hid hb; clear hb; have HL2 := Lib.hid (HLAT.out w2 HB2.out); have HX2 := Lib.hid HL2.out.2.1)
            | (with_reducible refine wpList_load_lies rfl 113 (.tmp 7) rfl wr.heap.size 0 rfl y.cells HX2.out _ Tryz.underlying113 rfl (infoX y) ?_)
            | ((with_reducible refine wpList_store_lies rfl 113 (.tmp 33) (.tmp 32) rfl g (p * 13) rfl y.cells rfl z.cells HL2.out.2.2.2 rfl (infoX y) (cells_one y) ?_); intro w3 N1 N2 N3)
            | fail)
          go_roundw
          case rel => exact ⟨p + 1, q + 1, d2, by omega, by go_num, by go_num, HU2, Lib.hid (HSET.out w2 w3 HL2.out.1 N1.out N2.out), Lib.hid (grown_trans HL2.out.2.2.1 (grown_prt N2.out))⟩
          case measure => simp [intOf] <;> omega
      · obtain rfl : q = n := by omega
        have hpq := HU.out.pq
        have hdl : d.length = q := by rw [HU.out.len, HL.out]
        have hst : d.take p = stay S l := by have := HU.out.front; rwa [List.take_of_length_le (l := l) (by rw [HL.out]; exact Nat.le_refl _)] at this
        have hsl : (stay S l).length = p := by rw [← hst, List.length_take]; omega
        have HF2 : Hid (p * 13 + (q - p) * 13 ≤ (icells d ++ R).length) := Lib.hid (by rw [List.length_append, icells_length]; omega)
        have HQ : Hid (0 < q - p) := Lib.hid (by omega)
        have HFIN : Hid (∀ (w3 : World) (Z : List Value), Z.length = (q - p) * 13 → TBlk w3 g (splice (icells d ++ R) (p * 13) Z) → wr.grownBy w3 (some g) → LeftTo w (some ⟨g, 0, none⟩) C (stay S l) (.returned (.slice (some ⟨g, 0, none⟩) p C)) w3) := Lib.hid (fun w3 Z hZ h3 hg3 => by
          refine ⟨by rw [hsl], Lib.hid ?_, Lib.hid (grown_trans HG.out hg3)⟩
          have e : icells d ++ R = icells (d.take p) ++ (icells (d.drop p) ++ R) := by rw [← List.append_assoc, ← icells_append, List.take_append_drop]
          rw [e, splice_at _ _ _ _ (by rw [icells_length, List.length_take]; omega), hst] at h3
          rw [hsl]
          refine OwnT.of (R := Z ++ (icells (d.drop p) ++ R).drop Z.length) hsl (Nat.zero_le _) h3 ?_ HR.out.2
          have := HR.out.1
          simp only [List.length_append, List.length_drop, icells_length]
          omega)
        have j2 : (p : Int) < (q : Int) := by omega
        have j3 : ¬ C = p := by omega
        have j4 : (p : Int) ≤ (q : Int) := by omega
        clear hst hsl hdl hpq
        go_wp2_with (first
          | ((with_reducible refine wpList_clear_items rfl (.tmp 38) rfl g (p * 13) (q - p) (C - p) rfl HQ.out _ HT.out HF2.out ?_); intro w3 Z HZ HG3 HW3)
          | fail)
        go_ret
        exact HFIN.out w3 Z HZ.out HG3.out HW3.out
end Go.Proofs.YtldhlknmabpanaaGreat.Mq
namespace Go.Proofs.YtldhlknmabpanaaGreat.Mq
open Go.RowKit

/-- Items in a slice that is copied. -/
def CopyTo (w : World) (n : Nat) (l : List It) (e : Ending) (w' : World) : Prop := ∃ A' C', e = .returned (.slice A' n C') ∧ Hid (OwnT w' w.heap.size (.slice A' n C') n l) ∧ Hid (Below w.heap.size w w')
set_option maxRecDepth 100000 in
theorem copy_any (A : Option Addr) (n C : Nat) (l : List It) (hn : n ≤ 1000) (w : World) (h : OwnT w 0 (.slice A n C) n l) :
    Calls Tryz.prog 106 #[.slice A n C] w (CopyTo w n l) := by
  have heq : ∀ (a : Option Addr) (w : World), (binOp .eql 109 (.slice a n C) (.slice none 0 0)).run Tryz.prog w = .ok (.bool a.isNone) w := fun a w => Lib.run_eql_slice_nil w 109 113 a n C 0 0 Tryz.underlying109
  rcases h.form with ⟨rfl, rfl, rfl, rfl⟩ | ⟨g, R, rfl, _, hgl, hg, _, _⟩
  · clear h
    go_enter Tryz.func106, Tryz.ntmps106
    go_wp2
    go_ret
    exact ⟨none, 0, rfl, Lib.hid (OwnT.none _ _), Lib.hid (Below.refl _ _)⟩
  · have hl := h.length
    obtain ⟨W1, hW1⟩ : ∃ W1, W1 = w.alloc (.cells #[] 113) := ⟨_, rfl⟩
    have hb1 : Below w.heap.size w W1 := by rw [hW1]; exact (Below.refl _ _).alloc (Nat.le_refl _) _
    have HE : Hid (OwnT W1 w.heap.size (.slice (some ⟨w.heap.size, 0, none⟩) 0 0) 0 []) := Lib.hid (OwnT.of (R := []) rfl (Nat.le_refl _) (by rw [hW1]; exact Go.Deep.blk_alloc_new w _) rfl (Nat.zero_le _))
    have HN : Hid (∀ j u, (icells l)[j]? = some u → W1.cell? ((⟨g, 0, none⟩ : Addr).add j) = some u) := Lib.hid (TBlk.src (P := []) (S := R) (by rw [List.nil_append]; exact (hb1.block g hgl).trans hg) 0 rfl)
    have HL := Lib.hid hl
    have HM : Hid (0 + n ≤ 100000) := Lib.hid (by omega)
    have HB1 := Lib.hid hb1
    have HLE : Hid (w.heap.size ≤ W1.heap.size) := Lib.hid hb1.size
    have HW1 := Lib.hid hW1
    clear h hg hl hn hb1 hW1 hgl
    go_enter Tryz.func106, Tryz.ntmps106
    go_wp2_with (first
      | (at_builtin; rw [← HW1.out]; (with_reducible refine wpList_append_items rfl (.tmp 5) (.tmp 6) rfl w.heap.size (some ⟨w.heap.size, 0, none⟩) 0 0 rfl [] HE.out ⟨g, 0, none⟩ n C rfl l HL.out HN.out HM.out HLE.out ?_); intro A' C' w' H1 H2)
      | fail)
    rw [Nat.zero_add] at H1
    go_ret
    refine ⟨A', C', rfl, H1, Lib.hid ?_⟩
    exact below_grown HB1.out H2.out.grown HLE.out (fun k hk => by simp at hk; omega)
/-- The numbers of those that go. -/
def marks (K : Dg → Bool) (l : List It) (z : Int) : Bool := l.any (fun x => !K x.v && z == x.num)
theorem marks_step (K : Dg → Bool) (l : List It) (k : Nat) (y : It) (h : l[k]? = some y) : marks K (l.take (k + 1)) = if K y.v then marks K (l.take k) else fun z => marks K (l.take k) z || z == y.num := by
  funext z
  unfold marks
  rw [List.take_add_one, h, List.any_append]
  cases hk : K y.v <;> simp [hk]
def Qn.filter (Q : Qn) (K : Dg → Bool) : Qn := ⟨Q.room, Q.pushed, Q.l.filter (fun x => K x.v)⟩
theorem marks_at {K : Dg → Bool} {l : List It} (h : l.Pairwise (fun a b => a.num ≠ b.num)) : ∀ x ∈ l, marks K l x.num = !K x.v := by
  intro x hx
  unfold marks
  cases hk : K x.v
  · simp only [Bool.not_false]
    rw [List.any_eq_true]
    exact ⟨x, hx, by simp [hk]⟩
  · simp only [Bool.not_true]
    rw [List.any_eq_false]
    intro y hy
    by_cases e : x.num = y.num
    · have : x = y := by
        obtain ⟨i, hi, rfl⟩ := List.getElem_of_mem hx
        obtain ⟨j, hj, rfl⟩ := List.getElem_of_mem hy
        rw [List.pairwise_iff_getElem] at h
        rcases Nat.lt_trichotomy i j with g | g | g
        · exact absurd e (h i j hi hj g)
        · subst g; rfl
        · exact absurd e.symm (h j i hj hi g)
      subst this
      simp [hk]
    · simp [e]
theorem stay_marks {K : Dg → Bool} {l : List It} (h : l.Pairwise (fun a b => a.num ≠ b.num)) : stay (marks K l) l = l.filter (fun x => K x.v) := by
  unfold stay
  apply List.filter_congr
  intro x hx
  rw [marks_at h x hx]
  simp
theorem Qn.filter_fit {Q : Qn} {k : Nat} (h : Q.fit k) (K : Dg → Bool) : (Q.filter K).fit k :=
  ⟨h.lo, h.hi, Nat.le_trans (List.length_filter_le _ _) h.len, h.pushed, fun x hx => h.num x ((List.mem_filter.1 hx).1), List.Pairwise.sublist List.filter_sublist h.sorted, List.Pairwise.sublist List.filter_sublist h.apart⟩
theorem Qn.fit.wf {Q : Qn} {k : Nat} (h : Q.fit k) (hk : k ≤ 1000000) : ∀ x ∈ Q.l, (Lit.int .i64 x.num).wf = true := by
  intro x hx
  have h1 := h.num x hx
  have h2 := h.pushed
  simp [Lit.wf, IntKind.min, IntKind.max, IntKind.bits, IntKind.signed] <;> omega
set_option maxRecDepth 100000 in
theorem filter_any (K : Dg → Bool) (fv : Value) (b k : Nat) (Q : Qn) (A : Option Addr) (C : Nat) (hf : Q.fit k) (hk : k ≤ 1000000) (w : World) (h : QB w b Q A C)
    (hq : ∀ y ∈ Q.l, ∀ w', Below w.heap.size w w' → Calls Tryz.prog 107 #[fv, y.v.val] w' fun e w'' => e = .returned (.bool (!K y.v)) ∧ Below w'.heap.size w' w'') :
    Calls Tryz.prog 77 #[.pointer (some ⟨b, 0, none⟩), fv] w fun e w' => e = .returned (.int .i64 ((Q.l.length : Int) - ((Q.filter K).l.length : Int))) ∧ Hid (QTo w b A (Q.filter K) w') := by
  have hmm := @run_makeMap Tryz.prog
  obtain ⟨W1, hW1⟩ : ∃ W1, W1 = (w.alloc (.map #[] 0)).alloc (.cells #[.map (some w.heap.size)] 166) := ⟨_, rfl⟩
  have hb1 : Below w.heap.size w W1 := by rw [hW1]; exact ((Below.refl _ _).alloc (Nat.le_refl _) _).alloc (by simp) _
  have hs1 : W1.heap.size = w.heap.size + 2 := by rw [hW1]; simp
  have hx1 : W1.cell? ⟨w.heap.size + 1, 0, none⟩ = some (.map (some w.heap.size)) := by
    have := Go.Deep.blk_alloc_new (w.alloc (.map #[] 0)) (.cells #[.map (some w.heap.size)] 166)
    rw [← hW1] at this
    simp only [World.cell?, show w.heap.size + 1 = (w.alloc (.map #[] 0)).heap.size by simp, this]
    rfl
  have hm1 : Going W1 w.heap.size 0 (fun _ => false) := (Going.made w).keep (by rw [hW1]; exact Below.heap_alloc _ _ _ (by simp))
  have hq1 : QB W1 b Q A C := h.below hb1 (Nat.le_refl _)
  have hlt := h.lt
  obtain ⟨c0, c1, c2⟩ := hq1.blk.cells
  have hn : Q.l.length ≤ 1000 := by have := hf.len; have := hf.hi; omega
  have CC := Lib.hid (copy_any A Q.l.length C Q.l hn W1 hq1.own)
  have HX1 := Lib.hid hx1
  have HM1 := Lib.hid hm1
  have HB1 := Lib.hid hb1
  have HS1 := Lib.hid hs1
  have HQ := Lib.hid h
  have HRQ := Lib.hid hq
  have HLT := Lib.hid hlt
  have HF := Lib.hid hf
  have HK := Lib.hid hk
  have HN := Lib.hid hn
  have HW1 := Lib.hid hW1
  have HLL : Hid (Q.l.length = Q.l.length) := Lib.hid rfl
  have hn2 : (Q.l.length : Int) ≤ 1000 := by omega
  clear h hq hf hk hb1 hs1 hx1 hm1 hq1 hlt hn hW1
  go_enter Tryz.func77, Tryz.ntmps77
  go_upto_region 2 with fail
  rw [← HW1.out]
  go_wp2_with (first
    | (go_at_call 106; (with_reducible refine (CC.out).mono ?_); rintro e w2 ⟨A2, C2, rfl, HO2, HB2⟩)
    | fail)
  go_loopw [7, 16] (fun _ i wr => ∃ k : Nat, k ≤ Q.l.length ∧ i = .int .i64 (k : Int) ∧ Hid (∃ N, N ≤ k ∧ Ask wr (w.heap.size + 1) w.heap.size N (marks K (Q.l.take k))) ∧ Hid (OwnT wr W1.heap.size (.slice A2 Q.l.length C2) Q.l.length Q.l) ∧ Hid (Below w.heap.size w wr)) (fun _ i _ => Q.l.length - (intOf i).toNat)
  case atStart =>
    refine ⟨0, Nat.zero_le _, rfl, Lib.hid ⟨0, Nat.le_refl _, ?_⟩, HO2, Lib.hid (HB1.out.trans (HB2.out.mono (by have := HS1.out; omega)))⟩
    have a1 : Ask W1 (w.heap.size + 1) w.heap.size 0 (fun _ => false) := ⟨HX1.out, by have := HS1.out; omega, HM1.out⟩
    have e : marks K (Q.l.take 0) = fun _ => false := by funext z; rfl
    rw [e]
    exact a1.below HB2.out
  case round =>
    obtain ⟨k, hk, rfl, HA, HO, HB⟩ := hrel
    by_cases hlt : k < Q.l.length
    · obtain ⟨y, hy⟩ : ∃ y, Q.l[k]? = some y := ⟨_, List.getElem?_eq_getElem hlt⟩
      obtain ⟨g, eA, hgW, hgl, hxy⟩ := HO.out.at_ k y hy
      subst eA
      obtain ⟨N, hN, ha⟩ := HA.out
      obtain ⟨W, hW⟩ : ∃ W, W = wr.alloc (.cells y.cells 113) := ⟨_, rfl⟩
      have hbW : Below wr.heap.size wr W := by rw [hW]; exact (Below.refl _ _).alloc (Nat.le_refl _) _
      have haW := ha.below hbW
      have hbig := HB.out.size
      have hx : Lies W wr.heap.size 0 y.cells := by rw [hW]; exact Lies.new wr y.cells _ (Below.refl _ _)
      have x1 : W.cell? ⟨wr.heap.size, 1, none⟩ = some (.int .i64 y.num) := hx.cell 1 (by decide : 1 < 13)
      have HXV := Lib.hid (it_dg hx)
      have CR := Lib.hid (HRQ.out y (List.mem_of_getElem? hy) W (HB.out.trans (hbW.mono hbig)))
      have HXY := Lib.hid hxy
      have HXL := Lib.hid hx.lt
      have HX1 := Lib.hid x1
      have b0 := haW.box
      have hbB : Below w.heap.size w W := HB.out.trans (hbW.mono hbig)
      have hoW : OwnT W W1.heap.size (.slice (some ⟨g, 0, none⟩) Q.l.length C2) Q.l.length Q.l := HO.out.below hbW (Nat.le_refl _)
      have HYW := Lib.hid (HF.out.wf HK.out y (List.mem_of_getElem? hy))
      have HNN : Hid (N ≤ 100000) := Lib.hid (by have := HN.out; omega)
      have HST := Lib.hid (marks_step K Q.l k y hy)
      have HNK := Lib.hid hN
      have HAW := Lib.hid haW
      have HOW := Lib.hid hoW
      have HBB := Lib.hid hbB
      have HWW := Lib.hid hW
      have HGW : Hid (W1.heap.size ≤ g) := Lib.hid hgW
      have j1 : (k : Int) < (Q.l.length : Int) := by omega
      cases hs : K y.v with
      | true =>
        have HST2 : Hid (marks K (Q.l.take (k + 1)) = marks K (Q.l.take k)) := Lib.hid (by have := HST.out; rw [hs] at this; simpa using this)
        rw [hs] at CR
        clear hy ha haW hW hbW hx hbB hoW hs hN hgW hgl hbig HST hxy
        go_upto_region 5 with (first
          | (with_reducible refine wpList_load_lies rfl 113 (.tmp 18) rfl g (k * 13) rfl y.cells HXY.out _ Tryz.underlying113 rfl (infoX y) ?_)
          | fail)
        rw [← HWW.out]
        go_wp2_with (first
          | (with_reducible refine wpList_load_lies rfl 50 (.tmp 21) rfl wr.heap.size 2 rfl (dcells y.v) HXV.out _ Tryz.underlying50 rfl (infoC y.v) ?_)
          | (go_at_call 107; (with_reducible refine (CR.out).mono ?_); rintro e w3 ⟨rfl, hb3⟩; have HB3 := Lib.hid hb3; clear hb3; have HA3 := Lib.hid (HAW.out.below HB3.out); have HO3 := Lib.hid (HOW.out.below HB3.out (Nat.le_refl _)); have HBB3 := Lib.hid (HBB.out.trans (HB3.out.mono HBB.out.size)); have b3 := HA3.out.box; have HG3 := Lib.hid HA3.out.set; have x3 : w3.cell? ⟨wr.heap.size, 1, none⟩ = some (.int .i64 y.num) := (HB3.out.cell (p := ⟨wr.heap.size, 1, none⟩) HXL.out).trans HX1.out)
          | fail)
        go_roundw
        case rel => exact ⟨k + 1, by omega, by go_num, Lib.hid ⟨N, by have := HNK.out; omega, by rw [HST2.out]; exact HA3.out⟩, HO3, HBB3⟩
        case measure => simp [intOf] <;> omega
      | false =>
        have HST2 : Hid (marks K (Q.l.take (k + 1)) = fun z => marks K (Q.l.take k) z || z == y.num) := Lib.hid (by have := HST.out; rw [hs] at this; simpa using this)
        rw [hs] at CR
        clear hy ha haW hW hbW hx hbB hoW hs hN hgW hgl hbig HST hxy
        go_upto_region 5 with (first
          | (with_reducible refine wpList_load_lies rfl 113 (.tmp 18) rfl g (k * 13) rfl y.cells HXY.out _ Tryz.underlying113 rfl (infoX y) ?_)
          | fail)
        rw [← HWW.out]
        go_wp2_with (first
          | (with_reducible refine wpList_load_lies rfl 50 (.tmp 21) rfl wr.heap.size 2 rfl (dcells y.v) HXV.out _ Tryz.underlying50 rfl (infoC y.v) ?_)
          | (go_at_call 107; (with_reducible refine (CR.out).mono ?_); rintro e w3 ⟨rfl, hb3⟩; have HB3 := Lib.hid hb3; clear hb3; have HA3 := Lib.hid (HAW.out.below HB3.out); have HO3 := Lib.hid (HOW.out.below HB3.out (Nat.le_refl _)); have HBB3 := Lib.hid (HBB.out.trans (HB3.out.mono HBB.out.size)); have b3 := HA3.out.box; have HG3 := Lib.hid HA3.out.set; have x3 : w3.cell? ⟨wr.heap.size, 1, none⟩ = some (.int .i64 y.num) := (HB3.out.cell (p := ⟨wr.heap.size, 1, none⟩) HXL.out).trans HX1.out)
          | ((with_reducible refine wpList_mark rfl (.tmp 24) (.tmp 26) (.tmp 27) rfl w.heap.size N (marks K (Q.l.take k)) rfl HG3.out HNN.out y.num HYW.out rfl rfl ?_); intro w4 HG4 HW4)
          | fail)
        go_roundw
        case rel =>
          refine ⟨k + 1, by omega, by go_num, Lib.hid ⟨N + 1, by have := HNK.out; omega, ?_⟩, Lib.hid ?_, Lib.hid ?_⟩
          · rw [HST2.out]
            exact ⟨(World.cell?_of_block (HW4.out.block _ HA3.out.lt (by simp))).trans HA3.out.box, Nat.lt_of_lt_of_le HA3.out.lt HW4.out.size, HG4.out⟩
          · exact HO3.out.keep (fun g' hg' => HW4.out.block g' (HO3.out.lt g' hg').2 (by
              have := (HO3.out.lt g' hg').1
              have := HS1.out
              simp
              omega))
          · exact below_grown HBB3.out HW4.out HBB3.out.size (fun k hk => by simp at hk; omega)
        case measure => simp [intOf] <;> omega
    · obtain ⟨N, hN, ha⟩ := HA.out
      have hkn : k = Q.l.length := by omega
      subst hkn
      rw [List.take_length] at ha
      have hqr := HQ.out.below HB.out (Nat.le_refl _)
      obtain ⟨f0, f1, f2⟩ := hqr.blk.cells
      have hap : ∀ g, A.map Addr.block = some g → g < w.heap.size := HLT.out
      have CD := Lib.hid (delfunc_any (marks K Q.l) A Q.l.length C (w.heap.size + 1) w.heap.size N Q.l HN.out (HF.out.wf HK.out) wr hqr.own ha (fun e => by have := hap _ e.symm; omega) (fun e => by have := hap _ e.symm; omega))
      rw [stay_marks HF.out.apart] at CD
      obtain ⟨L, hL⟩ : ∃ L, L = Q.l.filter (fun x => K x.v) := ⟨_, rfl⟩
      have hLl : L.length ≤ Q.l.length := by rw [hL]; exact List.length_filter_le _ _
      have hQL : Q.filter K = ⟨Q.room, Q.pushed, L⟩ := by rw [hL]; rfl
      have HQL := Lib.hid hQL
      rw [← hL] at CD
      unfold LeftTo at CD
      have HQR := Lib.hid hqr
      have hk1 : (L.length : Int) ≤ (Q.l.length : Int) := by omega
      have n3 : ¬ (Q.l.length : Int) < (Q.l.length : Int) := by omega
      have HLL2 : Hid (∀ w5, wr.grownBy w5 (A.map Addr.block) → QBlk w5 b Q.room Q.pushed (.slice A Q.l.length C)) := Lib.hid (fun w5 hg => hqr.blk.keep (hg.block b hqr.blk.lt (fun e => hqr.apart b e.symm rfl)))
      clear hqr ha hap hL hLl hQL hk
      go_wp2_with (first
        | (go_at_call 108; (with_reducible refine (CD.out).mono ?_); rintro e w5 ⟨rfl, HO5, HG5⟩; have HX5 := Lib.hid (HLL2.out w5 HG5.out); obtain ⟨g0, g1, g2⟩ := HX5.out.cells; have gf := HX5.out.frozen 2)
        | fail)
      go_ret
      refine ⟨?_, Lib.hid ?_⟩
      · rw [HQL.out]
        rfl
      · rw [HQL.out]
        refine ⟨A, C, ⟨HX5.out.setItems _, ?_⟩, .inl rfl, ((Frm.of_below HB.out).trans (Frm.grown HG5.out)).trans (Frm.setIn _ _ _ _ _)⟩
        exact HO5.out.keep (fun g hg => Below.heap_setCell _ _ _ g (HQR.out.apart g (by rw [own_block] at hg; exact hg)))
end Go.Proofs.YtldhlknmabpanaaGreat.Mq
