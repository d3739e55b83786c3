/-
  Own text: numbers in a slice of the call's own; what is appended to them, one at a time, or so many noughts.
-/
import Derived.Test.YtnffngbkidehfaaByteA
import Derived.Laws.AppendOwn
import Derived.Laws.AppendOwnNone
import Derived.Deep.RegionHeld3
import Derived.StillTailTactics
namespace Go.Proofs.Ytnffngbkidehfaa
open Go.RowKit

theorem below_grown {B : Nat} {w0 w w' : World} {row : Option Nat} (h : Below B w0 w) (hg : w.grownBy w' row) (hB : B ≤ w.heap.size) (hr : ∀ k, row = some k → B ≤ k) : Below B w0 w' :=
  h.trans ⟨hg.os, hg.tape, hg.output, hg.size, fun k hk => hg.block k (by omega) (fun e => by have := hr k e.symm; omega)⟩
theorem grown_refl (w : World) (row : Option Nat) : w.grownBy w row := ⟨rfl, rfl, rfl, Nat.le_refl _, fun _ _ _ => rfl⟩
theorem grown_trans {A B C : World} {row : Option Nat} (h : A.grownBy B row) (k : B.grownBy C row) : A.grownBy C row :=
  ⟨k.os.trans h.os, k.tape.trans h.tape, k.output.trans h.output, Nat.le_trans h.size k.size, fun i hi hr => (k.block i (Nat.lt_of_lt_of_le hi h.size) hr).trans (h.block i hi hr)⟩
theorem add_place (b off k : Nat) : (⟨b, off, none⟩ : Addr).add k = ⟨b, off + k, none⟩ := by unfold Addr.add; split <;> simp_all
theorem info_i64 : (Try.prog.info? 3).map (fun i => (i.zero, i.size, i.bytes)) = some (some (.int .i64 0), 1, 8) := by kernel_rfl
/-- Numbers in a slice of the call's own. -/
def OwnI (w : World) (base : Nat) (v : Value) (n : Nat) (l : List Int) : Prop := w.ownsRow base 3 1 v n (l.map (Value.int .i64))
theorem OwnI.none (w : World) (base : Nat) : OwnI w base (.slice none 0 0) 0 [] := ⟨rfl, .inl ⟨rfl, rfl⟩⟩
theorem OwnI.length {w : World} {base : Nat} {v : Value} {n : Nat} {l : List Int} (h : OwnI w base v n l) : l.length = n := by
  have := h.1; simpa using this
theorem OwnI.slice {w : World} {base : Nat} {v : Value} {n : Nat} {l : List Int} (h : OwnI w base v n l) : ∃ A C, v = .slice A n C ∧ n ≤ C ∧ C ≤ maxLen := by
  rcases h.2 with ⟨rfl, rfl⟩ | ⟨g, cap, cur, rfl, _, _, h1, h2, _⟩
  · exact ⟨_, _, rfl, Nat.le_refl _, Nat.zero_le _⟩
  · exact ⟨_, _, rfl, h1, h2⟩
theorem OwnI.keep {w w' : World} {base : Nat} {v : Value} {n : Nat} {l : List Int} (h : OwnI w base v n l) (hk : ∀ g, v.ownBlock = some g → w'.heap[g]? = w.heap[g]?) : OwnI w' base v n l := by
  refine ⟨h.1, h.2.imp id ?_⟩
  rintro ⟨g, cap, cur, e, h1, hg, h2⟩
  exact ⟨g, cap, cur, e, h1, (hk g (by rw [e]; rfl)).trans hg, h2⟩
theorem OwnI.lt {w : World} {base : Nat} {v : Value} {n : Nat} {l : List Int} (h : OwnI w base v n l) : ∀ g, v.ownBlock = some g → base ≤ g ∧ g < w.heap.size := World.ownsRow.lt h
theorem OwnI.below {w w' : World} {base B : Nat} {v : Value} {n : Nat} {l : List Int} (h : OwnI w base v n l) (hb : Below B w w') (hB : w.heap.size ≤ B) : OwnI w' base v n l :=
  h.keep (fun g hg => hb.block g (Nat.lt_of_lt_of_le (h.lt g hg).2 hB))
theorem OwnI.low {w : World} {base b : Nat} {v : Value} {n : Nat} {l : List Int} (h : OwnI w base v n l) (hb : b ≤ base) : OwnI w b v n l := by
  refine ⟨h.1, h.2.imp id ?_⟩
  rintro ⟨g, cap, cur, e, h1, h2⟩
  exact ⟨g, cap, cur, e, by omega, h2⟩
/-- Where an element is: its block is no struct's. -/
theorem OwnI.at_ {w : World} {base : Nat} {A : Option Addr} {n C : Nat} {l : List Int} (h : OwnI w base (.slice A n C) n l) (i : Nat) (hi : i < n) :
    ∃ g, A = some ⟨g, 0, Option.none⟩ ∧ base ≤ g ∧ g < w.heap.size ∧ w.cell? ⟨g, i, Option.none⟩ = some (.int .i64 (l.getD i 0)) ∧ w.frozen? ⟨g, i, Option.none⟩ = false ∧ n ≤ C ∧ C ≤ maxLen ∧ (∃ cur : Array Value, w.heap[g]? = some (.cells cur 3 (0, 0))) := by
  have hl := h.length
  have hs := h.2
  rcases hs with ⟨e, h0⟩ | ⟨g, cap, cur, e, h1, hg, h3, h4, _⟩
  · omega
  · simp only [Value.slice.injEq, true_and] at e
    obtain ⟨rfl, rfl⟩ := e
    refine ⟨g, rfl, h1, (Array.getElem?_eq_some_iff.1 hg).1, ?_, World.ownsRow.frozenAt h i, h3, h4, cur, hg⟩
    rw [World.ownsRow.cellAt h i (by omega), List.getElem?_map, List.getD_eq_getElem?_getD, List.getElem?_eq_getElem (by omega)]
    rfl
theorem OwnI.cell {w : World} {base g : Nat} {n C : Nat} {l : List Int} (h : OwnI w base (.slice (some ⟨g, 0, Option.none⟩) n C) n l) (i : Nat) (hi : i < n) : w.cell? ⟨g, i, Option.none⟩ = some (.int .i64 (l.getD i 0)) := by
  obtain ⟨g', e, _, _, h, _⟩ := h.at_ i hi
  simp only [Option.some.injEq, Addr.mk.injEq, and_true] at e
  rw [e]; exact h
theorem OwnI.set {w : World} {base g : Nat} {n C : Nat} {l : List Int} (h : OwnI w base (.slice (some ⟨g, 0, Option.none⟩) n C) n l) (i : Nat) (z : Int) : OwnI (w.setCell ⟨g, i, Option.none⟩ (.int .i64 z)) base (.slice (some ⟨g, 0, Option.none⟩) n C) n (l.set i z) := by
  have := (World.ownsRow.stored h i (.int .i64 z)).1
  unfold OwnI
  rw [List.map_set]
  exact this
theorem wp_append_int {w : World} {o : Oper} {a : Act} {K : Act → World → Prop} {Q : Exit → Act → World → Prop} (s x : Operand)
    (ho : o.op = .call { callee := .builtin .append, args := #[s, x], argTypes := #[44, 44] })
    (base : Nat) (dp : Option Addr) (n dC : Nat) (hs : a.eval s = .slice dp n dC) (l : List Int) (hown : OwnI w base (.slice dp n dC) n l)
    (g : Nat) (hx : a.eval x = .slice (some ⟨g, 0, none⟩) 1 1) (z : Int) (hy : w.cell? ⟨g, 0, none⟩ = some (.int .i64 z)) (hb : n + 1 ≤ 100000) (hbase : base ≤ w.heap.size)
    (h : ∀ A C w', Hid (OwnI w' base (.slice A (n + 1) C) (n + 1) (l ++ [z])) → Hid (Below base w w') → K (a.put o.dst (.slice A (n + 1) C)) w') :
    o.wp Try.prog a w K Q := by
  obtain ⟨i, hi, hzz⟩ := Option.map_eq_some_iff.1 info_i64
  simp only [Prod.mk.injEq] at hzz
  obtain ⟨hz, hsz, hby⟩ := hzz
  refine wp_append_own w s x 44 ho base 3 i (.int .i64 0) 1 8 Try.underlying44 hi hz hsz hby rfl (by omega) _ n _ hs hown ⟨g, 0, none⟩ 1 1 [.int .i64 z] hx rfl ?_ ?_ (by unfold maxLen; omega) (by omega) hbase ?_
  · intro j u hu
    cases j with
    | zero => simp at hu; subst hu; rw [add_place]; exact hy
    | succ j => simp at hu
  · intro u hu
    simp at hu
    subst hu
    rfl
  · intro v' w' h1 h2 _
    have h3 : OwnI w' base v' (n + 1) (l ++ [z]) := by unfold OwnI; rw [List.map_append]; exact h1
    have h4 : ∃ A C, v' = .slice A (n + 1) C := by
      rcases h3.2 with ⟨rfl, h0⟩ | ⟨g, cap, cur, rfl, _⟩
      · omega
      · exact ⟨_, _, rfl⟩
    obtain ⟨A, C, rfl⟩ := h4
    exact h A C w' (Lib.hid h3) (Lib.hid (below_grown (Below.refl base w) h2 hbase (fun k hk => (hown.lt k hk).1)))
theorem wpList_append_int {w : World} {ops : Array Oper} {rest : List Oper} {o : Oper} {a : Act} {Q : Exit → Act → World → Prop} (hgd : o.guard = none) (s x : Operand)
    (ho : o.op = .call { callee := .builtin .append, args := #[s, x], argTypes := #[44, 44] })
    (base : Nat) (dp : Option Addr) (n dC : Nat) (hs : a.eval s = .slice dp n dC) (l : List Int) (hown : OwnI w base (.slice dp n dC) n l)
    (g : Nat) (hx : a.eval x = .slice (some ⟨g, 0, none⟩) 1 1) (z : Int) (hy : w.cell? ⟨g, 0, none⟩ = some (.int .i64 z)) (hb : n + 1 ≤ 100000) (hbase : base ≤ w.heap.size)
    (h : ∀ A C w', Hid (OwnI w' base (.slice A (n + 1) C) (n + 1) (l ++ [z])) → Hid (Below base w w') → wpList Try.prog ops Q rest (a.put o.dst (.slice A (n + 1) C)) w') :
    wpList Try.prog ops Q (o :: rest) a w :=
  wpList_plain hgd fun _ hK => wp_append_int s x ho base dp n dC hs l hown g hx z hy hb hbase (fun A C w' h1 h2 => hK _ _ (h A C w' h1 h2))
theorem zeros_list (z : Value) (n : Nat) : (Builtin.zeroCells #[z] n).toList = List.replicate n z := by
  apply List.ext_getElem?
  intro j
  by_cases hj : j < n
  · simp [Builtin.zeroCells, hj, Nat.mod_one]
  · simp [Builtin.zeroCells, hj]
/-- append(s, make([]int, m)...). -/
theorem run_append_zeros {w : World} (base : Nat) (ty : TypeId) (dp : Option Addr) (n dC : Nat) (l : List Int) (hown : OwnI w base (.slice dp n dC) n l) (m : Nat) (hm : 0 < m) (hb : n + m ≤ 100000) (hbase : base ≤ w.heap.size) :
    ∃ A C w', (Builtin.append_ #[44, 3] ty #[.slice dp n dC, .int .i64 (m : Int)]).run Try.prog w = .ok (.slice A (n + m) C) w' ∧
      OwnI w' base (.slice A (n + m) C) (n + m) (l ++ List.replicate m 0) ∧ w.grownBy w' (Value.slice dp n dC).ownBlock ∧
      ((Value.slice A (n + m) C).ownBlock = (Value.slice dp n dC).ownBlock ∨ (Value.slice A (n + m) C).ownBlock = some w.heap.size) := by
  obtain ⟨i, hi, hzz⟩ := Option.map_eq_some_iff.1 info_i64
  simp only [Prod.mk.injEq] at hzz
  obtain ⟨hz, hsz, hby⟩ := hzz
  have ht := Try.underlying44
  have hu : Try.prog.underlying 3 = some (.int .i64) := by kernel_rfl
  have hwr : IntKind.i64.wrap (m : Int) = (m : Int) := by rw [IntKind.wrap_i64]; omega
  have h0 : ¬ (m : Int) < 0 := by omega
  have h48 : ¬ (281474976710656 < (m : Int) * 8) := by omega
  have hn1 : m * i.size ≠ 0 := by rw [hsz]; omega
  have hm0 : ¬ m = 0 := by omega
  have hl := hown.length
  have hlv : (l.map (Value.int .i64)).length = n * i.size := by rw [hsz]; simpa using hl
  have hzc : (Value.int .i64 0).cells = #[Value.int .i64 0] := rfl
  have hmap : (l ++ List.replicate m 0).map (Value.int .i64) = l.map (Value.int .i64) ++ List.replicate m (Value.int .i64 0) := by simp
  by_cases hroom : n + m ≤ dC
  · rcases hown.2 with ⟨e, h00⟩ | ⟨g, cap, cur, e, hbg, hg, hnc, hcm, hcs, htake⟩
    · simp only [Value.slice.injEq] at e
      omega
    · simp only [Value.slice.injEq, true_and] at e
      obtain ⟨rfl, rfl⟩ := e
      have hst := run_storeCells_at Try.prog g n 3 (List.replicate m (Value.int .i64 0)) 0 cur w hg (by rw [List.length_replicate]; omega) (fun u hu => by rw [List.eq_of_mem_replicate hu]; rfl)
      simp only [Nat.add_zero] at hst
      refine ⟨some ⟨g, 0, none⟩, dC, w.setRow g (cur.toList.take n ++ List.replicate m (Value.int .i64 0) ++ cur.toList.drop (n + m)).toArray, ?_, ?_, ?_, .inl rfl⟩
      · simp [Builtin.append_, run_underlying ht, run_underlying hu, sizeOf, typeInfo, zeroValue, hi, hz, hby, hsz, asInt, asIntOf, hwr, h0, h48, hm0, hroom, hzc, zeros_list, Addr.add_lit, hst]
      · refine ⟨by simp [hl], .inr ⟨g, dC, _, rfl, hbg, setRow_heap w g cur _ _ _ hg, hroom, hcm, ?_, ?_⟩⟩
        · simp only [List.size_toArray, List.length_append, List.length_take, List.length_drop, Array.length_toList, List.length_replicate]
          omega
        · rw [hmap, ← htake, Nat.mul_one, Nat.mul_one]
          have : (cur.toList.take n ++ List.replicate m (Value.int .i64 0)).length = n + m := by simp; omega
          rw [← this]
          exact List.take_left
      · exact ⟨rfl, rfl, rfl, by simp, fun k _ hk => setRow_other w g k _ (fun e => hk (by rw [e]; rfl))⟩
  · have h63 : ¬ (9223372036854775807 < ((n : Int) + (m : Int))) := by omega
    have hcap : dC < n + m := by omega
    have hfit := growslice_fits (need := n + m) (old := dC) (bytes := 8) hcap (by omega)
    have h48' : ¬ (281474976710656 < Builtin.nextslicecap (n + m) dC * 8) := by omega
    have hge := grownCap_ge w (n + m) dC 3
    have hcm : grownCap w (n + m) dC 3 ≤ maxLen := grownCap_le_maxLen w (n + m) dC _ (by unfold maxLen; omega)
    have hold : (Builtin.firstCells 1 n (.slice dp n dC)).run Try.prog w.drew = .ok (l.map (Value.int .i64)).toArray w.drew := by
      rcases hown.2 with ⟨e, rfl⟩ | ⟨g, cap, cur, e, hbg, hg, hnc, hcm, hcs, htake⟩
      · simp only [Value.slice.injEq] at e
        obtain ⟨rfl, _, _⟩ := e
        have : l = [] := List.eq_nil_of_length_eq_zero hl
        subst this
        exact run_firstCells_none _ _ _ _ _
      · simp only [Value.slice.injEq, true_and] at e
        obtain ⟨rfl, rfl⟩ := e
        refine run_firstCells_some (P := Try.prog) w.drew 1 n ⟨g, 0, none⟩ n dC _ (by simp [hl]) ?_
        intro j v hv
        have := hown.cells (g := g) rfl j v hv
        simpa using this
    refine ⟨some ⟨w.heap.size, 0, none⟩, grownCap w (n + m) dC 3, w.drew.alloc (.cells ((l.map (Value.int .i64)).toArray ++ Builtin.zeroCells #[Value.int .i64 0] m ++ Builtin.zeroCells #[Value.int .i64 0] (grownCap w (n + m) dC 3 - (n + m))) 3), ?_, ?_, ?_, .inr rfl⟩
    · simp [Builtin.append_, run_underlying ht, run_underlying hu, sizeOf, typeInfo, zeroValue, hi, hz, hby, hsz, asInt, asIntOf, hwr, h0, h48, hm0, hroom, hzc, h63, h48', Question.forced, hold, newRow, grownCap]
    · refine ⟨by simp [hl], .inr ⟨w.heap.size, _, _, rfl, hbase, heap_alloc_new w.drew _, hge, hcm, ?_, ?_⟩⟩
      · simp only [Array.size_append, List.size_toArray, size_zeroCells, List.length_map, hl]
        simp only [List.length_cons, List.length_nil]
        omega
      · rw [hmap]
        simp only [Array.toList_append, zeros_list, List.append_assoc]
        rw [← List.append_assoc]
        have : (l.map (Value.int .i64) ++ List.replicate m (Value.int .i64 0)).length = (n + m) * 1 := by simp [hl]
        rw [← this]
        exact List.take_left
    · exact ⟨rfl, rfl, rfl, by simp, fun k hk _ => Below.heap_alloc w.drew _ k hk⟩
end Go.Proofs.Ytnffngbkidehfaa
