/-
  Own text: what is appended to a slice of the call's own: an element of so many cells.
  a slice of one element that is built: an element of many cells.
-/
import Derived.Test.YtnffngbkidehfaaOwnN
import Derived.Test.YtnffngbkidehfaaLiA
namespace Go.Proofs.Ytnffngbkidehfaa
open Go.RowKit

theorem ownsRow_low {w : World} {base b : Nat} {e : TypeId} {size : Nat} {v : Value} {n : Nat} {xs : List Value} (h : w.ownsRow base e size v n xs) (hb : b ≤ base) : w.ownsRow b e size v n xs := by
  refine ⟨h.1, h.2.imp id ?_⟩
  rintro ⟨g, cap, cur, he, h1, h2⟩
  exact ⟨g, cap, cur, he, by omega, h2⟩
theorem ownsRow_keep {w w' : World} {base : Nat} {e : TypeId} {size : Nat} {v : Value} {n : Nat} {xs : List Value} (h : w.ownsRow base e size v n xs) (hk : ∀ g cur, v.ownBlock = some g → w.heap[g]? = some (.cells cur e (0, 0)) → w'.heap[g]? = w.heap[g]?) : w'.ownsRow base e size v n xs := by
  refine ⟨h.1, h.2.imp id ?_⟩
  rintro ⟨g, cap, cur, he, h1, hg, h2⟩
  exact ⟨g, cap, cur, he, h1, (hk g cur (by rw [he]; rfl) hg).trans hg, h2⟩
theorem ownsRow_below {w w' : World} {base B : Nat} {e : TypeId} {size : Nat} {v : Value} {n : Nat} {xs : List Value} (h : w.ownsRow base e size v n xs) (hb : Below B w w') (hB : w.heap.size ≤ B) : w'.ownsRow base e size v n xs :=
  ownsRow_keep h (fun g _ hg _ => hb.block g (Nat.lt_of_lt_of_le (h.lt g hg).2 hB))
/-- What an append may turn: a block of elements of its own type, and what is new. -/
structure Grew (base : Nat) (e : TypeId) (w w' : World) : Prop where
  bel : Below base w w'
  size : w.heap.size ≤ w'.heap.size
  typ : ∀ (k : Nat) (C : Array Value) (t : TypeId), w.heap[k]? = some (Obj.cells C t (0, 0)) → t ≠ e → w'.heap[k]? = w.heap[k]?
theorem Grew.row {base base' : Nat} {e e' : TypeId} {size : Nat} {w w' : World} {v : Value} {n : Nat} {xs : List Value} (h : Grew base e w w') (hr : w.ownsRow base' e' size v n xs) (he : e' ≠ e) : w'.ownsRow base' e' size v n xs :=
  ownsRow_keep hr (fun g cur _ hg => h.typ g cur e' hg he)
set_option maxRecDepth 100000 in
theorem wpList_append_el {w : World} {ops : Array Oper} {rest : List Oper} {o : Oper} {a : Act} {Q : Exit → Act → World → Prop} (hgd : o.guard = none) (s x : Operand) (t e : TypeId)
    (ho : o.op = .call { callee := .builtin .append, args := #[s, x], argTypes := #[t, t] })
    (z : Value) (size bytes : Nat) (ht : Try.prog.underlying t = some (.slice e)) (hinfo : (Try.prog.info? e).map (fun i => (i.zero, i.size, i.bytes)) = some (some z, size, bytes)) (hz : z.cells.size = size) (hs0 : 0 < size) (hby : bytes ≤ 1000000)
    (base : Nat) (A : Option Addr) (n C : Nat) (hs : a.eval s = .slice A n C) (xs : List Value) (hown : w.ownsRow base e size (.slice A n C) n xs)
    (g : Nat) (hx : a.eval x = .slice (some ⟨g, 0, none⟩) 1 1) (cs : Array Value) (hcs : cs.size = size) (hl : Lies w g 0 cs) (h1 : cs.all (·.oneCell') = true) (hb : n + 1 ≤ 100000) (hbase : base ≤ w.heap.size)
    (h : ∀ A' C' w', Hid (w'.ownsRow base e size (.slice A' (n + 1) C') (n + 1) (xs ++ cs.toList)) → Hid (Grew base e w w') → wpList Try.prog ops Q rest (a.put o.dst (.slice A' (n + 1) C')) w') :
    wpList Try.prog ops Q (o :: rest) a w :=
  wpList_plain hgd fun _ hK => by
    obtain ⟨i, hi, hzz⟩ := Option.map_eq_some_iff.1 hinfo
    simp only [Prod.mk.injEq] at hzz
    obtain ⟨hz0, hsz, hby0⟩ := hzz
    refine wp_append_own w s x t ho base e i z size bytes ht hi hz0 hsz hby0 hz hs0 _ n _ hs hown ⟨g, 0, none⟩ 1 1 cs.toList hx (by simp [hcs]) ?_ ?_ (by unfold maxLen; omega) ?_ hbase ?_
    · intro j u hu
      have hj : j < cs.size := by simpa using (List.getElem?_eq_some_iff.1 hu).1
      rw [add_place, hl.cell j hj, ← hu]
      simp
    · intro u hu
      exact (Array.all_eq_true_iff_forall_mem.1 h1) u (by simpa using hu)
    · have h2 : (n + 1) * bytes ≤ 100000 * 1000000 := Nat.mul_le_mul hb hby
      omega
    · intro v' w' h2 h3 _
      have h4 : ∃ A C, v' = .slice A (n + 1) C := by
        rcases h2.2 with ⟨rfl, h0⟩ | ⟨g, cap, cur, rfl, _⟩
        · omega
        · exact ⟨_, _, rfl⟩
      obtain ⟨A', C', rfl⟩ := h4
      refine hK _ _ (h A' C' w' (Lib.hid h2) (Lib.hid ⟨below_grown (Below.refl base w) h3 hbase (fun k hk => (hown.lt k hk).1), h3.size, fun k D t hk hne => ?_⟩))
      refine h3.block k (Array.getElem?_eq_some_iff.1 hk).1 (fun ek => hne ?_)
      rcases hown.2 with ⟨he, _⟩ | ⟨g', cap, cur, he, _, hg', _⟩
      · rw [he] at ek; cases ek
      · rw [he] at ek
        obtain rfl : k = g' := by simpa [Value.ownBlock] using ek
        rw [hg'] at hk
        have := Option.some.inj hk
        injection this with _ h5 _
        exact h5.symm
end Go.Proofs.Ytnffngbkidehfaa
namespace Go.Proofs.Ytnffngbkidehfaa
open Go.RowKit

theorem fill_list : ∀ (cs : List Value) (k : Nat) (Z : Array Value), Z.size = k + cs.length → (cs.zipIdx k).foldl (fun (a : Array Value) (x : Value × Nat) => a.setIfInBounds x.2 x.1) Z = (Z.toList.take k ++ cs).toArray
  | [], k, Z, h => by
    have : Z.toList.take k = Z.toList := List.take_of_length_le (by simp at h; simp; omega)
    simp [this]
  | c :: r, k, Z, h => by
    rw [List.zipIdx_cons, List.foldl_cons, fill_list r (k + 1) _ (by simp at h ⊢; omega)]
    congr 1
    have hk : k < Z.toList.length := by simp at h; simp; omega
    rw [Array.toList_setIfInBounds, List.take_add_one, List.take_set_of_le (Nat.le_refl k), List.getElem?_set_self hk]
    simp
theorem fill_one (cs Z : Array Value) (h : Z.size = cs.size) : cs.zipIdx.foldl (fun (a : Array Value) (x : Value × Nat) => a.setIfInBounds x.2 x.1) Z = cs := by
  have := fill_list cs.toList 0 Z (by simp [h])
  simp at this
  rw [← Array.foldl_toList]
  simpa using this
theorem run_build_one {w : World} (t e : TypeId) (z : Value) (size bytes : Nat) (cs : Array Value) (ht : Try.prog.underlying t = some (.slice e)) (hinfo : (Try.prog.info? e).map (fun i => (i.zero, i.size, i.bytes)) = some (some z, size, bytes))
    (hcs : cs.size = size) (h0 : 0 < size) (h1 : size ≤ 10000) : (Instr.buildSlice t 1 #[(0, .agg cs)]).run Try.prog w = .ok (.slice (some ⟨w.heap.size, 0, none⟩) 1 1) (w.alloc (.cells cs e)) := by
  obtain ⟨i, hi, hzz⟩ := Option.map_eq_some_iff.1 hinfo
  simp only [Prod.mk.injEq] at hzz
  obtain ⟨hz0, hsz, _⟩ := hzz
  have g1 : ¬ (2 ^ 24 < size) := by omega
  have g2 : ¬ size = 0 := by omega
  have hf := fill_one cs ((Array.range size).map (fun j => z.cells[j % z.cells.size]!)) (by simp [hcs])
  have hcc : (Value.agg cs).cells = cs := rfl
  simp [Instr.buildSlice, Sem.run_bind, run_underlying ht, sizeOf, typeInfo, hi, hsz, zeroValue, hz0, g2, Instr.fill, hcc, hcs, newRow]
  rw [if_neg (by omega)]
  have hf2 : ∀ m, m = cs.zipIdx.size → Array.foldl (fun (a : Array Value) (x : Value × Nat) => a.setIfInBounds x.2 x.1) ((Array.range size).map (fun j => z.cells[j % z.cells.size]!)) cs.zipIdx 0 m = cs := by
    rintro m rfl
    exact hf
  rw [hf2 size (by simp [hcs])]
theorem wpList_build_one {w : World} {ops : Array Oper} {rest : List Oper} {o : Oper} {a : Act} {Q : Exit → Act → World → Prop} (hgd : o.guard = none) (t e : TypeId) (x : Operand) (ho : o.op = .buildSlice t 1 #[(0, x)])
    (z : Value) (size bytes : Nat) (cs : Array Value) (hx : a.eval x = .agg cs) (ht : Try.prog.underlying t = some (.slice e)) (hinfo : (Try.prog.info? e).map (fun i => (i.zero, i.size, i.bytes)) = some (some z, size, bytes))
    (hcs : cs.size = size) (h0 : 0 < size) (h1 : size ≤ 10000) (h : wpList Try.prog ops Q rest (a.put o.dst (.slice (some ⟨w.heap.size, 0, none⟩) 1 1)) (w.alloc (.cells cs e))) : wpList Try.prog ops Q (o :: rest) a w :=
  wpList_plain hgd fun _ hK => by
    have hr := run_build_one (w := w) t e z size bytes cs ht hinfo hcs h0 h1
    unfold Oper.wp execOp
    simp only [ho, List.map_toArray, List.map_cons, List.map_nil, hx, Sem.run_bind, hr, Result.andThen_ok, Sem.run_pure]
    exact hK _ _ h
end Go.Proofs.Ytnffngbkidehfaa
