/-
  Own text: a whole struct loaded and stored, wherever it lies within a block; results in two cells and a slot.
-/
import Derived.Test.YtjcbcdjfhcnhcaaLiA
import Derived.Test.YtjcbcdjfhcnhcaaGrow
import Derived.OrdersHeld
import Derived.Deep.RegionHeld3
namespace Go.Proofs.Ytjcbcdjfhcnhcaa
open Go.RowKit

theorem setCells_otherL (b : Nat) : ∀ (vs : List Value) (o : Nat) (w : World) (c : Nat), c ≠ b → (w.setCells b o vs).heap[c]? = w.heap[c]?
  | [], _, _, _, _ => rfl
  | v :: r, o, w, c, h => by
    rw [World.setCells, setCells_otherL b r (o + 1) _ c h]
    simp only [World.setCell, Array.getElem?_modify]
    rw [if_neg (fun e => h e.symm)]
theorem quiet_loadAt {F : Fence} {n : Nat} {C : World → Prop} {w : World} {a : Act} {o : Oper} {v : Value} (ty : TypeId) (x : Operand) (p : Value) (ho : o.op = .load ty x) (hx : a.eval x = p) (hl : (Instr.loadAt ty p).run Try.prog w = .ok v w) : o.quietAtIn F n Try.prog a C w v := by
  unfold Oper.quietAtIn execOp
  simp only [ho, hx, Sem.run_bind, hl, Result.andThen_ok, Sem.run_pure]
  exact ⟨rfl, rfl⟩
theorem setCells_block (b : Nat) : ∀ (vs : List Value) (o : Nat) (w : World) (C : Array Value) (t : TypeId) (fr : Nat × Nat), w.heap[b]? = some (.cells C t fr) →
    ∃ C', (w.setCells b o vs).heap[b]? = some (.cells C' t fr) ∧ C'.size = C.size ∧ ∀ j, j < C.size → C'[j]? = if o ≤ j ∧ j < o + vs.length then vs[j - o]? else C[j]?
  | [], o, w, C, t, fr, h => ⟨C, h, rfl, fun j _ => by rw [if_neg (by simp)]⟩
  | v :: r, o, w, C, t, fr, h => by
    have h1 : (w.setCell ⟨b, o, none⟩ v).heap[b]? = some (.cells (C.setIfInBounds o v) t fr) := by simp [World.setCell, Array.getElem?_modify, h]
    obtain ⟨C', e, hs, hc⟩ := setCells_block b r (o + 1) _ _ t fr h1
    refine ⟨C', by rw [World.setCells]; exact e, by rw [hs]; simp, fun j hj => ?_⟩
    rw [hc j (by simpa using hj)]
    by_cases h2 : o + 1 ≤ j ∧ j < o + 1 + r.length
    · rw [if_pos h2, if_pos (by simp; omega), show j - o = (j - (o + 1)) + 1 by omega]
      rfl
    · rw [if_neg h2]
      by_cases h3 : j = o
      · subst h3
        rw [if_pos (by simp), Nat.sub_self, Array.getElem?_setIfInBounds, if_pos rfl, if_pos hj]
        rfl
      · rw [if_neg (by simp; omega), Array.getElem?_setIfInBounds, if_neg (fun e => h3 e.symm)]
theorem setCells_streams (b : Nat) : ∀ (vs : List Value) (o : Nat) (w : World), (w.setCells b o vs).os = w.os ∧ (w.setCells b o vs).tape = w.tape ∧ (w.setCells b o vs).output = w.output ∧ (w.setCells b o vs).heap.size = w.heap.size
  | [], _, _ => ⟨rfl, rfl, rfl, rfl⟩
  | v :: r, o, w => by
    obtain ⟨h1, h2, h3, h4⟩ := setCells_streams b r (o + 1) (w.setCell ⟨b, o, none⟩ v)
    rw [World.setCells]
    exact ⟨h1, h2, h3, by rw [h4]; simp [World.setCell]⟩
theorem Lies.setCells {w : World} {b o : Nat} {cs : Array Value} (h : Lies w b o cs) (ds : Array Value) (hs : ds.size = cs.size) : Lies (w.setCells b o ds.toList) b o ds := by
  obtain ⟨C, t, h, hsz, _⟩ := h
  obtain ⟨C', e, h1, h2⟩ := setCells_block b ds.toList o w C t (0, 0) h
  refine ⟨C', t, e, by omega, fun j hj => ?_⟩
  rw [h2 (o + j) (by omega), if_pos (by simp; omega), Nat.add_sub_cancel_left]
  simp
theorem Prt.setCells (w : World) (b o : Nat) (ds : Array Value) : Prt b o ds.size w (w.setCells b o ds.toList) := by
  obtain ⟨h1, h2, h3, h4⟩ := setCells_streams b ds.toList o w
  refine ⟨h1, h2, h3, by omega, fun k _ hk => setCells_otherL b _ _ _ _ hk, fun C t h => ?_⟩
  obtain ⟨C', e, hs, hc⟩ := setCells_block b ds.toList o w C t (0, 0) h
  refine ⟨C', e, hs, fun j hj => ?_⟩
  by_cases hl : j < C.size
  · rw [hc j hl, if_neg (by simp; omega)]
  · rw [Array.getElem?_eq_none (by omega), Array.getElem?_eq_none (by omega)]
/-- A store of a whole struct, wherever it lies. -/
theorem step_store_lies {w : World} {ops : Array Oper} {op : Oper} {a : Act} {K : Act → World → Prop} {Q : Exit → Act → World → Prop} {E : Prop} (hgd : op.guard = none) (ty : TypeId) (x y : Operand) (ho : op.op = .store ty x y)
    (g o : Nat) (hx : a.eval x = .pointer (some ⟨g, o, none⟩)) (cs : Array Value) (hy : a.eval y = .agg cs) (cs0 : Array Value) (hg : Lies w g o cs0) (hs : cs.size = cs0.size)
    (hi : (Try.prog.info? ty).map (·.size) = some cs.size) (h1 : cs.all (·.oneCell') = true)
    (h : ∀ w', Hid (Lies w' g o cs) → Hid (Prt g o cs.size w w') → w'.heap.size = w.heap.size → K (a.put op.dst undef) w') :
    if Region.wanted op (yielded ops a.tmps) = true then Oper.wp Try.prog op a w K Q else E := by
  have hw : Region.wanted op (yielded ops a.tmps) = true := by simp [Region.wanted, hgd]
  rw [if_pos hw]
  refine wp_store_mid ty x y ho g o cs hx hy (by rw [hs]; exact hg.there) hi h1 ?_
  exact h _ (Lib.hid (hg.setCells cs hs)) (Lib.hid (Prt.setCells w g o cs)) (setCells_streams g cs.toList o w).2.2.2
theorem wpList_store_lies {w : World} {ops : Array Oper} {rest : List Oper} {op : Oper} {a : Act} {Q : Exit → Act → World → Prop} (hgd : op.guard = none) (ty : TypeId) (x y : Operand) (ho : op.op = .store ty x y)
    (g o : Nat) (hx : a.eval x = .pointer (some ⟨g, o, none⟩)) (cs : Array Value) (hy : a.eval y = .agg cs) (cs0 : Array Value) (hg : Lies w g o cs0) (hs : cs.size = cs0.size)
    (hi : (Try.prog.info? ty).map (·.size) = some cs.size) (h1 : cs.all (·.oneCell') = true)
    (h : ∀ w', Hid (Lies w' g o cs) → Hid (Prt g o cs.size w w') → w'.heap.size = w.heap.size → wpList Try.prog ops Q rest (a.put op.dst undef) w') : wpList Try.prog ops Q (op :: rest) a w :=
  wpList_store_mid hgd ty x y ho g o cs hx hy (by rw [hs]; exact hg.there) hi h1 (h _ (Lib.hid (hg.setCells cs hs)) (Lib.hid (Prt.setCells w g o cs)) (setCells_streams g cs.toList o w).2.2.2)
/-- A load of a whole struct, wherever it lies. -/
theorem Lies.loadVar {w : World} {b o : Nat} {cs : Array Value} (h : Lies w b o cs) (ty : TypeId) (d : TypeDesc) (hu : Try.prog.underlying ty = some d) (hd : d.isRow = true) (hi : (Try.prog.info? ty).map (·.size) = some cs.size) :
    (loadVar ty ⟨b, o, none⟩).run Try.prog w = .ok (.agg cs) w := by
  have := run_loadVar_mid w b o ty cs.toList d h.range hu hd (by rw [hi]; simp)
  simpa using this
theorem Lies.loadAt {w : World} {b o : Nat} {cs : Array Value} (h : Lies w b o cs) (ty : TypeId) (d : TypeDesc) (hu : Try.prog.underlying ty = some d) (hd : d.isRow = true) (hi : (Try.prog.info? ty).map (·.size) = some cs.size) :
    (Instr.loadAt ty (.pointer (some ⟨b, o, none⟩))).run Try.prog w = .ok (.agg cs) w := by
  simp only [Instr.loadAt, Instr.sureAddr, Sem.run_bind, Sem.run_pure, Result.andThen_ok, h.loadVar ty d hu hd hi]
theorem wpList_load_lies {w : World} {ops : Array Oper} {rest : List Oper} {op : Oper} {a : Act} {Q : Exit → Act → World → Prop} (hgd : op.guard = none) (ty : TypeId) (x : Operand) (ho : op.op = .load ty x)
    (g o : Nat) (hx : a.eval x = .pointer (some ⟨g, o, none⟩)) (cs : Array Value) (hg : Lies w g o cs) (d : TypeDesc) (hu : Try.prog.underlying ty = some d) (hd : d.isRow = true) (hi : (Try.prog.info? ty).map (·.size) = some cs.size)
    (h : wpList Try.prog ops Q rest (a.put op.dst (.agg cs)) w) : wpList Try.prog ops Q (op :: rest) a w := by
  refine wpList_load_mid hgd ty x ho g o hx cs.toList d hg.range hu hd (by rw [hi]; simp) ?_
  simpa using h
theorem yields_loadAt {ops : Array Oper} {S : World → Prop} {o : Oper} {a : Act} {v : Value} (ty : TypeId) (x : Operand) (p : Value) (hw : Region.wanted o (yielded ops a.tmps) = true) (ho : o.op = .load ty x) (hx : a.eval x = p)
    (hS : ∀ w, S w → (Instr.loadAt ty p).run Try.prog w = .ok v w) : YieldsIf Try.prog ops S o v a :=
  .inl ⟨hw, fun w hs => by
    unfold execOp
    simp only [ho, hx, Sem.run_bind, hS w hs, Result.andThen_ok, Sem.run_pure]⟩
/-- An operation that yields one value in each world of the class is taken first: its place is written out. -/
theorem taken_at {P : Program} {ops : Array Oper} {md : Region.Mode} {Q : Exit → Act → World → Prop} {S : World → Prop} {i : Nat} {oi : Oper} {v : Value} {fuel : Nat} {listed : Array Bool} {a : Act} {w : World} (d : Option Tmp) (hi : ops[i]? = some oi) (hd : oi.dst = d)
    (hs : Region.noSelect ops = true) (hf : Region.free md ops listed i = true) (hr : (Region.ready md ops listed).contains i = true)
    (hQ : ∀ c a w, Q (.panic c) (a.put oi.dst v) w → Q (.panic c) a w) (hy : YieldsIf P ops S oi v a) (hS : S w)
    (h : wpAnyH P md ops Q S fuel (listed.setIfInBounds i true) (a.put d v) w) : wpAnyH P md ops Q S (fuel + 1) listed a w := by
  subst hd
  exact wpAnyH_take hi hs hf hr hQ hy hS h
/-- Results that lie in two cells and a slot. -/
theorem results_cells2 {fn : Func} {p q u : Tmp} {t1 t2 : TypeId} (h : fn.results = #[.cell p t1, .cell q t2, .tmp u]) (tmps : Array Value) (w : World) (b c : Nat) (v1 v2 v : Value)
    (hp : tmps.getD p undef = .pointer (some ⟨b, 0, none⟩)) (hq : tmps.getD q undef = .pointer (some ⟨c, 0, none⟩)) (hv : tmps.getD u undef = v)
    (h1 : (loadVar t1 ⟨b, 0, none⟩).run Try.prog w = .ok v1 w) (h2 : (loadVar t2 ⟨c, 0, none⟩).run Try.prog w = .ok v2 w) :
    (results fn tmps).run Try.prog w = .ok (.tuple #[v1, v2, v]) w := by
  have hp' : tmps[p]?.getD undef = .pointer (some ⟨b, 0, none⟩) := by simpa using hp
  have hq' : tmps[q]?.getD undef = .pointer (some ⟨c, 0, none⟩) := by simpa using hq
  have hv' : tmps[u]?.getD undef = v := by simpa using hv
  simp [results, h, hp', hq', hv', asAddr, h1, h2]
end Go.Proofs.Ytjcbcdjfhcnhcaa
