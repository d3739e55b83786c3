/-
  Own text: groups that are waited for, in their block: the set, the map, the two counts; the small calls, walked.
-/
import Derived.Test.YtnffngbkidehfaaNkJ
import Derived.Test.YtnffngbkidehfaaNkN
import Derived.Test.YtnffngbkidehfaaWordB
import Derived.Maps.OwnSet
import Derived.Maps.OwnOps
import Derived.Maps.Views
namespace Go.Proofs.Ytnffngbkidehfaa.Nk
open Go.RowKit
open Go.Maps (Keyed)

theorem u32_law : Keyed Try.prog 28 := Go.Maps.int_keyed (q := .u32) Try.underlying28
theorem isKey_u32 (y : Int) : WideAt.IsKeyLit (.int .u32 y) := by trivial
theorem wf_u32 {z : Int} (h : 0 ≤ z ∧ z ≤ 4294967295) : (Lit.int .u32 z).wf = true := by
  simp [Lit.wf, IntKind.min, IntKind.max, IntKind.bits, IntKind.signed]; omega
theorem wf_i64 {n : Nat} (h : n ≤ 5) : (Lit.int .i64 (n : Int)).wf = true := by
  simp [Lit.wf, IntKind.min, IntKind.max, IntKind.bits, IntKind.signed]; omega
theorem key_u32 {z : Int} (h : 0 ≤ z ∧ z ≤ 4294967295) : keyOf Try.prog 28 (.int .u32 z) = some (.int .u32 z) := Go.Maps.keyOf_int_mk (q := .u32) Try.underlying28 (wf_u32 h)
theorem zero_int (w : World) : (zeroValue 3).run Try.prog w = .ok (.int .i64 0) w := by
  obtain ⟨i, hi, hzz⟩ := Option.map_eq_some_iff.1 info_i64
  simp only [Prod.mk.injEq] at hzz
  obtain ⟨hz, _, _⟩ := hzz
  simp [zeroValue, typeInfo, hi, hz]
/-- A map of numbers in its block: which keys it has, what they have, how many there are. -/
def TMap (w : World) (m c : Nat) (S : Int → Bool) (T : Int → Nat) : Prop := ∃ D : DataW Unit, w.ownsMap Try.prog 28 (plainElem Try.prog 3) m c D ∧ Maps.size D = c ∧
  ∀ z, 0 ≤ z ∧ z ≤ 4294967295 → Maps.has D (.int .u32 z) = S z ∧ (S z = true → D.atKey (.int .u32 z) (.lit (.int .i64 0)) = .lit (.int .i64 (T z : Int)))
theorem tight {w : World} {m n : Nat} {D : DataW Unit} (h : w.ownsMap Try.prog 28 (plainElem Try.prog 3) m n D) : w.ownsMap Try.prog 28 (plainElem Try.prog 3) m (Maps.size D) D := by
  obtain ⟨es, clock, hb, F, hs, rfl⟩ := h
  exact ⟨es, clock, hb, F, by simp [Maps.size, length_sorted], rfl⟩
theorem TMap.made (w : World) (T : Int → Nat) : TMap (w.alloc (.map #[] 0)) w.heap.size 0 (fun _ => false) T :=
  ⟨_, World.ownsMap_made w _ _ _, rfl, fun _ _ => ⟨rfl, fun h => by cases h⟩⟩
theorem TMap.keep {w w' : World} {m c : Nat} {S : Int → Bool} {T : Int → Nat} (h : TMap w m c S T) (e : w'.heap[m]? = w.heap[m]?) : TMap w' m c S T := by
  obtain ⟨D, ⟨es, clock, hb, r⟩, h2⟩ := h
  exact ⟨D, ⟨es, clock, e.trans hb, r⟩, h2⟩
theorem TMap.lt {w : World} {m c : Nat} {S : Int → Bool} {T : Int → Nat} (h : TMap w m c S T) : m < w.heap.size := by
  obtain ⟨D, h, _⟩ := h
  exact h.lt
theorem TMap.obj {w : World} {m c : Nat} {S : Int → Bool} {T : Int → Nat} (h : TMap w m c S T) : ∃ es clock, w.heap[m]? = some (.map es clock) := by
  obtain ⟨D, ⟨es, clock, hb, _⟩, _⟩ := h
  exact ⟨es, clock, hb⟩
theorem TMap.congr {w : World} {m c c' : Nat} {S S' : Int → Bool} {T T' : Int → Nat} (h : TMap w m c S T) (hc : c = c') (hS : ∀ z, 0 ≤ z ∧ z ≤ 4294967295 → S' z = S z) (hT : ∀ z, 0 ≤ z ∧ z ≤ 4294967295 → S z = true → T' z = T z) : TMap w m c' S' T' := by
  subst hc
  obtain ⟨D, h1, h2, h3⟩ := h
  refine ⟨D, h1, h2, fun z hz => ?_⟩
  obtain ⟨a, b⟩ := h3 z hz
  exact ⟨by rw [a, hS z hz], fun e => by rw [hS z hz] at e; rw [b e, hT z hz e]⟩
/-- A look-up of a key that it has. -/
theorem TMap.look {w : World} {m c : Nat} {S : Int → Bool} {T : Int → Nat} (h : TMap w m c S T) {z : Int} (hz : 0 ≤ z ∧ z ≤ 4294967295) (hs : S z = true) :
    (Instr.lookup 127 (.map (some m)) (.int .u32 z) false).run Try.prog w = .ok (.int .i64 (T z : Int)) w := by
  obtain ⟨D, h1, _, h3⟩ := h
  obtain ⟨k, hrun, hat, _⟩ := h1.lookup_int (t := 127) (q := .i64) u32_law Try.underlying127 Try.underlying3 (zero_int w) (key_u32 hz)
  rw [(h3 z hz).2 hs] at hat
  have e : DataW.lit (H := Unit) (.int .i64 (T z : Int)) = DataW.lit (.int .i64 k) := hat
  simp only [DataW.lit.injEq, Lit.int.injEq, true_and] at e
  rw [hrun, e]
theorem TMap.ok {w : World} {m c : Nat} {S : Int → Bool} {T : Int → Nat} (h : TMap w m c S T) {z : Int} (hz : 0 ≤ z ∧ z ≤ 4294967295) :
    ∃ v, (Instr.lookup 127 (.map (some m)) (.int .u32 z) true).run Try.prog w = .ok (.tuple #[v, .bool (S z)]) w := by
  obtain ⟨D, h1, _, h3⟩ := h
  obtain ⟨v, _, hrun, _⟩ := h1.look_ok (t := 127) u32_law Try.underlying127 (zero_int w) (plainElem_int Try.underlying3 (wf_i64 (Nat.zero_le _))) (key_u32 hz)
  rw [(h3 z hz).1] at hrun
  exact ⟨v, hrun⟩
theorem TMap.update {w : World} {m c : Nat} {S : Int → Bool} {T : Int → Nat} (h : TMap w m c S T) (hc : c ≤ 1000) {z : Int} (hz : 0 ≤ z ∧ z ≤ 4294967295) {n : Nat} (hn : n ≤ 5) :
    ∃ w', (Instr.mapUpdate 127 (.map (some m)) (.int .u32 z) (.int .i64 (n : Int))).run Try.prog w = .ok () w' ∧ TMap w' m (if S z = true then c else c + 1) (fun y => S y || decide (y = z)) (put T z n) ∧ w.grownBy w' (some m) := by
  obtain ⟨D, h1, h2, h3⟩ := h
  obtain ⟨w', hrun, h4, h5⟩ := h1.update (t := 127) u32_law Try.underlying127 (by unfold maxLen; omega) (key_u32 hz) (plainElem_int Try.underlying3 (wf_i64 hn))
  have hsz : Maps.size (D.put (.int .u32 z) (.lit (.int .i64 (n : Int)))) = if S z = true then c else c + 1 := by
    rw [Go.Maps.size_put (h1.tidy u32_law), h2, (h3 z hz).1]
  refine ⟨w', hrun, ⟨_, by rw [← hsz]; exact tight h4, hsz, fun y hy => ?_⟩, h5⟩
  by_cases e : y = z
  · subst e
    rw [Go.Maps.has_put_same h1.isMap (isKey_u32 y), Go.Maps.atKey_put_same h1.isMap (isKey_u32 y), put_same]
    simp
  · rw [Go.Maps.has_put_other (by intro h; apply e; injection h), Go.Maps.atKey_put_other (by intro h; apply e; injection h), put_other T n e, (h3 y hy).1]
    simp only [e, decide_false, Bool.or_false]
    exact ⟨trivial, (h3 y hy).2⟩
theorem TMap.drop {w : World} {m c : Nat} {S : Int → Bool} {T : Int → Nat} (h : TMap w m c S T) {z : Int} (hz : 0 ≤ z ∧ z ≤ 4294967295) (ty : TypeId) :
    ∃ w', (Builtin.delete_ #[127, 28] ty #[.map (some m), .int .u32 z]).run Try.prog w = .ok (.tuple #[]) w' ∧ TMap w' m (if S z = true then c - 1 else c) (fun y => S y && !decide (y = z)) T ∧ w.grownBy w' (some m) := by
  obtain ⟨D, h1, h2, h3⟩ := h
  obtain ⟨w', hrun, h4, h5⟩ := h1.drop (t := 127) u32_law Try.underlying127 (key_u32 hz) ty
  have hsz : Maps.size (D.del (.int .u32 z)) = if S z = true then c - 1 else c := by
    have := Go.Maps.size_del (k := .int .u32 z) (h1.tidy u32_law)
    rw [h2, (h3 z hz).1] at this
    split at this <;> rename_i e
    · rw [if_pos e]; omega
    · rw [if_neg e]; omega
  refine ⟨w', hrun, ⟨_, by rw [← hsz]; exact tight h4, hsz, fun y hy => ?_⟩, h5.grown⟩
  by_cases e : y = z
  · subst e
    rw [Go.Maps.has_del_same]
    simp
  · rw [Go.Maps.has_del_other (by intro h; apply e; injection h), Go.Maps.atKey_del_other (by intro h; apply e; injection h), (h3 y hy).1]
    simp only [e, decide_false, Bool.not_false, Bool.and_true]
    exact ⟨trivial, (h3 y hy).2⟩
theorem TMap.count {w : World} {m c : Nat} {S : Int → Bool} {T : Int → Nat} (h : TMap w m c S T) (ty : TypeId) : (Builtin.len_ #[127] ty #[.map (some m)]).run Try.prog w = .ok (.int .i64 (c : Int)) w := by
  obtain ⟨D, h1, h2, _⟩ := h
  rw [h1.len Try.underlying127 ty, h2]
-- at the operation
theorem wpList_tcount {w : World} {ops : Array Oper} {rest : List Oper} {o : Oper} {a : Act} {Q : Exit → Act → World → Prop} (hg : o.guard = none) (mm : Operand) (hop : o.op = Op.call { callee := Callee.builtin Builtin.len, args := #[mm], argTypes := #[127] })
    (m c : Nat) (S : Int → Bool) (T : Int → Nat) (hm : a.eval mm = .map (some m)) (h : TMap w m c S T)
    (hK : wpList Try.prog ops Q rest (a.put o.dst (.int .i64 (c : Int))) w) : wpList Try.prog ops Q (o :: rest) a w := by
  refine wpList_plain hg fun K' hK' => ?_
  unfold Oper.wp
  simp [execOp, hop, resolve, invoke, builtin, hm, h.count o.type, Result.andThen]
  exact hK' _ _ hK
theorem wpList_thas {w : World} {ops : Array Oper} {rest : List Oper} {o : Oper} {a : Act} {Q : Exit → Act → World → Prop} (hg : o.guard = none) (mm x : Operand) (hop : o.op = Op.lookup 127 mm x true)
    (m c : Nat) (S : Int → Bool) (T : Int → Nat) (hm : a.eval mm = .map (some m)) (h : TMap w m c S T) (z : Int) (hz : 0 ≤ z ∧ z ≤ 4294967295) (hx : a.eval x = .int .u32 z)
    (hK : ∀ k : Int, wpList Try.prog ops Q rest (a.put o.dst (.tuple #[.int .i64 k, .bool (S z)])) w) : wpList Try.prog ops Q (o :: rest) a w := by
  obtain ⟨D, h1, _, h3⟩ := h
  refine wpList_lookup_own_ok_int w hg mm x 127 hop 28 3 .i64 u32_law Try.underlying127 Try.underlying3 (zero_int w) m c D hm h1 (.int .u32 z) (.int .u32 z) hx (key_u32 hz) (fun k _ _ => ?_)
  rw [(h3 z hz).1]
  exact hK k
theorem wpList_tput {w : World} {ops : Array Oper} {rest : List Oper} {o : Oper} {a : Act} {Q : Exit → Act → World → Prop} (hg : o.guard = none) (mm x v : Operand) (hop : o.op = Op.mapUpdate 127 mm x v)
    (m c : Nat) (S : Int → Bool) (T : Int → Nat) (hm : a.eval mm = .map (some m)) (h : TMap w m c S T) (hc : c ≤ 1000) (z : Int) (hz : 0 ≤ z ∧ z ≤ 4294967295) (hx : a.eval x = .int .u32 z) (n : Nat) (hn : n ≤ 5) (hv : a.eval v = .int .i64 (n : Int))
    (hK : ∀ w', Hid (TMap w' m (if S z = true then c else c + 1) (fun y => S y || decide (y = z)) (put T z n)) → Hid (w.grownBy w' (some m)) → wpList Try.prog ops Q rest (a.put o.dst undef) w') : wpList Try.prog ops Q (o :: rest) a w := by
  obtain ⟨w', hrun, h1, h2⟩ := h.update hc hz hn
  refine wpList_plain hg fun K' hK' => ?_
  unfold Oper.wp
  simp [execOp, hop, hm, hx, hv, hrun, Result.andThen]
  exact hK' _ _ (hK w' (Lib.hid h1) (Lib.hid h2))
theorem wpList_tdrop {w : World} {ops : Array Oper} {rest : List Oper} {o : Oper} {a : Act} {Q : Exit → Act → World → Prop} (hg : o.guard = none) (mm x : Operand) (hop : o.op = Op.call { callee := Callee.builtin Builtin.delete, args := #[mm, x], argTypes := #[127, 28] })
    (m c : Nat) (S : Int → Bool) (T : Int → Nat) (hm : a.eval mm = .map (some m)) (h : TMap w m c S T) (z : Int) (hz : 0 ≤ z ∧ z ≤ 4294967295) (hx : a.eval x = .int .u32 z)
    (hK : ∀ w', Hid (TMap w' m (if S z = true then c - 1 else c) (fun y => S y && !decide (y = z)) T) → Hid (w.grownBy w' (some m)) → wpList Try.prog ops Q rest (a.put o.dst (.tuple #[])) w') : wpList Try.prog ops Q (o :: rest) a w := by
  obtain ⟨w', hrun, h1, h2⟩ := h.drop hz o.type
  refine wpList_plain hg fun K' hK' => ?_
  unfold Oper.wp
  simp [execOp, hop, resolve, invoke, builtin, hm, hx, hrun, Result.andThen]
  exact hK' _ _ (hK w' (Lib.hid h1) (Lib.hid h2))
/-- The list's block. -/
def NBlk (w : World) (b s m asked full : Nat) : Prop := w.heap[b]? = some (.cells #[.pointer (some ⟨s, 0, none⟩), .map (some m), .int .i64 (asked : Int), .int .i64 (full : Int)] 129 (0, 0))
section
variable {w : World} {b s m asked full : Nat}
theorem NBlk.lt (h : NBlk w b s m asked full) : b < w.heap.size := (Array.getElem?_eq_some_iff.1 h).1
theorem NBlk.cells (h : NBlk w b s m asked full) : w.cell? ⟨b, 0, none⟩ = some (.pointer (some ⟨s, 0, none⟩)) ∧ w.cell? ⟨b, 1, none⟩ = some (.map (some m)) ∧ w.cell? ⟨b, 2, none⟩ = some (.int .i64 (asked : Int)) ∧ w.cell? ⟨b, 3, none⟩ = some (.int .i64 (full : Int)) := by
  unfold NBlk at h
  simp [World.cell?, h]
theorem NBlk.frozen (h : NBlk w b s m asked full) (i : Nat) : w.frozen? ⟨b, i, none⟩ = false := by
  unfold NBlk at h
  simp [World.frozen?, h]
theorem NBlk.keep {w' : World} (h : NBlk w b s m asked full) (e : w'.heap[b]? = w.heap[b]?) : NBlk w' b s m asked full := e.trans h
theorem NBlk.below {w' : World} {B : Nat} (h : NBlk w b s m asked full) (hb : Below B w w') (hB : b < B) : NBlk w' b s m asked full := h.keep (hb.block b hB)
theorem NBlk.setAsked (h : NBlk w b s m asked full) (n : Nat) : NBlk (w.setCell ⟨b, 2, none⟩ (.int .i64 (n : Int))) b s m n full := by
  unfold NBlk at *
  simp [World.setCell, Array.getElem?_modify, h]
theorem NBlk.setFull (h : NBlk w b s m asked full) (n : Nat) : NBlk (w.setCell ⟨b, 3, none⟩ (.int .i64 (n : Int))) b s m asked n := by
  unfold NBlk at *
  simp [World.setCell, Array.getElem?_modify, h]
end
/-- A list: its block, its set, its map. -/
structure NB (w : World) (b s m : Nat) (A : Option Addr) (C : Nat) (q : Qn) (asked full c : Nat) (S : Int → Bool) (T : Int → Nat) : Prop where
  blk : NBlk w b s m asked full
  set : QB w s q A C
  map : TMap w m c S T
section
variable {w w' : World} {b s m C asked full c : Nat} {A : Option Addr} {q : Qn} {S : Int → Bool} {T : Int → Nat}
/-- None of its blocks is another one of them. -/
theorem NB.apart (h : NB w b s m A C q asked full c S T) : b ≠ s ∧ b ≠ m ∧ s ≠ m ∧ ∀ k, A.map Addr.block = some k → k ≠ b ∧ k ≠ s ∧ k ≠ m := by
  have h1 := h.blk
  have h2 := h.set.blk
  obtain ⟨es, clock, h3⟩ := h.map.obj
  unfold NBlk at h1
  unfold QBlk at h2
  refine ⟨fun e => ?_, fun e => ?_, fun e => ?_, fun k hk => ⟨fun e => ?_, h.set.apart k hk, fun e => ?_⟩⟩
  · subst e; rw [h1] at h2; simp at h2
  · subst e; rw [h1] at h3; simp at h3
  · subst e; rw [h2] at h3; simp at h3
  · subst e
    rcases h.set.own.form with ⟨e, _⟩ | ⟨g, R, e, _, _, hg, _⟩
    · rw [e] at hk; simp at hk
    · rw [e] at hk
      simp at hk
      subst hk
      unfold TBlk at hg
      rw [h1] at hg
      simp at hg
  · subst e
    rcases h.set.own.form with ⟨e, _⟩ | ⟨g, R, e, _, _, hg, _⟩
    · rw [e] at hk; simp at hk
    · rw [e] at hk
      simp at hk
      subst hk
      unfold TBlk at hg
      rw [h3] at hg
      simp at hg
theorem NB.keep (h : NB w b s m A C q asked full c S T) (hb : w'.heap[b]? = w.heap[b]?) (hs : w'.heap[s]? = w.heap[s]?) (hm : w'.heap[m]? = w.heap[m]?) (hg : ∀ g, A.map Addr.block = some g → w'.heap[g]? = w.heap[g]?) : NB w' b s m A C q asked full c S T :=
  ⟨h.blk.keep hb, h.set.keep hs hg, h.map.keep hm⟩
theorem NB.below {B : Nat} (h : NB w b s m A C q asked full c S T) (hb : Below B w w') (hB : w.heap.size ≤ B) : NB w' b s m A C q asked full c S T :=
  h.keep (hb.block b (Nat.lt_of_lt_of_le h.blk.lt hB)) (hb.block s (Nat.lt_of_lt_of_le h.set.blk.lt hB)) (hb.block m (Nat.lt_of_lt_of_le h.map.lt hB)) (fun g hg => hb.block g (Nat.lt_of_lt_of_le (h.set.lt g hg) hB))
end
/-- What a call may turn: the list's blocks, what is new. -/
structure NFr (b s m : Nat) (a : Option Nat) (w w' : World) : Prop where
  os : w'.os = w.os
  tape : w'.tape = w.tape
  output : w'.output = w.output
  size : w.heap.size ≤ w'.heap.size
  block : ∀ k, k < w.heap.size → k ≠ b → k ≠ s → k ≠ m → some k ≠ a → w'.heap[k]? = w.heap[k]?
section
variable {b s m : Nat} {a a' : Option Nat} {w w1 w2 : World}
theorem NFr.refl (b s m : Nat) (a : Option Nat) (w : World) : NFr b s m a w w := ⟨rfl, rfl, rfl, Nat.le_refl _, fun _ _ _ _ _ _ => rfl⟩
theorem NFr.then_ (h : NFr b s m a w w1) (hm : Moved w a a') (k : NFr b s m a' w1 w2) : NFr b s m a w w2 :=
  ⟨k.os.trans h.os, k.tape.trans h.tape, k.output.trans h.output, Nat.le_trans h.size k.size, fun i hi h1 h2 h3 h4 => (k.block i (Nat.lt_of_lt_of_le hi h.size) h1 h2 h3 (by
    rcases hm with e | e
    · rw [e]; exact h4
    · intro e2; have := e i e2.symm; omega)).trans (h.block i hi h1 h2 h3 h4)⟩
theorem NFr.trans (h : NFr b s m a w w1) (k : NFr b s m a w1 w2) : NFr b s m a w w2 := h.then_ (.inl rfl) k
theorem NFr.of_below (h : Below w.heap.size w w1) : NFr b s m a w w1 := ⟨h.os, h.tape, h.output, h.size, fun k hk _ _ _ _ => h.block k hk⟩
theorem NFr.of_set (h : Frm s a w w1) : NFr b s m a w w1 := ⟨h.os, h.tape, h.output, h.size, fun k hk _ h2 _ h4 => h.block k hk h2 h4⟩
theorem NFr.of_map (h : w.grownBy w1 (some m)) : NFr b s m a w w1 := ⟨h.os, h.tape, h.output, h.size, fun k hk _ _ h3 _ => h.block k hk (fun e => h3 (Option.some.inj e))⟩
theorem NFr.setIn (i : Nat) (w : World) (v : Value) : NFr b s m a w (w.setCell ⟨b, i, none⟩ v) := ⟨rfl, rfl, rfl, by simp, fun k _ h1 _ _ _ => Below.heap_setCell _ _ _ k h1⟩
theorem NFr.drew (h : NFr b s m a w w1) : NFr b s m a w w1.drew := ⟨h.os, h.tape, h.output, h.size, h.block⟩
end
/-- A list behind a call. -/
def NS (w : World) (b s m : Nat) (A : Option Addr) (C : Nat) (N : Nl) : Prop := NB w b s m A C N.q N.asked N.full N.q.l.length N.has N.t
def NTo (w : World) (b s m : Nat) (A : Option Addr) (N : Nl) (w' : World) : Prop := ∃ A' C', NS w' b s m A' C' N ∧ Moved w (A.map Addr.block) (A'.map Addr.block) ∧ NFr b s m (A.map Addr.block) w w'
-- small calls
theorem hd_clamp (t : Int) : clampZ t 1 4096 = hd t := by
  unfold clampZ hd
  by_cases h1 : t < 1
  · rw [if_pos (.inl h1), if_pos h1]
  · rw [if_neg (by omega), if_neg h1]
theorem held_any (t : Int) (w : World) : Calls Try.prog 62 #[.int .i64 t] w fun e w' => e = .returned (.int .i64 (hd t)) ∧ w' = w := by
  have HC := Lib.hid (clamp_any t 1 4096)
  rw [hd_clamp] at HC
  generalize hd t = z at *
  go_enter Try.func62, Try.ntmps62
  go_wp2_with (first
    | (go_at_call 89; (with_reducible refine (HC.out _).mono ?_); rintro e w1 ⟨rfl, rfl⟩)
    | fail)
  go_ret
  exact ⟨rfl, rfl⟩
theorem nlen_any (b s m C asked full c : Nat) (A : Option Addr) (q : Qn) (S : Int → Bool) (T : Int → Nat) (w : World) (h : NB w b s m A C q asked full c S T) :
    Calls Try.prog 27 #[.pointer (some ⟨b, 0, none⟩)] w fun e w' => e = .returned (.int .i64 (c : Int)) ∧ w' = w := by
  obtain ⟨c0, c1, c2, c3⟩ := h.blk.cells
  have HM := Lib.hid h.map
  clear h
  go_enter Try.func27, Try.ntmps27
  go_wp2_with (first
    | ((with_reducible refine wpList_tcount rfl (.tmp 6) rfl m c S T rfl HM.out ?_))
    | fail)
  go_ret
  exact ⟨rfl, rfl⟩
theorem asked_any (b s m asked full : Nat) (w : World) (h : NBlk w b s m asked full) :
    Calls Try.prog 84 #[.pointer (some ⟨b, 0, none⟩)] w fun e w' => e = .returned (.int .i64 (asked : Int)) ∧ w' = w := by
  obtain ⟨c0, c1, c2, c3⟩ := h.cells
  clear h
  go_enter Try.func84, Try.ntmps84
  go_wp2
  go_ret
  exact ⟨rfl, rfl⟩
theorem full_any (b s m asked full : Nat) (w : World) (h : NBlk w b s m asked full) :
    Calls Try.prog 85 #[.pointer (some ⟨b, 0, none⟩)] w fun e w' => e = .returned (.int .i64 (full : Int)) ∧ w' = w := by
  obtain ⟨c0, c1, c2, c3⟩ := h.cells
  clear h
  go_enter Try.func85, Try.ntmps85
  go_wp2
  go_ret
  exact ⟨rfl, rfl⟩
theorem has_any (b s m C asked full c : Nat) (A : Option Addr) (q : Qn) (S : Int → Bool) (T : Int → Nat) (z : Int) (hz : 0 ≤ z ∧ z ≤ 4294967295) (w : World) (h : NB w b s m A C q asked full c S T) :
    Calls Try.prog 25 #[.pointer (some ⟨b, 0, none⟩), .int .u32 z] w fun e w' => e = .returned (.bool (S z)) ∧ w' = w := by
  obtain ⟨c0, c1, c2, c3⟩ := h.blk.cells
  have HM := Lib.hid h.map
  have HZ := Lib.hid hz
  clear h hz
  go_enter Try.func25, Try.ntmps25
  go_wp2_with (first
    | ((with_reducible refine wpList_thas rfl (.tmp 11) (.tmp 12) rfl m c S T rfl HM.out z HZ.out rfl ?_); intro kk)
    | fail)
  go_ret
  exact ⟨rfl, rfl⟩
end Go.Proofs.Ytnffngbkidehfaa.Nk
