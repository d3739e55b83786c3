/-
  Own text: items in plain numbers, in a block of the call's own; what copy, append and clear do to them.
-/
import Derived.Test.YtnffngbkidehfaaNkO
import Derived.Laws.CopyOwn
import Derived.Lib.AppendZeros
namespace Go.Proofs.Ytnffngbkidehfaa.Nk
open Go.RowKit

/-- An item in plain numbers. -/
structure It where
  key : Int
  due : Int
def icells : List It → List Value
  | [] => []
  | x :: l => .int .u32 x.key :: .int .i64 x.due :: icells l
theorem icells_append (a b : List It) : icells (a ++ b) = icells a ++ icells b := by
  induction a with
  | nil => rfl
  | cons x a ih => simp [icells, ih]
theorem icells_length (l : List It) : (icells l).length = l.length * 2 := by
  induction l with
  | nil => rfl
  | cons x l ih => simp [icells, ih]; omega
theorem icells_one (l : List It) : ∀ u ∈ icells l, u.oneCell' = true := by
  induction l with
  | nil => intro u hu; simp [icells] at hu
  | cons x l ih =>
    intro u hu
    simp only [icells, List.mem_cons] at hu
    rcases hu with rfl | rfl | h
    · rfl
    · rfl
    · exact ih u h
theorem icells_get (l : List It) (i : Nat) (x : It) (h : l[i]? = some x) : (icells l)[i * 2]? = some (.int .u32 x.key) ∧ (icells l)[i * 2 + 1]? = some (.int .i64 x.due) := by
  induction l generalizing i with
  | nil => simp at h
  | cons y l ih =>
    cases i with
    | zero => simp at h; subst h; simp [icells]
    | succ i =>
      have := ih i (by simpa using h)
      rw [show (i + 1) * 2 = i * 2 + 2 by omega]
      simpa [icells] using this
theorem info_item : (Try.prog.info? 167).map (fun i => (i.zero, i.size, i.bytes)) = some (some (.agg #[.int .u32 0, .int .i64 0]), 2, 16) := by kernel_rfl
/-- Items in a slice of the call's own. -/
def OwnT (w : World) (base : Nat) (v : Value) (n : Nat) (l : List It) : Prop := w.ownsRow base 167 2 v n (icells l)
/-- A block of items. -/
def TBlk (w : World) (g : Nat) (L : List Value) : Prop := w.heap[g]? = some (.cells L.toArray 167 (0, 0))
theorem OwnT.none (w : World) (base : Nat) : OwnT w base (.slice none 0 0) 0 [] := ⟨rfl, .inl ⟨rfl, rfl⟩⟩
theorem OwnT.length {w : World} {base : Nat} {v : Value} {n : Nat} {l : List It} (h : OwnT w base v n l) : l.length = n := by
  have := h.1; rw [icells_length] at this; omega
theorem OwnT.keep {w w' : World} {base : Nat} {v : Value} {n : Nat} {l : List It} (h : OwnT w base v n l) (hk : ∀ g, v.ownBlock = some g → w'.heap[g]? = w.heap[g]?) : OwnT w' base v n l := by
  refine ⟨h.1, h.2.imp id ?_⟩
  rintro ⟨g, cap, cur, e, h1, hg, h2⟩
  exact ⟨g, cap, cur, e, h1, (hk g (by rw [e]; rfl)).trans hg, h2⟩
theorem OwnT.lt {w : World} {base : Nat} {v : Value} {n : Nat} {l : List It} (h : OwnT w base v n l) : ∀ g, v.ownBlock = some g → base ≤ g ∧ g < w.heap.size := World.ownsRow.lt h
theorem OwnT.below {w w' : World} {base B : Nat} {v : Value} {n : Nat} {l : List It} (h : OwnT w base v n l) (hb : Below B w w') (hB : w.heap.size ≤ B) : OwnT w' base v n l :=
  h.keep (fun g hg => hb.block g (Nat.lt_of_lt_of_le (h.lt g hg).2 hB))
theorem OwnT.low {w : World} {base b : Nat} {v : Value} {n : Nat} {l : List It} (h : OwnT w base v n l) (hb : b ≤ base) : OwnT w b v n l := by
  refine ⟨h.1, h.2.imp id ?_⟩
  rintro ⟨g, cap, cur, e, h1, h2⟩
  exact ⟨g, cap, cur, e, by omega, h2⟩
theorem OwnT.form {w : World} {base : Nat} {A : Option Addr} {n C : Nat} {l : List It} (h : OwnT w base (.slice A n C) n l) :
    (A = Option.none ∧ n = 0 ∧ C = 0 ∧ l = []) ∨ ∃ g R, A = some ⟨g, 0, Option.none⟩ ∧ base ≤ g ∧ g < w.heap.size ∧ TBlk w g (icells l ++ R) ∧ n * 2 + R.length = C * 2 ∧ C ≤ maxLen := by
  have hl := h.length
  rcases h.2 with ⟨e, h0⟩ | ⟨g, cap, cur, e, h1, hg, h3, h4, h5, h6⟩
  · left
    simp only [Value.slice.injEq] at e
    refine ⟨e.1, h0, e.2.2, List.eq_nil_of_length_eq_zero (by omega)⟩
  · right
    simp only [Value.slice.injEq, true_and] at e
    obtain ⟨rfl, rfl⟩ := e
    refine ⟨g, cur.toList.drop (n * 2), rfl, h1, (Array.getElem?_eq_some_iff.1 hg).1, ?_, ?_, h4⟩
    · unfold TBlk
      rw [← h6, List.take_append_drop]
      exact hg
    · rw [List.length_drop, Array.length_toList, h5]
      omega
theorem OwnT.of {w : World} {base g : Nat} {n C : Nat} {l : List It} {R : List Value} (hl : l.length = n) (hb : base ≤ g) (hg : TBlk w g (icells l ++ R)) (hs : n * 2 + R.length = C * 2) (hC : C ≤ maxLen) : OwnT w base (.slice (some ⟨g, 0, Option.none⟩) n C) n l := by
  refine ⟨by rw [icells_length, hl], .inr ⟨g, C, _, rfl, hb, hg, by omega, hC, ?_, ?_⟩⟩
  · simp only [List.size_toArray, List.length_append, icells_length]
    omega
  · have : (icells l).length = n * 2 := by rw [icells_length, hl]
    rw [← this]
    exact List.take_left
theorem OwnT.slice {w : World} {base : Nat} {v : Value} {n : Nat} {l : List It} (h : OwnT w base v n l) : ∃ A C, v = .slice A n C ∧ n ≤ C ∧ C ≤ maxLen := by
  rcases h.2 with ⟨rfl, rfl⟩ | ⟨g, cap, cur, rfl, _, _, h1, h2, _⟩
  · exact ⟨_, _, rfl, Nat.le_refl _, Nat.zero_le _⟩
  · exact ⟨_, _, rfl, h1, h2⟩
theorem TBlk.cell {w : World} {g : Nat} {L : List Value} (h : TBlk w g L) (i : Nat) : w.cell? ⟨g, i, none⟩ = L[i]? := by
  unfold TBlk at h
  simp [World.cell?, h]
theorem TBlk.frozen {w : World} {g : Nat} {L : List Value} (h : TBlk w g L) (i : Nat) : w.frozen? ⟨g, i, none⟩ = false := by
  unfold TBlk at h
  simp [World.frozen?, h]
/-- An item's two cells. -/
theorem OwnT.at_ {w : World} {base : Nat} {A : Option Addr} {n C : Nat} {l : List It} (h : OwnT w base (.slice A n C) n l) (i : Nat) (x : It) (hx : l[i]? = some x) :
    ∃ g, A = some ⟨g, 0, Option.none⟩ ∧ base ≤ g ∧ g < w.heap.size ∧ w.cell? ⟨g, i * 2, Option.none⟩ = some (.int .u32 x.key) ∧ w.cell? ⟨g, i * 2 + 1, Option.none⟩ = some (.int .i64 x.due) := by
  rcases h.form with ⟨_, _, _, rfl⟩ | ⟨g, R, rfl, hb, hlt, hg, _, _⟩
  · simp at hx
  · obtain ⟨h1, h2⟩ := icells_get l i x hx
    refine ⟨g, rfl, hb, hlt, ?_, ?_⟩ <;> rw [hg.cell]
    · rw [List.getElem?_append_left (List.getElem?_eq_some_iff.1 h1).1, h1]
    · rw [List.getElem?_append_left (List.getElem?_eq_some_iff.1 h2).1, h2]
/-- Cells in the midst of a block, as a source. -/
theorem TBlk.src {w : World} {g : Nat} {P X S : List Value} (h : TBlk w g (P ++ X ++ S)) (o : Nat) (ho : P.length = o) : ∀ j u, X[j]? = some u → w.cell? ((⟨g, o, none⟩ : Addr).add j) = some u := by
  intro j u hu
  rw [add_place, h.cell]
  have hj := (List.getElem?_eq_some_iff.1 hu).1
  rw [List.append_assoc, List.getElem?_append_right (by omega), show o + j - P.length = j by omega, List.getElem?_append_left hj, hu]
theorem run_copy_items (w : World) (ty : TypeId) (g o dLen dCap : Nat) (a : Addr) (sLen sCap : Nat) (L news : List Value) (k : Nat) (hg : TBlk w g L) (hk : k = Nat.min sLen dLen) (hn : news.length = k * 2)
    (hsrc : ∀ j v, news[j]? = some v → w.cell? (a.add j) = some v) (hfit : o + news.length ≤ L.length) (h1 : ∀ v ∈ news, v.oneCell' = true) :
    (Builtin.copy_ #[162, 162] ty #[.slice (some ⟨g, o, none⟩) dLen dCap, .slice (some a) sLen sCap]).run Try.prog w =
      .ok (goInt k) (w.setRow g (splice L o news).toArray) := by
  obtain ⟨i, hi, hzz⟩ := Option.map_eq_some_iff.1 info_item
  simp only [Prod.mk.injEq] at hzz
  obtain ⟨_, hsz, _⟩ := hzz
  have hst := run_storeCells_at Try.prog g o 167 news 0 L.toArray w hg (by simpa using hfit) h1
  simp only [Nat.add_zero] at hst
  have hf := run_firstCells_some (P := Try.prog) w 2 k a sLen sCap news hn hsrc
  have ht := Try.underlying162
  simp [Builtin.copy_, run_underlying ht, Builtin.lenOf, sizeOf, typeInfo, hi, hsz, ← hk, hf, hst, splice]
theorem run_copy_zero (w : World) (ty : TypeId) (d a : Option Addr) (dLen dCap sLen sCap : Nat) (hk : Nat.min sLen dLen = 0) :
    (Builtin.copy_ #[162, 162] ty #[.slice d dLen dCap, .slice a sLen sCap]).run Try.prog w = .ok (goInt 0) w := by
  obtain ⟨i, hi, _⟩ := Option.map_eq_some_iff.1 info_item
  have ht := Try.underlying162
  cases a <;> cases d <;> simp [Builtin.copy_, run_underlying ht, Builtin.lenOf, sizeOf, typeInfo, hi, hk, Builtin.firstCells, loadCells, loadCellsFrom, storeCells]
theorem TBlk.setRow {w : World} {g : Nat} {L L' : List Value} (h : TBlk w g L) : TBlk (w.setRow g L'.toArray) g L' := setRow_heap w g _ _ _ _ h
theorem grown_setRow (w : World) (g : Nat) (cs : Array Value) : w.grownBy (w.setRow g cs) (some g) := ⟨rfl, rfl, rfl, by simp [World.setRow], fun k _ hk => setRow_other w g k _ (fun e => hk (by rw [e]))⟩
/-- copy, as a step of a region that draws its order. -/
theorem step_copy_items {ops : Array Oper} {o : Oper} {a : Act} {w : World} {K : Act → World → Prop} {Q : Exit → Act → World → Prop} {E : Prop} (hgd : o.guard = none) (d s : Operand)
    (ho : o.op = .call { callee := .builtin .copy, args := #[d, s], argTypes := #[162, 162] })
    (g off dLen dCap : Nat) (ad : Addr) (sLen sCap : Nat) (hd : a.eval d = .slice (some ⟨g, off, none⟩) dLen dCap) (hs : a.eval s = .slice (some ad) sLen sCap)
    (L news : List Value) (k : Nat) (hg : TBlk w g L) (hk : k = Nat.min sLen dLen) (hn : news.length = k * 2)
    (hsrc : ∀ j v, news[j]? = some v → w.cell? (ad.add j) = some v) (hfit : off + news.length ≤ L.length) (h1 : ∀ v ∈ news, v.oneCell' = true)
    (h : ∀ w', Hid (TBlk w' g (splice L off news)) → Hid (w.grownBy w' (some g)) → K (a.put o.dst (.int .i64 (k : Int))) w') :
    if Region.wanted o (yielded ops a.tmps) = true then Oper.wp Try.prog o a w K Q else E := by
  have hw : Region.wanted o (yielded ops a.tmps) = true := by simp [Region.wanted, hgd]
  rw [if_pos hw]
  have hrun := run_copy_items w o.type g off dLen dCap ad sLen sCap L news k hg hk hn hsrc hfit h1
  unfold Oper.wp
  simp [execOp, ho, resolve, invoke, builtin, hd, hs, hrun, Result.andThen]
  exact h _ (Lib.hid hg.setRow) (Lib.hid (grown_setRow _ _ _))
theorem wpList_copy_items {w : World} {ops : Array Oper} {rest : List Oper} {o : Oper} {a : Act} {Q : Exit → Act → World → Prop} (hgd : o.guard = none) (d s : Operand)
    (ho : o.op = .call { callee := .builtin .copy, args := #[d, s], argTypes := #[162, 162] })
    (g off dLen dCap : Nat) (ad : Addr) (sLen sCap : Nat) (hd : a.eval d = .slice (some ⟨g, off, none⟩) dLen dCap) (hs : a.eval s = .slice (some ad) sLen sCap)
    (L news : List Value) (k : Nat) (hg : TBlk w g L) (hk : k = Nat.min sLen dLen) (hn : news.length = k * 2)
    (hsrc : ∀ j v, news[j]? = some v → w.cell? (ad.add j) = some v) (hfit : off + news.length ≤ L.length) (h1 : ∀ v ∈ news, v.oneCell' = true)
    (h : ∀ w', Hid (TBlk w' g (splice L off news)) → Hid (w.grownBy w' (some g)) → wpList Try.prog ops Q rest (a.put o.dst (.int .i64 (k : Int))) w') :
    wpList Try.prog ops Q (o :: rest) a w := by
  refine wpList_plain hgd fun K hK => ?_
  have hrun := run_copy_items w o.type g off dLen dCap ad sLen sCap L news k hg hk hn hsrc hfit h1
  unfold Oper.wp
  simp [execOp, ho, resolve, invoke, builtin, hd, hs, hrun, Result.andThen]
  exact hK _ _ (h _ (Lib.hid hg.setRow) (Lib.hid (grown_setRow _ _ _)))
/-- append where there is room. -/
theorem step_append_items {ops : Array Oper} {o : Oper} {a : Act} {w : World} {K : Act → World → Prop} {Q : Exit → Act → World → Prop} {E : Prop} (hgd : o.guard = none) (d s : Operand)
    (ho : o.op = .call { callee := .builtin .append, args := #[d, s], argTypes := #[162, 162] })
    (g n C : Nat) (ad : Addr) (m c : Nat) (hd : a.eval d = .slice (some ⟨g, 0, none⟩) n C) (hs : a.eval s = .slice (some ad) m c)
    (L news : List Value) (hg : TBlk w g L) (hn : news.length = m * 2) (hroom : n + m ≤ C)
    (hsrc : ∀ j v, news[j]? = some v → w.cell? (ad.add j) = some v) (hfit : n * 2 + news.length ≤ L.length) (h1 : ∀ v ∈ news, v.oneCell' = true)
    (h : ∀ w', Hid (TBlk w' g (splice L (n * 2) news)) → Hid (w.grownBy w' (some g)) → K (a.put o.dst (.slice (some ⟨g, 0, none⟩) (n + m) C)) w') :
    if Region.wanted o (yielded ops a.tmps) = true then Oper.wp Try.prog o a w K Q else E := by
  have hw : Region.wanted o (yielded ops a.tmps) = true := by simp [Region.wanted, hgd]
  rw [if_pos hw]
  obtain ⟨i, hi, hzz⟩ := Option.map_eq_some_iff.1 info_item
  simp only [Prod.mk.injEq] at hzz
  obtain ⟨_, hsz, _⟩ := hzz
  have hrun := run_append_room (P := Try.prog) w 162 o.type 167 i Try.underlying162 hi g n C L.toArray hg ad m c news (by rw [hsz]; exact hn) hsrc h1 hroom (by rw [hsz]; simpa using hfit)
  rw [hsz] at hrun
  unfold Oper.wp
  simp [execOp, ho, resolve, invoke, builtin, hd, hs, hrun, Result.andThen]
  have e : L.take (n * 2) ++ (news ++ L.drop (n * 2 + news.length)) = splice L (n * 2) news := rfl
  rw [e]
  exact h _ (Lib.hid hg.setRow) (Lib.hid (grown_setRow _ _ _))
theorem zero_items (m : Nat) : (Builtin.zeroCells #[Value.int .u32 0, .int .i64 0] m).size = m * 2 := by simp [Builtin.zeroCells]
theorem zero_items_one (m : Nat) : ∀ u ∈ (Builtin.zeroCells #[Value.int .u32 0, .int .i64 0] m).toList, u.oneCell' = true := by
  intro u hu
  obtain ⟨j, hj, rfl⟩ := List.getElem_of_mem hu
  simp only [Builtin.zeroCells]
  have : j % 2 = 0 ∨ j % 2 = 1 := by omega
  rcases this with h | h <;> simp [h] <;> rfl
set_option maxRecDepth 100000 in
/-- append(s, make(S, m)...) where there is no room: a block of its own. -/
theorem wpList_append_made {w : World} {ops : Array Oper} {rest : List Oper} {o : Oper} {a : Act} {Q : Exit → Act → World → Prop} (hgd : o.guard = none) (d s : Operand)
    (ho : o.op = .call { callee := .builtin .append, args := #[d, s], argTypes := #[162, 3] })
    (g n C m : Nat) (hd : a.eval d = .slice (some ⟨g, 0, none⟩) n C) (hs : a.eval s = .int .i64 (m : Int))
    (L R : List Value) (hg : TBlk w g (L ++ R)) (hL : L.length = n * 2) (h0 : 0 < m) (hroom : C < n + m) (hb : n + m ≤ 100000)
    (h : ∀ C' Z w', n + m ≤ C' → C' ≤ maxLen → n * 2 + Z.length = C' * 2 → Hid (TBlk w' w.heap.size (L ++ Z)) → Hid (w'.heap.size = w.heap.size + 1) → Hid (w.grownBy w' none) → wpList Try.prog ops Q rest (a.put o.dst (.slice (some ⟨w.heap.size, 0, none⟩) (n + m) C')) w') :
    wpList Try.prog ops Q (o :: rest) a w := by
  refine wpList_plain hgd fun K hK => ?_
  obtain ⟨i, hi, hzz⟩ := Option.map_eq_some_iff.1 info_item
  simp only [Prod.mk.injEq] at hzz
  obtain ⟨hz, hsz, hby⟩ := hzz
  have ht := Try.underlying162
  have hu : Try.prog.underlying 3 = some (.int .i64) := by kernel_rfl
  have hwr : IntKind.i64.wrap (m : Int) = (m : Int) := by rw [IntKind.wrap_i64]; omega
  have hn0 : ¬ (m : Int) < 0 := by omega
  have h48 : ¬ (281474976710656 < (m : Int) * 16) := by omega
  have hm0 : ¬ m * 2 = 0 := by omega
  have hno : ¬ n + m ≤ C := by omega
  have h63 : ¬ (9223372036854775807 < ((n : Int) + (m : Int))) := by omega
  have hfit := growslice_fits (need := n + m) (old := C) (bytes := 16) hroom (by omega)
  have h48' : ¬ (281474976710656 < Builtin.nextslicecap (n + m) C * 16) := by omega
  have hge := grownCap_ge w (n + m) C 167
  have hcm : grownCap w (n + m) C 167 ≤ maxLen := grownCap_le_maxLen w (n + m) C _ (by unfold maxLen; omega)
  have hold : (Builtin.firstCells 2 n (.slice (some ⟨g, 0, none⟩) n C)).run Try.prog w.drew = .ok L.toArray w.drew :=
    run_firstCells_some (P := Try.prog) w.drew 2 n ⟨g, 0, none⟩ n C _ hL (TBlk.src (P := []) (show TBlk w.drew g ([] ++ L ++ R) from hg) 0 rfl)
  have hzc : (Value.agg #[.int .u32 0, .int .i64 0]).cells = #[Value.int .u32 0, .int .i64 0] := rfl
  have hrun : (Builtin.append_ #[162, 3] o.type #[.slice (some ⟨g, 0, none⟩) n C, .int .i64 (m : Int)]).run Try.prog w =
      .ok (.slice (some ⟨w.heap.size, 0, none⟩) (n + m) (grownCap w (n + m) C 167)) (w.drew.alloc (.cells (L.toArray ++ Builtin.zeroCells #[Value.int .u32 0, .int .i64 0] m ++ Builtin.zeroCells #[Value.int .u32 0, .int .i64 0] (grownCap w (n + m) C 167 - (n + m))) 167)) := by
    simp [Builtin.append_, run_underlying ht, run_underlying hu, sizeOf, typeInfo, zeroValue, hi, hz, hby, hsz, asInt, asIntOf, hwr, hn0, h48, hm0, hno, hzc, h63, h48', Question.forced, hold, newRow, grownCap]
  unfold Oper.wp
  simp only [execOp, ho, resolve, invoke, builtin, Sem.run_bind, Sem.run_pure, Result.andThen_ok, List.map_toArray, List.map_cons, List.map_nil, hd, hs, hrun]
  refine hK _ _ (h _ ((Builtin.zeroCells #[Value.int .u32 0, .int .i64 0] m).toList ++ (Builtin.zeroCells #[Value.int .u32 0, .int .i64 0] (grownCap w (n + m) C 167 - (n + m))).toList) _ hge hcm ?_ (Lib.hid ?_) (Lib.hid ?_) (Lib.hid ?_))
  · rw [List.length_append, Array.length_toList, Array.length_toList, zero_items, zero_items]
    omega
  · unfold TBlk
    have := heap_alloc_new w.drew (.cells (L.toArray ++ Builtin.zeroCells #[Value.int .u32 0, .int .i64 0] m ++ Builtin.zeroCells #[Value.int .u32 0, .int .i64 0] (grownCap w (n + m) C 167 - (n + m))) 167)
    refine Eq.trans this ?_
    congr 2
    simp
  · simp
  · exact ⟨rfl, rfl, rfl, by simp, fun k hk _ => Below.heap_alloc w.drew _ k hk⟩
/-- clear. -/
theorem run_clear_items (w : World) (ty : TypeId) (g o n c : Nat) (hn : 0 < n) (L : List Value) (hg : TBlk w g L) (hfit : o + n * 2 ≤ L.length) :
    (Builtin.clear_ #[162] ty #[.slice (some ⟨g, o, none⟩) n c]).run Try.prog w = .ok (.tuple #[]) (w.setRow g (splice L o (Builtin.zeroCells #[Value.int .u32 0, .int .i64 0] n).toList).toArray) := by
  obtain ⟨i, hi, hzz⟩ := Option.map_eq_some_iff.1 info_item
  simp only [Prod.mk.injEq] at hzz
  obtain ⟨hz, _, _⟩ := hzz
  have hst := run_storeCells_at Try.prog g o 167 (Builtin.zeroCells #[Value.int .u32 0, .int .i64 0] n).toList 0 L.toArray w hg (by rw [Array.length_toList, zero_items]; simpa using hfit) (zero_items_one n)
  simp only [Nat.add_zero] at hst
  have hzc : (Value.agg #[.int .u32 0, .int .i64 0]).cells = #[Value.int .u32 0, .int .i64 0] := rfl
  have ht := Try.underlying162
  obtain ⟨m, rfl⟩ : ∃ m, n = m + 1 := ⟨n - 1, by omega⟩
  simp [Builtin.clear_, run_underlying ht, zeroValue, typeInfo, hi, hz, hzc, hst, splice]
theorem wpList_clear_items {w : World} {ops : Array Oper} {rest : List Oper} {o : Oper} {a : Act} {Q : Exit → Act → World → Prop} (hgd : o.guard = none) (d : Operand)
    (ho : o.op = .call { callee := .builtin .clear, args := #[d], argTypes := #[162] })
    (g off n c : Nat) (hd : a.eval d = .slice (some ⟨g, off, none⟩) n c) (hn : 0 < n) (L : List Value) (hg : TBlk w g L) (hfit : off + n * 2 ≤ L.length)
    (h : ∀ w' Z, Hid (Z.length = n * 2) → Hid (TBlk w' g (splice L off Z)) → Hid (w.grownBy w' (some g)) → wpList Try.prog ops Q rest (a.put o.dst (.tuple #[])) w') :
    wpList Try.prog ops Q (o :: rest) a w := by
  refine wpList_plain hgd fun K hK => ?_
  have hrun := run_clear_items w o.type g off n c hn L hg hfit
  unfold Oper.wp
  simp only [execOp, ho, resolve, invoke, builtin, Sem.run_bind, Sem.run_pure, Result.andThen_ok, List.map_toArray, List.map_cons, List.map_nil, hd, hrun]
  exact hK _ _ (h _ _ (Lib.hid (by rw [Array.length_toList, zero_items])) (Lib.hid hg.setRow) (Lib.hid (grown_setRow _ _ _)))
end Go.Proofs.Ytnffngbkidehfaa.Nk
