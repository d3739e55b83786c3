/-
  Own text: what goes, in rows of the call's own: 12 cells each; append, copy. (Written by gen_mom.py.)
-/
import Derived.Test.YtblnmddphichgaaMpN
import Derived.Test.YtblnmddphichgaaOwnN
import Derived.Test.YtblnmddphichgaaLiC
import Derived.Laws.CopyOwn
import Derived.Lib.AppendZeros
import Derived.Lib.Overlaps
import Derived.Deep.AppendLies
namespace Go.Proofs.Ytblnmddphichgaa.Mo
open Go.RowKit

abbrev ocells (x : Mp.On) : Array Value := #[.int .i64 (x.i : Int), .int .i64 x.d.kind, .int .u32 x.d.ses, .int .u32 x.d.seq, .int .i64 x.d.path, .int .u32 x.d.tick, .int .u32 x.d.A, .int .u32 x.d.B, .int .i64 x.d.K, .int .i64 x.d.M, .int .i64 x.d.ix, .slice x.d.da x.d.dl x.d.dc]
/-- Noughts. -/
abbrev zc : Array Value := #[.int .i64 0, .int .i64 0, .int .u32 0, .int .u32 0, .int .i64 0, .int .u32 0, .int .u32 0, .int .u32 0, .int .i64 0, .int .i64 0, .int .i64 0, .slice none 0 0]
def icells (l : List Mp.On) : List Value := l.flatMap (fun x => (ocells x).toList)
theorem icells_append (a b : List Mp.On) : icells (a ++ b) = icells a ++ icells b := by unfold icells; rw [List.flatMap_append]
theorem icells_cons (x : Mp.On) (l : List Mp.On) : icells (x :: l) = (ocells x).toList ++ icells l := by unfold icells; rw [List.flatMap_cons]
theorem icells_length (l : List Mp.On) : (icells l).length = l.length * 12 := by
  induction l with
  | nil => rfl
  | cons x l ih => rw [icells_cons, List.length_append, ih]; simp; omega
theorem icells_one (l : List Mp.On) : ∀ u ∈ icells l, u.oneCell' = true := by
  intro u hu
  obtain ⟨x, _, h⟩ := List.mem_flatMap.1 hu
  simp at h
  rcases h with rfl | rfl | rfl | rfl | rfl | rfl | rfl | rfl | rfl | rfl | rfl | rfl <;> rfl
theorem icells_get (l : List Mp.On) (i : Nat) (x : Mp.On) (h : l[i]? = some x) (j : Nat) (hj : j < (ocells x).size) : (icells l)[i * 12 + j]? = (ocells x)[j]? := by
  induction l generalizing i with
  | nil => simp at h
  | cons y l ih =>
    rw [icells_cons]
    have hy : (ocells y).toList.length = 12 := rfl
    have hj2 : j < 12 := hj
    cases i with
    | zero =>
      simp only [List.getElem?_cons_zero, Option.some.injEq] at h
      subst h
      rw [List.getElem?_append_left (by rw [hy]; omega), Nat.zero_mul, Nat.zero_add]
      simp
    | succ i =>
      rw [List.getElem?_append_right (by rw [hy]; omega), hy, show (i + 1) * 12 + j - 12 = i * 12 + j by omega]
      exact ih i (by simpa using h)
theorem info_item : (Try.prog.info? 42).map (fun i => (i.zero, i.size, i.bytes)) = some (some (.agg zc), 12, 96) := by kernel_rfl
/-- Items in a slice of the call's own. -/
def OwnT (w : World) (base : Nat) (v : Value) (n : Nat) (l : List Mp.On) : Prop := w.ownsRow base 42 12 v n (icells l)
/-- A block of items. -/
def TBlk (w : World) (g : Nat) (L : List Value) : Prop := w.heap[g]? = some (.cells L.toArray 42 (0, 0))
theorem OwnT.none (w : World) (base : Nat) : OwnT w base (.slice none 0 0) 0 [] := ⟨rfl, .inl ⟨rfl, rfl⟩⟩
theorem OwnT.length {w : World} {base : Nat} {v : Value} {n : Nat} {l : List Mp.On} (h : OwnT w base v n l) : l.length = n := by
  have := h.1; rw [icells_length] at this; omega
theorem OwnT.keep {w w' : World} {base : Nat} {v : Value} {n : Nat} {l : List Mp.On} (h : OwnT w base v n l) (hk : ∀ g, v.ownBlock = some g → w'.heap[g]? = w.heap[g]?) : OwnT w' base v n l := by
  refine ⟨h.1, h.2.imp id ?_⟩
  rintro ⟨g, cap, cur, e, h1, hg, h2⟩
  exact ⟨g, cap, cur, e, h1, (hk g (by rw [e]; rfl)).trans hg, h2⟩
theorem OwnT.lt {w : World} {base : Nat} {v : Value} {n : Nat} {l : List Mp.On} (h : OwnT w base v n l) : ∀ g, v.ownBlock = some g → base ≤ g ∧ g < w.heap.size := World.ownsRow.lt h
theorem OwnT.below {w w' : World} {base B : Nat} {v : Value} {n : Nat} {l : List Mp.On} (h : OwnT w base v n l) (hb : Below B w w') (hB : w.heap.size ≤ B) : OwnT w' base v n l :=
  h.keep (fun g hg => hb.block g (Nat.lt_of_lt_of_le (h.lt g hg).2 hB))
theorem OwnT.low {w : World} {base b : Nat} {v : Value} {n : Nat} {l : List Mp.On} (h : OwnT w base v n l) (hb : b ≤ base) : OwnT w b v n l := by
  refine ⟨h.1, h.2.imp id ?_⟩
  rintro ⟨g, cap, cur, e, h1, h2⟩
  exact ⟨g, cap, cur, e, by omega, h2⟩
theorem OwnT.form {w : World} {base : Nat} {A : Option Addr} {n C : Nat} {l : List Mp.On} (h : OwnT w base (.slice A n C) n l) :
    (A = Option.none ∧ n = 0 ∧ C = 0 ∧ l = []) ∨ ∃ g R, A = some ⟨g, 0, Option.none⟩ ∧ base ≤ g ∧ g < w.heap.size ∧ TBlk w g (icells l ++ R) ∧ n * 12 + R.length = C * 12 ∧ C ≤ maxLen := by
  have hl := h.length
  rcases h.2 with ⟨e, h0⟩ | ⟨g, cap, cur, e, h1, hg, h3, h4, h5, h6⟩
  · left
    simp only [Value.slice.injEq] at e
    refine ⟨e.1, h0, e.2.2, List.eq_nil_of_length_eq_zero (by omega)⟩
  · right
    simp only [Value.slice.injEq, true_and] at e
    obtain ⟨rfl, rfl⟩ := e
    refine ⟨g, cur.toList.drop (n * 12), rfl, h1, (Array.getElem?_eq_some_iff.1 hg).1, ?_, ?_, h4⟩
    · unfold TBlk
      rw [← h6, List.take_append_drop]
      exact hg
    · rw [List.length_drop, Array.length_toList, h5]
      omega
theorem OwnT.of {w : World} {base g : Nat} {n C : Nat} {l : List Mp.On} {R : List Value} (hl : l.length = n) (hb : base ≤ g) (hg : TBlk w g (icells l ++ R)) (hs : n * 12 + R.length = C * 12) (hC : C ≤ maxLen) : OwnT w base (.slice (some ⟨g, 0, Option.none⟩) n C) n l := by
  refine ⟨by rw [icells_length, hl], .inr ⟨g, C, _, rfl, hb, hg, by omega, hC, ?_, ?_⟩⟩
  · simp only [List.size_toArray, List.length_append, icells_length]
    omega
  · have : (icells l).length = n * 12 := by rw [icells_length, hl]
    rw [← this]
    exact List.take_left
theorem OwnT.slice {w : World} {base : Nat} {v : Value} {n : Nat} {l : List Mp.On} (h : OwnT w base v n l) : ∃ A C, v = .slice A n C ∧ n ≤ C ∧ C ≤ maxLen := by
  rcases h.2 with ⟨rfl, rfl⟩ | ⟨g, cap, cur, rfl, _, _, h1, h2, _⟩
  · exact ⟨_, _, rfl, Nat.le_refl _, Nat.zero_le _⟩
  · exact ⟨_, _, rfl, h1, h2⟩
theorem TBlk.cell {w : World} {g : Nat} {L : List Value} (h : TBlk w g L) (i : Nat) : w.cell? ⟨g, i, none⟩ = L[i]? := by
  unfold TBlk at h
  simp [World.cell?, h]
theorem TBlk.frozen {w : World} {g : Nat} {L : List Value} (h : TBlk w g L) (i : Nat) : w.frozen? ⟨g, i, none⟩ = false := by
  unfold TBlk at h
  simp [World.frozen?, h]
/-- Where an item lies. -/
theorem OwnT.at_ {w : World} {base : Nat} {A : Option Addr} {n C : Nat} {l : List Mp.On} (h : OwnT w base (.slice A n C) n l) (i : Nat) (x : Mp.On) (hx : l[i]? = some x) :
    ∃ g, A = some ⟨g, 0, Option.none⟩ ∧ base ≤ g ∧ g < w.heap.size ∧ Lies w g (i * 12) (ocells x) := by
  rcases h.form with ⟨_, _, _, rfl⟩ | ⟨g, R, rfl, hb, hlt, hg, hs, _⟩
  · simp at hx
  · refine ⟨g, rfl, hb, hlt, (icells l ++ R).toArray, _, hg, ?_, fun j hj => ?_⟩
    · have hil := (List.getElem?_eq_some_iff.1 hx).1
      have : (i + 1) * 12 ≤ l.length * 12 := Nat.mul_le_mul_right 12 hil
      simp only [List.size_toArray, List.length_append, icells_length, ocells]
      show i * 12 + 12 ≤ _
      omega
    · have := icells_get l i x hx j hj
      rw [← this]
      have hj2 : i * 12 + j < (icells l).length := by
        have h1 : ((ocells x))[j]? = some (ocells x)[j] := Array.getElem?_eq_getElem hj
        rw [h1] at this
        exact (List.getElem?_eq_some_iff.1 this).1
      simp only [List.getElem?_toArray]
      rw [List.getElem?_append_left hj2]
/-- Cells in the midst of a block, as a source. -/
theorem TBlk.src {w : World} {g : Nat} {P X S : List Value} (h : TBlk w g (P ++ X ++ S)) (o : Nat) (ho : P.length = o) : ∀ j u, X[j]? = some u → w.cell? ((⟨g, o, none⟩ : Addr).add j) = some u := by
  intro j u hu
  rw [add_place, h.cell]
  have hj := (List.getElem?_eq_some_iff.1 hu).1
  rw [List.append_assoc, List.getElem?_append_right (by omega), show o + j - P.length = j by omega, List.getElem?_append_left hj, hu]
theorem run_copy_items (w : World) (ty : TypeId) (g o dLen dCap : Nat) (a : Addr) (sLen sCap : Nat) (L news : List Value) (k : Nat) (hg : TBlk w g L) (hk : k = Nat.min sLen dLen) (hn : news.length = k * 12)
    (hsrc : ∀ j v, news[j]? = some v → w.cell? (a.add j) = some v) (hfit : o + news.length ≤ L.length) (h1 : ∀ v ∈ news, v.oneCell' = true) :
    (Builtin.copy_ #[32, 32] ty #[.slice (some ⟨g, o, none⟩) dLen dCap, .slice (some a) sLen sCap]).run Try.prog w =
      .ok (goInt k) (w.setRow g (splice L o news).toArray) := by
  obtain ⟨i, hi, hzz⟩ := Option.map_eq_some_iff.1 info_item
  simp only [Prod.mk.injEq] at hzz
  obtain ⟨_, hsz, _⟩ := hzz
  have hst := run_storeCells_at Try.prog g o 42 news 0 L.toArray w hg (by simpa using hfit) h1
  simp only [Nat.add_zero] at hst
  have hf := run_firstCells_some (P := Try.prog) w 12 k a sLen sCap news hn hsrc
  have ht := Try.underlying32
  simp [Builtin.copy_, run_underlying ht, Builtin.lenOf, sizeOf, typeInfo, hi, hsz, ← hk, hf, hst, splice]
theorem run_copy_zero (w : World) (ty : TypeId) (d a : Option Addr) (dLen dCap sLen sCap : Nat) (hk : Nat.min sLen dLen = 0) :
    (Builtin.copy_ #[32, 32] ty #[.slice d dLen dCap, .slice a sLen sCap]).run Try.prog w = .ok (goInt 0) w := by
  obtain ⟨i, hi, _⟩ := Option.map_eq_some_iff.1 info_item
  have ht := Try.underlying32
  cases a <;> cases d <;> simp [Builtin.copy_, run_underlying ht, Builtin.lenOf, sizeOf, typeInfo, hi, hk, Builtin.firstCells, loadCells, loadCellsFrom, storeCells]
theorem TBlk.setRow {w : World} {g : Nat} {L L' : List Value} (h : TBlk w g L) : TBlk (w.setRow g L'.toArray) g L' := setRow_heap w g _ _ _ _ h
theorem grown_setRow (w : World) (g : Nat) (cs : Array Value) : w.grownBy (w.setRow g cs) (some g) := ⟨rfl, rfl, rfl, by simp [World.setRow], fun k _ hk => setRow_other w g k _ (fun e => hk (by rw [e]))⟩
/-- copy, as a step of a region that draws its order. -/
theorem step_copy_items {ops : Array Oper} {o : Oper} {a : Act} {w : World} {K : Act → World → Prop} {Q : Exit → Act → World → Prop} {E : Prop} (hgd : o.guard = none) (d s : Operand)
    (ho : o.op = .call { callee := .builtin .copy, args := #[d, s], argTypes := #[32, 32] })
    (g off dLen dCap : Nat) (ad : Addr) (sLen sCap : Nat) (hd : a.eval d = .slice (some ⟨g, off, none⟩) dLen dCap) (hs : a.eval s = .slice (some ad) sLen sCap)
    (L news : List Value) (k : Nat) (hg : TBlk w g L) (hk : k = Nat.min sLen dLen) (hn : news.length = k * 12)
    (hsrc : ∀ j v, news[j]? = some v → w.cell? (ad.add j) = some v) (hfit : off + news.length ≤ L.length) (h1 : ∀ v ∈ news, v.oneCell' = true)
    (h : ∀ w', Hid (TBlk w' g (splice L off news)) → Hid (w.grownBy w' (some g)) → K (a.put o.dst (.int .i64 (k : Int))) w') :
    if Region.wanted o (yielded ops a.tmps) = true then Oper.wp Try.prog o a w K Q else E := by
  have hw : Region.wanted o (yielded ops a.tmps) = true := by simp [Region.wanted, hgd]
  rw [if_pos hw]
  have hrun := run_copy_items w o.type g off dLen dCap ad sLen sCap L news k hg hk hn hsrc hfit h1
  unfold Oper.wp
  simp [execOp, ho, resolve, invoke, builtin, hd, hs, hrun, Result.andThen]
  exact h _ (Lib.hid hg.setRow) (Lib.hid (grown_setRow _ _ _))
theorem wpList_copy_items {w : World} {ops : Array Oper} {rest : List Oper} {o : Oper} {a : Act} {Q : Exit → Act → World → Prop} (hgd : o.guard = none) (d s : Operand)
    (ho : o.op = .call { callee := .builtin .copy, args := #[d, s], argTypes := #[32, 32] })
    (g off dLen dCap : Nat) (ad : Addr) (sLen sCap : Nat) (hd : a.eval d = .slice (some ⟨g, off, none⟩) dLen dCap) (hs : a.eval s = .slice (some ad) sLen sCap)
    (L news : List Value) (k : Nat) (hg : TBlk w g L) (hk : k = Nat.min sLen dLen) (hn : news.length = k * 12)
    (hsrc : ∀ j v, news[j]? = some v → w.cell? (ad.add j) = some v) (hfit : off + news.length ≤ L.length) (h1 : ∀ v ∈ news, v.oneCell' = true)
    (h : ∀ w', Hid (TBlk w' g (splice L off news)) → Hid (w.grownBy w' (some g)) → wpList Try.prog ops Q rest (a.put o.dst (.int .i64 (k : Int))) w') :
    wpList Try.prog ops Q (o :: rest) a w := by
  refine wpList_plain hgd fun K hK => ?_
  have hrun := run_copy_items w o.type g off dLen dCap ad sLen sCap L news k hg hk hn hsrc hfit h1
  unfold Oper.wp
  simp [execOp, ho, resolve, invoke, builtin, hd, hs, hrun, Result.andThen]
  exact hK _ _ (h _ (Lib.hid hg.setRow) (Lib.hid (grown_setRow _ _ _)))
/-- append where there is room. -/
theorem step_append_items {ops : Array Oper} {o : Oper} {a : Act} {w : World} {K : Act → World → Prop} {Q : Exit → Act → World → Prop} {E : Prop} (hgd : o.guard = none) (d s : Operand)
    (ho : o.op = .call { callee := .builtin .append, args := #[d, s], argTypes := #[32, 32] })
    (g n C : Nat) (ad : Addr) (m c : Nat) (hd : a.eval d = .slice (some ⟨g, 0, none⟩) n C) (hs : a.eval s = .slice (some ad) m c)
    (L news : List Value) (hg : TBlk w g L) (hn : news.length = m * 12) (hroom : n + m ≤ C)
    (hsrc : ∀ j v, news[j]? = some v → w.cell? (ad.add j) = some v) (hfit : n * 12 + news.length ≤ L.length) (h1 : ∀ v ∈ news, v.oneCell' = true)
    (h : ∀ w', Hid (TBlk w' g (splice L (n * 12) news)) → Hid (w.grownBy w' (some g)) → K (a.put o.dst (.slice (some ⟨g, 0, none⟩) (n + m) C)) w') :
    if Region.wanted o (yielded ops a.tmps) = true then Oper.wp Try.prog o a w K Q else E := by
  have hw : Region.wanted o (yielded ops a.tmps) = true := by simp [Region.wanted, hgd]
  rw [if_pos hw]
  obtain ⟨i, hi, hzz⟩ := Option.map_eq_some_iff.1 info_item
  simp only [Prod.mk.injEq] at hzz
  obtain ⟨_, hsz, _⟩ := hzz
  have hrun := run_append_room (P := Try.prog) w 32 o.type 42 i Try.underlying32 hi g n C L.toArray hg ad m c news (by rw [hsz]; exact hn) hsrc h1 hroom (by rw [hsz]; simpa using hfit)
  rw [hsz] at hrun
  unfold Oper.wp
  simp [execOp, ho, resolve, invoke, builtin, hd, hs, hrun, Result.andThen]
  have e : L.take (n * 12) ++ (news ++ L.drop (n * 12 + news.length)) = splice L (n * 12) news := rfl
  rw [e]
  exact h _ (Lib.hid hg.setRow) (Lib.hid (grown_setRow _ _ _))
theorem zero_items (m : Nat) : (Builtin.zeroCells zc m).size = m * 12 := by simp [Builtin.zeroCells]
theorem zero_items_one (m : Nat) : ∀ u ∈ (Builtin.zeroCells zc m).toList, u.oneCell' = true := by
  intro u hu
  obtain ⟨j, hj, rfl⟩ := List.getElem_of_mem hu
  have hk : ∀ k, k < 12 → (zc[k]!).oneCell' = true := by decide
  simp only [Builtin.zeroCells]
  have := hk (j % 12) (Nat.mod_lt _ (by decide))
  simpa using this
/-- What a call may turn that moves a row on. -/
structure MovedTo (w : World) (s : Option Nat) (w' : World) (s' : Option Nat) : Prop where
  grown : w.grownBy w' s
  place : s' = s ∨ ∀ k, s' = some k → w.heap.size ≤ k
theorem own_block (A : Option Addr) (n C : Nat) : (Value.slice A n C).ownBlock = A.map Addr.block := by cases A <;> rfl
set_option maxRecDepth 100000 in
theorem run_append_items {w : World} (ty : TypeId) (base : Nat) (A : Option Addr) (n C : Nat) (l : List Mp.On) (hown : OwnT w base (.slice A n C) n l)
    (ad : Addr) (m c : Nat) (l2 : List Mp.On) (hl : l2.length = m) (hnews : ∀ j u, (icells l2)[j]? = some u → w.cell? (ad.add j) = some u) (hb : n + m ≤ 100000) (hbase : base ≤ w.heap.size) :
    ∃ A' C' w', (Builtin.append_ #[32, 32] ty #[.slice A n C, .slice (some ad) m c]).run Try.prog w = .ok (.slice A' (n + m) C') w' ∧
      Hid (OwnT w' base (.slice A' (n + m) C') (n + m) (l ++ l2)) ∧ Hid (MovedTo w (A.map Addr.block) w' (A'.map Addr.block)) := by
  obtain ⟨i, hi, hzz⟩ := Option.map_eq_some_iff.1 info_item
  simp only [Prod.mk.injEq] at hzz
  obtain ⟨hz, hsz, hby⟩ := hzz
  obtain ⟨v', w', hr, h2, h3, _, h5⟩ := run_append_own_at (P := Try.prog) w base 32 ty 42 i _ 12 96 Try.underlying32 hi hz hsz hby rfl (by decide) _ n _ hown ad m c (icells l2) (by rw [icells_length, hl]) hnews (icells_one _) (by unfold maxLen; omega) (by omega) hbase
  rw [← icells_append] at h2
  obtain ⟨A', C', rfl, _⟩ := OwnT.slice (l := l ++ l2) h2
  refine ⟨A', C', w', hr, Lib.hid h2, Lib.hid ⟨?_, ?_⟩⟩
  · rw [own_block] at h3; exact h3
  · rw [own_block, own_block] at h5
    refine h5.imp id (fun e k hk => ?_)
    rw [e] at hk
    simp at hk
    omega
theorem wpList_append_items {w : World} {ops : Array Oper} {rest : List Oper} {o : Oper} {a : Act} {Q : Exit → Act → World → Prop} (hgd : o.guard = none) (s x : Operand)
    (ho : o.op = .call { callee := .builtin .append, args := #[s, x], argTypes := #[32, 32] })
    (base : Nat) (A : Option Addr) (n C : Nat) (hs : a.eval s = .slice A n C) (l : List Mp.On) (hown : OwnT w base (.slice A n C) n l)
    (ad : Addr) (m c : Nat) (hx : a.eval x = .slice (some ad) m c) (l2 : List Mp.On) (hl : l2.length = m) (hnews : ∀ j u, (icells l2)[j]? = some u → w.cell? (ad.add j) = some u) (hb : n + m ≤ 100000) (hbase : base ≤ w.heap.size)
    (h : ∀ A' C' w', Hid (OwnT w' base (.slice A' (n + m) C') (n + m) (l ++ l2)) → Hid (MovedTo w (A.map Addr.block) w' (A'.map Addr.block)) → wpList Try.prog ops Q rest (a.put o.dst (.slice A' (n + m) C')) w') :
    wpList Try.prog ops Q (o :: rest) a w := by
  refine wpList_plain hgd fun K hK => ?_
  obtain ⟨A', C', w', hr, h1, h2⟩ := run_append_items o.type base A n C l hown ad m c l2 hl hnews hb hbase
  unfold Oper.wp
  simp only [execOp, ho, resolve, invoke, builtin, Sem.run_bind, Sem.run_pure, Result.andThen_ok, List.map_toArray, List.map_cons, List.map_nil, hs, hx, hr]
  exact hK _ _ (h A' C' w' h1 h2)
/-- One item in a block of its own. -/
theorem one_new (w : World) (x : Mp.On) (fr : Nat × Nat) (hf : fr = (0, 0)) : TBlk (w.alloc (.cells (ocells x) 42 fr)) w.heap.size (icells [x]) := by
  subst hf
  exact Go.Deep.blk_alloc_new w _

end Go.Proofs.Ytblnmddphichgaa.Mo
