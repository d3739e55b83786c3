/-
  Own text: items that bear a datagram, in a block of the call's own: 13 cells each; what copy, append and clear do to them. (Written by gen_mqm.py.)
  Own text: which of two items that bear a datagram comes first, walked.
  Own text: the place of an item among sorted ones: the binary search at items that bear a datagram, walked. (Written by gen_mqb.py.)
-/
import Derived.Test.YtldhlknmabpanaaGreatK07
import Derived.Test.YtldhlknmabpanaaGreatK03
import Derived.Test.YtldhlknmabpanaaGreatK05
import Derived.Test.YtldhlknmabpanaaGreatK06
import Derived.Laws.CopyOwn
import Derived.Lib.AppendZeros
import Derived.BigQuiet
namespace Go.Proofs.YtldhlknmabpanaaGreat.Mq
open Go.RowKit

/-- An item in plain numbers. -/
structure It where
  rank : Int
  num : Int
  v : Dg
abbrev It.cells (x : It) : Array Value := #[.int .i64 x.rank, .int .i64 x.num, .int .i64 x.v.kind, .int .u32 x.v.ses, .int .u32 x.v.seq, .int .i64 x.v.path, .int .u32 x.v.tick, .int .u32 x.v.A, .int .u32 x.v.B, .int .i64 x.v.K, .int .i64 x.v.M, .int .i64 x.v.ix, .slice x.v.da x.v.dl x.v.dc]
/-- An item of noughts. -/
abbrev zc : Array Value := #[.int .i64 0, .int .i64 0, .int .i64 0, .int .u32 0, .int .u32 0, .int .i64 0, .int .u32 0, .int .u32 0, .int .u32 0, .int .i64 0, .int .i64 0, .int .i64 0, .slice none 0 0]
def icells (l : List It) : List Value := l.flatMap (fun x => x.cells.toList)
theorem icells_append (a b : List It) : icells (a ++ b) = icells a ++ icells b := by unfold icells; rw [List.flatMap_append]
theorem icells_cons (x : It) (l : List It) : icells (x :: l) = x.cells.toList ++ icells l := by unfold icells; rw [List.flatMap_cons]
theorem icells_length (l : List It) : (icells l).length = l.length * 13 := by
  induction l with
  | nil => rfl
  | cons x l ih => rw [icells_cons, List.length_append, ih]; simp; omega
theorem icells_one (l : List It) : ∀ u ∈ icells l, u.oneCell' = true := by
  intro u hu
  obtain ⟨x, _, h⟩ := List.mem_flatMap.1 hu
  simp at h
  rcases h with rfl | rfl | rfl | rfl | rfl | rfl | rfl | rfl | rfl | rfl | rfl | rfl | rfl <;> rfl
theorem icells_get (l : List It) (i : Nat) (x : It) (h : l[i]? = some x) (j : Nat) (hj : j < x.cells.size) : (icells l)[i * 13 + j]? = x.cells[j]? := by
  induction l generalizing i with
  | nil => simp at h
  | cons y l ih =>
    rw [icells_cons]
    have hy : y.cells.toList.length = 13 := rfl
    have hj2 : j < 13 := hj
    cases i with
    | zero =>
      simp only [List.getElem?_cons_zero, Option.some.injEq] at h
      subst h
      rw [List.getElem?_append_left (by rw [hy]; omega), Nat.zero_mul, Nat.zero_add]
      simp
    | succ i =>
      rw [List.getElem?_append_right (by rw [hy]; omega), hy, show (i + 1) * 13 + j - 13 = i * 13 + j by omega]
      exact ih i (by simpa using h)
theorem info_item : (Tryz.prog.info? 113).map (fun i => (i.zero, i.size, i.bytes)) = some (some (.agg zc), 13, 104) := by kernel_rfl
/-- Items in a slice of the call's own. -/
def OwnT (w : World) (base : Nat) (v : Value) (n : Nat) (l : List It) : Prop := w.ownsRow base 113 13 v n (icells l)
/-- A block of items. -/
def TBlk (w : World) (g : Nat) (L : List Value) : Prop := w.heap[g]? = some (.cells L.toArray 113 (0, 0))
theorem OwnT.none (w : World) (base : Nat) : OwnT w base (.slice none 0 0) 0 [] := ⟨rfl, .inl ⟨rfl, rfl⟩⟩
theorem OwnT.length {w : World} {base : Nat} {v : Value} {n : Nat} {l : List It} (h : OwnT w base v n l) : l.length = n := by
  have := h.1; rw [icells_length] at this; omega
theorem OwnT.keep {w w' : World} {base : Nat} {v : Value} {n : Nat} {l : List It} (h : OwnT w base v n l) (hk : ∀ g, v.ownBlock = some g → w'.heap[g]? = w.heap[g]?) : OwnT w' base v n l := by
  refine ⟨h.1, h.2.imp id ?_⟩
  rintro ⟨g, cap, cur, e, h1, hg, h2⟩
  exact ⟨g, cap, cur, e, h1, (hk g (by rw [e]; rfl)).trans hg, h2⟩
theorem OwnT.lt {w : World} {base : Nat} {v : Value} {n : Nat} {l : List It} (h : OwnT w base v n l) : ∀ g, v.ownBlock = some g → base ≤ g ∧ g < w.heap.size := World.ownsRow.lt h
theorem OwnT.below {w w' : World} {base B : Nat} {v : Value} {n : Nat} {l : List It} (h : OwnT w base v n l) (hb : Below B w w') (hB : w.heap.size ≤ B) : OwnT w' base v n l :=
  h.keep (fun g hg => hb.block g (Nat.lt_of_lt_of_le (h.lt g hg).2 hB))
theorem OwnT.low {w : World} {base b : Nat} {v : Value} {n : Nat} {l : List It} (h : OwnT w base v n l) (hb : b ≤ base) : OwnT w b v n l := by
  refine ⟨h.1, h.2.imp id ?_⟩
  rintro ⟨g, cap, cur, e, h1, h2⟩
  exact ⟨g, cap, cur, e, by omega, h2⟩
theorem OwnT.form {w : World} {base : Nat} {A : Option Addr} {n C : Nat} {l : List It} (h : OwnT w base (.slice A n C) n l) :
    (A = Option.none ∧ n = 0 ∧ C = 0 ∧ l = []) ∨ ∃ g R, A = some ⟨g, 0, Option.none⟩ ∧ base ≤ g ∧ g < w.heap.size ∧ TBlk w g (icells l ++ R) ∧ n * 13 + R.length = C * 13 ∧ C ≤ maxLen := by
  have hl := h.length
  rcases h.2 with ⟨e, h0⟩ | ⟨g, cap, cur, e, h1, hg, h3, h4, h5, h6⟩
  · left
    simp only [Value.slice.injEq] at e
    refine ⟨e.1, h0, e.2.2, List.eq_nil_of_length_eq_zero (by omega)⟩
  · right
    simp only [Value.slice.injEq, true_and] at e
    obtain ⟨rfl, rfl⟩ := e
    refine ⟨g, cur.toList.drop (n * 13), rfl, h1, (Array.getElem?_eq_some_iff.1 hg).1, ?_, ?_, h4⟩
    · unfold TBlk
      rw [← h6, List.take_append_drop]
      exact hg
    · rw [List.length_drop, Array.length_toList, h5]
      omega
theorem OwnT.of {w : World} {base g : Nat} {n C : Nat} {l : List It} {R : List Value} (hl : l.length = n) (hb : base ≤ g) (hg : TBlk w g (icells l ++ R)) (hs : n * 13 + R.length = C * 13) (hC : C ≤ maxLen) : OwnT w base (.slice (some ⟨g, 0, Option.none⟩) n C) n l := by
  refine ⟨by rw [icells_length, hl], .inr ⟨g, C, _, rfl, hb, hg, by omega, hC, ?_, ?_⟩⟩
  · simp only [List.size_toArray, List.length_append, icells_length]
    omega
  · have : (icells l).length = n * 13 := by rw [icells_length, hl]
    rw [← this]
    exact List.take_left
theorem OwnT.slice {w : World} {base : Nat} {v : Value} {n : Nat} {l : List It} (h : OwnT w base v n l) : ∃ A C, v = .slice A n C ∧ n ≤ C ∧ C ≤ maxLen := by
  rcases h.2 with ⟨rfl, rfl⟩ | ⟨g, cap, cur, rfl, _, _, h1, h2, _⟩
  · exact ⟨_, _, rfl, Nat.le_refl _, Nat.zero_le _⟩
  · exact ⟨_, _, rfl, h1, h2⟩
theorem TBlk.cell {w : World} {g : Nat} {L : List Value} (h : TBlk w g L) (i : Nat) : w.cell? ⟨g, i, none⟩ = L[i]? := by
  unfold TBlk at h
  simp [World.cell?, h]
theorem TBlk.frozen {w : World} {g : Nat} {L : List Value} (h : TBlk w g L) (i : Nat) : w.frozen? ⟨g, i, none⟩ = false := by
  unfold TBlk at h
  simp [World.frozen?, h]
/-- Where an item lies. -/
theorem OwnT.at_ {w : World} {base : Nat} {A : Option Addr} {n C : Nat} {l : List It} (h : OwnT w base (.slice A n C) n l) (i : Nat) (x : It) (hx : l[i]? = some x) :
    ∃ g, A = some ⟨g, 0, Option.none⟩ ∧ base ≤ g ∧ g < w.heap.size ∧ Lies w g (i * 13) x.cells := by
  rcases h.form with ⟨_, _, _, rfl⟩ | ⟨g, R, rfl, hb, hlt, hg, hs, _⟩
  · simp at hx
  · refine ⟨g, rfl, hb, hlt, (icells l ++ R).toArray, _, hg, ?_, fun j hj => ?_⟩
    · have hil := (List.getElem?_eq_some_iff.1 hx).1
      have : (i + 1) * 13 ≤ l.length * 13 := Nat.mul_le_mul_right 13 hil
      simp only [List.size_toArray, List.length_append, icells_length, It.cells]
      show i * 13 + 13 ≤ _
      omega
    · have := icells_get l i x hx j hj
      rw [← this]
      have hj2 : i * 13 + j < (icells l).length := by
        have h1 : (x.cells)[j]? = some x.cells[j] := Array.getElem?_eq_getElem hj
        rw [h1] at this
        exact (List.getElem?_eq_some_iff.1 this).1
      simp only [List.getElem?_toArray]
      rw [List.getElem?_append_left hj2]
/-- Cells in the midst of a block, as a source. -/
theorem TBlk.src {w : World} {g : Nat} {P X S : List Value} (h : TBlk w g (P ++ X ++ S)) (o : Nat) (ho : P.length = o) : ∀ j u, X[j]? = some u → w.cell? ((⟨g, o, none⟩ : Addr).add j) = some u := by
  intro j u hu
  rw [add_place, h.cell]
  have hj := (List.getElem?_eq_some_iff.1 hu).1
  rw [List.append_assoc, List.getElem?_append_right (by omega), show o + j - P.length = j by omega, List.getElem?_append_left hj, hu]
theorem run_copy_items (w : World) (ty : TypeId) (g o dLen dCap : Nat) (a : Addr) (sLen sCap : Nat) (L news : List Value) (k : Nat) (hg : TBlk w g L) (hk : k = Nat.min sLen dLen) (hn : news.length = k * 13)
    (hsrc : ∀ j v, news[j]? = some v → w.cell? (a.add j) = some v) (hfit : o + news.length ≤ L.length) (h1 : ∀ v ∈ news, v.oneCell' = true) :
    (Builtin.copy_ #[109, 109] ty #[.slice (some ⟨g, o, none⟩) dLen dCap, .slice (some a) sLen sCap]).run Tryz.prog w =
      .ok (goInt k) (w.setRow g (splice L o news).toArray) := by
  obtain ⟨i, hi, hzz⟩ := Option.map_eq_some_iff.1 info_item
  simp only [Prod.mk.injEq] at hzz
  obtain ⟨_, hsz, _⟩ := hzz
  have hst := run_storeCells_at Tryz.prog g o 113 news 0 L.toArray w hg (by simpa using hfit) h1
  simp only [Nat.add_zero] at hst
  have hf := run_firstCells_some (P := Tryz.prog) w 13 k a sLen sCap news hn hsrc
  have ht := Tryz.underlying109
  simp [Builtin.copy_, run_underlying ht, Builtin.lenOf, sizeOf, typeInfo, hi, hsz, ← hk, hf, hst, splice]
theorem TBlk.setRow {w : World} {g : Nat} {L L' : List Value} (h : TBlk w g L) : TBlk (w.setRow g L'.toArray) g L' := setRow_heap w g _ _ _ _ h
theorem grown_setRow (w : World) (g : Nat) (cs : Array Value) : w.grownBy (w.setRow g cs) (some g) := ⟨rfl, rfl, rfl, by simp [World.setRow], fun k _ hk => setRow_other w g k _ (fun e => hk (by rw [e]))⟩
/-- copy, as a step of a region that draws its order. -/
theorem step_copy_items {ops : Array Oper} {o : Oper} {a : Act} {w : World} {K : Act → World → Prop} {Q : Exit → Act → World → Prop} {E : Prop} (hgd : o.guard = none) (d s : Operand)
    (ho : o.op = .call { callee := .builtin .copy, args := #[d, s], argTypes := #[109, 109] })
    (g off dLen dCap : Nat) (ad : Addr) (sLen sCap : Nat) (hd : a.eval d = .slice (some ⟨g, off, none⟩) dLen dCap) (hs : a.eval s = .slice (some ad) sLen sCap)
    (L news : List Value) (k : Nat) (hg : TBlk w g L) (hk : k = Nat.min sLen dLen) (hn : news.length = k * 13)
    (hsrc : ∀ j v, news[j]? = some v → w.cell? (ad.add j) = some v) (hfit : off + news.length ≤ L.length) (h1 : ∀ v ∈ news, v.oneCell' = true)
    (h : ∀ w', Hid (TBlk w' g (splice L off news)) → Hid (w.grownBy w' (some g)) → K (a.put o.dst (.int .i64 (k : Int))) w') :
    if Region.wanted o (yielded ops a.tmps) = true then Oper.wp Tryz.prog o a w K Q else E := by
  have hw : Region.wanted o (yielded ops a.tmps) = true := by simp [Region.wanted, hgd]
  rw [if_pos hw]
  have hrun := run_copy_items w o.type g off dLen dCap ad sLen sCap L news k hg hk hn hsrc hfit h1
  unfold Oper.wp
  simp [execOp, ho, resolve, invoke, builtin, hd, hs, hrun, Result.andThen]
  exact h _ (Lib.hid hg.setRow) (Lib.hid (grown_setRow _ _ _))
theorem wpList_copy_items {w : World} {ops : Array Oper} {rest : List Oper} {o : Oper} {a : Act} {Q : Exit → Act → World → Prop} (hgd : o.guard = none) (d s : Operand)
    (ho : o.op = .call { callee := .builtin .copy, args := #[d, s], argTypes := #[109, 109] })
    (g off dLen dCap : Nat) (ad : Addr) (sLen sCap : Nat) (hd : a.eval d = .slice (some ⟨g, off, none⟩) dLen dCap) (hs : a.eval s = .slice (some ad) sLen sCap)
    (L news : List Value) (k : Nat) (hg : TBlk w g L) (hk : k = Nat.min sLen dLen) (hn : news.length = k * 13)
    (hsrc : ∀ j v, news[j]? = some v → w.cell? (ad.add j) = some v) (hfit : off + news.length ≤ L.length) (h1 : ∀ v ∈ news, v.oneCell' = true)
    (h : ∀ w', Hid (TBlk w' g (splice L off news)) → Hid (w.grownBy w' (some g)) → wpList Tryz.prog ops Q rest (a.put o.dst (.int .i64 (k : Int))) w') :
    wpList Tryz.prog ops Q (o :: rest) a w := by
  refine wpList_plain hgd fun K hK => ?_
  have hrun := run_copy_items w o.type g off dLen dCap ad sLen sCap L news k hg hk hn hsrc hfit h1
  unfold Oper.wp
  simp [execOp, ho, resolve, invoke, builtin, hd, hs, hrun, Result.andThen]
  exact hK _ _ (h _ (Lib.hid hg.setRow) (Lib.hid (grown_setRow _ _ _)))
/-- append where there is room. -/
theorem step_append_items {ops : Array Oper} {o : Oper} {a : Act} {w : World} {K : Act → World → Prop} {Q : Exit → Act → World → Prop} {E : Prop} (hgd : o.guard = none) (d s : Operand)
    (ho : o.op = .call { callee := .builtin .append, args := #[d, s], argTypes := #[109, 109] })
    (g n C : Nat) (ad : Addr) (m c : Nat) (hd : a.eval d = .slice (some ⟨g, 0, none⟩) n C) (hs : a.eval s = .slice (some ad) m c)
    (L news : List Value) (hg : TBlk w g L) (hn : news.length = m * 13) (hroom : n + m ≤ C)
    (hsrc : ∀ j v, news[j]? = some v → w.cell? (ad.add j) = some v) (hfit : n * 13 + news.length ≤ L.length) (h1 : ∀ v ∈ news, v.oneCell' = true)
    (h : ∀ w', Hid (TBlk w' g (splice L (n * 13) news)) → Hid (w.grownBy w' (some g)) → K (a.put o.dst (.slice (some ⟨g, 0, none⟩) (n + m) C)) w') :
    if Region.wanted o (yielded ops a.tmps) = true then Oper.wp Tryz.prog o a w K Q else E := by
  have hw : Region.wanted o (yielded ops a.tmps) = true := by simp [Region.wanted, hgd]
  rw [if_pos hw]
  obtain ⟨i, hi, hzz⟩ := Option.map_eq_some_iff.1 info_item
  simp only [Prod.mk.injEq] at hzz
  obtain ⟨_, hsz, _⟩ := hzz
  have hrun := run_append_room (P := Tryz.prog) w 109 o.type 113 i Tryz.underlying109 hi g n C L.toArray hg ad m c news (by rw [hsz]; exact hn) hsrc h1 hroom (by rw [hsz]; simpa using hfit)
  rw [hsz] at hrun
  unfold Oper.wp
  simp [execOp, ho, resolve, invoke, builtin, hd, hs, hrun, Result.andThen]
  have e : L.take (n * 13) ++ (news ++ L.drop (n * 13 + news.length)) = splice L (n * 13) news := rfl
  rw [e]
  exact h _ (Lib.hid hg.setRow) (Lib.hid (grown_setRow _ _ _))
theorem zero_items (m : Nat) : (Builtin.zeroCells zc m).size = m * 13 := by simp [Builtin.zeroCells]
theorem zero_items_one (m : Nat) : ∀ u ∈ (Builtin.zeroCells zc m).toList, u.oneCell' = true := by
  intro u hu
  obtain ⟨j, hj, rfl⟩ := List.getElem_of_mem hu
  have hk : ∀ k, k < 13 → (zc[k]!).oneCell' = true := by decide
  simp only [Builtin.zeroCells]
  have := hk (j % 13) (Nat.mod_lt _ (by decide))
  simpa using this
set_option maxRecDepth 100000 in
/-- append(s, make(S, m)...) where there is no room: a block of its own. -/
theorem wpList_append_made {w : World} {ops : Array Oper} {rest : List Oper} {o : Oper} {a : Act} {Q : Exit → Act → World → Prop} (hgd : o.guard = none) (d s : Operand)
    (ho : o.op = .call { callee := .builtin .append, args := #[d, s], argTypes := #[109, 3] })
    (g n C m : Nat) (hd : a.eval d = .slice (some ⟨g, 0, none⟩) n C) (hs : a.eval s = .int .i64 (m : Int))
    (L R : List Value) (hg : TBlk w g (L ++ R)) (hL : L.length = n * 13) (h0 : 0 < m) (hroom : C < n + m) (hb : n + m ≤ 100000)
    (h : ∀ C' Z w', n + m ≤ C' → C' ≤ maxLen → n * 13 + Z.length = C' * 13 → Hid (TBlk w' w.heap.size (L ++ Z)) → Hid (w'.heap.size = w.heap.size + 1) → Hid (w.grownBy w' none) → wpList Tryz.prog ops Q rest (a.put o.dst (.slice (some ⟨w.heap.size, 0, none⟩) (n + m) C')) w') :
    wpList Tryz.prog ops Q (o :: rest) a w := by
  refine wpList_plain hgd fun K hK => ?_
  obtain ⟨i, hi, hzz⟩ := Option.map_eq_some_iff.1 info_item
  simp only [Prod.mk.injEq] at hzz
  obtain ⟨hz, hsz, hby⟩ := hzz
  have ht := Tryz.underlying109
  have hu : Tryz.prog.underlying 3 = some (.int .i64) := by kernel_rfl
  have hwr : IntKind.i64.wrap (m : Int) = (m : Int) := by rw [IntKind.wrap_i64]; omega
  have hn0 : ¬ (m : Int) < 0 := by omega
  have h48 : ¬ (281474976710656 < (m : Int) * 104) := by omega
  have hm0 : ¬ m * 13 = 0 := by omega
  have hno : ¬ n + m ≤ C := by omega
  have h63 : ¬ (9223372036854775807 < ((n : Int) + (m : Int))) := by omega
  have hfit := growslice_fits (need := n + m) (old := C) (bytes := 104) hroom (by omega)
  have h48' : ¬ (281474976710656 < Builtin.nextslicecap (n + m) C * 104) := by omega
  have hge := grownCap_ge w (n + m) C 113
  have hcm : grownCap w (n + m) C 113 ≤ maxLen := grownCap_le_maxLen w (n + m) C _ (by unfold maxLen; omega)
  have hold : (Builtin.firstCells 13 n (.slice (some ⟨g, 0, none⟩) n C)).run Tryz.prog w.drew = .ok L.toArray w.drew :=
    run_firstCells_some (P := Tryz.prog) w.drew 13 n ⟨g, 0, none⟩ n C _ hL (TBlk.src (P := []) (show TBlk w.drew g ([] ++ L ++ R) from hg) 0 rfl)
  have hzc : (Value.agg zc).cells = zc := rfl
  have hrun : (Builtin.append_ #[109, 3] o.type #[.slice (some ⟨g, 0, none⟩) n C, .int .i64 (m : Int)]).run Tryz.prog w =
      .ok (.slice (some ⟨w.heap.size, 0, none⟩) (n + m) (grownCap w (n + m) C 113)) (w.drew.alloc (.cells (L.toArray ++ Builtin.zeroCells zc m ++ Builtin.zeroCells zc (grownCap w (n + m) C 113 - (n + m))) 113)) := by
    simp [Builtin.append_, run_underlying ht, run_underlying hu, sizeOf, typeInfo, zeroValue, hi, hz, hby, hsz, asInt, asIntOf, hwr, hn0, h48, hm0, hno, hzc, h63, h48', Question.forced, hold, newRow, grownCap]
  unfold Oper.wp
  simp only [execOp, ho, resolve, invoke, builtin, Sem.run_bind, Sem.run_pure, Result.andThen_ok, List.map_toArray, List.map_cons, List.map_nil, hd, hs, hrun]
  refine hK _ _ (h _ ((Builtin.zeroCells zc m).toList ++ (Builtin.zeroCells zc (grownCap w (n + m) C 113 - (n + m))).toList) _ hge hcm ?_ (Lib.hid ?_) (Lib.hid ?_) (Lib.hid ?_))
  · rw [List.length_append, Array.length_toList, Array.length_toList, zero_items, zero_items]
    omega
  · unfold TBlk
    have := heap_alloc_new w.drew (.cells (L.toArray ++ Builtin.zeroCells zc m ++ Builtin.zeroCells zc (grownCap w (n + m) C 113 - (n + m))) 113)
    refine Eq.trans this ?_
    congr 2
    simp
  · simp
  · exact ⟨rfl, rfl, rfl, by simp, fun k hk _ => Below.heap_alloc w.drew _ k hk⟩
/-- clear. -/
theorem run_clear_items (w : World) (ty : TypeId) (g o n c : Nat) (hn : 0 < n) (L : List Value) (hg : TBlk w g L) (hfit : o + n * 13 ≤ L.length) :
    (Builtin.clear_ #[109] ty #[.slice (some ⟨g, o, none⟩) n c]).run Tryz.prog w = .ok (.tuple #[]) (w.setRow g (splice L o (Builtin.zeroCells zc n).toList).toArray) := by
  obtain ⟨i, hi, hzz⟩ := Option.map_eq_some_iff.1 info_item
  simp only [Prod.mk.injEq] at hzz
  obtain ⟨hz, _, _⟩ := hzz
  have hst := run_storeCells_at Tryz.prog g o 113 (Builtin.zeroCells zc n).toList 0 L.toArray w hg (by rw [Array.length_toList, zero_items]; simpa using hfit) (zero_items_one n)
  simp only [Nat.add_zero] at hst
  have hzc : (Value.agg zc).cells = zc := rfl
  have ht := Tryz.underlying109
  obtain ⟨m, rfl⟩ : ∃ m, n = m + 1 := ⟨n - 1, by omega⟩
  simp [Builtin.clear_, run_underlying ht, zeroValue, typeInfo, hi, hz, hzc, hst, splice]
theorem wpList_clear_items {w : World} {ops : Array Oper} {rest : List Oper} {o : Oper} {a : Act} {Q : Exit → Act → World → Prop} (hgd : o.guard = none) (d : Operand)
    (ho : o.op = .call { callee := .builtin .clear, args := #[d], argTypes := #[109] })
    (g off n c : Nat) (hd : a.eval d = .slice (some ⟨g, off, none⟩) n c) (hn : 0 < n) (L : List Value) (hg : TBlk w g L) (hfit : off + n * 13 ≤ L.length)
    (h : ∀ w' Z, Hid (Z.length = n * 13) → Hid (TBlk w' g (splice L off Z)) → Hid (w.grownBy w' (some g)) → wpList Tryz.prog ops Q rest (a.put o.dst (.tuple #[])) w') :
    wpList Tryz.prog ops Q (o :: rest) a w := by
  refine wpList_plain hgd fun K hK => ?_
  have hrun := run_clear_items w o.type g off n c hn L hg hfit
  unfold Oper.wp
  simp only [execOp, ho, resolve, invoke, builtin, Sem.run_bind, Sem.run_pure, Result.andThen_ok, List.map_toArray, List.map_cons, List.map_nil, hd, hrun]
  exact hK _ _ (h _ _ (Lib.hid (by rw [Array.length_toList, zero_items])) (Lib.hid hg.setRow) (Lib.hid (grown_setRow _ _ _)))
end Go.Proofs.YtldhlknmabpanaaGreat.Mq
namespace Go.Proofs.YtldhlknmabpanaaGreat.Mq
open Go.RowKit

def cmpT (a b : It) : Int := orI (cmpI a.rank b.rank) (cmpI a.num b.num)
/-- As a value. -/
abbrev It.val (x : It) : Value := .agg x.cells
theorem two_items (w : World) (a b : It) {W : World} (hW : W = (w.alloc (.cells a.cells 113)).alloc (.cells b.cells 113)) : Below w.heap.size w W ∧ ∀ w', Below W.heap.size W w' → Lies w' w.heap.size 0 a.cells ∧ Lies w' (w.heap.size + 1) 0 b.cells := by
  subst hW
  refine ⟨((Below.refl _ _).alloc (Nat.le_refl _) _).alloc (by simp) _, fun w' hb => ⟨?_, ?_⟩⟩
  · have h : Lies ((w.alloc (.cells a.cells 113)).alloc (.cells b.cells 113)) w.heap.size 0 a.cells := Lies.new w a.cells _ ((Below.refl _ _).alloc (Nat.le_refl _) _)
    exact h.below hb h.lt
  · have h := Lies.new (w.alloc (.cells a.cells 113)) b.cells 113 (Below.refl _ _)
    rw [show (w.alloc (.cells a.cells 113)).heap.size = w.heap.size + 1 by simp] at h
    exact h.below hb h.lt
set_option maxRecDepth 100000 in
set_option maxHeartbeats 1000000 in
theorem compare_any (a b : It) (w : World) :
    Calls Tryz.prog 47 #[a.val, b.val] w fun e w' => e = .returned (.int .i64 (cmpT a b)) ∧ Below w.heap.size w w' := by
  obtain ⟨W, hW⟩ : ∃ W, W = (w.alloc (.cells a.cells 113)).alloc (.cells b.cells 113) := ⟨_, rfl⟩
  obtain ⟨hb, hx⟩ := two_items w a b hW
  have HB := Lib.hid hb
  have HC : Hid (∀ w', Below W.heap.size W w' → w'.cell? ⟨w.heap.size, 0, none⟩ = some (.int .i64 a.rank) ∧ w'.cell? ⟨w.heap.size, 1, none⟩ = some (.int .i64 a.num) ∧ w'.cell? ⟨w.heap.size + 1, 0, none⟩ = some (.int .i64 b.rank) ∧ w'.cell? ⟨w.heap.size + 1, 1, none⟩ = some (.int .i64 b.num)) := Lib.hid (fun w' h => ⟨(hx w' h).1.cell 0 (by decide : 0 < 13), (hx w' h).1.cell 1 (by decide : 1 < 13), (hx w' h).2.cell 0 (by decide : 0 < 13), (hx w' h).2.cell 1 (by decide : 1 < 13)⟩)
  have C1 : Hid (∀ w', Below W.heap.size W w' → Calls Tryz.prog 83 #[.int .i64 a.rank, .int .i64 b.rank] w' fun e w1 => e = .returned (.int .i64 (cmpI a.rank b.rank)) ∧ Below W.heap.size W w1) := Lib.hid (fun w' h => (cmpI_any _ _ w').mono fun _ _ hh => ⟨hh.1, by rw [hh.2]; exact h⟩)
  have C2 : Hid (∀ w', Below W.heap.size W w' → Calls Tryz.prog 83 #[.int .i64 a.num, .int .i64 b.num] w' fun e w1 => e = .returned (.int .i64 (cmpI a.num b.num)) ∧ Below W.heap.size W w1) := Lib.hid (fun w' h => (cmpI_any _ _ w').mono fun _ _ hh => ⟨hh.1, by rw [hh.2]; exact h⟩)
  unfold It.val cmpT
  generalize cmpI a.rank b.rank = x at *
  generalize cmpI a.num b.num = y at *
  obtain ⟨R1, hR1⟩ : ∃ R1, R1 = a.cells := ⟨_, rfl⟩
  obtain ⟨R2, hR2⟩ : ∃ R2, R2 = b.cells := ⟨_, rfl⟩
  rw [← hR1, ← hR2] at hW ⊢
  clear hb hx hR1 hR2
  generalize a.rank = ar at *
  generalize b.rank = br at *
  generalize a.num = an at *
  generalize b.num = bn at *
  go_enter Tryz.func47, Tryz.ntmps47
  go_upto_region 1 with fail
  rw [← hW]
  clear hW
  refine (wpIn_wide (n := 3)).1 ?_
  refine wpIn_grow_tail (fun w' => Below W.heap.size W w') (Below.refl _ _).drew 10 (by kernel_rfl) (by kernel_rfl) (by kernel_rfl) ?_
  simp only [List.take_succ_cons, List.take_zero, List.drop_succ_cons, List.drop_zero]
  (refine wpQuietIn_step (fun _ _ _ _ => trivial) (fun K hK => ?_); go_simp; refine ⟨_, fun _ _ => rfl, hK _ ?_⟩; clear hK K)
  refine wpQ_readw (.int .i64 ar) (fun _ _ _ _ => trivial) rfl (fun w' hw => ?_) ?_
  · obtain ⟨c0, c1, c2, c3⟩ := HC.out w' hw
    unfold Oper.quietAtIn
    go_simp
  simp only [Act.put, List.setIfInBounds_toArray, List.set_cons_zero, List.set_cons_succ]
  (refine wpQuietIn_step (fun _ _ _ _ => trivial) (fun K hK => ?_); go_simp; refine ⟨_, fun _ _ => rfl, hK _ ?_⟩; clear hK K)
  refine wpQ_readw (.int .i64 br) (fun _ _ _ _ => trivial) rfl (fun w' hw => ?_) ?_
  · obtain ⟨c0, c1, c2, c3⟩ := HC.out w' hw
    unfold Oper.quietAtIn
    go_simp
  simp only [Act.put, List.setIfInBounds_toArray, List.set_cons_zero, List.set_cons_succ]
  refine wpQuietIn_step (fun _ _ _ _ => trivial) (fun K hK => ?_)
  go_simp
  refine ⟨.int .i64 x, fun w' hw => callsIn_wide.2 (C1.out w' hw), hK _ ?_⟩
  clear hK K
  (refine wpQuietIn_step (fun _ _ _ _ => trivial) (fun K hK => ?_); go_simp; refine ⟨_, fun _ _ => rfl, hK _ ?_⟩; clear hK K)
  refine wpQ_readw (.int .i64 an) (fun _ _ _ _ => trivial) rfl (fun w' hw => ?_) ?_
  · obtain ⟨c0, c1, c2, c3⟩ := HC.out w' hw
    unfold Oper.quietAtIn
    go_simp
  simp only [Act.put, List.setIfInBounds_toArray, List.set_cons_zero, List.set_cons_succ]
  (refine wpQuietIn_step (fun _ _ _ _ => trivial) (fun K hK => ?_); go_simp; refine ⟨_, fun _ _ => rfl, hK _ ?_⟩; clear hK K)
  refine wpQ_readw (.int .i64 bn) (fun _ _ _ _ => trivial) rfl (fun w' hw => ?_) ?_
  · obtain ⟨c0, c1, c2, c3⟩ := HC.out w' hw
    unfold Oper.quietAtIn
    go_simp
  simp only [Act.put, List.setIfInBounds_toArray, List.set_cons_zero, List.set_cons_succ]
  refine wpQuietIn_step (fun _ _ _ _ => trivial) (fun K hK => ?_)
  go_simp
  refine ⟨.int .i64 y, fun w' hw => callsIn_wide.2 (C2.out w' hw), hK _ ?_⟩
  clear hK K
  refine wpQuietIn_nil ?_
  rintro w' hw
  have HN : Hid (Lies (w'.alloc (.cells #[.int .i64 x, .int .i64 y] 3)) w'.heap.size 0 #[.int .i64 x, .int .i64 y]) := Lib.hid (Lies.new w' _ _ (Below.refl _ _))
  have CO := Lib.hid (or2_any x y w'.heap.size _ (HN.out.cell 0 (by decide : 0 < 2)) (HN.out.cell 1 (by decide : 1 < 2)))
  have HBX := Lib.hid (HB.out.trans ((hw.alloc hw.size (.cells #[.int .i64 x, .int .i64 y] 3)).mono HB.out.size))
  clear hw HN
  gi_wp2
  refine ⟨trivial, callsIn_wide.2 ((CO.out).mono ?_)⟩
  rintro e w2 ⟨rfl, rfl⟩
  gi_wp2
  go_wp2
  go_ret
  exact ⟨rfl, HBX.out⟩
end Go.Proofs.YtldhlknmabpanaaGreat.Mq
namespace Go.Proofs.YtldhlknmabpanaaGreat.Mq
open Go.RowKit

theorem infoI : (Tryz.prog.info? 113).map (·.size) = some 13 := by kernel_rfl
theorem load_item {w : World} {b o : Nat} {x : It} (h : Lies w b o x.cells) : (Instr.loadAt 113 (.pointer (some ⟨b, o, none⟩))).run Tryz.prog w = .ok (.agg x.cells) w := h.loadAt 113 _ Tryz.underlying113 rfl infoI
/-- Where an item belongs. -/
structure Place (l : List It) (x : It) (P : Nat) : Prop where
  le : P ≤ l.length
  lo : ∀ t y, t < P → l[t]? = some y → cmpT y x < 0
  hi : ∀ t y, P ≤ t → l[t]? = some y → ¬ cmpT y x < 0
/-- What the search answers. -/
def FoundAt (P : Nat) (e : Ending) : Prop := ∃ b, e = .returned (.tuple #[.int .i64 (P : Int), .bool b])
set_option maxRecDepth 100000 in
set_option maxHeartbeats 2000000 in
theorem search_any (x : It) (P : Nat) (A : Option Addr) (n C : Nat) (l : List It) (hP : Place l x P) (hn : n ≤ 1000) (w : World) (h : OwnT w 0 (.slice A n C) n l) :
    Calls Tryz.prog 46 #[.slice A n C, x.val, .func (.func 47) #[] #[]] w fun e w' => FoundAt P e ∧ Below w.heap.size w w' := by
  have HP := Lib.hid hP
  have hl := h.length
  have hPn : P ≤ n := by have := hP.le; omega
  have HC := Lib.hid (fun y w => compare_any y x w)
  obtain ⟨W0, hW⟩ : ∃ W0, W0 = w.alloc (.cells x.cells 113) := ⟨_, rfl⟩
  have hb0 : Below w.heap.size w W0 := by rw [hW]; exact (Below.refl w.heap.size w).alloc (Nat.le_refl _) _
  have hx0 : Lies W0 w.heap.size 0 x.cells := by rw [hW]; exact Lies.new w x.cells _ (Below.refl _ _)
  have HALL : Hid (∀ w', Below W0.heap.size W0 w' → Lies w' w.heap.size 0 x.cells ∧ OwnT w' 0 (.slice A n C) n l) := Lib.hid (fun w' hb => ⟨hx0.below hb hx0.lt, (h.below hb0 (Nat.le_refl _)).below hb (Nat.le_refl _)⟩)
  have HL := Lib.hid hl
  have HB0 := Lib.hid hb0
  have hni : (n : Int) ≤ 1000 := by omega
  unfold It.val at *
  clear h hP hb0 hx0 hl hn
  obtain ⟨RX, hRX⟩ : ∃ RX, RX = x.cells := ⟨_, rfl⟩
  rw [← hRX] at hW ⊢
  have HRX := Lib.hid hRX
  clear hRX
  go_enter Tryz.func46, Tryz.ntmps46
  go_upto_region 1 with fail
  rw [← hW]
  clear hW
  go_wp2
  go_loopw [9, 10] (fun i j wr => ∃ (lo hi : Nat), lo ≤ P ∧ P ≤ hi ∧ hi ≤ n ∧ i = .int .i64 lo ∧ j = .int .i64 hi ∧ Hid (Below W0.heap.size W0 wr)) (fun i j _ => (intOf j).toNat - (intOf i).toNat)
  case atStart => exact ⟨0, n, Nat.zero_le _, hPn, Nat.le_refl _, rfl, rfl, Lib.hid (Below.refl _ _)⟩
  case round =>
    obtain ⟨lo, hi, h1, h2, h3, rfl, rfl, HB⟩ := hrel
    by_cases hlt : lo < hi
    · have hm : (lo + hi) / 2 < n := by omega
      obtain ⟨y, hy⟩ : ∃ y, l[(lo + hi) / 2]? = some y := ⟨_, List.getElem?_eq_getElem (by rw [HL.out]; exact hm)⟩
      obtain ⟨g, rfl, _, hgl, hly⟩ := (HALL.out wr HB.out).2.at_ _ y hy
      have HLY : Hid (∀ w', Below wr.heap.size wr w' → Lies w' w.heap.size 0 x.cells ∧ Lies w' g ((lo + hi) / 2 * 13) y.cells) := Lib.hid (fun w' hb => ⟨(HALL.out wr HB.out).1.below hb (HALL.out wr HB.out).1.lt, hly.below hb hgl⟩)
      have CY : Hid (∀ w', Below wr.heap.size wr w' → Calls Tryz.prog 47 #[.agg y.cells, .agg x.cells] w' fun e w1 => e = .returned (.int .i64 (cmpT y x)) ∧ Below wr.heap.size wr w1) := Lib.hid (fun w' hb => (HC.out y w').mono fun _ _ hh => ⟨hh.1, hb.trans (hh.2.mono hb.size)⟩)
      have HYL := Lib.hid (fun h => HP.out.lo _ y h hy)
      have HYH := Lib.hid (fun h => HP.out.hi _ y h hy)
      clear hly hy hgl
      generalize cmpT y x = z at *
      go_upto_region 5 with fail
      obtain ⟨m, hmm⟩ : ∃ m, m = (lo + hi) / 2 := ⟨_, rfl⟩
      have hmz : ((lo : Int) + (hi : Int)) / 2 = (m : Int) := by omega
      rw [← hmm] at hm HLY HYL HYH
      have hlm : lo ≤ m ∧ m < hi := by omega
      have i1 : (m : Int) < (n : Int) := by omega
      have i2 : (m : Int) ≤ 1000 := by omega
      have i3 : (0 : Int) ≤ (m : Int) := by omega
      have HM : Hid (lo ≤ m ∧ m < hi ∧ lo ≤ P ∧ P ≤ hi ∧ hi ≤ n) := Lib.hid ⟨hlm.1, hlm.2, h1, h2, h3⟩
      rw [hmz]
      clear hmm hmz hlm h1 h2 h3 hm hPn hlt
      refine (wpIn_wide (n := 3)).1 ?_
      refine wpIn_class (fun w' => Below wr.heap.size wr w') (Below.refl _ _).drew rfl (by kernel_rfl) (by kernel_rfl) ?_
      iterate 4 (refine wpQuietIn_step (fun _ _ _ _ => trivial) (fun K hK => ?_); go_simp; refine ⟨_, fun _ _ => rfl, hK _ ?_⟩; clear hK K)
      refine wpQ_readw (.agg y.cells) (fun _ _ _ _ => trivial) rfl (fun w' hw => ?_) ?_
      · exact quiet_loadAt 113 _ (.pointer (some ⟨g, m * 13, none⟩)) rfl rfl (load_item (HLY.out w' hw).2)
      simp only [Act.put, List.setIfInBounds_toArray, List.set_cons_zero, List.set_cons_succ]
      refine wpQ_readw (.agg x.cells) (fun _ _ _ _ => trivial) rfl (fun w' hw => ?_) ?_
      · exact quiet_loadAt 113 _ (.pointer (some ⟨w.heap.size, 0, none⟩)) rfl rfl (load_item (HLY.out w' hw).1)
      simp only [Act.put, List.setIfInBounds_toArray, List.set_cons_zero, List.set_cons_succ]
      refine wpQuietIn_step (fun _ _ _ _ => trivial) (fun K hK => ?_)
      go_simp
      refine ⟨.int .i64 z, fun w' hw => callsIn_wide.2 (CY.out w' hw), hK _ ?_⟩
      clear hK K
      (refine wpQuietIn_step (fun _ _ _ _ => trivial) (fun K hK => ?_); go_simp; refine ⟨_, fun _ _ => rfl, hK _ ?_⟩; clear hK K)
      refine wpQuietIn_nil ?_
      rintro w1 hw
      have HB2 : Hid (Below W0.heap.size W0 w1) := Lib.hid (HB.out.trans (hw.mono HB.out.size))
      clear hw
      by_cases hz : z < 0
      · have z1 : P ≤ m → False := fun h => absurd hz (HYH.out h)
        have Z1 := Lib.hid z1
        clear z1
        go_wp2
        go_roundw
        case rel => exact ⟨m + 1, hi, Nat.lt_of_not_le Z1.out, HM.out.2.2.2.1, HM.out.2.2.2.2, by go_num, rfl, HB2⟩
        case measure => have := HM.out; simp [intOf] <;> omega
      · have z1 : m < P → False := fun h => absurd (HYL.out h) hz
        have Z1 := Lib.hid z1
        clear z1
        go_wp2
        go_roundw
        case rel => exact ⟨lo, m, HM.out.2.2.1, Nat.le_of_not_lt Z1.out, by have := HM.out; omega, rfl, rfl, HB2⟩
        case measure => have := HM.out; simp [intOf] <;> omega
    · obtain rfl : lo = P := by omega
      obtain rfl : hi = lo := by omega
      clear h1 h2 hlt
      by_cases hlt : hi < n
      · obtain ⟨y, hy⟩ : ∃ y, l[hi]? = some y := ⟨_, List.getElem?_eq_getElem (by rw [HL.out]; exact hlt)⟩
        obtain ⟨g, rfl, _, hgl, hly⟩ := (HALL.out wr HB.out).2.at_ _ y hy
        have HLY : Hid (∀ w', Below wr.heap.size wr w' → Lies w' w.heap.size 0 x.cells ∧ Lies w' g (hi * 13) y.cells) := Lib.hid (fun w' hb => ⟨(HALL.out wr HB.out).1.below hb (HALL.out wr HB.out).1.lt, hly.below hb hgl⟩)
        have CY : Hid (∀ w', Below wr.heap.size wr w' → Calls Tryz.prog 47 #[.agg y.cells, .agg x.cells] w' fun e w1 => e = .returned (.int .i64 (cmpT y x)) ∧ Below wr.heap.size wr w1) := Lib.hid (fun w' hb => (HC.out y w').mono fun _ _ hh => ⟨hh.1, hb.trans (hh.2.mono hb.size)⟩)
        clear hly hy hgl
        generalize cmpT y x = z at *
        have i1 : (hi : Int) < (n : Int) := by omega
        have i2 : (0 : Int) ≤ (hi : Int) := by omega
        have i3 : (hi : Int) ≤ 1000 := by omega
        have i4 : ((hi : Int) < (n : Int)) = True := eq_true i1
        clear hlt h3 hPn
        go_upto_region 8 with fail
        refine (wpIn_wide (n := 3)).1 ?_
        refine wpIn_class (fun w' => Below wr.heap.size wr w') (Below.refl _ _).drew rfl (by kernel_rfl) (by kernel_rfl) ?_
        iterate 9 (refine wpQuietIn_step (fun _ _ _ _ => trivial) (fun K hK => ?_); go_simp; refine ⟨_, fun _ _ => rfl, hK _ ?_⟩; clear hK K)
        refine wpQ_readw (.agg y.cells) (fun _ _ _ _ => trivial) rfl (fun w' hw => ?_) ?_
        · exact quiet_loadAt 113 _ (.pointer (some ⟨g, hi * 13, none⟩)) rfl rfl (load_item (HLY.out w' hw).2)
        simp only [Act.put, List.setIfInBounds_toArray, List.set_cons_zero, List.set_cons_succ]
        refine wpQ_readw (.agg x.cells) (fun _ _ _ _ => trivial) rfl (fun w' hw => ?_) ?_
        · exact quiet_loadAt 113 _ (.pointer (some ⟨w.heap.size, 0, none⟩)) rfl rfl (load_item (HLY.out w' hw).1)
        simp only [Act.put, List.setIfInBounds_toArray, List.set_cons_zero, List.set_cons_succ]
        refine wpQuietIn_step (fun _ _ _ _ => trivial) (fun K hK => ?_)
        go_simp
        refine ⟨.int .i64 z, fun w' hw => callsIn_wide.2 (CY.out w' hw), hK _ ?_⟩
        clear hK K
        iterate 4 (refine wpQuietIn_step (fun _ _ _ _ => trivial) (fun K hK => ?_); go_simp; refine ⟨_, fun _ _ => rfl, hK _ ?_⟩; clear hK K)
        refine wpQuietIn_nil ?_
        rintro w1 hw
        have HB2 : Hid (Below w.heap.size w w1) := Lib.hid (HB0.out.trans ((HB.out.mono HB0.out.size).trans (hw.mono (Nat.le_trans HB0.out.size HB.out.size))))
        clear hw
        go_wp2
        go_ret2
        exact ⟨⟨_, rfl⟩, HB2.out⟩
      · have i1 : ¬ (hi : Int) < (n : Int) := by omega
        have i4 : ((hi : Int) < (n : Int)) = False := eq_false i1
        go_upto_region 8 with fail
        refine (wpIn_wide (n := 3)).1 ?_
        refine wpIn_class (fun w' => Below wr.heap.size wr w') (Below.refl _ _).drew rfl (by kernel_rfl) (by kernel_rfl) ?_
        iterate 5 (refine wpQuietIn_step (fun _ _ _ _ => trivial) (fun K hK => ?_); go_simp; refine ⟨_, fun _ _ => rfl, hK _ ?_⟩; clear hK K)
        iterate 8 (refine wpQ_skip (fun _ _ _ _ => trivial) rfl ?_; simp only [Act.put, List.setIfInBounds_toArray, List.set_cons_zero, List.set_cons_succ])
        iterate 3 (refine wpQuietIn_step (fun _ _ _ _ => trivial) (fun K hK => ?_); go_simp; refine ⟨_, fun _ _ => rfl, hK _ ?_⟩; clear hK K)
        refine wpQuietIn_nil ?_
        rintro w1 hw
        have HB2 : Hid (Below w.heap.size w w1) := Lib.hid (HB0.out.trans ((HB.out.mono HB0.out.size).trans (hw.mono (Nat.le_trans HB0.out.size HB.out.size))))
        clear hw
        go_wp2
        go_ret2
        exact ⟨⟨_, rfl⟩, HB2.out⟩
end Go.Proofs.YtldhlknmabpanaaGreat.Mq
