/-
  Own text: the law's missing, walked.
-/
import Derived.Test.YtfemiflgnadfkaaSqQ
import Derived.Shelf.Abstract
namespace Go.Proofs.Ytfemiflgnadfkaa
open Go.RowKit Go.Shelf
attribute [local go_sem] Oper.semAt_some

theorem keeps_below8 {W W' : World} (h : Below W.heap.size W W') : KeepsOthers W W' :=
  ⟨h.size, fun k _ hk _ => (h.block k (Array.getElem?_eq_some_iff.1 hk).1).trans hk⟩
/-- What has been handed over, as values. -/
def valsOf {g : BitVec 64} (T : Nat) (pre : List (Hole g)) : List Value := pre.map (fun x => .int .u32 (((T : Int) - (x.1 : Int)) % 4294967296))
theorem valsOf_snoc {g : BitVec 64} (T : Nat) (pre : List (Hole g)) (x : Hole g) : valsOf T (pre ++ [x]) = valsOf T pre ++ [.int .u32 (((T : Int) - (x.1 : Int)) % 4294967296)] := by simp [valsOf]
/-- What holds between two rounds: the slice in its box, the other boxes. -/
structure MI (w : World) (base G R D T : Nat) (f : Nat → Value) {g : BitVec 64} (pre : List (Hole g)) (W : World) : Prop where
  got : ∃ v, Boxed W G 22 v ∧ W.ownsRow base 24 1 v pre.length (valsOf T pre)
  res : Boxed W R 4 (.bool false)
  doc : DRow W D f
  bel : Below w.heap.size w W
  low : base ≤ W.heap.size
theorem boxed_own8 {W W' : World} {b : Nat} {t : TypeId} {v : Value} {row : Option Nat} (h : Boxed W b t v) (hg : W.grownBy W' row) (hr : ∀ r, row = some r → ∃ o : Obj, W.heap[r]? = some o ∧ o.isCells = false) : Boxed W' b t v :=
  h.kept hg (fun e => by obtain ⟨o, ho, hc⟩ := hr b e.symm; rw [show W.heap[b]? = _ from h] at ho; cases ho; cases hc)
theorem ownsRow_own8 {W W' : World} {base n : Nat} {t : TypeId} {v : Value} {xs : List Value} {row : Option Nat} (h : W.ownsRow base t 1 v n xs) (hg : W.grownBy W' row) (hr : ∀ r, row = some r → ∃ o : Obj, W.heap[r]? = some o ∧ o.isCells = false) : W'.ownsRow base t 1 v n xs := by
  refine h.kept hg ?_
  rcases h.2 with ⟨rfl, rfl⟩ | ⟨gb, cap, cur, rfl, _, hb, _⟩
  · exact .inl rfl
  · refine .inr (fun e => ?_)
    obtain ⟨o, ho, hc⟩ := hr gb (by rw [← e]; rfl)
    rw [hb] at ho
    cases ho
    cases hc
theorem MI.own {w : World} {base G R D T B : Nat} {f : Nat → Value} {g : BitVec 64} (hB : w.heap.size ≤ B) : OwnFrom B (fun (pre : List (Hole g)) W => MI w base G R D T f pre W) := by
  intro pre W W' row h hg hr
  have hr2 : ∀ r, row = some r → ∃ o : Obj, W.heap[r]? = some o ∧ o.isCells = false := fun r e => (hr r e).2
  obtain ⟨v, hv, ho⟩ := h.got
  refine ⟨⟨v, boxed_own8 hv hg hr2, ownsRow_own8 ho hg hr2⟩, boxed_own8 h.res hg hr2, ?_, ?_, Nat.le_trans h.low hg.size⟩
  · have hd := rowIs_heap h.doc
    refine h.doc.of_block (hg.block D h.doc.lt (fun e => ?_))
    obtain ⟨o, ho, hc⟩ := hr2 D e.symm
    rw [hd] at ho
    cases ho
    cases hc
  · exact h.bel.grown hg h.bel.size (fun k e => Nat.le_trans hB (hr k e).1)
theorem info_u32 : (Try.prog.info? 24).map (fun i => (i.zero, i.size, i.bytes)) = some (some (.int .u32 0), 1, 4) := by kernel_rfl
theorem row_slice8 {w : World} {base n : Nat} {t : TypeId} {v : Value} {xs : List Value} (h : w.ownsRow base t 1 v n xs) : ∃ A C, v = .slice A n C ∧ n ≤ C := by
  rcases h.2 with ⟨rfl, rfl⟩ | ⟨g, cap, cur, rfl, _, _, h1, _⟩
  · exact ⟨_, _, rfl, Nat.le_refl _⟩
  · exact ⟨_, _, rfl, h1⟩
theorem one_cell (W : World) (z : Value) (t : TypeId) (j : Nat) (u : Value) (h : ([z] : List Value)[j]? = some u) : (W.alloc (.cells #[z] t)).cell? ((⟨W.heap.size, 0, none⟩ : Addr).add j) = some u := by
  cases j with
  | zero =>
    have e : z = u := by simpa using h
    subst e
    simp only [World.cell?, Addr.add_mid, Go.Deep.blk_alloc_new]
    rfl
  | succ j => simp at h
/-- One word is appended to a slice of the call's own, in a round. -/
theorem wpListIn_append_one {F : Fence} {n : Nat} {w1 : World} (W : World) {ops : Array Oper} {rest : List Oper} {o : Oper} {a : Act} {Q : Exit → Act → World → Prop} (hg : o.guard = none) (s x : Operand)
    (hop : o.op = .call { callee := .builtin .append, args := #[s, x], argTypes := #[22, 22] }) (base k C : Nat) (A : Option Addr) (xs : List Value) (z : Value) (hs : a.eval s = .slice A k C)
    (hx : a.eval x = .slice (some ⟨W.heap.size, 0, none⟩) 1 1) (hown : W.ownsRow base 24 1 (.slice A k C) k xs) (hz : z.oneCell' = true) (hk : k ≤ 1000) (hb : base ≤ W.heap.size) (hw1 : w1 = W.alloc (.cells #[z] 24))
    (hK : ∀ A' C' w', Hid (w'.ownsRow base 24 1 (.slice A' (k + 1) C') (k + 1) (xs ++ [z])) → Hid ((W.alloc (.cells #[z] 24)).grownBy w' (Value.slice A k C).ownBlock) → wpListIn F n Try.prog ops Q rest (a.put o.dst (.slice A' (k + 1) C')) w') :
    wpListIn F n Try.prog ops Q (o :: rest) a w1 := by
  subst hw1
  obtain ⟨i, hi, hzz⟩ := Option.map_eq_some_iff.1 info_u32
  simp only [Prod.mk.injEq] at hzz
  obtain ⟨hiz, hsz, hby⟩ := hzz
  refine wpListIn_append_own (W.alloc (.cells #[z] 24)) hg s x 22 hop base 24 i (.int .u32 0) 1 4 Try.underlying22 hi hiz hsz hby rfl (by decide) (.slice A k C) k xs hs (hown.alloc _) ⟨W.heap.size, 0, none⟩ 1 1 [z] hx rfl (one_cell W z 24) ?_ ?_ ?_ ?_ ?_
  · intro u hu
    rw [List.mem_singleton.1 hu]
    exact hz
  · unfold maxLen; omega
  · omega
  · simp; omega
  · intro v' w' h1 h2 _
    obtain ⟨A', C', rfl, _⟩ := row_slice8 h1
    exact hK A' C' w' (Lib.hid h1) (Lib.hid h2)
theorem ownsRow_cells {W : World} {base n : Nat} {t : TypeId} {v : Value} {xs : List Value} (h : W.ownsRow base t 1 v n xs) (k : Nat) (e : v.ownBlock = some k) : ∃ o : Obj, W.heap[k]? = some o ∧ o.isCells = true := by
  rcases h.2 with ⟨rfl, rfl⟩ | ⟨gb, cap, cur, rfl, _, hb, _⟩
  · simp [Value.ownBlock] at e
  · simp [Value.ownBlock] at e
    subst e
    exact ⟨_, hb, rfl⟩
theorem keeps_grown {W W' : World} {row : Option Nat} (hg : W.grownBy W' row) (hr : ∀ k, row = some k → ∃ o : Obj, W.heap[k]? = some o ∧ o.isCells = true) : KeepsOthers W W' :=
  ⟨hg.size, fun k o hk ho => (hg.block k (Array.getElem?_eq_some_iff.1 hk).1 (fun e => by
    obtain ⟨o', h1, h2⟩ := hr k e.symm
    rw [hk] at h1
    cases h1
    rw [ho] at h2
    cases h2)).trans hk⟩
theorem gl_more (g : BitVec 64) (j : Nat) : ∀ d, ∃ r, gl g (j + d) = gl g j ++ r
  | 0 => ⟨[], by simp⟩
  | d + 1 => by
    obtain ⟨r, hr⟩ := gl_more g j d
    refine ⟨r ++ (if g.getLsbD (63 - (j + d)) then [63 - (j + d)] else []), ?_⟩
    show gl g (j + d) ++ _ = _
    rw [hr, List.append_assoc]
    rfl
theorem gl_at {g : BitVec 64} {j : Nat} (hj : j < 64) (h : g.getLsbD (63 - j) = true) : (gl g 64)[(gl g j).length]? = some (63 - j) := by
  obtain ⟨r, hr⟩ := gl_more g (j + 1) (64 - (j + 1))
  rw [show j + 1 + (64 - (j + 1)) = 64 by omega, gl_set h] at hr
  rw [hr, List.append_assoc]
  simp
theorem valsOf_eq {g : BitVec 64} (T : Nat) (pre : List (Hole g)) : valsOf T pre = (holesOf pre).map (fun i => .int .u32 (((T : Int) - (i : Int)) % 4294967296)) := by
  simp [valsOf, holesOf]
theorem got_cells {W : World} {base C T : Nat} {A : Option Addr} {g : BitVec 64} {ys : List (Hole g)} (hys : holesOf ys = gl g 64) (ho : W.ownsRow base 24 1 (.slice A ys.length C) ys.length (valsOf T ys)) :
    ∀ j, j < 64 → g.getLsbD (63 - j) = true → ∃ gb, A = some ⟨gb, 0, none⟩ ∧ (gl g j).length < ys.length ∧ W.cell? ⟨gb, (gl g j).length, none⟩ = some (.int .u32 (((T : Int) - ((63 - j : Nat) : Int)) % 4294967296)) := by
  intro j hj hb
  have h1 := gl_at hj hb
  have h2 : (valsOf T ys)[(gl g j).length]? = some (.int .u32 (((T : Int) - ((63 - j : Nat) : Int)) % 4294967296)) := by rw [valsOf_eq, hys, List.getElem?_map, h1]; rfl
  have hlt : (gl g j).length < ys.length := by
    have h3 := (List.getElem?_eq_some_iff.1 h1).1
    have h4 := congrArg List.length hys
    simp only [holesOf, List.length_map] at h4
    omega
  rcases ho.2 with ⟨_, e⟩ | ⟨gb, cap, cur, e, hrest⟩
  · omega
  · have e' : A = some ⟨gb, 0, none⟩ ∧ C = cap := by simpa using e
    obtain ⟨rfl, rfl⟩ := e'
    refine ⟨gb, rfl, hlt, ?_⟩
    rw [World.ownsRow.cellAt ho _ (by omega), h2]
theorem gone_some {s : Sn} (ha : s.any = true) {i : Nat} (hi : i < 64) : s.gone.getLsbD i = !s.bts.getLsbD i := by
  unfold Sn.gone
  rw [ha, if_pos rfl, BitVec.getLsbD_not]
  simp [hi]
theorem gone_none {s : Sn} (ha : s.any = false) (i : Nat) : s.gone.getLsbD i = false := by
  unfold Sn.gone
  rw [ha]
  simp
theorem func_nil (q p : Nat) (w : World) : (binOp .eql 50 (.func (.func 23) #[] #[.pointer (some ⟨q, 0, none⟩), .pointer (some ⟨p, 0, none⟩)]) Value.nilFunc).run Try.prog w = .ok (.bool false) w := by kernel_rfl
set_option maxRecDepth 100000 in
set_option maxHeartbeats 4000000 in
theorem missing8_any (s : Sn) (hT : s.top < 4294967296) (w : World) :
    Calls Try.prog 11 #[.agg s.cells, .agg (rowOf 69 s.dc)] w fun e w' => e = .returned (.bool true) ∧ Below w.heap.size w w' := by
  refine (callsIn_wide (n := 3)).1 ?_
  have hro : Fence.wide.round = none := rfl
  have X0 : SBlk (((w.alloc (.cells s.cells 27)).alloc (.cells (rowOf 69 s.dc) 30)).alloc (.cells #[.bool false] 4)) w.heap.size s := by
    have h : SBlk (w.alloc (.cells s.cells 27)) w.heap.size s := Go.Deep.blk_alloc_new w _
    exact (h.keep (Below.heap_alloc _ _ _ (by simp))).keep (Below.heap_alloc _ _ _ (by simp; omega))
  have X1 : DRow (((w.alloc (.cells s.cells 27)).alloc (.cells (rowOf 69 s.dc) 30)).alloc (.cells #[.bool false] 4)) (w.heap.size + 1) s.dc := by
    have := (rowIs_new (w.alloc (.cells s.cells 27)) 69 s.dc 30).alloc (.cells #[.bool false] 4)
    simpa using this
  have X2 : Boxed (((w.alloc (.cells s.cells 27)).alloc (.cells (rowOf 69 s.dc) 30)).alloc (.cells #[.bool false] 4)) (w.heap.size + 1 + 1) 4 (.bool false) := by
    have := Boxed.new ((w.alloc (.cells s.cells 27)).alloc (.cells (rowOf 69 s.dc) 30)) 4 (.bool false)
    simpa using this
  have X3 : Below w.heap.size w (((w.alloc (.cells s.cells 27)).alloc (.cells (rowOf 69 s.dc) 30)).alloc (.cells #[.bool false] 4)) := (((Below.refl _ _).alloc (Nat.le_refl _) _).alloc (by simp) _).alloc (by simp; omega) _
  have CM : Hid (∀ w', SBlk w' w.heap.size s → CallsIn Fence.wide 2 Try.prog 19 #[.pointer (some ⟨w.heap.size, 0, none⟩)] w' (Missed s w')) := Lib.hid (fun w' h => callsIn_wide.2 (missed_any _ s w' h))
  have HX0 := Lib.hid X0
  have HX1 := Lib.hid X1
  have HX2 := Lib.hid X2
  have HX3 := Lib.hid X3
  clear X0 X1 X2 X3
  generalize hR : rowOf 69 s.dc = R at *
  generalize hS : s.cells = S at *
  clear hR hS
  refine callsIn_of_wp_marks Try.func11 rfl trivial ?_ hro
  simp only [Try.ntmps11, List.size_toArray, List.length_cons, List.length_nil, Nat.reduceAdd, Nat.reduceSub, Array.replicate_succ, Array.replicate_zero, List.push_toArray, List.append_toArray, List.nil_append, List.cons_append]
  gi_wp2_with (refine ⟨trivial, ?_⟩; gi_at_call 19; refine (CM.out _ HX0.out).mono ?_; rintro e w3 ⟨q, p, rfl, hq, hp, hb3⟩; have fnil := func_nil q p; have HQ := Lib.hid hq; have HP := Lib.hid hp; have HB3 := Lib.hid hb3; clear hq hp hb3)
  have hqb : q < w3.heap.size := cell_lt8 HQ.out
  have hpb : p < w3.heap.size := cell_lt8 HP.out
  have hbs := HX3.out.size
  have hb3s := HB3.out.size
  have bW : Below w3.heap.size w3 (w3.alloc (.cells #[.slice none 0 0] 22)) := (Below.refl _ _).alloc (Nat.le_refl _) _
  have Y0 : MI w (w3.alloc (.cells #[.slice none 0 0] 22)).heap.size w3.heap.size (w.heap.size + 1 + 1) (w.heap.size + 1) s.top s.dc ([] : List (Hole s.gone)) (w3.alloc (.cells #[.slice none 0 0] 22)) :=
    ⟨⟨_, Boxed.new w3 22 (.slice none 0 0), World.ownsRow_nil _ _ _ _⟩, Boxed.alloc (show Boxed w3 (w.heap.size + 1 + 1) 4 (.bool false) from (HB3.out.block _ HX2.out.lt).trans HX2.out) _, (HX1.out.of_block (HB3.out.block _ HX1.out.lt)).alloc _, (HX3.out.trans (HB3.out.mono hbs)).alloc (Nat.le_trans hbs hb3s) _, Nat.le_refl _⟩
  have HY0 := Lib.hid Y0
  have HBS : Hid (w.heap.size ≤ (w3.alloc (.cells #[.slice none 0 0] 22)).heap.size) := Lib.hid (by have := Y0.bel.size; omega)
  have HR2 : Hid (w.heap.size + 1 + 1 < w3.heap.size) := Lib.hid (Nat.lt_of_lt_of_le HX2.out.lt hb3s)
  clear Y0 hbs hb3s
  refine wpIn_rangeFunc_ownG hro (by omega) (gf := 23) (lb := #[.pointer (some ⟨q, 0, none⟩), .pointer (some ⟨p, 0, none⟩)]) rfl trivial (enters_of Try.func23 (by kernel_rfl) rfl)
    (miss_stops Fence.wide 2 trivial hro (by omega) q p s.top hT s.gone (w3.alloc (.cells #[.slice none 0 0] 22)) (by simp; omega) (by simp; omega) ((bW.cell (p := ⟨q, 0, none⟩) hqb).trans HQ.out) ((bW.cell (p := ⟨p, 0, none⟩) hpb).trans HP.out))
    Km.trans' (fun W l o o' _ h2 h3 _ => Km.obj W l o o' h2 h3) (Below.refl _ _) (fun _ => rfl)
    (fun pre W => MI w (w3.alloc (.cells #[.slice none 0 0] 22)).heap.size w3.heap.size (w.heap.size + 1 + 1) (w.heap.size + 1) s.top s.dc pre W)
    (fun c pre W => False)
    (MI.own HBS.out)
    (fun c _ _ _ _ hs _ _ => hs)
    HY0.out
    (fun x => { tmps := #[.agg S, .agg R, .pointer (some ⟨w.heap.size, 0, none⟩), .pointer (some ⟨w.heap.size + 1, 0, none⟩), .pointer (some ⟨w.heap.size + 1 + 1, 0, none⟩), .func (.func 23) #[] #[.pointer (some ⟨q, 0, none⟩), .pointer (some ⟨p, 0, none⟩)], .pointer (some ⟨w3.heap.size, 0, none⟩), .int .u32 (((s.top : Int) - (x.1 : Int)) % 4294967296), undef, undef, .func (.func 23) #[] #[.pointer (some ⟨q, 0, none⟩), .pointer (some ⟨p, 0, none⟩)], .func (.func 23) #[] #[.pointer (some ⟨q, 0, none⟩), .pointer (some ⟨p, 0, none⟩)], .bool false, .func (.func 23) #[] #[.pointer (some ⟨q, 0, none⟩), .pointer (some ⟨p, 0, none⟩)], .int .u32 (((s.top : Int) - (x.1 : Int)) % 4294967296), undef, undef, undef, undef, undef, undef, undef, undef, undef, undef, undef, undef, undef, undef, undef, undef, undef, undef, undef, undef, undef, undef, undef, undef, undef, undef, undef, undef, undef, undef, undef, undef, undef, undef, undef, undef, undef, undef, undef, undef, undef, undef], defers := [] }) ?assign ?body ?done ?stop
  case assign =>
    intro l x W K hK
    dsimp only at hK ⊢
    gi_wp2
    exact hK
  case body =>
    rintro l0 pre x W hI hlen
    obtain ⟨v, hv, ho⟩ := hI.got
    obtain ⟨A, C, rfl, hnC⟩ := row_slice8 ho
    dsimp only
    have cG := hv.cell
    have hn1 : ¬ (100 : Int) < (pre.length : Int) := by omega
    obtain ⟨y, hz⟩ : ∃ y : Int, y = ((s.top : Int) - (x.1 : Int)) % 4294967296 := ⟨_, rfl⟩
    have hzone : (Value.int .u32 y).oneCell' = true := rfl
    have HZO := Lib.hid hzone
    have HLW : Hid (w3.heap.size + 1 ≤ W.heap.size) := Lib.hid (by have := hI.low; simpa using this)
    have HLB := Lib.hid hI.low
    have HK1 : Hid (pre.length ≤ 1000) := Lib.hid (by omega)
    have HG9 : Hid (∀ w5 : World, (W.alloc (.cells #[.int .u32 y] 24)).grownBy w5 (Value.slice A pre.length C).ownBlock → Boxed w5 w3.heap.size 22 (.slice A pre.length C)) := Lib.hid (fun w5 hg => (Boxed.alloc hv _).kept hg (fun e => by
      have := (ho.lt _ e.symm).1
      simp only [World.size_alloc] at this
      omega))
    have HOO := Lib.hid ho
    have HII := Lib.hid hI
    have HZ := Lib.hid hz
    rw [← hz]
    clear hz hzone hv ho hI
    gi_wp2_with (first
      | (gi_at_builtin; (with_reducible refine wpListIn_append_one W rfl (.tmp 18) (.tmp 20) rfl (w3.alloc (.cells #[.slice none 0 0] 22)).heap.size pre.length C A (valsOf s.top pre) (.int .u32 y) rfl rfl HOO.out HZO.out HK1.out HLB.out rfl ?_); intro A5 C5 w5 HO5 HG5; have c5 := (HG9.out w5 HG5.out).cell; have f5 := (HG9.out w5 HG5.out).frozen)
      | fail)
    have hlow : w3.heap.size ≤ W.heap.size := Nat.le_of_succ_le HLW.out
    have bA : Below w3.heap.size W (W.alloc (.cells #[.int .u32 y] 24)) := (Below.refl _ _).alloc hlow _
    have bG : Below w3.heap.size W w5 := bA.grown HG5.out (by simp only [World.size_alloc]; omega) (fun k e => by
      have := (HOO.out.lt k e).1
      simp only [World.size_alloc] at this
      omega)
    have b9 : Below w3.heap.size W (w5.setCell ⟨w3.heap.size, 0, none⟩ (.slice A5 (pre.length + 1) C5)) := bG.setCell (p := ⟨w3.heap.size, 0, none⟩) (Nat.le_refl _) _
    have hrow : ∀ k, (Value.slice A pre.length C).ownBlock = some k → ∃ o : Obj, (W.alloc (.cells #[.int .u32 y] 24)).heap[k]? = some o ∧ o.isCells = true := ownsRow_cells (HOO.out.alloc _)
    have k1 : KeepsOthers W w5 := (keeps_below8 ((Below.refl W.heap.size W).alloc (Nat.le_refl _) (.cells #[.int .u32 y] 24))).trans (keeps_grown HG5.out hrow)
    have hG5 := HG9.out w5 HG5.out
    have hwb := HII.out.bel
    have h3w : w.heap.size + 1 + 1 < w3.heap.size := HR2.out
    refine ⟨(k1.trans (KeepsOthers.setCell _ _ _)).from _, Km.below b9 hqb hpb, ⟨⟨.slice A5 (pre.length + 1) C5, hG5.set _, ?_⟩, (b9.block _ h3w).trans HII.out.res, HII.out.doc.of_block (b9.block _ (by omega)), hwb.trans (b9.mono (by omega)), by have := b9.size; have := HLW.out; omega⟩⟩
    rw [valsOf_snoc, List.length_append, List.length_singleton, ← HZ.out]
    have HO6 := HO5.out
    rw [World.size_alloc] at HO6
    refine HO6.kept (grownBy_setCell' _ _ _) (.inr (fun e => ?_))
    have := (HO6.lt _ e).1
    omega
  case done =>
    rintro D ys W hD hys hI hK
    obtain ⟨v, hv, ho⟩ := hI.got
    obtain ⟨A, C, rfl, hnC⟩ := row_slice8 ho
    have hyl : ys.length = (gl s.gone 64).length := by have := congrArg List.length (show holesOf ys = gl s.gone 64 from hys); simpa [holesOf] using this
    have HC := Lib.hid (got_cells (show holesOf ys = gl s.gone 64 from hys) ho)
    rw [hyl] at hv hnC HC
    have hL : (gl s.gone 64).length ≤ 64 := gl_length _ _
    have c0 : W.cell? ⟨w.heap.size + 1, 0, none⟩ = some (.bool s.any) := hI.doc.cell (i := 0) (by omega)
    have c1 : W.cell? ⟨w.heap.size + 1, 1, none⟩ = some (.int .u32 s.top) := hI.doc.cell (i := 1) (by omega)
    have HM : Hid (∀ i, i < 64 → W.cell? ⟨w.heap.size + 1, 2 + i, none⟩ = some (.bool (s.bts.getLsbD i))) := Lib.hid (fun i hi => by rw [hI.doc.cell (i := 2 + i) (by omega), dc_mark s i hi])
    have cG := hv.cell
    have HRES := Lib.hid hI.res
    have HBEL := Lib.hid hI.bel
    obtain ⟨L, hLL⟩ : ∃ L, L = (gl s.gone 64).length := ⟨_, rfl⟩
    rw [← hLL] at cG hnC hL HC
    have HLL := Lib.hid hLL
    clear hv ho hI hyl hys hLL
    dsimp only
    gi_wp2
    rw [wpIn_wide]
    go_loopw [8, 9] (fun kv iv wr => ∃ j nq : Nat, j ≤ 64 ∧ iv = .int .i64 ((63 : Int) - j) ∧ kv = .int .i64 ((gl s.gone j).length : Nat) ∧ wr = W.drewN nq) (fun _ iv _ => (intOf iv + 1).toNat)
    case atStart => exact ⟨0, 0, by omega, by simp, rfl, rfl⟩
    case round =>
      obtain ⟨j, nq, hj, rfl, rfl, rfl⟩ := hrel
      by_cases hlt : j < 64
      · obtain ⟨i, hi⟩ : ∃ i, 63 - j = i := ⟨_, rfl⟩
        have hi2 : (63 : Int) - j = i := by omega
        have hi3 : i < 64 := by omega
        have q0 : (0 : Int) ≤ i := by omega
        have q1 : (i : Int) < 64 := by omega
        rw [hi2]
        have cm := HM.out i hi3
        have hkl := gl_length s.gone j
        obtain ⟨k, hk⟩ : ∃ k, k = (gl s.gone j).length := ⟨_, rfl⟩
        rw [← hk] at hkl ⊢
        have HK := Lib.hid hk
        clear hk
        have HI := Lib.hid hi
        cases ha : s.any
        · rw [ha] at c0
          have hg : s.gone.getLsbD i = false := gone_none ha i
          have HG := Lib.hid (gl_not (g := s.gone) (k := j) (by rw [hi]; exact hg))
          clear hg ha hi
          go_wp2
          go_roundw
          case rel => exact ⟨j + 1, nq, by omega, by go_num, by rw [HG.out, ← HK.out], rfl⟩
          case measure => simp [intOf] <;> omega
        · rw [ha] at c0
          cases hb : s.bts.getLsbD i
          · have hg : s.gone.getLsbD i = true := by rw [gone_some ha hi3, hb]; rfl
            obtain ⟨gb, rfl, hkL, hcell⟩ := HC.out j hlt (by rw [hi]; exact hg)
            have HG := Lib.hid (congrArg List.length (gl_set (g := s.gone) (k := j) (by rw [hi]; exact hg)))
            rw [hi, ← HK.out] at hcell
            rw [← HK.out] at hkL
            rw [hb] at cm
            clear hg ha hi hb
            have k0 : (0 : Int) ≤ k := by omega
            have k1 : (k : Int) < (L : Int) := by omega
            have k2 : decide ((L : Int) ≤ (k : Int)) = false := decide_eq_false (by omega)
            have k3 : decide (L ≤ k) = false := decide_eq_false (by omega)
            have hwi : IntKind.u32.wrap (i : Int) = i := by rw [IntKind.wrap_u32]; omega
            have hwu : IntKind.u32.wrap ((s.top : Int) - i) = ((s.top : Int) - i) % 4294967296 := IntKind.wrap_u32 _
            go_upto_region 15 with fail
            go_quiet (fail)
            go_wp2
            go_roundw
            case rel => exact ⟨j + 1, _, by omega, by go_num, by rw [HG.out, List.length_append, ← HK.out]; simp, rfl⟩
            case measure => simp [intOf] <;> omega
          · have hg : s.gone.getLsbD i = false := by rw [gone_some ha hi3, hb]; rfl
            have HG := Lib.hid (gl_not (g := s.gone) (k := j) (by rw [hi]; exact hg))
            rw [hb] at cm
            clear hg ha hi hb
            go_wp2
            go_roundw
            case rel => exact ⟨j + 1, nq, by omega, by go_num, by rw [HG.out, ← HK.out], rfl⟩
            case measure => simp [intOf] <;> omega
      · obtain rfl : j = 64 := by omega
        rw [← HLL.out]
        have HR := Lib.hid (show Boxed (W.drewN nq) (w.heap.size + 1 + 1) 4 (.bool false) from HRES.out)
        have cR := HR.out.cell
        have fR := HR.out.frozen
        have HBD := Lib.hid (below_drewN HBEL.out nq)
        have hKd : (W.drewN nq).heap[D]? = some (.deferred (some [])) := hK
        go_wp2
        gi_wp2
        have hK' := (KeepsOthers.setCell (W.drewN nq) ⟨w.heap.size + 1 + 1, 0, none⟩ (.bool true)).same D _ hKd rfl
        refine ⟨by simp, .inl ⟨_, _, rfl, run_takeDeferred hK', ?_⟩⟩
        have hc5 := cell_kept (HR.out.set (.bool true)).cell (grownBy_putObj' _ D (.deferred none)) (fun r e => by cases e; exact ⟨_, hK', rfl⟩)
        refine ⟨.bool true, ?_, rfl, (HBD.out.setCell (p := ⟨w.heap.size + 1 + 1, 0, none⟩) (by show _ ≤ w.heap.size + 1 + 1; omega) _).trans (belowK_b (w := w) (Nat.le_refl _) _ D _ _ (by have := HBS.out; omega) hK' rfl rfl)⟩
        simp [results, Try.f11, go_sem, hc5]
  case stop =>
    rintro D c pre W _ _ h _
    exact h.elim
end Go.Proofs.Ytfemiflgnadfkaa
