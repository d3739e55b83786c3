/-
  Own text: the document's Sender: its box (167 cells), its list.
  Own text: the document's take, stamp, Choose, walked. (Written by gen_mpt.py.)
-/
import Derived.Test.YtldhlknmabpanaaGreatK23
import Derived.Test.YtldhlknmabpanaaGreatK27
namespace Go.Proofs.YtldhlknmabpanaaGreat.Mp
open Go.RowKit

/-- The cells behind the document's ways. -/
abbrev tailD (t : Sd) (A : Option Addr) (C : Nat) : Array Value := #[.int .i64 t.bk.ra, .int .i64 t.bk.bu, .int .i64 t.bk.he, .int .i64 t.bk.sp, .int .i64 t.bk.fu, .slice A t.q.l.length C, .int .i64 (t.q.room : Int), .int .u32 (t.ses : Int), .int .u32 (t.now : Int), .int .i64 (t.dr : Int), .int .i64 (t.he : Int)]
/-- The document's sender as a row of cells. -/
def dsa (t : Sd) (A : Option Addr) (C : Nat) : Array Value := rowOf 78 (t.wy 0).dc ++ rowOf 78 (t.wy 1).dc ++ tailD t A C
theorem dsa_size (t : Sd) (A : Option Addr) (C : Nat) : (dsa t A C).size = 167 := by simp [dsa, rowOf_size]
theorem info_d15 : (Tryz.prog.info? 40).map (·.size) = some 167 := by kernel_rfl
theorem infoD15 (t : Sd) (A : Option Addr) (C : Nat) : (Tryz.prog.info? 40).map (·.size) = some (dsa t A C).size := by rw [dsa_size]; exact info_d15
theorem infoP14 (p : Pn) : (Tryz.prog.info? 34).map (·.size) = some (rowOf 78 p.dc).size := by rw [rowOf_size]; exact info37
theorem oneP14 (p : Pn) : (rowOf 78 p.dc).all (·.oneCell') = true := rowOf_one p.dc_one
theorem dsa_one (t : Sd) (A : Option Addr) (C : Nat) : (dsa t A C).all (·.oneCell') = true := by
  unfold dsa
  rw [Array.all_append, Array.all_append, oneP14, oneP14]
  simp [Value.oneCell']
theorem dsa_0 (t : Sd) (A : Option Addr) (C j : Nat) (hj : j < 78) : (dsa t A C)[0 + j]? = (rowOf 78 (t.wy 0).dc)[j]? := by
  unfold dsa
  rw [Nat.zero_add, Array.getElem?_append_left (by rw [Array.size_append, rowOf_size, rowOf_size]; omega), Array.getElem?_append_left (by rw [rowOf_size]; omega)]
theorem dsa_1 (t : Sd) (A : Option Addr) (C j : Nat) (hj : j < 78) : (dsa t A C)[78 + j]? = (rowOf 78 (t.wy 1).dc)[j]? := by
  unfold dsa
  rw [Array.getElem?_append_left (by rw [Array.size_append, rowOf_size, rowOf_size]; omega), Array.getElem?_append_right (by rw [rowOf_size]; omega), rowOf_size, Nat.add_sub_cancel_left]
theorem dsa_2 (t : Sd) (A : Option Addr) (C j : Nat) : (dsa t A C)[156 + j]? = (tailD t A C)[j]? := by
  unfold dsa
  rw [Array.getElem?_append_right (by rw [Array.size_append, rowOf_size, rowOf_size]; omega), Array.size_append, rowOf_size, rowOf_size, show 156 + j - (78 + 78) = j by omega]
/-- The document's sender in a box. -/
structure DB (w : World) (b : Nat) (t : Sd) (A : Option Addr) (C : Nat) : Prop where
  w0 : Lies w b 0 (rowOf 78 (t.wy 0).dc)
  w1 : Lies w b 78 (rowOf 78 (t.wy 1).dc)
  tl : Lies w b 156 (tailD t A C)
section
variable {w w' : World} {b : Nat} {t : Sd} {A : Option Addr} {C : Nat}
theorem DB.of (h : Lies w b 0 (dsa t A C)) : DB w b t A C :=
  ⟨h.sub 0 _ (by rw [rowOf_size, dsa_size]; omega) (fun j hj => (dsa_0 t A C j (by rw [rowOf_size] at hj; exact hj)).symm),
   h.sub 78 _ (by rw [rowOf_size, dsa_size]; omega) (fun j hj => (dsa_1 t A C j (by rw [rowOf_size] at hj; exact hj)).symm),
   h.sub 156 _ (by rw [dsa_size]; exact (by decide : 156 + 11 ≤ 167)) (fun j _ => (dsa_2 t A C j).symm)⟩
theorem DB.whole (h : DB w b t A C) : Lies w b 0 (dsa t A C) := by
  obtain ⟨C0, t0, e0, s0, f0⟩ := h.w0
  obtain ⟨C1, t1, e1, s1, f1⟩ := h.w1
  obtain ⟨C2, t2, e2, s2, f2⟩ := h.tl
  rw [e0] at e1 e2
  have g1 := Option.some.inj e1
  have g2 := Option.some.inj e2
  injection g1 with g1 _ _
  injection g2 with g2 _ _
  subst g1 g2
  have hs : 156 + 11 ≤ C0.size := s2
  refine ⟨C0, t0, e0, by rw [dsa_size]; omega, fun j hj => ?_⟩
  rw [dsa_size] at hj
  rw [rowOf_size] at f0 f1
  by_cases h0 : j < 78
  · have := f0 j h0
    rw [← dsa_0 t A C j h0] at this
    rw [this, Nat.zero_add]
  · by_cases h1 : j < 156
    · have := f1 (j - 78) (by omega)
      rw [← dsa_1 t A C (j - 78) (by omega), show 78 + (j - 78) = j by omega] at this
      rw [Nat.zero_add]
      exact this
    · have := f2 (j - 156) (by show j - 156 < 11; omega)
      rw [← dsa_2 t A C (j - 156), show 156 + (j - 156) = j by omega] at this
      rw [Nat.zero_add]
      exact this
theorem DB.lt (h : DB w b t A C) : b < w.heap.size := h.tl.lt
theorem DB.keep (h : DB w b t A C) (e : w'.heap[b]? = w.heap[b]?) : DB w' b t A C := ⟨h.w0.keep e, h.w1.keep e, h.tl.keep e⟩
theorem DB.below {B : Nat} (h : DB w b t A C) (hb : Below B w w') (hB : b < B) : DB w' b t A C := h.keep (hb.block b hB)
theorem DB.way (h : DB w b t A C) {i : Nat} (hi : i < 2) : Lies w b (i * 78) (rowOf 78 (t.wy i).dc) := by
  rcases (by omega : i = 0 ∨ i = 1) with rfl | rfl
  · exact h.w0
  · exact h.w1
theorem DB.setWay (h : DB w b t A C) {i : Nat} (hi : i < 2) {q : Pn} (hp : Lies w' b (i * 78) (rowOf 78 q.dc)) (hr : Prt b (i * 78) 78 w w') : DB w' b { t with wy := upd t.wy i q } A C := by
  rcases (by omega : i = 0 ∨ i = 1) with rfl | rfl
  · exact ⟨hp, Lies.beside h.w1 hr (.inr (by decide)), Lies.beside h.tl hr (.inr (by decide))⟩
  · exact ⟨Lies.beside h.w0 hr (.inl (by rw [rowOf_size]; decide)), hp, Lies.beside h.tl hr (.inr (by decide))⟩
/-- A cell behind the ways. -/
theorem DB.tail (h : DB w b t A C) {t' : Sd} {A' : Option Addr} {C' : Nat} (j : Nat) (hj : j < 11) (v : Value) (hc : (tailD t A C).setIfInBounds j v = tailD t' A' C') (h0 : t'.wy = t.wy) : DB (w.setCell ⟨b, 156 + j, none⟩ v) b t' A' C' := by
  have hr : Prt b 156 11 w (w.setCell ⟨b, 156 + j, none⟩ v) := (Prt.refl _ _ _ _).set j hj v
  refine ⟨?_, ?_, ?_⟩
  · rw [h0]; exact Lies.beside h.w0 hr (.inl (by rw [rowOf_size]; decide))
  · rw [h0]; exact Lies.beside h.w1 hr (.inl (by rw [rowOf_size]; decide))
  · rw [← hc]; exact h.tl.set j v
theorem DB.cells (h : DB w b t A C) : (w.cell? ⟨b, 156, none⟩ = some (.int .i64 t.bk.ra) ∧ w.cell? ⟨b, 157, none⟩ = some (.int .i64 t.bk.bu) ∧ w.cell? ⟨b, 158, none⟩ = some (.int .i64 t.bk.he) ∧ w.cell? ⟨b, 159, none⟩ = some (.int .i64 t.bk.sp) ∧ w.cell? ⟨b, 160, none⟩ = some (.int .i64 t.bk.fu)) ∧ w.cell? ⟨b, 161, none⟩ = some (.slice A t.q.l.length C) ∧ w.cell? ⟨b, 162, none⟩ = some (.int .i64 (t.q.room : Int)) ∧ w.cell? ⟨b, 163, none⟩ = some (.int .u32 (t.ses : Int)) ∧ w.cell? ⟨b, 164, none⟩ = some (.int .u32 (t.now : Int)) ∧ w.cell? ⟨b, 165, none⟩ = some (.int .i64 (t.dr : Int)) ∧ w.cell? ⟨b, 166, none⟩ = some (.int .i64 (t.he : Int)) :=
  ⟨⟨h.tl.cell 0 (by decide : 0 < 11), h.tl.cell 1 (by decide : 1 < 11), h.tl.cell 2 (by decide : 2 < 11), h.tl.cell 3 (by decide : 3 < 11), h.tl.cell 4 (by decide : 4 < 11)⟩, h.tl.cell 5 (by decide : 5 < 11), h.tl.cell 6 (by decide : 6 < 11), h.tl.cell 7 (by decide : 7 < 11), h.tl.cell 8 (by decide : 8 < 11), h.tl.cell 9 (by decide : 9 < 11), h.tl.cell 10 (by decide : 10 < 11)⟩
theorem DB.frozen (h : DB w b t A C) (i : Nat) : w.frozen? ⟨b, i, none⟩ = false := h.tl.frozen i
theorem DB.rways (h : DB w b t A C) : RWays w (some ⟨b, 0, none⟩) 2 t.wy := fun i hi => ⟨b, rfl, by
  have := (h.way hi).range
  rwa [show (rowOf 78 (t.wy i).dc).toList = (List.range 78).map (t.wy i).dc by simp [rowOf]] at this⟩
end
theorem db_new (w : World) (t : Sd) (A : Option Addr) (C : Nat) (ty : TypeId) {w' : World} (h : Below (w.alloc (.cells (dsa t A C) ty)).heap.size (w.alloc (.cells (dsa t A C) ty)) w') : DB w' w.heap.size t A C := DB.of (Lies.new w (dsa t A C) ty h)
/-! ### The document's list -/
abbrev dic (x : Mq.It) : Array Value := #[.int .i64 x.rank, .int .i64 x.v.kind, .int .u32 x.v.ses, .int .u32 x.v.seq, .int .i64 x.v.path, .int .u32 x.v.tick, .int .u32 x.v.A, .int .u32 x.v.B, .int .i64 x.v.K, .int .i64 x.v.M, .int .i64 x.v.ix, .slice x.v.da x.v.dl x.v.dc]
/-- What waits, by the document: items one behind the other, wherever they lie. -/
structure DL (w : World) (A : Option Addr) (l : List Mq.It) : Prop where
  at_ : ∀ (i : Nat) (x : Mq.It), l[i]? = some x → ∃ g off, A = some ⟨g, off, none⟩ ∧ g < w.heap.size ∧ Lies w g (off + i * 12) (dic x)
theorem DL.keep {w w' : World} {A : Option Addr} {l : List Mq.It} (h : DL w A l) (e : ∀ g, A.map Addr.block = some g → g < w.heap.size → w'.heap[g]? = w.heap[g]?) (hs : w.heap.size ≤ w'.heap.size) : DL w' A l := ⟨fun i x hx => by
  obtain ⟨g, off, ea, hl, hc⟩ := h.at_ i x hx
  exact ⟨g, off, ea, Nat.lt_of_lt_of_le hl hs, hc.keep (e g (by rw [ea]; rfl) hl)⟩⟩
theorem DL.below {w w' : World} {B : Nat} {A : Option Addr} {l : List Mq.It} (h : DL w A l) (hb : Below B w w') (hB : w.heap.size ≤ B) : DL w' A l := h.keep (fun _ _ hl => hb.block _ (Nat.lt_of_lt_of_le hl hB)) hb.size
theorem DL.nil (w : World) (A : Option Addr) : DL w A [] := ⟨fun i x hx => by simp at hx⟩
theorem DL.tail {w : World} {g off : Nat} {x : Mq.It} {l : List Mq.It} (h : DL w (some ⟨g, off, none⟩) (x :: l)) : DL w (some ⟨g, off + 12, none⟩) l := ⟨fun i y hy => by
  obtain ⟨g', off', ea, hl, hc⟩ := h.at_ (i + 1) y (by simpa using hy)
  simp only [Option.some.injEq, Addr.mk.injEq, and_true] at ea
  obtain ⟨rfl, rfl⟩ := ea
  exact ⟨g, off + 12, rfl, hl, by rw [show off + 12 + i * 12 = off + (i + 1) * 12 by omega]; exact hc⟩⟩
theorem DL.first {w : World} {A : Option Addr} {x : Mq.It} {l : List Mq.It} (h : DL w A (x :: l)) : ∃ g off, A = some ⟨g, off, none⟩ ∧ g < w.heap.size ∧ Lies w g off (dic x) := by
  obtain ⟨g, off, ea, hl, hc⟩ := h.at_ 0 x rfl
  exact ⟨g, off, ea, hl, by simpa using hc⟩
theorem DL.take {w : World} {A : Option Addr} {l : List Mq.It} (h : DL w A l) (n : Nat) : DL w A (l.take n) := ⟨fun i x hx => h.at_ i x (by
  rw [List.getElem?_take] at hx
  split at hx
  · exact hx
  · cases hx)⟩
end Go.Proofs.YtldhlknmabpanaaGreat.Mp
namespace Go.Proofs.YtldhlknmabpanaaGreat.Mp
open Go.RowKit

def Sdz : Sd := ⟨fun _ => Pn.zero, 0, 0, ⟨0, 0, 0, 0, 0⟩, ⟨0, 0, []⟩, 0, 0⟩
theorem zeroD (w : World) : (zeroValue 40).run Tryz.prog w = .ok (.agg (dsa Sdz none 0)) w := by kernel_rfl
theorem results_two {fn : Func} {p q : Tmp} {t1 t2 : TypeId} (h : fn.results = #[.cell p t1, .cell q t2]) (tmps : Array Value) (w : World) (b c : Nat) (v1 v2 : Value)
    (hp : tmps.getD p undef = .pointer (some ⟨b, 0, none⟩)) (hq : tmps.getD q undef = .pointer (some ⟨c, 0, none⟩))
    (h1 : (loadVar t1 ⟨b, 0, none⟩).run Tryz.prog w = .ok v1 w) (h2 : (loadVar t2 ⟨c, 0, none⟩).run Tryz.prog w = .ok v2 w) :
    (results fn tmps).run Tryz.prog w = .ok (.tuple #[v1, v2]) w := by
  have hp' : tmps[p]?.getD undef = .pointer (some ⟨b, 0, none⟩) := by simpa using hp
  have hq' : tmps[q]?.getD undef = .pointer (some ⟨c, 0, none⟩) := by simpa using hq
  simp [results, h, hp', hq', asAddr, h1, h2]
theorem wpList_load_liesW {w : World} {ops : Array Oper} {rest : List Oper} {op : Oper} {a : Act} {Q : Exit → Act → World → Prop} (ty : TypeId) (x : Operand) (ho : op.op = .load ty x)
    (g o : Nat) (hx : a.eval x = .pointer (some ⟨g, o, none⟩)) (cs : Array Value) (hg : Lies w g o cs) (d : TypeDesc) (hu : Tryz.prog.underlying ty = some d) (hd : d.isRow = true) (hi : (Tryz.prog.info? ty).map (·.size) = some cs.size)
    (hw : Region.wanted op (yielded ops a.tmps) = true) (h : wpList Tryz.prog ops Q rest (a.put op.dst (.agg cs)) w) : wpList Tryz.prog ops Q (op :: rest) a w :=
  wpList_step fun K hK => by
    rw [if_pos hw]
    refine wp_load_mid ty x ho g o hx cs.toList d hg.range hu hd (by rw [hi]; simp) (hK _ _ ?_)
    simpa using h
/-- Two boxes of senders: the parameter's, the answer's. -/
theorem two_d (w : World) (t : Sd) (A : Option Addr) (C : Nat) {W : World} (hW : W = (w.alloc (.cells (dsa t A C) 40)).alloc (.cells (dsa Sdz none 0) 40)) : Below w.heap.size w W ∧ DB W w.heap.size t A C ∧ Lies W (w.heap.size + 1) 0 (dsa Sdz none 0) := by
  subst hW
  refine ⟨((Below.refl _ _).alloc (Nat.le_refl _) _).alloc (by simp) _, db_new w t A C _ ((Below.refl _ _).alloc (Nat.le_refl _) _), ?_⟩
  have := Lies.new (w.alloc (.cells (dsa t A C) 40)) (dsa Sdz none 0) 40 (Below.refl _ _)
  simpa using this
set_option maxRecDepth 100000 in
theorem rtake15_any (n : Int) (hn : 0 ≤ n) (t : Sd) (A : Option Addr) (C K : Nat) (hf : t.bk.fit K) (hK : K ≤ 1000000000) (w : World) :
    Calls Tryz.prog 65 #[.agg (dsa t A C), .int .i64 n] w fun e w' => e = .returned (.tuple #[.agg (dsa (t.paid n) A C), .bool (t.bk.may n)]) ∧ Below w.heap.size w w' := by
  obtain ⟨W, hW⟩ : ∃ W, W = (w.alloc (.cells (dsa t A C) 40)).alloc (.cells (dsa Sdz none 0) 40) := ⟨_, rfl⟩
  obtain ⟨hb, hd, hz⟩ := two_d w t A C hW
  have HB := Lib.hid hb
  have HD := Lib.hid hd
  have HZ := Lib.hid hz
  obtain ⟨⟨_, _, c158, c159, _⟩, _⟩ := hd.cells
  have f158 := hd.frozen 158
  have f159 := hd.frozen 159
  have zz := zeroD
  have hh1 := hf.h1
  have hh2 := hf.h2
  have hb2 := hf.b2
  have hs1 := hf.s1
  have hs2 := hf.s2
  obtain ⟨Z, hZ⟩ : ∃ Z, Z = dsa Sdz none 0 := ⟨_, rfl⟩
  obtain ⟨V, hV⟩ : ∃ V, V = dsa t A C := ⟨_, rfl⟩
  rw [← hZ] at zz hW
  rw [← hV] at hW ⊢
  have HVV := Lib.hid hV
  by_cases hm : n ≤ t.bk.he
  · have e1 : t.bk.may n = true := decide_eq_true ⟨hn, hm⟩
    have e2 : t.paid n = { t with bk := ⟨t.bk.ra, t.bk.bu, t.bk.he - n, t.bk.sp + n, t.bk.fu⟩ } := by unfold Sd.paid Bk.take; rw [if_pos e1]
    have hd1 : DB ((W.setCell ⟨w.heap.size, 158, none⟩ (.int .i64 (t.bk.he - n))).setCell ⟨w.heap.size, 159, none⟩ (.int .i64 (t.bk.sp + n))) w.heap.size (t.paid n) A C := by
      rw [e2]
      exact (hd.tail (t' := { t with bk := ⟨t.bk.ra, t.bk.bu, t.bk.he - n, t.bk.sp, t.bk.fu⟩ }) 2 (by decide) (.int .i64 (t.bk.he - n)) rfl rfl).tail 3 (by decide) (.int .i64 (t.bk.sp + n)) rfl rfl
    have HD1 := Lib.hid hd1.whole
    have HZ1 : Hid (Lies ((W.setCell ⟨w.heap.size, 158, none⟩ (.int .i64 (t.bk.he - n))).setCell ⟨w.heap.size, 159, none⟩ (.int .i64 (t.bk.sp + n))) (w.heap.size + 1) 0 (dsa Sdz none 0)) := Lib.hid ((hz.other (by show w.heap.size + 1 ≠ w.heap.size; omega) _).other (by show w.heap.size + 1 ≠ w.heap.size; omega) _)
    have HB1 : Hid (Below w.heap.size w ((W.setCell ⟨w.heap.size, 158, none⟩ (.int .i64 (t.bk.he - n))).setCell ⟨w.heap.size, 159, none⟩ (.int .i64 (t.bk.sp + n)))) := Lib.hid ((hb.setCell (p := ⟨w.heap.size, 158, none⟩) (Nat.le_refl _) _).setCell (p := ⟨w.heap.size, 159, none⟩) (Nat.le_refl _) _)
    rw [e1]
    generalize t.paid n = t2 at *
    generalize t.bk.he = he at *
    generalize t.bk.sp = sp at *
    clear e2 hd1 hd hz hb e1 hf hV hZ
    go_enter Tryz.func65, Tryz.ntmps65
    go_upto_region 1 with fail
    rw [← hW]
    clear hW zz
    go_upto_region 5 with fail
    generalize (W.setCell ⟨w.heap.size, 158, none⟩ (.int .i64 (he - n))).setCell ⟨w.heap.size, 159, none⟩ (.int .i64 (sp + n)) = W1 at *
    clear c158 c159 f158 f159
    go_wp2_with (first
      | (with_reducible refine wpList_load_lies rfl 40 (.tmp 2) rfl w.heap.size 0 rfl (dsa t2 A C) HD1.out _ Tryz.underlying40 rfl (infoD15 t2 A C) ?_)
      | ((with_reducible refine wpList_store_lies rfl 40 (.tmp 4) (.tmp 26) rfl (w.heap.size + 1) 0 rfl (dsa t2 A C) rfl (dsa Sdz none 0) HZ1.out (by rw [dsa_size, dsa_size]) (infoD15 t2 A C) (dsa_one t2 A C) ?_); intro w3 N1 N2 N3)
      | fail)
    refine bodyPost_ret (v := .tuple #[.agg (dsa t2 A C), .bool true]) (Mq.results_cell1 (p := 4) (u := 5) rfl _ w3 (w.heap.size + 1) _ _ rfl rfl (Lies.loadVar N1.out 40 _ Tryz.underlying40 rfl (infoD15 t2 A C))) rfl ?_
    exact ⟨rfl, N2.out.bel HB1.out HB1.out.size (Nat.le_succ _)⟩
  · have e1 : t.bk.may n = false := decide_eq_false (fun hh => hm hh.2)
    have e2 : t.paid n = t := by unfold Sd.paid Bk.take; rw [if_neg (by rw [e1]; decide)]
    rw [e1, e2]
    have HD1 := Lib.hid hd.whole
    clear e2 hd hz hb e1 hf hV hZ f158 f159 c159
    generalize t.bk.he = he at *
    go_enter Tryz.func65, Tryz.ntmps65
    go_upto_region 1 with fail
    rw [← hW]
    clear hW zz
    go_wp2_with (first
      | (with_reducible refine wpList_load_lies rfl 40 (.tmp 2) rfl w.heap.size 0 rfl (dsa t A C) HD1.out _ Tryz.underlying40 rfl (infoD15 t A C) ?_)
      | ((with_reducible refine wpList_store_lies rfl 40 (.tmp 4) (.tmp 11) rfl (w.heap.size + 1) 0 rfl (dsa t A C) rfl (dsa Sdz none 0) HZ.out (by rw [dsa_size, dsa_size]) (infoD15 t A C) (dsa_one t A C) ?_); intro w3 N1 N2 N3)
      | fail)
    refine bodyPost_ret (v := .tuple #[.agg (dsa t A C), .bool false]) (Mq.results_cell1 (p := 4) (u := 5) rfl _ w3 (w.heap.size + 1) _ _ rfl rfl (Lies.loadVar N1.out 40 _ Tryz.underlying40 rfl (infoD15 t A C))) rfl ?_
    exact ⟨rfl, N2.out.bel HB.out HB.out.size (Nat.le_succ _)⟩
theorem rowOf_number (p : Pn) : (rowOf 78 p.dc).setIfInBounds 77 (.int .u32 (((p.nx + 1) % 4294967296 : Nat) : Int)) = rowOf 78 p.number.dc := by
  rw [rowOf_set]
  refine rowOf_congr (fun i hi => ?_)
  by_cases h : i = 77
  · subst h; rfl
  · rw [if_neg h]
    unfold Pn.dc Pn.number pcl
    dsimp only
    split
    · rfl
    · split
      · rfl
      · split
        · rfl
        · split
          · rfl
          · split
            · rfl
            · split
              · rfl
              · split
                · rfl
                · split
                  · rfl
                  · split
                    · rfl
                    · have : i = 77 := by omega
                      exact absurd this h
set_option maxRecDepth 100000 in
set_option maxHeartbeats 2000000 in
theorem rstamp15_any (i : Nat) (hi : i < 2) (d : Dg) (t : Sd) (A : Option Addr) (C : Nat) (hnx : (t.wy i).nx < 4294967296) (w : World) :
    Calls Tryz.prog 66 #[.agg (dsa t A C), .int .i64 (i : Int), d.val] w fun e w' => e = .returned (.tuple #[.agg (dsa (t.sent i) A C), (mark d (t.wy i).nx i t.now).val]) ∧ Below w.heap.size w w' := by
  obtain ⟨W, hW⟩ : ∃ W, W = (((w.alloc (.cells (dsa t A C) 40)).alloc (.cells (Mq.dcells d) 50)).alloc (.cells (dsa Sdz none 0) 40)).alloc (.cells (Mq.dcells Mq.nil) 50) := ⟨_, rfl⟩
  obtain ⟨Wa, hWa⟩ : ∃ Wa, Wa = w.alloc (.cells (dsa t A C) 40) := ⟨_, rfl⟩
  obtain ⟨Wb, hWb⟩ : ∃ Wb, Wb = Wa.alloc (.cells (Mq.dcells d) 50) := ⟨_, rfl⟩
  obtain ⟨Wc, hWc⟩ : ∃ Wc, Wc = Wb.alloc (.cells (dsa Sdz none 0) 40) := ⟨_, rfl⟩
  have hWd : W = Wc.alloc (.cells (Mq.dcells Mq.nil) 50) := by rw [hWc, hWb, hWa]; exact hW
  have sa : Wa.heap.size = w.heap.size + 1 := by rw [hWa]; simp
  have sb : Wb.heap.size = w.heap.size + 2 := by rw [hWb]; simp [sa]
  have sc : Wc.heap.size = w.heap.size + 3 := by rw [hWc]; simp [sb]
  have sd : W.heap.size = w.heap.size + 4 := by rw [hWd]; simp [sc]
  have ba : Below w.heap.size w Wa := by rw [hWa]; exact (Below.refl _ _).alloc (Nat.le_refl _) _
  have bb : Below Wa.heap.size Wa Wb := by rw [hWb]; exact (Below.refl _ _).alloc (Nat.le_refl _) _
  have bc : Below Wb.heap.size Wb Wc := by rw [hWc]; exact (Below.refl _ _).alloc (Nat.le_refl _) _
  have bd : Below Wc.heap.size Wc W := by rw [hWd]; exact (Below.refl _ _).alloc (Nat.le_refl _) _
  have da : DB Wa w.heap.size t A C := by rw [hWa]; exact db_new w t A C _ (Below.refl _ _)
  have hdb : DB W w.heap.size t A C := ((da.below bb da.lt).below bc (by omega)).below bd (by omega)
  have lb : Lies Wb (w.heap.size + 1) 0 (Mq.dcells d) := by
    have := Lies.new Wa (Mq.dcells d) 50 (Below.refl _ _)
    rw [← hWb, sa] at this
    exact this
  have hdd : Lies W (w.heap.size + 1) 0 (Mq.dcells d) := (lb.below bc (by omega)).below bd (by omega)
  have lc : Lies Wc (w.heap.size + 2) 0 (dsa Sdz none 0) := by
    have := Lies.new Wb (dsa Sdz none 0) 40 (Below.refl _ _)
    rw [← hWc, sb] at this
    exact this
  have hss : Lies W (w.heap.size + 2) 0 (dsa Sdz none 0) := lc.below bd (by omega)
  have hgg : Lies W (w.heap.size + 3) 0 (Mq.dcells Mq.nil) := by
    have := Lies.new Wc (Mq.dcells Mq.nil) 50 (Below.refl _ _)
    rw [← hWd, sc] at this
    exact this
  have hbel : Below w.heap.size w W := ba.trans ((bb.trans ((bc.trans (bd.mono (by omega))).mono (by omega))).mono (by omega))
  clear hWa hWb hWc hWd sa sb sc ba bb bc bd da lb lc
  obtain ⟨tn, htn⟩ : ∃ tn, tn = t.now := ⟨_, rfl⟩
  obtain ⟨nn, hnn⟩ : ∃ nn, nn = (t.wy i).nx := ⟨_, rfl⟩
  have HDB := Lib.hid hdb
  have HD := Lib.hid hdd
  have HS := Lib.hid hss
  have HG := Lib.hid hgg
  have HB := Lib.hid hbel
  have HSD := Lib.hid sd
  have c164 : W.cell? ⟨w.heap.size, 164, none⟩ = some (.int .u32 (tn : Int)) := by rw [htn]; exact hdb.cells.2.2.2.2.1
  have c77 : W.cell? ⟨w.heap.size, i * 78 + 77, none⟩ = some (.int .u32 (nn : Int)) := by
    have := (hdb.way hi).cell 77 (by rw [rowOf_size]; decide)
    rw [rowOf_get _ _ _ (by decide)] at this
    rw [hnn]
    exact this
  have HOT : Hid (∀ (w' : World) (k : Nat) (v : Value), (w'.cell? ⟨w.heap.size, 164, none⟩ = some (.int .u32 (tn : Int)) ∧ w'.cell? ⟨w.heap.size, i * 78 + 77, none⟩ = some (.int .u32 (nn : Int))) → (w'.setCell ⟨w.heap.size + 1, k, none⟩ v).cell? ⟨w.heap.size, 164, none⟩ = some (.int .u32 (tn : Int)) ∧ (w'.setCell ⟨w.heap.size + 1, k, none⟩ v).cell? ⟨w.heap.size, i * 78 + 77, none⟩ = some (.int .u32 (nn : Int))) := Lib.hid (fun w' k v h =>
    ⟨(World.cell?_of_block (w := w') (a := ⟨w.heap.size, 164, none⟩) (Below.heap_setCell w' ⟨w.heap.size + 1, k, none⟩ v w.heap.size (by show w.heap.size ≠ w.heap.size + 1; omega))).trans h.1, (World.cell?_of_block (w := w') (a := ⟨w.heap.size, i * 78 + 77, none⟩) (Below.heap_setCell w' ⟨w.heap.size + 1, k, none⟩ v w.heap.size (by show w.heap.size ≠ w.heap.size + 1; omega))).trans h.2⟩)
  have H0 : Hid (W.cell? ⟨w.heap.size, 164, none⟩ = some (.int .u32 (tn : Int)) ∧ W.cell? ⟨w.heap.size, i * 78 + 77, none⟩ = some (.int .u32 (nn : Int))) := Lib.hid ⟨c164, c77⟩
  obtain ⟨v77, hv77⟩ : ∃ v77, v77 = (nn + 1) % 4294967296 := ⟨_, rfl⟩
  have hnl : nn < 4294967296 := by rw [hnn]; exact hnx
  have hwr : IntKind.u32.wrap ((nn : Int) + 1) = (v77 : Int) := by rw [IntKind.wrap_u32, hv77]; omega
  have HNUM : Hid (∀ w', DB w' w.heap.size t A C → DB (w'.setCell ⟨w.heap.size, i * 78 + 77, none⟩ (.int .u32 (v77 : Int))) w.heap.size (t.sent i) A C) := Lib.hid (fun w' h => by
    refine h.setWay (q := (t.wy i).number) hi ?_ ((Prt.refl _ _ _ _).set 77 (by decide) _)
    rw [← rowOf_number, ← hnn, ← hv77]
    exact (h.way hi).set 77 _)
  have HNV : Hid ((t.wy i).dc 77 = .int .u32 (nn : Int)) := Lib.hid (by rw [hnn]; rfl)
  have HI := Lib.hid hi
  have i0 : (0 : Int) ≤ (i : Int) := by omega
  have i1 : (i : Int) < 2 := by omega
  have zz := zeroD
  rw [← htn, ← hnn]
  obtain ⟨Z, hZ⟩ : ∃ Z, Z = dsa Sdz none 0 := ⟨_, rfl⟩
  obtain ⟨V, hV⟩ : ∃ V, V = dsa t A C := ⟨_, rfl⟩
  obtain ⟨V6, hV6⟩ : ∃ V6, V6 = dsa (t.sent i) A C := ⟨_, rfl⟩
  have IV : Hid ((Tryz.prog.info? 40).map (·.size) = some V6.size) := Lib.hid (by rw [hV6]; exact infoD15 _ _ _)
  have SV : Hid (V6.size = Z.size) := Lib.hid (by rw [hV6, hZ, dsa_size, dsa_size])
  have OV : Hid (V6.all (·.oneCell') = true) := Lib.hid (by rw [hV6]; exact dsa_one _ _ _)
  have HV6 := Lib.hid hV6
  have HZ6 := Lib.hid hZ
  rw [← hZ] at zz hW
  rw [← hV] at hW ⊢
  rw [← hV6]
  clear hdb hdd hss hgg hbel sd c164 c77 hnx hi htn hnn hv77 hnl hZ hV hV6
  go_enter Tryz.func66, Tryz.ntmps66
  go_upto_region 1 with fail
  rw [← hW]
  clear hW zz
  refine wp_region_held_drew (S := fun w' => w'.cell? ⟨w.heap.size, 164, none⟩ = some (.int .u32 (tn : Int)) ∧ w'.cell? ⟨w.heap.size, i * 78 + 77, none⟩ = some (.int .u32 (nn : Int))) (by kernel_rfl) H0.out (fun hHeld => ?_)
  refine taken_at (i := 0) (v := .int .i64 (i : Int)) (some 8) rfl rfl (by kernel_rfl) (by kernel_rfl) (by kernel_rfl) (fun _ _ _ h => h) (Or.inl ⟨rfl, fun _ _ => rfl⟩) hHeld ?_
  try simp only [Act.put, List.setIfInBounds_toArray, List.set_cons_zero, List.set_cons_succ]
  refine taken_at (i := 1) (v := .pointer (some ⟨w.heap.size, 164, none⟩)) (some 9) rfl rfl (by kernel_rfl) (by kernel_rfl) (by kernel_rfl) (fun _ _ _ h => h) (Or.inl ⟨rfl, fun w' hw => by obtain ⟨k0, k1⟩ := hw; go_simp⟩) hHeld ?_
  try simp only [Act.put, List.setIfInBounds_toArray, List.set_cons_zero, List.set_cons_succ]
  refine taken_at (i := 2) (v := .int .u32 (tn : Int)) (some 10) rfl rfl (by kernel_rfl) (by kernel_rfl) (by kernel_rfl) (fun _ _ _ h => h) (Or.inl ⟨rfl, fun w' hw => by obtain ⟨k0, k1⟩ := hw; go_simp⟩) hHeld ?_
  try simp only [Act.put, List.setIfInBounds_toArray, List.set_cons_zero, List.set_cons_succ]
  refine taken_at (i := 3) (v := .int .i64 (i : Int)) (some 11) rfl rfl (by kernel_rfl) (by kernel_rfl) (by kernel_rfl) (fun _ _ _ h => h) (Or.inl ⟨rfl, fun _ _ => rfl⟩) hHeld ?_
  try simp only [Act.put, List.setIfInBounds_toArray, List.set_cons_zero, List.set_cons_succ]
  refine taken_at (i := 4) (v := .pointer (some ⟨w.heap.size, 0, none⟩)) (some 12) rfl rfl (by kernel_rfl) (by kernel_rfl) (by kernel_rfl) (fun _ _ _ h => h) (Or.inl ⟨rfl, fun w' hw => by obtain ⟨k0, k1⟩ := hw; go_simp⟩) hHeld ?_
  try simp only [Act.put, List.setIfInBounds_toArray, List.set_cons_zero, List.set_cons_succ]
  refine taken_at (i := 5) (v := .pointer (some ⟨w.heap.size, i * 78, none⟩)) (some 13) rfl rfl (by kernel_rfl) (by kernel_rfl) (by kernel_rfl) (fun _ _ _ h => h) (Or.inl ⟨rfl, fun w' hw => by obtain ⟨k0, k1⟩ := hw; go_simp⟩) hHeld ?_
  try simp only [Act.put, List.setIfInBounds_toArray, List.set_cons_zero, List.set_cons_succ]
  refine taken_at (i := 6) (v := .pointer (some ⟨w.heap.size, i * 78 + 77, none⟩)) (some 14) rfl rfl (by kernel_rfl) (by kernel_rfl) (by kernel_rfl) (fun _ _ _ h => h) (Or.inl ⟨rfl, fun w' hw => by obtain ⟨k0, k1⟩ := hw; go_simp⟩) hHeld ?_
  try simp only [Act.put, List.setIfInBounds_toArray, List.set_cons_zero, List.set_cons_succ]
  refine taken_at (i := 7) (v := .int .u32 (nn : Int)) (some 15) rfl rfl (by kernel_rfl) (by kernel_rfl) (by kernel_rfl) (fun _ _ _ h => h) (Or.inl ⟨rfl, fun w' hw => by obtain ⟨k0, k1⟩ := hw; go_simp⟩) hHeld ?_
  try simp only [Act.put, List.setIfInBounds_toArray, List.set_cons_zero, List.set_cons_succ]
  refine taken_at (i := 8) (v := .pointer (some ⟨w.heap.size + 1, 3, none⟩)) (some 16) rfl rfl (by kernel_rfl) (by kernel_rfl) (by kernel_rfl) (fun _ _ _ h => h) (Or.inl ⟨rfl, fun w' hw => by obtain ⟨k0, k1⟩ := hw; go_simp⟩) hHeld ?_
  try simp only [Act.put, List.setIfInBounds_toArray, List.set_cons_zero, List.set_cons_succ]
  refine wpAnyH_ready (rs := [9]) (by kernel_rfl) (by simp) ?_
  refine AllReadyH.cons rfl (fun K hK => ?_) AllReadyH.nil
  have cc := (HD.out).cell 3 (by decide : 3 < 11)
  have cf := (HD.out).frozen 3
  go_simp
  refine hK.out _ _ (HOT.out W 3 _ hHeld) (fun hHeld => ?_)
  clear hK K cc cf
  try simp only [Act.put, List.setIfInBounds_toArray, List.set_cons_zero, List.set_cons_succ]
  refine taken_at (i := 10) (v := .pointer (some ⟨w.heap.size + 1, 4, none⟩)) (some 17) rfl rfl (by kernel_rfl) (by kernel_rfl) (by kernel_rfl) (fun _ _ _ h => h) (Or.inl ⟨rfl, fun w' hw => by obtain ⟨k0, k1⟩ := hw; go_simp⟩) hHeld ?_
  try simp only [Act.put, List.setIfInBounds_toArray, List.set_cons_zero, List.set_cons_succ]
  refine wpAnyH_ready (rs := [11]) (by kernel_rfl) (by simp) ?_
  refine AllReadyH.cons rfl (fun K hK => ?_) AllReadyH.nil
  have cc := ((HD.out.set 3 (.int .i64 (i : Int)))).cell 4 (by decide : 4 < 11)
  have cf := ((HD.out.set 3 (.int .i64 (i : Int)))).frozen 4
  go_simp
  refine hK.out _ _ (HOT.out (W.setCell ⟨w.heap.size + 1, 3, none⟩ (.int .i64 (i : Int))) 4 _ hHeld) (fun hHeld => ?_)
  clear hK K cc cf
  try simp only [Act.put, List.setIfInBounds_toArray, List.set_cons_zero, List.set_cons_succ]
  refine taken_at (i := 12) (v := .pointer (some ⟨w.heap.size + 1, 2, none⟩)) (some 18) rfl rfl (by kernel_rfl) (by kernel_rfl) (by kernel_rfl) (fun _ _ _ h => h) (Or.inl ⟨rfl, fun w' hw => by obtain ⟨k0, k1⟩ := hw; go_simp⟩) hHeld ?_
  try simp only [Act.put, List.setIfInBounds_toArray, List.set_cons_zero, List.set_cons_succ]
  refine wpAnyH_ready (rs := [13]) (by kernel_rfl) (by simp) ?_
  refine AllReadyH.cons rfl (fun K hK => ?_) AllReadyH.nil
  have cc := (((HD.out.set 3 (.int .i64 (i : Int))).set 4 (.int .u32 (tn : Int)))).cell 2 (by decide : 2 < 11)
  have cf := (((HD.out.set 3 (.int .i64 (i : Int))).set 4 (.int .u32 (tn : Int)))).frozen 2
  go_simp
  refine hK.out _ _ (HOT.out ((W.setCell ⟨w.heap.size + 1, 3, none⟩ (.int .i64 (i : Int))).setCell ⟨w.heap.size + 1, 4, none⟩ (.int .u32 (tn : Int))) 2 _ hHeld) (fun hHeld => ?_)
  clear hK K cc cf
  try simp only [Act.put, List.setIfInBounds_toArray, List.set_cons_zero, List.set_cons_succ]
  refine wpAnyH_done (by kernel_rfl) ?_ _
  clear hHeld
  have HDB4 : Hid (DB (((W.setCell ⟨w.heap.size + 1, 3, none⟩ (.int .i64 (i : Int))).setCell ⟨w.heap.size + 1, 4, none⟩ (.int .u32 (tn : Int))).setCell ⟨w.heap.size + 1, 2, none⟩ (.int .u32 (nn : Int))).drew w.heap.size t A C) := Lib.hid (HDB.out.keep (by
    show (((W.setCell ⟨w.heap.size + 1, 3, none⟩ (.int .i64 (i : Int))).setCell ⟨w.heap.size + 1, 4, none⟩ (.int .u32 (tn : Int))).setCell ⟨w.heap.size + 1, 2, none⟩ (.int .u32 (nn : Int))).heap[w.heap.size]? = _
    rw [Below.heap_setCell _ ⟨w.heap.size + 1, 2, none⟩ _ w.heap.size (by show w.heap.size ≠ w.heap.size + 1; omega), Below.heap_setCell _ ⟨w.heap.size + 1, 4, none⟩ _ w.heap.size (by show w.heap.size ≠ w.heap.size + 1; omega), Below.heap_setCell _ ⟨w.heap.size + 1, 3, none⟩ _ w.heap.size (by show w.heap.size ≠ w.heap.size + 1; omega)]))
  have HD4 : Hid (Lies (((W.setCell ⟨w.heap.size + 1, 3, none⟩ (.int .i64 (i : Int))).setCell ⟨w.heap.size + 1, 4, none⟩ (.int .u32 (tn : Int))).setCell ⟨w.heap.size + 1, 2, none⟩ (.int .u32 (nn : Int))).drew (w.heap.size + 1) 0 (Mq.dcells (mark d nn i tn))) := Lib.hid (((HD.out.set 3 (.int .i64 (i : Int))).set 4 (.int .u32 (tn : Int))).set 2 (.int .u32 (nn : Int))).drew
  have HS4 : Hid (Lies (((W.setCell ⟨w.heap.size + 1, 3, none⟩ (.int .i64 (i : Int))).setCell ⟨w.heap.size + 1, 4, none⟩ (.int .u32 (tn : Int))).setCell ⟨w.heap.size + 1, 2, none⟩ (.int .u32 (nn : Int))).drew (w.heap.size + 2) 0 (dsa Sdz none 0)) := Lib.hid (((HS.out.other (by show w.heap.size + 2 ≠ w.heap.size + 1; omega) _).other (by show w.heap.size + 2 ≠ w.heap.size + 1; omega) _).other (by show w.heap.size + 2 ≠ w.heap.size + 1; omega) _).drew
  have HG4 : Hid (Lies (((W.setCell ⟨w.heap.size + 1, 3, none⟩ (.int .i64 (i : Int))).setCell ⟨w.heap.size + 1, 4, none⟩ (.int .u32 (tn : Int))).setCell ⟨w.heap.size + 1, 2, none⟩ (.int .u32 (nn : Int))).drew (w.heap.size + 3) 0 (Mq.dcells Mq.nil)) := Lib.hid (((HG.out.other (by show w.heap.size + 3 ≠ w.heap.size + 1; omega) _).other (by show w.heap.size + 3 ≠ w.heap.size + 1; omega) _).other (by show w.heap.size + 3 ≠ w.heap.size + 1; omega) _).drew
  have HB4 : Hid (Below w.heap.size w (((W.setCell ⟨w.heap.size + 1, 3, none⟩ (.int .i64 (i : Int))).setCell ⟨w.heap.size + 1, 4, none⟩ (.int .u32 (tn : Int))).setCell ⟨w.heap.size + 1, 2, none⟩ (.int .u32 (nn : Int))).drew) := Lib.hid (((HB.out.setCell (p := ⟨w.heap.size + 1, 3, none⟩) (Nat.le_succ _) _).setCell (p := ⟨w.heap.size + 1, 4, none⟩) (Nat.le_succ _) _).setCell (p := ⟨w.heap.size + 1, 2, none⟩) (Nat.le_succ _) _).drew
  have HSZ4 : Hid ((((W.setCell ⟨w.heap.size + 1, 3, none⟩ (.int .i64 (i : Int))).setCell ⟨w.heap.size + 1, 4, none⟩ (.int .u32 (tn : Int))).setCell ⟨w.heap.size + 1, 2, none⟩ (.int .u32 (nn : Int))).drew.heap.size = w.heap.size + 4) := Lib.hid (by simpa using HSD.out)
  generalize (((W.setCell ⟨w.heap.size + 1, 3, none⟩ (.int .i64 (i : Int))).setCell ⟨w.heap.size + 1, 4, none⟩ (.int .u32 (tn : Int))).setCell ⟨w.heap.size + 1, 2, none⟩ (.int .u32 (nn : Int))).drew = w5 at *
  have c77 : w5.cell? ⟨w.heap.size, i * 78 + 77, none⟩ = some (.int .u32 (nn : Int)) := by
    have := (HDB4.out.way HI.out).cell 77 (by rw [rowOf_size]; decide)
    rw [rowOf_get _ _ _ (by decide)] at this
    rw [this]
    exact congrArg some HNV.out
  have f77 := HDB4.out.frozen (i * 78 + 77)
  go_upto_region 3 with fail
  obtain ⟨w6, hw6⟩ : ∃ w6, w6 = w5.setCell ⟨w.heap.size, i * 78 + 77, none⟩ (.int .u32 (v77 : Int)) := ⟨_, rfl⟩
  rw [← hw6]
  have HL6 : Hid (Lies w6 w.heap.size 0 V6) := Lib.hid (by rw [hw6, HV6.out]; exact (HNUM.out w5 HDB4.out).whole)
  have HD6 : Hid (Lies w6 (w.heap.size + 1) 0 (Mq.dcells (mark d nn i tn))) := Lib.hid (by rw [hw6]; exact HD4.out.other (by show w.heap.size + 1 ≠ w.heap.size; omega) _)
  have HS6 : Hid (Lies w6 (w.heap.size + 2) 0 Z) := Lib.hid (by rw [hw6, HZ6.out]; exact HS4.out.other (by show w.heap.size + 2 ≠ w.heap.size; omega) _)
  have HG6 : Hid (Lies w6 (w.heap.size + 3) 0 (Mq.dcells Mq.nil)) := Lib.hid (by rw [hw6]; exact HG4.out.other (by show w.heap.size + 3 ≠ w.heap.size; omega) _)
  have HB6 : Hid (Below w.heap.size w w6) := Lib.hid (by rw [hw6]; exact HB4.out.setCell (p := ⟨w.heap.size, i * 78 + 77, none⟩) (Nat.le_refl _) _)
  have HSZ : Hid (w.heap.size ≤ w6.heap.size) := Lib.hid HB6.out.size
  clear hw6 c77 f77
  refine wp_region_held_drew (S := fun w' => Lies w' w.heap.size 0 V6 ∧ Lies w' (w.heap.size + 1) 0 (Mq.dcells (mark d nn i tn))) (by kernel_rfl) ⟨HL6.out, HD6.out⟩ (fun hHeld => ?_)
  refine taken_at (i := 0) (v := .agg (V6)) (some 28) rfl rfl (by kernel_rfl) (by kernel_rfl) (by kernel_rfl) (fun _ _ _ h => h) (yields_loadAt 40 (.tmp 3) (.pointer (some ⟨w.heap.size, 0, none⟩)) rfl rfl rfl (fun w' hw => hw.1.loadAt 40 _ Tryz.underlying40 rfl IV.out)) hHeld ?_
  try simp only [Act.put, List.setIfInBounds_toArray, List.set_cons_zero, List.set_cons_succ]
  refine taken_at (i := 1) (v := (mark d nn i tn).val) (some 29) rfl rfl (by kernel_rfl) (by kernel_rfl) (by kernel_rfl) (fun _ _ _ h => h) (yields_loadAt 50 (.tmp 5) (.pointer (some ⟨w.heap.size + 1, 0, none⟩)) rfl rfl rfl (fun w' hw => hw.2.loadAt 50 _ Tryz.underlying50 rfl (Mq.infoC (mark d nn i tn)))) hHeld ?_
  try simp only [Act.put, List.setIfInBounds_toArray, List.set_cons_zero, List.set_cons_succ]
  refine wpAnyH_ready (rs := [2]) (by kernel_rfl) (by simp) ?_
  refine AllReadyH.cons rfl (fun K hK => ?_) AllReadyH.nil
  refine step_store_lies rfl 40 (.tmp 6) (.tmp 28) rfl (w.heap.size + 2) 0 rfl (V6) rfl (Z) HS6.out.drew SV.out IV.out OV.out ?_
  intro w5 N1a N2a N3a
  refine hK.out _ _ (⟨hHeld.1.apart N2a.out (by omega), hHeld.2.apart N2a.out (by omega)⟩) (fun hHeld => ?_)
  clear hK K
  try simp only [Act.put]
  refine wpAnyH_ready (rs := [3]) (by kernel_rfl) (by simp) ?_
  refine AllReadyH.cons rfl (fun K hK => ?_) AllReadyH.nil
  refine step_store_lies rfl 50 (.tmp 7) (.tmp 29) rfl (w.heap.size + 3) 0 rfl (Mq.dcells (mark d nn i tn)) rfl (Mq.dcells Mq.nil) (HG6.out.drew.apart N2a.out (by omega)) rfl (Mq.infoC (mark d nn i tn)) (Mq.dcells_one (mark d nn i tn)) ?_
  intro w6 N1b N2b N3b
  refine hK.out _ _ (⟨hHeld.1.apart N2b.out (by omega), hHeld.2.apart N2b.out (by omega)⟩) (fun hHeld => ?_)
  clear hK K
  try simp only [Act.put]
  refine wpAnyH_done (by kernel_rfl) ?_ _
  clear hHeld
  go_wp2
  refine bodyPost_ret (v := .tuple #[.agg (V6), (mark d nn i tn).val]) (results_two (p := 6) (q := 7) rfl _ w6 (w.heap.size + 2) (w.heap.size + 3) _ _ rfl rfl (Lies.loadVar (N1a.out.apart N2b.out (by omega)) 40 _ Tryz.underlying40 rfl IV.out) (Mq.loadv_dg N1b.out)) rfl ?_
  exact ⟨rfl, N2b.out.bel (N2a.out.bel HB6.out.drew HSZ.out (by omega)) (by rw [N3a]; exact HSZ.out) (by omega)⟩
end Go.Proofs.YtldhlknmabpanaaGreat.Mp
