/-
  Own text: a queue whose items bear a datagram, in plain numbers, in its block; its small calls, walked. (Written by gen_mqe.py.)
-/
import Derived.Test.YtblnmddphichgaaMqD
namespace Go.Proofs.Ytblnmddphichgaa.Mq
open Go.RowKit

/-- A queue in plain numbers. -/
structure Qn where
  room : Nat
  pushed : Nat
  l : List It
/-- A queue's block. -/
def QBlk (w : World) (b room pushed : Nat) (s : Value) : Prop := w.heap[b]? = some (.cells #[.int .i64 (room : Int), .int .i64 (pushed : Int), s] 82 (0, 0))
section
variable {w : World} {b room pushed : Nat} {s : Value}
theorem QBlk.lt (h : QBlk w b room pushed s) : b < w.heap.size := (Array.getElem?_eq_some_iff.1 h).1
theorem QBlk.cells (h : QBlk w b room pushed s) : w.cell? ⟨b, 0, none⟩ = some (.int .i64 (room : Int)) ∧ w.cell? ⟨b, 1, none⟩ = some (.int .i64 (pushed : Int)) ∧ w.cell? ⟨b, 2, none⟩ = some s := by
  unfold QBlk at h
  simp [World.cell?, h]
theorem QBlk.frozen (h : QBlk w b room pushed s) (i : Nat) : w.frozen? ⟨b, i, none⟩ = false := by
  unfold QBlk at h
  simp [World.frozen?, h]
theorem QBlk.keep {w' : World} (h : QBlk w b room pushed s) (e : w'.heap[b]? = w.heap[b]?) : QBlk w' b room pushed s := e.trans h
theorem QBlk.below {w' : World} {B : Nat} (h : QBlk w b room pushed s) (hb : Below B w w') (hB : b < B) : QBlk w' b room pushed s := h.keep (hb.block b hB)
theorem QBlk.setPushed (h : QBlk w b room pushed s) (n : Nat) : QBlk (w.setCell ⟨b, 1, none⟩ (.int .i64 (n : Int))) b room n s := by
  unfold QBlk at *
  simp [World.setCell, Array.getElem?_modify, h]
theorem QBlk.setItems (h : QBlk w b room pushed s) (v : Value) : QBlk (w.setCell ⟨b, 2, none⟩ v) b room pushed v := by
  unfold QBlk at *
  simp [World.setCell, Array.getElem?_modify, h]
theorem QBlk.other (h : QBlk w b room pushed s) {p : Addr} (hp : b ≠ p.block) (u : Value) : QBlk (w.setCell p u) b room pushed s := h.keep (Below.heap_setCell w p u b hp)
end
/-- A queue: its block, and its items. -/
structure QB (w : World) (b : Nat) (Q : Qn) (A : Option Addr) (C : Nat) : Prop where
  blk : QBlk w b Q.room Q.pushed (.slice A Q.l.length C)
  own : OwnT w 0 (.slice A Q.l.length C) Q.l.length Q.l
theorem QB.apart {w : World} {b C : Nat} {Q : Qn} {A : Option Addr} (h : QB w b Q A C) (g : Nat) (hg : A.map Addr.block = some g) : g ≠ b := by
  rcases h.own.form with ⟨e, _⟩ | ⟨g', R, e, _, _, hg', _⟩
  · rw [e] at hg; simp at hg
  · rw [e] at hg
    simp at hg
    subst hg
    intro hb
    subst hb
    have := h.blk
    unfold QBlk at this
    unfold TBlk at hg'
    rw [hg'] at this
    simp at this
theorem QB.keep {w w' : World} {b C : Nat} {Q : Qn} {A : Option Addr} (h : QB w b Q A C) (e : w'.heap[b]? = w.heap[b]?) (hg : ∀ g, A.map Addr.block = some g → w'.heap[g]? = w.heap[g]?) : QB w' b Q A C :=
  ⟨h.blk.keep e, h.own.keep (fun g hg' => hg g (by rw [own_block] at hg'; exact hg'))⟩
theorem QB.lt {w : World} {b C : Nat} {Q : Qn} {A : Option Addr} (h : QB w b Q A C) : ∀ g, A.map Addr.block = some g → g < w.heap.size := fun g hg => (h.own.lt g (by rw [own_block]; exact hg)).2
theorem QB.below {w w' : World} {b C B : Nat} {Q : Qn} {A : Option Addr} (h : QB w b Q A C) (hb : Below B w w') (hB : w.heap.size ≤ B) : QB w' b Q A C :=
  h.keep (hb.block b (Nat.lt_of_lt_of_le h.blk.lt hB)) (fun g hg => hb.block g (Nat.lt_of_lt_of_le (h.lt g hg) hB))
theorem QB.drewN {w : World} {b C : Nat} {Q : Qn} {A : Option Addr} (h : QB w b Q A C) (k : Nat) : QB (w.drewN k) b Q A C := h.keep rfl (fun _ _ => rfl)
/-- What a queue's call may turn: its block, its items, what is new. -/
structure Frm (b : Nat) (s : Option Nat) (w w' : World) : Prop where
  os : w'.os = w.os
  tape : w'.tape = w.tape
  output : w'.output = w.output
  size : w.heap.size ≤ w'.heap.size
  block : ∀ k, k < w.heap.size → k ≠ b → some k ≠ s → w'.heap[k]? = w.heap[k]?
theorem Frm.refl (b : Nat) (s : Option Nat) (w : World) : Frm b s w w := ⟨rfl, rfl, rfl, Nat.le_refl _, fun _ _ _ _ => rfl⟩
theorem Frm.trans {b : Nat} {s : Option Nat} {w w1 w2 : World} (h : Frm b s w w1) (k : Frm b s w1 w2) : Frm b s w w2 :=
  ⟨k.os.trans h.os, k.tape.trans h.tape, k.output.trans h.output, Nat.le_trans h.size k.size, fun i hi h1 h2 => (k.block i (Nat.lt_of_lt_of_le hi h.size) h1 h2).trans (h.block i hi h1 h2)⟩
/-- The items lie where they lay, or are new. -/
def Moved (w : World) (s s' : Option Nat) : Prop := s' = s ∨ ∀ k, s' = some k → w.heap.size ≤ k
theorem Moved.trans {w w1 : World} {s s1 s2 : Option Nat} (h : Moved w s s1) (hs : w.heap.size ≤ w1.heap.size) (k : Moved w1 s1 s2) : Moved w s s2 := by
  rcases k with e | e
  · rw [e]; exact h
  · exact .inr (fun i hi => Nat.le_trans hs (e i hi))
theorem Frm.then_ {b : Nat} {s s' : Option Nat} {w w1 w2 : World} (h : Frm b s w w1) (hm : Moved w s s') (k : Frm b s' w1 w2) : Frm b s w w2 :=
  ⟨k.os.trans h.os, k.tape.trans h.tape, k.output.trans h.output, Nat.le_trans h.size k.size, fun i hi h1 h2 => (k.block i (Nat.lt_of_lt_of_le hi h.size) h1 (by
    rcases hm with e | e
    · rw [e]; exact h2
    · intro e2; have := e i e2.symm; omega)).trans (h.block i hi h1 h2)⟩
theorem Frm.drewN {b : Nat} {s : Option Nat} {w w' : World} (h : Frm b s w w') (k : Nat) : Frm b s w (w'.drewN k) := ⟨h.os, h.tape, h.output, h.size, h.block⟩
theorem Frm.grown {b : Nat} {s : Option Nat} {w w' : World} (h : w.grownBy w' s) : Frm b s w w' := ⟨h.os, h.tape, h.output, h.size, fun k hk _ h2 => h.block k hk h2⟩
theorem Frm.setIn (b i : Nat) (s : Option Nat) (w : World) (v : Value) : Frm b s w (w.setCell ⟨b, i, none⟩ v) :=
  ⟨rfl, rfl, rfl, by simp, fun k _ h1 _ => Below.heap_setCell _ _ _ k h1⟩
theorem Frm.bel {b : Nat} {s : Option Nat} {w w' w0 : World} {B : Nat} (h : Frm b s w w') (h0 : Below B w0 w) (hB : B ≤ w.heap.size) (hb : B ≤ b) (hs : ∀ k, s = some k → B ≤ k) : Below B w0 w' :=
  h0.trans ⟨h.os, h.tape, h.output, h.size, fun k hk => h.block k (by omega) (by omega) (fun e => by have := hs k e.symm; omega)⟩
theorem Frm.of_below {b : Nat} {s : Option Nat} {w w' : World} (h : Below w.heap.size w w') : Frm b s w w' := ⟨h.os, h.tape, h.output, h.size, fun k hk _ _ => h.block k hk⟩
theorem Frm.setNew {b c : Nat} {s : Option Nat} {w w' : World} (h : Frm b s w w') (hc : w.heap.size ≤ c) (i : Nat) (v : Value) : Frm b s w (w'.setCell ⟨c, i, none⟩ v) :=
  ⟨h.os, h.tape, h.output, by simpa using h.size, fun k hk h1 h2 => (Below.heap_setCell w' ⟨c, i, none⟩ v k (by show k ≠ c; omega)).trans (h.block k hk h1 h2)⟩
section
variable {w : World} {b room pushed : Nat} {s : Value}
theorem len_any (A : Option Addr) (n C : Nat) (w : World) (h : QBlk w b room pushed (.slice A n C)) :
    Calls Try.prog 29 #[.pointer (some ⟨b, 0, none⟩)] w fun e w' => e = .returned (.int .i64 (n : Int)) ∧ w = w' := by
  obtain ⟨c0, c1, c2⟩ := h.cells
  clear h
  go_enter Try.func29, Try.ntmps29
  go_wp2
  go_ret
  exact ⟨rfl, rfl⟩
end
set_option maxRecDepth 100000 in
theorem new_any (room : Nat) (h1 : 1 ≤ room) (h2 : room ≤ 256) (w : World) :
    Calls Try.prog 15 #[.int .i64 (room : Int)] w fun e w' => e = .returned (.tuple #[.pointer (some ⟨w.heap.size, 0, none⟩), .int .i64 0]) ∧ Hid (QB w' w.heap.size ⟨room, 0, []⟩ none 0) ∧ Hid (Below w.heap.size w w') := by
  have n0 : ¬ (room : Int) < 1 := by omega
  have n1 : ¬ (256 : Int) < (room : Int) := by omega
  have n2 : (1 : Int) ≤ (room : Int) := by omega
  have n3 : (room : Int) ≤ 256 := by omega
  clear h1 h2
  go_enter Try.func15, Try.ntmps15
  go_wp2
  go_ret2
  refine ⟨rfl, Lib.hid ⟨?_, OwnT.none _ _⟩, Lib.hid ((Below.refl w.heap.size w).alloc (Nat.le_refl _) _)⟩
  exact Go.Deep.blk_alloc_new w _
/-- A datagram's cells. -/
abbrev dcells (d : Dg) : Array Value := #[.int .i64 d.kind, .int .u32 d.ses, .int .u32 d.seq, .int .i64 d.path, .int .u32 d.tick, .int .u32 d.A, .int .u32 d.B, .int .i64 d.K, .int .i64 d.M, .int .i64 d.ix, .slice d.da d.dl d.dc]
/-- A datagram of noughts. -/
abbrev nil : Dg := ⟨0, 0, 0, 0, 0, 0, 0, 0, 0, 0, none, 0, 0⟩
theorem infoD : (Try.prog.info? 35).map (·.size) = some 11 := by kernel_rfl
theorem infoC (d : Dg) : (Try.prog.info? 35).map (·.size) = some (dcells d).size := infoD
theorem dcells_one (d : Dg) : (dcells d).all (·.oneCell') = true := by simp [Value.oneCell']
theorem load_dg {w : World} {b o : Nat} {d : Dg} (h : Lies w b o (dcells d)) : (Instr.loadAt 35 (.pointer (some ⟨b, o, none⟩))).run Try.prog w = .ok d.val w := h.loadAt 35 _ Try.underlying35 rfl infoD
theorem loadv_dg {w : World} {b o : Nat} {d : Dg} (h : Lies w b o (dcells d)) : (loadVar 35 ⟨b, o, none⟩).run Try.prog w = .ok d.val w := h.loadVar 35 _ Try.underlying35 rfl infoD
/-- The datagram of an item that lies somewhere. -/
theorem it_dg {w : World} {g o : Nat} {x : It} (h : Lies w g o x.cells) : Lies w g (o + 2) (dcells x.v) := h.sub 2 (dcells x.v) (by decide : 2 + 11 ≤ 13) (fun j hj => by
  have : j < 11 := hj
  rcases j with _ | _ | _ | _ | _ | _ | _ | _ | _ | _ | _ | j
  all_goals first | rfl | omega)
/-- Results: one that lies in a cell, and two slots. -/
theorem results_cell2 {fn : Func} {p u v : Tmp} {t1 : TypeId} (h : fn.results = #[.cell p t1, .tmp u, .tmp v]) (tmps : Array Value) (w : World) (b : Nat) (v1 v2 v3 : Value)
    (hp : tmps.getD p undef = .pointer (some ⟨b, 0, none⟩)) (hu : tmps.getD u undef = v2) (hv : tmps.getD v undef = v3)
    (h1 : (loadVar t1 ⟨b, 0, none⟩).run Try.prog w = .ok v1 w) :
    (results fn tmps).run Try.prog w = .ok (.tuple #[v1, v2, v3]) w := by
  have hp' : tmps[p]?.getD undef = .pointer (some ⟨b, 0, none⟩) := by simpa using hp
  have hu' : tmps[u]?.getD undef = v2 := by simpa using hu
  have hv' : tmps[v]?.getD undef = v3 := by simpa using hv
  simp [results, h, hp', hu', hv', asAddr, h1]
/-- Results: one that lies in a cell, and a slot. -/
theorem results_cell1 {fn : Func} {p u : Tmp} {t1 : TypeId} (h : fn.results = #[.cell p t1, .tmp u]) (tmps : Array Value) (w : World) (b : Nat) (v1 v2 : Value)
    (hp : tmps.getD p undef = .pointer (some ⟨b, 0, none⟩)) (hu : tmps.getD u undef = v2)
    (h1 : (loadVar t1 ⟨b, 0, none⟩).run Try.prog w = .ok v1 w) :
    (results fn tmps).run Try.prog w = .ok (.tuple #[v1, v2]) w := by
  have hp' : tmps[p]?.getD undef = .pointer (some ⟨b, 0, none⟩) := by simpa using hp
  have hu' : tmps[u]?.getD undef = v2 := by simpa using hu
  simp [results, h, hp', hu', asAddr, h1]
/-- Results: one that lies in a cell. -/
theorem results_cell0 {fn : Func} {p : Tmp} {t1 : TypeId} (h : fn.results = #[.cell p t1]) (tmps : Array Value) (w : World) (b : Nat) (v1 : Value)
    (hp : tmps.getD p undef = .pointer (some ⟨b, 0, none⟩))
    (h1 : (loadVar t1 ⟨b, 0, none⟩).run Try.prog w = .ok v1 w) :
    (results fn tmps).run Try.prog w = .ok v1 w := by
  have hp' : tmps[p]?.getD undef = .pointer (some ⟨b, 0, none⟩) := by simpa using hp
  simp [results, h, hp', asAddr, h1]
section
variable {w : World} {b room pushed : Nat} {s : Value}
set_option maxRecDepth 100000 in
theorem peek_none (A : Option Addr) (C : Nat) (w : World) (h : QBlk w b room pushed (.slice A 0 C)) :
    Calls Try.prog 22 #[.pointer (some ⟨b, 0, none⟩)] w fun e w' => e = .returned (.tuple #[nil.val, .int .i64 0, .bool false]) ∧ Hid (Below w.heap.size w w') := by
  obtain ⟨W1, hW1⟩ : ∃ W1, W1 = w.alloc (.cells (dcells nil) 35) := ⟨_, rfl⟩
  have HB1 : Hid (Below w.heap.size w W1) := Lib.hid (by rw [hW1]; exact (Below.refl _ _).alloc (Nat.le_refl _) _)
  have HL1 : Hid (Lies W1 w.heap.size 0 (dcells nil)) := Lib.hid (by rw [hW1]; exact Lies.new w (dcells nil) _ (Below.refl _ _))
  have HW1 := Lib.hid hW1
  obtain ⟨c0, c1, c2⟩ := (h.below HB1.out h.lt).cells
  clear h hW1
  go_enter Try.func22, Try.ntmps22
  go_upto_region 1 with fail
  rw [← HW1.out]
  go_upto_region 3 with fail
  obtain ⟨W2, hW2⟩ : ∃ W2, W2 = W1.alloc (.cells (dcells nil) 35) := ⟨_, rfl⟩
  have HB2 : Hid (Below W1.heap.size W1 W2) := Lib.hid (by rw [hW2]; exact (Below.refl _ _).alloc (Nat.le_refl _) _)
  have HL2 : Hid (Lies W2 W1.heap.size 0 (dcells nil)) := Lib.hid (by rw [hW2]; exact Lies.new W1 (dcells nil) _ (Below.refl _ _))
  have HR2 : Hid (Lies W2 w.heap.size 0 (dcells nil)) := Lib.hid (HL1.out.below HB2.out HL1.out.lt)
  rw [← hW2]
  clear hW2
  go_wp2_with (first
    | (with_reducible refine wpList_load_lies rfl 35 (.tmp 5) rfl W1.heap.size 0 rfl (dcells nil) HL2.out _ Try.underlying35 rfl (infoC nil) ?_)
    | ((with_reducible refine wpList_store_lies rfl 35 (.tmp 2) (.tmp 12) rfl w.heap.size 0 rfl (dcells nil) rfl (dcells nil) HR2.out rfl (infoC nil) (dcells_one nil) ?_); intro w3 J1 J2 J3)
    | fail)
  refine bodyPost_ret (v := .tuple #[nil.val, .int .i64 0, .bool false]) (results_cell2 (p := 2) (u := 3) (v := 4) rfl _ w3 w.heap.size _ _ _ rfl rfl rfl (loadv_dg J1.out)) rfl ?_
  exact ⟨rfl, Lib.hid (J2.out.bel (HB1.out.trans (HB2.out.mono HB1.out.size)) (Nat.le_trans HB1.out.size HB2.out.size) (Nat.le_refl _))⟩
end
set_option maxRecDepth 100000 in
theorem peek_some (b : Nat) (Q : Qn) (A : Option Addr) (C : Nat) (x : It) (t : List It) (hQ : Q.l = x :: t) (w : World) (h : QB w b Q A C) :
    Calls Try.prog 22 #[.pointer (some ⟨b, 0, none⟩)] w fun e w' => e = .returned (.tuple #[x.v.val, .int .i64 x.rank, .bool true]) ∧ Hid (Below w.heap.size w w') := by
  obtain ⟨W1, hW1⟩ : ∃ W1, W1 = w.alloc (.cells (dcells nil) 35) := ⟨_, rfl⟩
  have HB1 : Hid (Below w.heap.size w W1) := Lib.hid (by rw [hW1]; exact (Below.refl _ _).alloc (Nat.le_refl _) _)
  have HL1 : Hid (Lies W1 w.heap.size 0 (dcells nil)) := Lib.hid (by rw [hW1]; exact Lies.new w (dcells nil) _ (Below.refl _ _))
  have hq := h.below HB1.out (Nat.le_refl _)
  have HW1 := Lib.hid hW1
  obtain ⟨c0, c1, c2⟩ := hq.blk.cells
  have hbl := h.blk.lt
  obtain ⟨g, rfl, _, hgl, hx⟩ := hq.own.at_ 0 x (by rw [hQ]; rfl)
  have hgw : g < w.heap.size := h.lt g rfl
  have hn : 0 < Q.l.length := by rw [hQ]; simp
  have hn0 : ¬ Q.l.length = 0 := by omega
  rw [Nat.zero_mul] at hx
  obtain ⟨r, hr⟩ : ∃ r, r = x.rank := ⟨_, rfl⟩
  obtain ⟨d, hd⟩ : ∃ d, d = x.v := ⟨_, rfl⟩
  have HXD : Hid (Lies W1 g 2 (dcells d)) := Lib.hid (by rw [hd]; exact it_dg hx)
  have HXR : Hid (W1.cell? ⟨g, 0, none⟩ = some (.int .i64 r)) := Lib.hid (by rw [hr]; exact hx.cell 0 (by decide : 0 < 13))
  rw [← hr, ← hd]
  clear h hQ hW1 hq hx hr hd
  generalize Q.l.length = n at *
  have HALL : Hid (W1.cell? ⟨b, 2, none⟩ = some (.slice (some ⟨g, 0, none⟩) n C)) := Lib.hid c2
  have HLT : Hid (b < w.heap.size ∧ g < w.heap.size) := Lib.hid ⟨hbl, hgw⟩
  clear hbl hgw hgl
  obtain ⟨D, hD⟩ : ∃ D, D = dcells d := ⟨_, rfl⟩
  have HDS : Hid (D.size = 11) := Lib.hid (by rw [hD]; rfl)
  have HD := Lib.hid hD
  rw [← hD] at HXD
  clear hD
  go_enter Try.func22, Try.ntmps22
  go_upto_region 1 with fail
  rw [← HW1.out]
  go_upto_region 4 with fail
  refine wp_region_held_drew (S := fun w' => w'.cell? ⟨b, 2, none⟩ = some (.slice (some ⟨g, 0, none⟩) n C) ∧ Lies w' g 2 D ∧ w'.cell? ⟨g, 0, none⟩ = some (.int .i64 r)) (by kernel_rfl) ⟨HALL.out, HXD.out.drew, HXR.out⟩ (fun hHeld => ?_)
  refine taken_at (i := 0) (v := .pointer (some ⟨b, 0, none⟩)) (some 13) rfl rfl (by kernel_rfl) (by kernel_rfl) (by kernel_rfl) (fun _ _ _ h => h) (Or.inl ⟨rfl, fun _ _ => rfl⟩) hHeld ?_
  try simp only [Act.put, List.setIfInBounds_toArray, List.set_cons_zero, List.set_cons_succ]
  refine taken_at (i := 1) (v := .pointer (some ⟨b, 0, none⟩)) (some 14) rfl rfl (by kernel_rfl) (by kernel_rfl) (by kernel_rfl) (fun _ _ _ h => h) (Or.inl ⟨rfl, fun _ _ => rfl⟩) hHeld ?_
  try simp only [Act.put, List.setIfInBounds_toArray, List.set_cons_zero, List.set_cons_succ]
  refine taken_at (i := 2) (v := .pointer (some ⟨b, 2, none⟩)) (some 15) rfl rfl (by kernel_rfl) (by kernel_rfl) (by kernel_rfl) (fun _ _ _ h => h) (Or.inl ⟨rfl, fun w' hw => by obtain ⟨k0, k1, k2⟩ := hw; go_simp⟩) hHeld ?_
  try simp only [Act.put, List.setIfInBounds_toArray, List.set_cons_zero, List.set_cons_succ]
  refine taken_at (i := 3) (v := .slice (some ⟨g, 0, none⟩) n C) (some 16) rfl rfl (by kernel_rfl) (by kernel_rfl) (by kernel_rfl) (fun _ _ _ h => h) (Or.inl ⟨rfl, fun w' hw => by obtain ⟨k0, k1, k2⟩ := hw; go_simp⟩) hHeld ?_
  try simp only [Act.put, List.setIfInBounds_toArray, List.set_cons_zero, List.set_cons_succ]
  refine taken_at (i := 4) (v := .pointer (some ⟨g, 0, none⟩)) (some 17) rfl rfl (by kernel_rfl) (by kernel_rfl) (by kernel_rfl) (fun _ _ _ h => h) (Or.inl ⟨rfl, fun w' hw => by obtain ⟨k0, k1, k2⟩ := hw; go_simp⟩) hHeld ?_
  try simp only [Act.put, List.setIfInBounds_toArray, List.set_cons_zero, List.set_cons_succ]
  refine taken_at (i := 5) (v := .pointer (some ⟨g, 2, none⟩)) (some 18) rfl rfl (by kernel_rfl) (by kernel_rfl) (by kernel_rfl) (fun _ _ _ h => h) (Or.inl ⟨rfl, fun w' hw => by obtain ⟨k0, k1, k2⟩ := hw; go_simp⟩) hHeld ?_
  try simp only [Act.put, List.setIfInBounds_toArray, List.set_cons_zero, List.set_cons_succ]
  refine taken_at (i := 6) (v := .agg D) (some 19) rfl rfl (by kernel_rfl) (by kernel_rfl) (by kernel_rfl) (fun _ _ _ h => h) (yields_loadAt 35 (.tmp 18) (.pointer (some ⟨g, 2, none⟩)) rfl rfl rfl (fun w' hw => hw.2.1.loadAt 35 _ Try.underlying35 rfl (infoD.trans (by rw [HDS.out])))) hHeld ?_
  try simp only [Act.put, List.setIfInBounds_toArray, List.set_cons_zero, List.set_cons_succ]
  refine taken_at (i := 7) (v := .pointer (some ⟨b, 0, none⟩)) (some 20) rfl rfl (by kernel_rfl) (by kernel_rfl) (by kernel_rfl) (fun _ _ _ h => h) (Or.inl ⟨rfl, fun _ _ => rfl⟩) hHeld ?_
  try simp only [Act.put, List.setIfInBounds_toArray, List.set_cons_zero, List.set_cons_succ]
  refine taken_at (i := 8) (v := .pointer (some ⟨b, 0, none⟩)) (some 21) rfl rfl (by kernel_rfl) (by kernel_rfl) (by kernel_rfl) (fun _ _ _ h => h) (Or.inl ⟨rfl, fun _ _ => rfl⟩) hHeld ?_
  try simp only [Act.put, List.setIfInBounds_toArray, List.set_cons_zero, List.set_cons_succ]
  refine taken_at (i := 9) (v := .pointer (some ⟨b, 2, none⟩)) (some 22) rfl rfl (by kernel_rfl) (by kernel_rfl) (by kernel_rfl) (fun _ _ _ h => h) (Or.inl ⟨rfl, fun w' hw => by obtain ⟨k0, k1, k2⟩ := hw; go_simp⟩) hHeld ?_
  try simp only [Act.put, List.setIfInBounds_toArray, List.set_cons_zero, List.set_cons_succ]
  refine taken_at (i := 10) (v := .slice (some ⟨g, 0, none⟩) n C) (some 23) rfl rfl (by kernel_rfl) (by kernel_rfl) (by kernel_rfl) (fun _ _ _ h => h) (Or.inl ⟨rfl, fun w' hw => by obtain ⟨k0, k1, k2⟩ := hw; go_simp⟩) hHeld ?_
  try simp only [Act.put, List.setIfInBounds_toArray, List.set_cons_zero, List.set_cons_succ]
  refine taken_at (i := 11) (v := .pointer (some ⟨g, 0, none⟩)) (some 24) rfl rfl (by kernel_rfl) (by kernel_rfl) (by kernel_rfl) (fun _ _ _ h => h) (Or.inl ⟨rfl, fun w' hw => by obtain ⟨k0, k1, k2⟩ := hw; go_simp⟩) hHeld ?_
  try simp only [Act.put, List.setIfInBounds_toArray, List.set_cons_zero, List.set_cons_succ]
  refine taken_at (i := 12) (v := .pointer (some ⟨g, 0, none⟩)) (some 25) rfl rfl (by kernel_rfl) (by kernel_rfl) (by kernel_rfl) (fun _ _ _ h => h) (Or.inl ⟨rfl, fun w' hw => by obtain ⟨k0, k1, k2⟩ := hw; go_simp⟩) hHeld ?_
  try simp only [Act.put, List.setIfInBounds_toArray, List.set_cons_zero, List.set_cons_succ]
  refine taken_at (i := 13) (v := .int .i64 r) (some 26) rfl rfl (by kernel_rfl) (by kernel_rfl) (by kernel_rfl) (fun _ _ _ h => h) (Or.inl ⟨rfl, fun w' hw => by obtain ⟨k0, k1, k2⟩ := hw; go_simp⟩) hHeld ?_
  try simp only [Act.put, List.setIfInBounds_toArray, List.set_cons_zero, List.set_cons_succ]
  refine wpAnyH_ready (rs := [14]) (by kernel_rfl) (by simp) ?_
  refine AllReadyH.cons rfl (fun K hK => ?_) AllReadyH.nil
  refine step_store_lies rfl 35 (.tmp 2) (.tmp 19) rfl w.heap.size 0 rfl D rfl (dcells nil) HL1.out.drew (HDS.out) (infoD.trans (by rw [HDS.out])) (HD.out ▸ dcells_one d) ?_
  intro w3 J1 J2 J3
  refine hK.out _ _ ⟨?_, ?_, ?_⟩ (fun hHeld => ?_)
  · exact (World.cell?_of_block (w := W1.drew) (J2.out.block b (Nat.lt_of_lt_of_le HLT.out.1 HB1.out.size) (by have := HLT.out; omega))).trans HALL.out
  · exact Lies.apart HXD.out.drew J2.out (by have := HLT.out; omega)
  · exact (World.cell?_of_block (w := W1.drew) (J2.out.block g (Nat.lt_of_lt_of_le HLT.out.2 HB1.out.size) (by have := HLT.out; omega))).trans HXR.out
  clear hK K
  try simp only [Act.put]
  refine taken_at (i := 15) (v := .int .i64 r) (some 3) rfl rfl (by kernel_rfl) (by kernel_rfl) (by kernel_rfl) (fun _ _ _ h => h) (Or.inl ⟨rfl, fun _ _ => rfl⟩) hHeld ?_
  try simp only [Act.put, List.setIfInBounds_toArray]
  refine taken_at (i := 16) (v := .bool true) (some 4) rfl rfl (by kernel_rfl) (by kernel_rfl) (by kernel_rfl) (fun _ _ _ h => h) (Or.inl ⟨rfl, fun _ _ => rfl⟩) hHeld ?_
  try simp only [Act.put]
  refine wpAnyH_done (by kernel_rfl) ?_ _
  clear hHeld
  go_wp2
  refine bodyPost_ret (v := .tuple #[d.val, .int .i64 r, .bool true]) (results_cell2 (p := 2) (u := 3) (v := 4) rfl _ w3 w.heap.size _ _ _ rfl rfl rfl (loadv_dg (HD.out ▸ J1.out))) rfl ?_
  exact ⟨rfl, Lib.hid (J2.out.bel HB1.out.drew HB1.out.size (Nat.le_refl _))⟩
end Go.Proofs.Ytblnmddphichgaa.Mq
