/-
  Own text: All, walked.
-/
import Derived.Test.YtnffngbkidehfaaNkV
import Derived.Sort.CutIn
import Derived.BigRegionIn
import Derived.Maps.AppendAt
namespace Go.Proofs.Ytnffngbkidehfaa.Nk
open Go.RowKit
attribute [local go_sem] Oper.semAt_some

theorem slice_row {W : World} {base n : Nat} {t : TypeId} {v : Value} {xs : List Value} (h : W.ownsRow base t 1 v n xs) : ∃ A C, v = .slice A n C := by
  rcases h.2 with ⟨rfl, rfl⟩ | ⟨g, cap, cur, rfl, _⟩
  · exact ⟨_, _, rfl⟩
  · exact ⟨_, _, rfl⟩
theorem cell_one (W : World) (z : Value) (t : TypeId) : ∀ j u, [z][j]? = some u → (W.alloc (.cells #[z] t)).cell? ((⟨W.heap.size, 0, none⟩ : Addr).add j) = some u := by
  intro j u hu
  cases j with
  | zero =>
    simp at hu
    subst hu
    have hB := Go.Deep.blk_alloc_new W (.cells #[z] t)
    rw [add_place]
    simp only [World.cell?, hB]
    rfl
  | succ j => simp at hu
/-- One number is appended to a slice of the call's own, in a fence. -/
theorem wpListIn_app1 {F : Fence} {n : Nat} {w1 : World} (W : World) {ops : Array Oper} {rest : List Oper} {o : Oper} {a : Act} {Q : Exit → Act → World → Prop} (hg : o.guard = none) (s x : Operand) (t e : TypeId)
    (hop : o.op = .call { callee := .builtin .append, args := #[s, x], argTypes := #[t, t] }) (z0 : Value) (bytes : Nat) (ht : Try.prog.underlying t = some (.slice e)) (hinfo : (Try.prog.info? e).map (fun i => (i.zero, i.size, i.bytes)) = some (some z0, 1, bytes)) (hz0 : z0.cells.size = 1) (hby : bytes ≤ 100)
    (base k C : Nat) (A : Option Addr) (xs : List Value) (z : Value) (hs : a.eval s = .slice A k C)
    (hx : a.eval x = .slice (some ⟨W.heap.size, 0, none⟩) 1 1) (hown : W.ownsRow base e 1 (.slice A k C) k xs) (hz : z.oneCell' = true) (hk : k ≤ 1000) (hb : base ≤ W.heap.size) (hw1 : w1 = W.alloc (.cells #[z] e))
    (hK : ∀ A' C' w', Hid (w'.ownsRow base e 1 (.slice A' (k + 1) C') (k + 1) (xs ++ [z])) → Hid ((W.alloc (.cells #[z] e)).grownBy w' (Value.slice A k C).ownBlock) → wpListIn F n Try.prog ops Q rest (a.put o.dst (.slice A' (k + 1) C')) w') :
    wpListIn F n Try.prog ops Q (o :: rest) a w1 := by
  subst hw1
  obtain ⟨i, hi, hzz⟩ := Option.map_eq_some_iff.1 hinfo
  simp only [Prod.mk.injEq] at hzz
  obtain ⟨hiz, hsz, hby0⟩ := hzz
  refine wpListIn_append_own (W.alloc (.cells #[z] e)) hg s x t hop base e i z0 1 bytes ht hi hiz hsz hby0 hz0 (by decide) (.slice A k C) k xs hs (hown.alloc _) ⟨W.heap.size, 0, none⟩ 1 1 [z] hx rfl (cell_one W z e) ?_ ?_ ?_ ?_ ?_
  · intro u hu
    rw [List.mem_singleton.1 hu]
    exact hz
  · unfold maxLen; omega
  · have h2 : (k + 1) * bytes ≤ 1001 * 100 := Nat.mul_le_mul (by omega) hby
    omega
  · simp; omega
  · intro v' w' h1 h2 _
    obtain ⟨A', C', rfl⟩ := slice_row h1
    exact hK A' C' w' (Lib.hid h1) (Lib.hid h2)
/-- An append, in a region that draws its order. -/
theorem stepIn_app1 {F : Fence} {n : Nat} {w w' : World} {ops : Array Oper} {o : Oper} {a : Act} {K : Act → World → Prop} {Q : Exit → Act → World → Prop} {E : Prop} (hg : o.guard = none) (s x : Operand) (t : TypeId)
    (hop : o.op = .call { callee := .builtin .append, args := #[s, x], argTypes := #[t, t] }) (vs vx : Value) (hs : a.eval s = vs) (hx : a.eval x = vx) {v' : Value} (hrun : (Builtin.append_ #[t, t] o.type #[vs, vx]).run Try.prog w = .ok v' w')
    (hK : K (a.put o.dst v') w') : if Region.wanted o (yielded ops a.tmps) = true then Oper.wpIn F n Try.prog o a w K Q else E := by
  have hw : Region.wanted o (yielded ops a.tmps) = true := by simp [Region.wanted, hg]
  rw [if_pos hw]
  unfold Oper.wpIn
  refine ⟨by simp [Oper.about, hop, resolve, Target.leads, Sem.run_pure], ?_⟩
  rw [Oper.semAt_plain F _ _ (by rw [hop]; intro c hc'; cases hc')]
  simp [execOp, hop, resolve, invoke, builtin, hs, hx, hrun, Result.andThen]
  exact hK
/-- Between two groups that are put down. -/
structure AI (w : World) (b : Nat) (K V : List Value) (D i1 i2 : Nat) (W : World) (A1 : Option Addr) (C1 : Nat) (A2 : Option Addr) (C2 : Nat) : Prop where
  one : W.heap[w.heap.size]? = some (Obj.cells #[.pointer (some ⟨b, 0, none⟩)] 59 (0, 0))
  gs : W.heap[w.heap.size + 1]? = some (Obj.cells #[.slice A1 i1 C1] 71 (0, 0))
  ts : W.heap[w.heap.size + 2]? = some (Obj.cells #[.slice A2 i2 C2] 44 (0, 0))
  ks : W.ownsRow (D + 2) 28 1 (.slice A1 i1 C1) i1 (K.take i1)
  vs : W.ownsRow (D + 2) 3 1 (.slice A2 i2 C2) i2 (V.take i2)
  bel : Below w.heap.size w W
  lo : w.heap.size + 3 ≤ D ∧ D ≤ W.heap.size
section
variable {w W W' w5 : World} {b D i1 i2 C1 C2 C' : Nat} {K V : List Value} {A1 A2 A' : Option Addr}
theorem row_keep {base : Nat} {e : TypeId} {v : Value} {n : Nat} {xs : List Value} (h : W.ownsRow base e 1 v n xs) (hk : ∀ g cur, v.ownBlock = some g → base ≤ g → W.heap[g]? = some (Obj.cells cur e (0, 0)) → W'.heap[g]? = W.heap[g]?) : W'.ownsRow base e 1 v n xs := by
  refine ⟨h.1, h.2.imp id ?_⟩
  rintro ⟨g, cap, cur, he, h1, hg, h2⟩
  exact ⟨g, cap, cur, he, h1, (hk g cur (by rw [he]; rfl) h1 hg).trans hg, h2⟩
theorem row_low {base b : Nat} {e : TypeId} {v : Value} {n : Nat} {xs : List Value} (h : W.ownsRow base e 1 v n xs) (hb : b ≤ base) : W.ownsRow b e 1 v n xs := by
  refine ⟨h.1, h.2.imp id ?_⟩
  rintro ⟨g, cap, cur, he, h1, h2⟩
  exact ⟨g, cap, cur, he, by omega, h2⟩
theorem row_typ {base : Nat} {e : TypeId} {v : Value} {n : Nat} {xs : List Value} (h : W.ownsRow base e 1 v n xs) {g : Nat} (hg : v.ownBlock = some g) : base ≤ g ∧ g < W.heap.size ∧ ∃ cur, W.heap[g]? = some (Obj.cells cur e (0, 0)) := by
  rcases h.2 with ⟨rfl, _⟩ | ⟨g', cap, cur, rfl, h1, h2, _⟩
  · simp [Value.ownBlock] at hg
  · simp [Value.ownBlock] at hg
    subst hg
    exact ⟨h1, (Array.getElem?_eq_some_iff.1 h2).1, cur, h2⟩
theorem AI.aside (h : AI w b K V D i1 i2 W A1 C1 A2 C2) (hs : Aside D W W') : AI w b K V D i1 i2 W' A1 C1 A2 C2 := by
  obtain ⟨l1, l2⟩ := h.lo
  have hk : ∀ k, k < W.heap.size → k < D ∨ D + 2 ≤ k → W'.heap[k]? = W.heap[k]? := fun k h1 h2 => hs.block k h1 (by omega) (by omega)
  refine ⟨(hk _ (by omega) (by omega)).trans h.one, (hk _ (by omega) (by omega)).trans h.gs, (hk _ (by omega) (by omega)).trans h.ts, row_keep h.ks (fun g _ hg hb _ => hk g (h.ks.lt g hg).2 (.inr hb)), row_keep h.vs (fun g _ hg hb _ => hk g (h.vs.lt g hg).2 (.inr hb)), Aside.bel h.bel hs (by omega) (by omega), l1, Nat.le_trans l2 hs.size⟩
/-- A key is put down. -/
theorem AI.keys (h : AI w b K V D i1 i2 W A1 C1 A2 C2) (hD : D + 2 ≤ W.heap.size) {z : Value} (hz : K[i1]? = some z) (ho : w5.ownsRow (D + 2) 28 1 (.slice A' (i1 + 1) C') (i1 + 1) (K.take i1 ++ [z])) (hg : (W.alloc (.cells #[z] 28)).grownBy w5 (Value.slice A1 i1 C1).ownBlock) :
    AI w b K V D (i1 + 1) i2 (w5.setCell ⟨w.heap.size + 1, 0, none⟩ (.slice A' (i1 + 1) C')) A' C' A2 C2 ∧ W.heap.size ≤ w5.heap.size ∧ ∀ k, k < D + 2 → k ≠ w.heap.size + 1 → (w5.setCell ⟨w.heap.size + 1, 0, none⟩ (.slice A' (i1 + 1) C')).heap[k]? = W.heap[k]? := by
  obtain ⟨l1, l2⟩ := h.lo
  have hsz : W.heap.size ≤ w5.heap.size := by have := hg.size; simp at this; omega
  have hset : ∀ k, k ≠ w.heap.size + 1 → (w5.setCell ⟨w.heap.size + 1, 0, none⟩ (.slice A' (i1 + 1) C')).heap[k]? = w5.heap[k]? := fun k hk => Below.heap_setCell _ ⟨w.heap.size + 1, 0, none⟩ _ k hk
  have hw5 : ∀ k, k < W.heap.size → (Value.slice A1 i1 C1).ownBlock ≠ some k → w5.heap[k]? = W.heap[k]? := fun k h1 h2 => (hg.block k (by simp; omega) (fun e => h2 e.symm)).trans (Below.heap_alloc W _ k h1)
  have hlow : ∀ k, k < D + 2 → w5.heap[k]? = W.heap[k]? := fun k hk => hw5 k (by omega) (fun e => by have := (h.ks.lt k e).1; omega)
  have hkk : ∀ k, k < D + 2 → k ≠ w.heap.size + 1 → (w5.setCell ⟨w.heap.size + 1, 0, none⟩ (.slice A' (i1 + 1) C')).heap[k]? = W.heap[k]? := fun k h1 h2 => (hset k h2).trans (hlow k h1)
  refine ⟨⟨(hkk _ (by omega) (by omega)).trans h.one, set_blk ((hlow _ (by omega)).trans h.gs) _, (hkk _ (by omega) (by omega)).trans h.ts, ?_, ?_, ?_, l1, by simp; omega⟩, hsz, hkk⟩
  · rw [take_snoc hz] at ho
    exact row_keep ho (fun g _ _ hb _ => hset g (by omega))
  · refine row_keep h.vs (fun g cur hg2 hb hcur => (hset g (by omega)).trans (hw5 g (h.vs.lt g hg2).2 (fun e => ?_)))
    obtain ⟨_, _, cur2, h2⟩ := row_typ h.ks e
    rw [hcur] at h2
    simp at h2
  · refine Below.setCell (p := ⟨w.heap.size + 1, 0, none⟩) ?_ (by show w.heap.size ≤ w.heap.size + 1; omega) _
    exact below_grown ((h.bel).alloc h.bel.size _) hg (by simp; have := h.bel.size; omega) (fun k e => by have := (h.ks.lt k e).1; omega)
/-- How often it was asked for is put down. -/
theorem AI.vals (h : AI w b K V D i1 i2 W A1 C1 A2 C2) (hD : D + 2 ≤ W.heap.size) {z : Value} (hz : V[i2]? = some z) (ho : w5.ownsRow (D + 2) 3 1 (.slice A' (i2 + 1) C') (i2 + 1) (V.take i2 ++ [z])) (hg : (W.alloc (.cells #[z] 3)).grownBy w5 (Value.slice A2 i2 C2).ownBlock) :
    AI w b K V D i1 (i2 + 1) (w5.setCell ⟨w.heap.size + 2, 0, none⟩ (.slice A' (i2 + 1) C')) A1 C1 A' C' ∧ W.heap.size ≤ w5.heap.size ∧ ∀ k, k < D + 2 → k ≠ w.heap.size + 2 → (w5.setCell ⟨w.heap.size + 2, 0, none⟩ (.slice A' (i2 + 1) C')).heap[k]? = W.heap[k]? := by
  obtain ⟨l1, l2⟩ := h.lo
  have hsz : W.heap.size ≤ w5.heap.size := by have := hg.size; simp at this; omega
  have hset : ∀ k, k ≠ w.heap.size + 2 → (w5.setCell ⟨w.heap.size + 2, 0, none⟩ (.slice A' (i2 + 1) C')).heap[k]? = w5.heap[k]? := fun k hk => Below.heap_setCell _ ⟨w.heap.size + 2, 0, none⟩ _ k hk
  have hw5 : ∀ k, k < W.heap.size → (Value.slice A2 i2 C2).ownBlock ≠ some k → w5.heap[k]? = W.heap[k]? := fun k h1 h2 => (hg.block k (by simp; omega) (fun e => h2 e.symm)).trans (Below.heap_alloc W _ k h1)
  have hlow : ∀ k, k < D + 2 → w5.heap[k]? = W.heap[k]? := fun k hk => hw5 k (by omega) (fun e => by have := (h.vs.lt k e).1; omega)
  have hkk : ∀ k, k < D + 2 → k ≠ w.heap.size + 2 → (w5.setCell ⟨w.heap.size + 2, 0, none⟩ (.slice A' (i2 + 1) C')).heap[k]? = W.heap[k]? := fun k h1 h2 => (hset k h2).trans (hlow k h1)
  refine ⟨⟨(hkk _ (by omega) (by omega)).trans h.one, (hkk _ (by omega) (by omega)).trans h.gs, set_blk ((hlow _ (by omega)).trans h.ts) _, ?_, ?_, ?_, l1, by simp; omega⟩, hsz, hkk⟩
  · refine row_keep h.ks (fun g cur hg2 hb hcur => (hset g (by omega)).trans (hw5 g (h.ks.lt g hg2).2 (fun e => ?_)))
    obtain ⟨_, _, cur2, h2⟩ := row_typ h.vs e
    rw [hcur] at h2
    simp at h2
  · rw [take_snoc hz] at ho
    exact row_keep ho (fun g _ _ hb _ => hset g (by omega))
  · refine Below.setCell (p := ⟨w.heap.size + 2, 0, none⟩) ?_ (by show w.heap.size ≤ w.heap.size + 2; omega) _
    exact below_grown ((h.bel).alloc h.bel.size _) hg (by simp; have := h.bel.size; omega) (fun k e => by have := (h.vs.lt k e).1; omega)
end
/-- What the list's iterator reads: two boxes, two rows. -/
structure NC (p1 p2 : Nat) (K V : List Value) (n : Nat) (A1 : Option Addr) (C1 : Nat) (A2 : Option Addr) (C2 : Nat) (W : World) : Prop where
  one : W.cell? ⟨p1, 0, none⟩ = some (.slice A1 n C1)
  two : W.cell? ⟨p2, 0, none⟩ = some (.slice A2 n C2)
  ks : W.ownsRow 0 28 1 (.slice A1 n C1) n K
  vs : W.ownsRow 0 3 1 (.slice A2 n C2) n V
/-- What All answers. -/
def NIter (w : World) (K V : List Value) (n : Nat) (e : Ending) (w' : World) : Prop :=
  ∃ p1 p2 A1 C1 A2 C2, e = .returned (.func (.func 104) #[] #[.pointer (some ⟨p1, 0, none⟩), .pointer (some ⟨p2, 0, none⟩)]) ∧ Hid (NC p1 p2 K V n A1 C1 A2 C2 w') ∧ Hid (Below w.heap.size w w')
def Nl.ks (N : Nl) : List Value := N.q.l.map (fun x => .int .u32 x.key)
def Nl.vs (N : Nl) : List Value := N.q.l.map (fun x => .int .i64 (N.t x.key : Int))
set_option maxRecDepth 100000 in
set_option maxHeartbeats 1000000 in
theorem nall_any (b s m : Nat) (A : Option Addr) (C j : Nat) (N : Nl) (hf : N.fit j) (w : World) (h : NS w b s m A C N) :
    Calls Try.prog 86 #[.pointer (some ⟨b, 0, none⟩)] w (NIter w N.ks N.vs N.q.l.length) := by
  obtain ⟨W, hW⟩ : ∃ W, W = ((w.alloc (.cells #[.pointer (some ⟨b, 0, none⟩)] 59)).alloc (.cells #[.slice none 0 0] 71)).alloc (.cells #[.slice none 0 0] 44) := ⟨_, rfl⟩
  have hn : N.q.l.length ≤ 1000 := by have := hf.q.len; have := hf.room; omega
  have hbW : Below w.heap.size w W := by rw [hW]; exact (((Below.refl _ _).alloc (Nat.le_refl _) _).alloc (by simp) _).alloc (by simp; omega) _
  have hsW : W.heap.size = w.heap.size + 3 := by rw [hW]; simp
  have h1W : W.heap[w.heap.size]? = some (Obj.cells #[.pointer (some ⟨b, 0, none⟩)] 59 (0, 0)) := by
    rw [hW]; exact ((Below.heap_alloc _ _ _ (by simp; omega)).trans (Below.heap_alloc _ _ _ (by simp))).trans (Go.Deep.blk_alloc_new w _)
  have h2W : W.heap[w.heap.size + 1]? = some (Obj.cells #[.slice none 0 0] 71 (0, 0)) := by
    rw [hW]
    have := Go.Deep.blk_alloc_new (w.alloc (.cells #[.pointer (some ⟨b, 0, none⟩)] 59)) (.cells #[.slice none 0 0] 71)
    exact (Below.heap_alloc _ _ _ (by simp)).trans (by simpa using this)
  have h3W : W.heap[w.heap.size + 2]? = some (Obj.cells #[.slice none 0 0] 44 (0, 0)) := by
    rw [hW]
    have := Go.Deep.blk_alloc_new ((w.alloc (.cells #[.pointer (some ⟨b, 0, none⟩)] 59)).alloc (.cells #[.slice none 0 0] 71)) (.cells #[.slice none 0 0] 44)
    simpa using this
  have hNW : NS W b s m A C N := NB.below h hbW (Nat.le_refl _)
  obtain ⟨c0, c1, c2, c3⟩ := hNW.blk.cells
  have d0 := (blk_cell h1W).1
  have CA := Lib.hid (all_any s N.q A C hn W hNW.set)
  have HW := Lib.hid hW
  have hro : Fence.wide.round = none := rfl
  obtain ⟨n, hN⟩ : ∃ n, n = N.q.l.length := ⟨_, rfl⟩
  have HNN := Lib.hid hN
  rw [← hN]
  clear hW hN
  refine (callsIn_wide (n := 3)).1 ?_
  refine callsIn_of_wp_marks Try.func86 rfl trivial ?_ hro
  simp only [Try.ntmps86, List.size_toArray, List.length_cons, List.length_nil, Nat.reduceAdd, Nat.reduceSub, Array.replicate_succ, Array.replicate_zero, List.push_toArray, List.append_toArray, List.nil_append, List.cons_append]
  rw [wpIn_wide]
  go_upto_region 3 with fail
  rw [← HW.out]
  go_wp2_with (first
    | (go_at_call 83; (with_reducible refine (CA.out).mono ?_); rintro e w4 ⟨p, p2, A4, C4, rfl, HI4⟩; have fnp := func_nil19 103 p p2)
    | fail)
  obtain ⟨hbx, hnb, how, hbel, hlo1, hlo2⟩ := HI4.out
  have HN1000 : Hid (n ≤ 1000) := Lib.hid (by rw [HNN.out]; exact hn)
  have HIC : Hid (ItC p p2 N.q.now A4 n C4 N.q.l w4) := Lib.hid ⟨by rw [HNN.out]; exact hbx, hnb, by rw [HNN.out]; exact how.low (Nat.zero_le _)⟩
  have HLO : Hid (∀ k, (k = p ∨ k = p2 ∨ A4.map Addr.block = some k) → w.heap.size + 3 ≤ k ∧ k < w4.heap.size) := Lib.hid (fun k hk => by
    rcases hk with rfl | rfl | hk
    · exact ⟨by omega, cell_in hbx⟩
    · exact ⟨by omega, cell_in hnb⟩
    · have := how.lt k (by rw [own_block]; exact hk)
      omega)
  have hDW : Hid (w.heap.size + 3 ≤ w4.heap.size) := Lib.hid (by have := hbel.size; omega)
  have HB0 : Hid (AI w b N.ks N.vs w4.heap.size 0 0 w4 none 0 none 0) := Lib.hid ⟨(hbel.block _ (by omega)).trans h1W, (hbel.block _ (by omega)).trans h2W, (hbel.block _ (by omega)).trans h3W, ⟨rfl, .inl ⟨rfl, rfl⟩⟩, ⟨rfl, .inl ⟨rfl, rfl⟩⟩, hbW.trans (hbel.mono (by omega)), hDW.out, Nat.le_refl _⟩
  have HYS := Lib.hid (all1_yields 2 p p2 n C4 N.q.now A4 N.q.l HNN.out HN1000.out hf.q.due hf.q.now0 hf.q.now1)
  have HKEY : Hid (∀ i, i < n → (0 ≤ (itAt N.q.l i).key ∧ (itAt N.q.l i).key ≤ 4294967295) ∧ N.has (itAt N.q.l i).key = true ∧ N.ks[i]? = some (.int .u32 (itAt N.q.l i).key) ∧ N.vs[i]? = some (.int .i64 (N.t (itAt N.q.l i).key : Int))) := Lib.hid (fun i hi => by
    have hs := itAt_some (l := N.q.l) (i := i) (by rw [← HNN.out]; exact hi)
    have hm := List.mem_of_getElem? hs
    refine ⟨hf.key _ hm, (hasK_iff _ _).2 ⟨_, hm, rfl⟩, ?_, ?_⟩
    · unfold Nl.ks; rw [List.getElem?_map, hs]; rfl
    · unfold Nl.vs; rw [List.getElem?_map, hs]; rfl)
  have HNS : Hid (∀ W, Below w.heap.size w W → NS W b s m A C N) := Lib.hid (fun W hb => NB.below h hb (Nat.le_refl _))
  have HKL : Hid (N.ks.length = n ∧ N.vs.length = n) := Lib.hid (by unfold Nl.ks Nl.vs; rw [List.length_map, List.length_map]; exact ⟨HNN.out.symm, HNN.out.symm⟩)
  clear hbx hnb how hbel hlo1 hlo2 HI4 hNW h1W h2W h3W hbW hsW c0 c1 c2 c3 d0 h hf hn
  generalize N.ks = K at *
  generalize N.vs = V at *
  refine (wpIn_wide (n := 3)).1 ?_
  refine wpIn_range_j hro (by omega) (gf := 103) (lb := #[.pointer (some ⟨p, 0, none⟩), .pointer (some ⟨p2, 0, none⟩)]) rfl trivial (enters_of Try.func103 (by kernel_rfl) rfl) (N := n) (enc := encT N.q.now N.q.l) (C := ItC p p2 N.q.now A4 n C4 N.q.l) HYS.out (fun _ => rfl)
    (fun A B h hb => h.below hb) (fun A l r o h hl => h.obj hl rfl)
    (fun i W => ∃ A1 C1 A2 C2, AI w b K V w4.heap.size i i W A1 C1 A2 C2) (fun i A B h hs => by obtain ⟨A1, C1, A2, C2, h⟩ := h; exact ⟨A1, C1, A2, C2, h.aside hs⟩)
    ⟨none, 0, none, 0, HB0.out⟩ HIC.out
    (fun i => { tmps := #[.pointer (some ⟨b, 0, none⟩), .pointer (some ⟨w.heap.size, 0, none⟩), .nilFunc, .pointer (some ⟨w.heap.size + 1, 0, none⟩), .pointer (some ⟨w.heap.size + 1 + 1, 0, none⟩), .int .u32 (itAt N.q.l i).key, .pointer (some ⟨b, 0, none⟩), .pointer (some ⟨b, 0, none⟩), .pointer (some ⟨b, 0, none⟩), .pointer (some ⟨s, 0, none⟩),
      .func (.func 103) #[] #[.pointer (some ⟨p, 0, none⟩), .pointer (some ⟨p2, 0, none⟩)], .int .u32 (itAt N.q.l i).key, .int .i64 ((itAt N.q.l i).due - N.q.now), undef, undef, undef, undef, undef, undef, undef, undef, undef, undef, undef, undef, undef, undef], defers := [] }) ?assign ?body ?done
  case assign =>
    intro l i W K hK
    dsimp only [encT] at hK ⊢
    gi_wp2
    exact hK
  case body =>
    rintro l0 i W hi ⟨A1, C1, A2, C2, hB⟩ hC hD _ _
    have d1 := (blk_cell hB.gs).1
    have hbs := hB.bel.size
    obtain ⟨hkr, hhas, hK1, hV1⟩ := HKEY.out i hi
    obtain ⟨k, hk⟩ : ∃ k, k = (itAt N.q.l i).key := ⟨_, rfl⟩
    rw [← hk] at hkr hhas hK1 hV1
    obtain ⟨tk, htk⟩ : ∃ tk, tk = N.t k := ⟨_, rfl⟩
    rw [← htk] at hV1
    have HK := Lib.hid hkr
    have HI10 : Hid (i ≤ 1000) := Lib.hid (by have := HN1000.out; omega)
    have HD : Hid (w4.heap.size + 2 ≤ W.heap.size) := Lib.hid hD
    have HKS := Lib.hid hB.ks
    have HST1 : Hid (∀ A5 C5 w5, w5.ownsRow (w4.heap.size + 2) 28 1 (.slice A5 (i + 1) C5) (i + 1) (K.take i ++ [.int .u32 k]) → (W.alloc (.cells #[.int .u32 k] 28)).grownBy w5 (Value.slice A1 i C1).ownBlock →
        (w5.cell? ⟨w.heap.size + 1, 0, none⟩ = some (.slice A1 i C1) ∧ w5.frozen? ⟨w.heap.size + 1, 0, none⟩ = false) ∧ AI w b K V w4.heap.size (i + 1) i (w5.setCell ⟨w.heap.size + 1, 0, none⟩ (.slice A5 (i + 1) C5)) A5 C5 A2 C2 ∧ w4.heap.size + 2 ≤ (w5.setCell ⟨w.heap.size + 1, 0, none⟩ (.slice A5 (i + 1) C5)).heap.size ∧ W.heap.size ≤ (w5.setCell ⟨w.heap.size + 1, 0, none⟩ (.slice A5 (i + 1) C5)).heap.size ∧
        ∀ k, k < w4.heap.size + 2 → k ≠ w.heap.size + 1 → (w5.setCell ⟨w.heap.size + 1, 0, none⟩ (.slice A5 (i + 1) C5)).heap[k]? = W.heap[k]?) := Lib.hid (fun A5 C5 w5 ho hg => by
      obtain ⟨x1, x2, x3⟩ := hB.keys hD hK1 ho hg
      have hx := hDW.out
      have e5 : w5.heap[w.heap.size + 1]? = some (Obj.cells #[.slice A1 i C1] 71 (0, 0)) := ((hg.block _ (by simp; omega) (fun e => by have := (hB.ks.lt _ e.symm).1; omega)).trans (Below.heap_alloc W _ _ (by omega))).trans hB.gs
      exact ⟨blk_cell e5, x1, by simp; omega, by simpa using x2, x3⟩)
    have HC := Lib.hid hC
    have HITC : Hid (∀ W', (∀ k, k < w4.heap.size + 2 → k ≠ w.heap.size + 1 → k ≠ w.heap.size + 2 → W'.heap[k]? = W.heap[k]?) → ItC p p2 N.q.now A4 n C4 N.q.l W' ∧ W'.heap[w4.heap.size]? = W.heap[w4.heap.size]? ∧ W'.heap[w4.heap.size + 1]? = W.heap[w4.heap.size + 1]?) := Lib.hid (fun W' hk => by
      have hx := hDW.out
      have hy : ∀ k, (k = p ∨ k = p2 ∨ A4.map Addr.block = some k) → W'.heap[k]? = W.heap[k]? := fun k hk2 => by have := HLO.out k hk2; exact hk k (by omega) (by omega) (by omega)
      exact ⟨hC.keep (hy p (.inl rfl)) (hy p2 (.inr (.inl rfl))) (fun g hg => hy g (.inr (.inr hg))), hk _ (by omega) (by omega) (by omega), hk _ (by omega) (by omega) (by omega)⟩)
    have HLK : Hid (∀ W', Below w.heap.size w W' → W'.cell? ⟨b, 1, none⟩ = some (.map (some m)) ∧ (Instr.lookup 127 (.map (some m)) (.int .u32 k) false).run Try.prog W' = .ok (.int .i64 (tk : Int)) W') := Lib.hid (fun W' hb => by
      have hn := HNS.out W' hb
      rw [htk]
      exact ⟨hn.blk.cells.2.1, hn.map.look HK.out hhas⟩)
    have HV1 := Lib.hid hV1
    have HLB : Hid (w4.heap.size + 2 ≤ W.heap.size) := HD
    rw [← hk]
    clear hB hC hD hkr hhas hK1 hV1 htk hk hbs
    generalize (itAt N.q.l i).due - N.q.now = dz at *
    gi_upto_region 6 with (first
      | (gi_at_builtin; (with_reducible refine wpListIn_app1 W rfl (.tmp 13) (.tmp 15) 71 28 rfl (.int .u32 0) 4 Try.underlying71 info_u32 rfl (by decide) (w4.heap.size + 2) i C1 A1 (K.take i) (.int .u32 k) rfl rfl HKS.out rfl HI10.out HLB.out rfl ?_); intro A5 C5 w5 HO5 HG5; obtain ⟨c5, f5⟩ := (HST1.out A5 C5 w5 HO5.out HG5.out).1)
      | fail)
    obtain ⟨_, hB6, hD6, hs6, hk6⟩ := HST1.out A5 C5 w5 HO5.out HG5.out
    clear c5 f5 d1
    generalize w5.setCell ⟨w.heap.size + 1, 0, none⟩ (.slice A5 (i + 1) C5) = W6 at *
    have HW6 : Hid (∀ w', Below W6.heap.size W6 w' → w'.cell? ⟨w.heap.size + 1 + 1, 0, none⟩ = some (.slice A2 i C2) ∧ w'.cell? ⟨w.heap.size, 0, none⟩ = some (.pointer (some ⟨b, 0, none⟩)) ∧ w'.cell? ⟨b, 1, none⟩ = some (.map (some m)) ∧ (Instr.lookup 127 (.map (some m)) (.int .u32 k) false).run Try.prog w' = .ok (.int .i64 (tk : Int)) w') := Lib.hid (fun w' hb => by
      have h' := hB6.aside (Aside.of_below hb)
      obtain ⟨y1, y2⟩ := HLK.out w' h'.bel
      exact ⟨(blk_cell h'.ts).1, (blk_cell h'.one).1, y1, y2⟩)
    have HST2 : Hid (∀ w7, Below W6.heap.size W6 w7 → w7.ownsRow (w4.heap.size + 2) 3 1 (.slice A2 i C2) i (V.take i) ∧ w4.heap.size + 2 ≤ w7.heap.size ∧ ∀ A8 C8 w8, w8.ownsRow (w4.heap.size + 2) 3 1 (.slice A8 (i + 1) C8) (i + 1) (V.take i ++ [.int .i64 (tk : Int)]) → (w7.alloc (.cells #[.int .i64 (tk : Int)] 3)).grownBy w8 (Value.slice A2 i C2).ownBlock →
        (w8.cell? ⟨w.heap.size + 1 + 1, 0, none⟩ = some (.slice A2 i C2) ∧ w8.frozen? ⟨w.heap.size + 1 + 1, 0, none⟩ = false) ∧ WentJ w4.heap.size (fun i W => ∃ A1 C1 A2 C2, AI w b K V w4.heap.size i i W A1 C1 A2 C2) (ItC p p2 N.q.now A4 n C4 N.q.l) i W .normal { tmps := #[], defers := [] } (w8.setCell ⟨w.heap.size + 1 + 1, 0, none⟩ (.slice A8 (i + 1) C8))) := Lib.hid (fun w7 hb7 => by
      have h7 := hB6.aside (Aside.of_below hb7)
      have hD7 : w4.heap.size + 2 ≤ w7.heap.size := Nat.le_trans hD6 hb7.size
      refine ⟨h7.vs, hD7, fun A8 C8 w8 ho hg => ?_⟩
      obtain ⟨x1, x2, x3⟩ := h7.vals hD7 HV1.out ho hg
      have hx := hDW.out
      have e8 : w8.heap[w.heap.size + 2]? = some (Obj.cells #[.slice A2 i C2] 44 (0, 0)) := ((hg.block _ (by simp; omega) (fun e => by have := (h7.vs.lt _ e.symm).1; omega)).trans (Below.heap_alloc w7 _ _ (by omega))).trans h7.ts
      have hkk : ∀ k, k < w4.heap.size + 2 → k ≠ w.heap.size + 1 → k ≠ w.heap.size + 2 → (w8.setCell ⟨w.heap.size + 2, 0, none⟩ (.slice A8 (i + 1) C8)).heap[k]? = W.heap[k]? := fun k k1 k2 k3 => ((x3 k k1 k3).trans (hb7.block k (by omega))).trans (hk6 k k1 k2)
      obtain ⟨z1, z2, z3⟩ := HITC.out _ hkk
      refine ⟨blk_cell e8, ⟨_, _, _, _, x1⟩, z1, ?_, z2, z3⟩
      have := hb7.size
      simp
      omega)
    clear hB6 hD6 hs6 hk6 HLK HITC HST1 HC HO5 HG5
    have hb0 : Below W6.heap.size W6 W6.drew := (Below.refl _ _).drew
    obtain ⟨hvs, hD7, hfin⟩ := HST2.out W6.drew hb0
    obtain ⟨e1, e2, e3, e4⟩ := HW6.out W6.drew hb0
    have e5 : ∀ o, (W6.drew.alloc o).cell? ⟨w.heap.size + 1 + 1, 0, none⟩ = some (.slice A2 i C2) := fun o => (HW6.out _ (hb0.alloc hb0.size o)).1
    have e6 : ∀ o, (W6.alloc o).cell? ⟨w.heap.size + 1 + 1, 0, none⟩ = some (.slice A2 i C2) := fun o => (HW6.out _ ((Below.refl _ _).alloc (Nat.le_refl _) o)).1
    obtain ⟨ii, hi44, hzz⟩ := Option.map_eq_some_iff.1 info_i64
    simp only [Prod.mk.injEq] at hzz
    obtain ⟨hiz, hsz, hby0⟩ := hzz
    obtain ⟨v8, w8, hrun, ho8, hg8, _, _⟩ := run_append_own_at (P := Try.prog) (w := W6.drew.alloc (.cells #[.int .i64 (tk : Int)] 3)) (w4.heap.size + 2) 44 44 3 ii (.int .i64 0) 1 8 Try.underlying44 hi44 hiz hsz hby0 rfl (by decide) (.slice A2 i C2) i (V.take i) (hvs.alloc _) ⟨W6.heap.size, 0, none⟩ 1 1 [.int .i64 (tk : Int)] rfl
      (cell_one W6.drew (.int .i64 (tk : Int)) 3) (fun u hu => by rw [List.mem_singleton.1 hu]; rfl) (by have := HI10.out; unfold maxLen; omega) (by have := HI10.out; omega) (by have := hD7; simp at this ⊢; omega)
    obtain ⟨A8, C8, rfl⟩ := slice_row ho8
    obtain ⟨⟨c8, f8⟩, hfin8⟩ := hfin A8 C8 w8 ho8 hg8
    have HFIN := Lib.hid hfin8
    clear hvs hD7 hfin ho8 hg8 hfin8 hiz hsz hby0 hi44 hb0 HST2 HW6
    refine wpIn_region_any (by kernel_rfl) ?_
    change wpAnyIn _ _ _ _ _ _ _ _ _ (World.drew _)
    refine wpAnyIn_ready (rs := [0, 1, 5]) (by kernel_rfl) (by simp) ?_
    refine AllReadyIn.cons rfl (fun K hK => ?_) ?_
    · go_simp
      refine hK _ _ ?_
      clear hK K
      refine wpAnyIn_ready (rs := [1, 5]) (by kernel_rfl) (by simp) ?_
      refine AllReadyIn.cons rfl (fun K hK => ?_) ?_
      · go_simp
        refine hK _ _ ?_
        clear hK K
        refine wpAnyIn_ready (rs := [2, 5]) (by kernel_rfl) (by simp) ?_
        refine AllReadyIn.cons rfl (fun K hK => ?_) ?_
        · go_simp
          refine hK _ _ ?_
          clear hK K
          refine wpAnyIn_ready (rs := [3, 5]) (by kernel_rfl) (by simp) ?_
          refine AllReadyIn.cons rfl (fun K hK => ?_) ?_
          · go_simp
            refine hK _ _ ?_
            clear hK K
            refine wpAnyIn_ready (rs := [4, 5]) (by kernel_rfl) (by simp) ?_
            refine AllReadyIn.cons rfl (fun K hK => ?_) ?_
            · go_simp
              refine hK _ _ ?_
              clear hK K
              refine wpAnyIn_ready (rs := [5]) (by kernel_rfl) (by simp) ?_
              refine AllReadyIn.cons rfl (fun K hK => ?_) AllReadyIn.nil
              go_simp
              refine hK _ _ ?_
              clear hK K
              refine wpAnyIn_ready (rs := [6]) (by kernel_rfl) (by simp) ?_
              refine AllReadyIn.cons rfl (fun K hK => ?_) AllReadyIn.nil
              go_simp
              refine hK _ _ ?_
              clear hK K
              refine wpAnyIn_ready (rs := [7]) (by kernel_rfl) (by simp) ?_
              refine AllReadyIn.cons rfl (fun K hK => ?_) AllReadyIn.nil
              go_simp
              refine hK _ _ ?_
              clear hK K
              refine wpAnyIn_ready (rs := [8]) (by kernel_rfl) (by simp) ?_
              refine AllReadyIn.cons rfl (fun K hK => ?_) AllReadyIn.nil
              refine stepIn_app1 rfl (.tmp 17) (.tmp 24) 44 rfl (.slice A2 i C2) (.slice (some ⟨W6.heap.size, 0, none⟩) 1 1) rfl rfl hrun ?_
              refine hK _ _ ?_
              simp only [Act.put, List.setIfInBounds_toArray]
              clear hK K
              refine wpAnyIn_ready (rs := [9]) (by kernel_rfl) (by simp) ?_
              refine AllReadyIn.cons rfl (fun K hK => ?_) AllReadyIn.nil
              go_simp
              refine hK _ _ ?_
              clear hK K
              refine wpAnyIn_done (by kernel_rfl) ?_ _
              exact HFIN.out
            refine AllReadyIn.cons rfl (fun K hK => ?_) AllReadyIn.nil
            go_simp
            refine hK _ _ ?_
            clear hK K
            refine wpAnyIn_ready (rs := [4]) (by kernel_rfl) (by simp) ?_
            refine AllReadyIn.cons rfl (fun K hK => ?_) AllReadyIn.nil
            go_simp
            refine hK _ _ ?_
            clear hK K
            refine wpAnyIn_ready (rs := [6]) (by kernel_rfl) (by simp) ?_
            refine AllReadyIn.cons rfl (fun K hK => ?_) AllReadyIn.nil
            go_simp
            refine hK _ _ ?_
            clear hK K
            refine wpAnyIn_ready (rs := [7]) (by kernel_rfl) (by simp) ?_
            refine AllReadyIn.cons rfl (fun K hK => ?_) AllReadyIn.nil
            go_simp
            refine hK _ _ ?_
            clear hK K
            refine wpAnyIn_ready (rs := [8]) (by kernel_rfl) (by simp) ?_
            refine AllReadyIn.cons rfl (fun K hK => ?_) AllReadyIn.nil
            refine stepIn_app1 rfl (.tmp 17) (.tmp 24) 44 rfl (.slice A2 i C2) (.slice (some ⟨W6.heap.size, 0, none⟩) 1 1) rfl rfl hrun ?_
            refine hK _ _ ?_
            simp only [Act.put, List.setIfInBounds_toArray]
            clear hK K
            refine wpAnyIn_ready (rs := [9]) (by kernel_rfl) (by simp) ?_
            refine AllReadyIn.cons rfl (fun K hK => ?_) AllReadyIn.nil
            go_simp
            refine hK _ _ ?_
            clear hK K
            refine wpAnyIn_done (by kernel_rfl) ?_ _
            exact HFIN.out
          refine AllReadyIn.cons rfl (fun K hK => ?_) AllReadyIn.nil
          go_simp
          refine hK _ _ ?_
          clear hK K
          refine wpAnyIn_ready (rs := [3]) (by kernel_rfl) (by simp) ?_
          refine AllReadyIn.cons rfl (fun K hK => ?_) AllReadyIn.nil
          go_simp
          refine hK _ _ ?_
          clear hK K
          refine wpAnyIn_ready (rs := [4]) (by kernel_rfl) (by simp) ?_
          refine AllReadyIn.cons rfl (fun K hK => ?_) AllReadyIn.nil
          go_simp
          refine hK _ _ ?_
          clear hK K
          refine wpAnyIn_ready (rs := [6]) (by kernel_rfl) (by simp) ?_
          refine AllReadyIn.cons rfl (fun K hK => ?_) AllReadyIn.nil
          go_simp
          refine hK _ _ ?_
          clear hK K
          refine wpAnyIn_ready (rs := [7]) (by kernel_rfl) (by simp) ?_
          refine AllReadyIn.cons rfl (fun K hK => ?_) AllReadyIn.nil
          go_simp
          refine hK _ _ ?_
          clear hK K
          refine wpAnyIn_ready (rs := [8]) (by kernel_rfl) (by simp) ?_
          refine AllReadyIn.cons rfl (fun K hK => ?_) AllReadyIn.nil
          refine stepIn_app1 rfl (.tmp 17) (.tmp 24) 44 rfl (.slice A2 i C2) (.slice (some ⟨W6.heap.size, 0, none⟩) 1 1) rfl rfl hrun ?_
          refine hK _ _ ?_
          simp only [Act.put, List.setIfInBounds_toArray]
          clear hK K
          refine wpAnyIn_ready (rs := [9]) (by kernel_rfl) (by simp) ?_
          refine AllReadyIn.cons rfl (fun K hK => ?_) AllReadyIn.nil
          go_simp
          refine hK _ _ ?_
          clear hK K
          refine wpAnyIn_done (by kernel_rfl) ?_ _
          exact HFIN.out
        refine AllReadyIn.cons rfl (fun K hK => ?_) AllReadyIn.nil
        go_simp
        refine hK _ _ ?_
        clear hK K
        refine wpAnyIn_ready (rs := [2]) (by kernel_rfl) (by simp) ?_
        refine AllReadyIn.cons rfl (fun K hK => ?_) AllReadyIn.nil
        go_simp
        refine hK _ _ ?_
        clear hK K
        refine wpAnyIn_ready (rs := [3]) (by kernel_rfl) (by simp) ?_
        refine AllReadyIn.cons rfl (fun K hK => ?_) AllReadyIn.nil
        go_simp
        refine hK _ _ ?_
        clear hK K
        refine wpAnyIn_ready (rs := [4]) (by kernel_rfl) (by simp) ?_
        refine AllReadyIn.cons rfl (fun K hK => ?_) AllReadyIn.nil
        go_simp
        refine hK _ _ ?_
        clear hK K
        refine wpAnyIn_ready (rs := [6]) (by kernel_rfl) (by simp) ?_
        refine AllReadyIn.cons rfl (fun K hK => ?_) AllReadyIn.nil
        go_simp
        refine hK _ _ ?_
        clear hK K
        refine wpAnyIn_ready (rs := [7]) (by kernel_rfl) (by simp) ?_
        refine AllReadyIn.cons rfl (fun K hK => ?_) AllReadyIn.nil
        go_simp
        refine hK _ _ ?_
        clear hK K
        refine wpAnyIn_ready (rs := [8]) (by kernel_rfl) (by simp) ?_
        refine AllReadyIn.cons rfl (fun K hK => ?_) AllReadyIn.nil
        refine stepIn_app1 rfl (.tmp 17) (.tmp 24) 44 rfl (.slice A2 i C2) (.slice (some ⟨W6.heap.size, 0, none⟩) 1 1) rfl rfl hrun ?_
        refine hK _ _ ?_
        simp only [Act.put, List.setIfInBounds_toArray]
        clear hK K
        refine wpAnyIn_ready (rs := [9]) (by kernel_rfl) (by simp) ?_
        refine AllReadyIn.cons rfl (fun K hK => ?_) AllReadyIn.nil
        go_simp
        refine hK _ _ ?_
        clear hK K
        refine wpAnyIn_done (by kernel_rfl) ?_ _
        exact HFIN.out
      refine AllReadyIn.cons rfl (fun K hK => ?_) AllReadyIn.nil
      go_simp
      refine hK _ _ ?_
      clear hK K
      refine wpAnyIn_ready (rs := [1]) (by kernel_rfl) (by simp) ?_
      refine AllReadyIn.cons rfl (fun K hK => ?_) AllReadyIn.nil
      go_simp
      refine hK _ _ ?_
      clear hK K
      refine wpAnyIn_ready (rs := [2]) (by kernel_rfl) (by simp) ?_
      refine AllReadyIn.cons rfl (fun K hK => ?_) AllReadyIn.nil
      go_simp
      refine hK _ _ ?_
      clear hK K
      refine wpAnyIn_ready (rs := [3]) (by kernel_rfl) (by simp) ?_
      refine AllReadyIn.cons rfl (fun K hK => ?_) AllReadyIn.nil
      go_simp
      refine hK _ _ ?_
      clear hK K
      refine wpAnyIn_ready (rs := [4]) (by kernel_rfl) (by simp) ?_
      refine AllReadyIn.cons rfl (fun K hK => ?_) AllReadyIn.nil
      go_simp
      refine hK _ _ ?_
      clear hK K
      refine wpAnyIn_ready (rs := [6]) (by kernel_rfl) (by simp) ?_
      refine AllReadyIn.cons rfl (fun K hK => ?_) AllReadyIn.nil
      go_simp
      refine hK _ _ ?_
      clear hK K
      refine wpAnyIn_ready (rs := [7]) (by kernel_rfl) (by simp) ?_
      refine AllReadyIn.cons rfl (fun K hK => ?_) AllReadyIn.nil
      go_simp
      refine hK _ _ ?_
      clear hK K
      refine wpAnyIn_ready (rs := [8]) (by kernel_rfl) (by simp) ?_
      refine AllReadyIn.cons rfl (fun K hK => ?_) AllReadyIn.nil
      refine stepIn_app1 rfl (.tmp 17) (.tmp 24) 44 rfl (.slice A2 i C2) (.slice (some ⟨W6.heap.size, 0, none⟩) 1 1) rfl rfl hrun ?_
      refine hK _ _ ?_
      simp only [Act.put, List.setIfInBounds_toArray]
      clear hK K
      refine wpAnyIn_ready (rs := [9]) (by kernel_rfl) (by simp) ?_
      refine AllReadyIn.cons rfl (fun K hK => ?_) AllReadyIn.nil
      go_simp
      refine hK _ _ ?_
      clear hK K
      refine wpAnyIn_done (by kernel_rfl) ?_ _
      exact HFIN.out
    refine AllReadyIn.cons rfl (fun K hK => ?_) ?_
    · go_simp
      refine hK _ _ ?_
      clear hK K
      refine wpAnyIn_ready (rs := [0, 2, 5]) (by kernel_rfl) (by simp) ?_
      refine AllReadyIn.cons rfl (fun K hK => ?_) ?_
      · go_simp
        refine hK _ _ ?_
        clear hK K
        refine wpAnyIn_ready (rs := [2, 5]) (by kernel_rfl) (by simp) ?_
        refine AllReadyIn.cons rfl (fun K hK => ?_) ?_
        · go_simp
          refine hK _ _ ?_
          clear hK K
          refine wpAnyIn_ready (rs := [3, 5]) (by kernel_rfl) (by simp) ?_
          refine AllReadyIn.cons rfl (fun K hK => ?_) ?_
          · go_simp
            refine hK _ _ ?_
            clear hK K
            refine wpAnyIn_ready (rs := [4, 5]) (by kernel_rfl) (by simp) ?_
            refine AllReadyIn.cons rfl (fun K hK => ?_) ?_
            · go_simp
              refine hK _ _ ?_
              clear hK K
              refine wpAnyIn_ready (rs := [5]) (by kernel_rfl) (by simp) ?_
              refine AllReadyIn.cons rfl (fun K hK => ?_) AllReadyIn.nil
              go_simp
              refine hK _ _ ?_
              clear hK K
              refine wpAnyIn_ready (rs := [6]) (by kernel_rfl) (by simp) ?_
              refine AllReadyIn.cons rfl (fun K hK => ?_) AllReadyIn.nil
              go_simp
              refine hK _ _ ?_
              clear hK K
              refine wpAnyIn_ready (rs := [7]) (by kernel_rfl) (by simp) ?_
              refine AllReadyIn.cons rfl (fun K hK => ?_) AllReadyIn.nil
              go_simp
              refine hK _ _ ?_
              clear hK K
              refine wpAnyIn_ready (rs := [8]) (by kernel_rfl) (by simp) ?_
              refine AllReadyIn.cons rfl (fun K hK => ?_) AllReadyIn.nil
              refine stepIn_app1 rfl (.tmp 17) (.tmp 24) 44 rfl (.slice A2 i C2) (.slice (some ⟨W6.heap.size, 0, none⟩) 1 1) rfl rfl hrun ?_
              refine hK _ _ ?_
              simp only [Act.put, List.setIfInBounds_toArray]
              clear hK K
              refine wpAnyIn_ready (rs := [9]) (by kernel_rfl) (by simp) ?_
              refine AllReadyIn.cons rfl (fun K hK => ?_) AllReadyIn.nil
              go_simp
              refine hK _ _ ?_
              clear hK K
              refine wpAnyIn_done (by kernel_rfl) ?_ _
              exact HFIN.out
            refine AllReadyIn.cons rfl (fun K hK => ?_) AllReadyIn.nil
            go_simp
            refine hK _ _ ?_
            clear hK K
            refine wpAnyIn_ready (rs := [4]) (by kernel_rfl) (by simp) ?_
            refine AllReadyIn.cons rfl (fun K hK => ?_) AllReadyIn.nil
            go_simp
            refine hK _ _ ?_
            clear hK K
            refine wpAnyIn_ready (rs := [6]) (by kernel_rfl) (by simp) ?_
            refine AllReadyIn.cons rfl (fun K hK => ?_) AllReadyIn.nil
            go_simp
            refine hK _ _ ?_
            clear hK K
            refine wpAnyIn_ready (rs := [7]) (by kernel_rfl) (by simp) ?_
            refine AllReadyIn.cons rfl (fun K hK => ?_) AllReadyIn.nil
            go_simp
            refine hK _ _ ?_
            clear hK K
            refine wpAnyIn_ready (rs := [8]) (by kernel_rfl) (by simp) ?_
            refine AllReadyIn.cons rfl (fun K hK => ?_) AllReadyIn.nil
            refine stepIn_app1 rfl (.tmp 17) (.tmp 24) 44 rfl (.slice A2 i C2) (.slice (some ⟨W6.heap.size, 0, none⟩) 1 1) rfl rfl hrun ?_
            refine hK _ _ ?_
            simp only [Act.put, List.setIfInBounds_toArray]
            clear hK K
            refine wpAnyIn_ready (rs := [9]) (by kernel_rfl) (by simp) ?_
            refine AllReadyIn.cons rfl (fun K hK => ?_) AllReadyIn.nil
            go_simp
            refine hK _ _ ?_
            clear hK K
            refine wpAnyIn_done (by kernel_rfl) ?_ _
            exact HFIN.out
          refine AllReadyIn.cons rfl (fun K hK => ?_) AllReadyIn.nil
          go_simp
          refine hK _ _ ?_
          clear hK K
          refine wpAnyIn_ready (rs := [3]) (by kernel_rfl) (by simp) ?_
          refine AllReadyIn.cons rfl (fun K hK => ?_) AllReadyIn.nil
          go_simp
          refine hK _ _ ?_
          clear hK K
          refine wpAnyIn_ready (rs := [4]) (by kernel_rfl) (by simp) ?_
          refine AllReadyIn.cons rfl (fun K hK => ?_) AllReadyIn.nil
          go_simp
          refine hK _ _ ?_
          clear hK K
          refine wpAnyIn_ready (rs := [6]) (by kernel_rfl) (by simp) ?_
          refine AllReadyIn.cons rfl (fun K hK => ?_) AllReadyIn.nil
          go_simp
          refine hK _ _ ?_
          clear hK K
          refine wpAnyIn_ready (rs := [7]) (by kernel_rfl) (by simp) ?_
          refine AllReadyIn.cons rfl (fun K hK => ?_) AllReadyIn.nil
          go_simp
          refine hK _ _ ?_
          clear hK K
          refine wpAnyIn_ready (rs := [8]) (by kernel_rfl) (by simp) ?_
          refine AllReadyIn.cons rfl (fun K hK => ?_) AllReadyIn.nil
          refine stepIn_app1 rfl (.tmp 17) (.tmp 24) 44 rfl (.slice A2 i C2) (.slice (some ⟨W6.heap.size, 0, none⟩) 1 1) rfl rfl hrun ?_
          refine hK _ _ ?_
          simp only [Act.put, List.setIfInBounds_toArray]
          clear hK K
          refine wpAnyIn_ready (rs := [9]) (by kernel_rfl) (by simp) ?_
          refine AllReadyIn.cons rfl (fun K hK => ?_) AllReadyIn.nil
          go_simp
          refine hK _ _ ?_
          clear hK K
          refine wpAnyIn_done (by kernel_rfl) ?_ _
          exact HFIN.out
        refine AllReadyIn.cons rfl (fun K hK => ?_) AllReadyIn.nil
        go_simp
        refine hK _ _ ?_
        clear hK K
        refine wpAnyIn_ready (rs := [2]) (by kernel_rfl) (by simp) ?_
        refine AllReadyIn.cons rfl (fun K hK => ?_) AllReadyIn.nil
        go_simp
        refine hK _ _ ?_
        clear hK K
        refine wpAnyIn_ready (rs := [3]) (by kernel_rfl) (by simp) ?_
        refine AllReadyIn.cons rfl (fun K hK => ?_) AllReadyIn.nil
        go_simp
        refine hK _ _ ?_
        clear hK K
        refine wpAnyIn_ready (rs := [4]) (by kernel_rfl) (by simp) ?_
        refine AllReadyIn.cons rfl (fun K hK => ?_) AllReadyIn.nil
        go_simp
        refine hK _ _ ?_
        clear hK K
        refine wpAnyIn_ready (rs := [6]) (by kernel_rfl) (by simp) ?_
        refine AllReadyIn.cons rfl (fun K hK => ?_) AllReadyIn.nil
        go_simp
        refine hK _ _ ?_
        clear hK K
        refine wpAnyIn_ready (rs := [7]) (by kernel_rfl) (by simp) ?_
        refine AllReadyIn.cons rfl (fun K hK => ?_) AllReadyIn.nil
        go_simp
        refine hK _ _ ?_
        clear hK K
        refine wpAnyIn_ready (rs := [8]) (by kernel_rfl) (by simp) ?_
        refine AllReadyIn.cons rfl (fun K hK => ?_) AllReadyIn.nil
        refine stepIn_app1 rfl (.tmp 17) (.tmp 24) 44 rfl (.slice A2 i C2) (.slice (some ⟨W6.heap.size, 0, none⟩) 1 1) rfl rfl hrun ?_
        refine hK _ _ ?_
        simp only [Act.put, List.setIfInBounds_toArray]
        clear hK K
        refine wpAnyIn_ready (rs := [9]) (by kernel_rfl) (by simp) ?_
        refine AllReadyIn.cons rfl (fun K hK => ?_) AllReadyIn.nil
        go_simp
        refine hK _ _ ?_
        clear hK K
        refine wpAnyIn_done (by kernel_rfl) ?_ _
        exact HFIN.out
      refine AllReadyIn.cons rfl (fun K hK => ?_) ?_
      · go_simp
        refine hK _ _ ?_
        clear hK K
        refine wpAnyIn_ready (rs := [0, 3, 5]) (by kernel_rfl) (by simp) ?_
        refine AllReadyIn.cons rfl (fun K hK => ?_) ?_
        · go_simp
          refine hK _ _ ?_
          clear hK K
          refine wpAnyIn_ready (rs := [3, 5]) (by kernel_rfl) (by simp) ?_
          refine AllReadyIn.cons rfl (fun K hK => ?_) ?_
          · go_simp
            refine hK _ _ ?_
            clear hK K
            refine wpAnyIn_ready (rs := [4, 5]) (by kernel_rfl) (by simp) ?_
            refine AllReadyIn.cons rfl (fun K hK => ?_) ?_
            · go_simp
              refine hK _ _ ?_
              clear hK K
              refine wpAnyIn_ready (rs := [5]) (by kernel_rfl) (by simp) ?_
              refine AllReadyIn.cons rfl (fun K hK => ?_) AllReadyIn.nil
              go_simp
              refine hK _ _ ?_
              clear hK K
              refine wpAnyIn_ready (rs := [6]) (by kernel_rfl) (by simp) ?_
              refine AllReadyIn.cons rfl (fun K hK => ?_) AllReadyIn.nil
              go_simp
              refine hK _ _ ?_
              clear hK K
              refine wpAnyIn_ready (rs := [7]) (by kernel_rfl) (by simp) ?_
              refine AllReadyIn.cons rfl (fun K hK => ?_) AllReadyIn.nil
              go_simp
              refine hK _ _ ?_
              clear hK K
              refine wpAnyIn_ready (rs := [8]) (by kernel_rfl) (by simp) ?_
              refine AllReadyIn.cons rfl (fun K hK => ?_) AllReadyIn.nil
              refine stepIn_app1 rfl (.tmp 17) (.tmp 24) 44 rfl (.slice A2 i C2) (.slice (some ⟨W6.heap.size, 0, none⟩) 1 1) rfl rfl hrun ?_
              refine hK _ _ ?_
              simp only [Act.put, List.setIfInBounds_toArray]
              clear hK K
              refine wpAnyIn_ready (rs := [9]) (by kernel_rfl) (by simp) ?_
              refine AllReadyIn.cons rfl (fun K hK => ?_) AllReadyIn.nil
              go_simp
              refine hK _ _ ?_
              clear hK K
              refine wpAnyIn_done (by kernel_rfl) ?_ _
              exact HFIN.out
            refine AllReadyIn.cons rfl (fun K hK => ?_) AllReadyIn.nil
            go_simp
            refine hK _ _ ?_
            clear hK K
            refine wpAnyIn_ready (rs := [4]) (by kernel_rfl) (by simp) ?_
            refine AllReadyIn.cons rfl (fun K hK => ?_) AllReadyIn.nil
            go_simp
            refine hK _ _ ?_
            clear hK K
            refine wpAnyIn_ready (rs := [6]) (by kernel_rfl) (by simp) ?_
            refine AllReadyIn.cons rfl (fun K hK => ?_) AllReadyIn.nil
            go_simp
            refine hK _ _ ?_
            clear hK K
            refine wpAnyIn_ready (rs := [7]) (by kernel_rfl) (by simp) ?_
            refine AllReadyIn.cons rfl (fun K hK => ?_) AllReadyIn.nil
            go_simp
            refine hK _ _ ?_
            clear hK K
            refine wpAnyIn_ready (rs := [8]) (by kernel_rfl) (by simp) ?_
            refine AllReadyIn.cons rfl (fun K hK => ?_) AllReadyIn.nil
            refine stepIn_app1 rfl (.tmp 17) (.tmp 24) 44 rfl (.slice A2 i C2) (.slice (some ⟨W6.heap.size, 0, none⟩) 1 1) rfl rfl hrun ?_
            refine hK _ _ ?_
            simp only [Act.put, List.setIfInBounds_toArray]
            clear hK K
            refine wpAnyIn_ready (rs := [9]) (by kernel_rfl) (by simp) ?_
            refine AllReadyIn.cons rfl (fun K hK => ?_) AllReadyIn.nil
            go_simp
            refine hK _ _ ?_
            clear hK K
            refine wpAnyIn_done (by kernel_rfl) ?_ _
            exact HFIN.out
          refine AllReadyIn.cons rfl (fun K hK => ?_) AllReadyIn.nil
          go_simp
          refine hK _ _ ?_
          clear hK K
          refine wpAnyIn_ready (rs := [3]) (by kernel_rfl) (by simp) ?_
          refine AllReadyIn.cons rfl (fun K hK => ?_) AllReadyIn.nil
          go_simp
          refine hK _ _ ?_
          clear hK K
          refine wpAnyIn_ready (rs := [4]) (by kernel_rfl) (by simp) ?_
          refine AllReadyIn.cons rfl (fun K hK => ?_) AllReadyIn.nil
          go_simp
          refine hK _ _ ?_
          clear hK K
          refine wpAnyIn_ready (rs := [6]) (by kernel_rfl) (by simp) ?_
          refine AllReadyIn.cons rfl (fun K hK => ?_) AllReadyIn.nil
          go_simp
          refine hK _ _ ?_
          clear hK K
          refine wpAnyIn_ready (rs := [7]) (by kernel_rfl) (by simp) ?_
          refine AllReadyIn.cons rfl (fun K hK => ?_) AllReadyIn.nil
          go_simp
          refine hK _ _ ?_
          clear hK K
          refine wpAnyIn_ready (rs := [8]) (by kernel_rfl) (by simp) ?_
          refine AllReadyIn.cons rfl (fun K hK => ?_) AllReadyIn.nil
          refine stepIn_app1 rfl (.tmp 17) (.tmp 24) 44 rfl (.slice A2 i C2) (.slice (some ⟨W6.heap.size, 0, none⟩) 1 1) rfl rfl hrun ?_
          refine hK _ _ ?_
          simp only [Act.put, List.setIfInBounds_toArray]
          clear hK K
          refine wpAnyIn_ready (rs := [9]) (by kernel_rfl) (by simp) ?_
          refine AllReadyIn.cons rfl (fun K hK => ?_) AllReadyIn.nil
          go_simp
          refine hK _ _ ?_
          clear hK K
          refine wpAnyIn_done (by kernel_rfl) ?_ _
          exact HFIN.out
        refine AllReadyIn.cons rfl (fun K hK => ?_) ?_
        · go_simp
          refine hK _ _ ?_
          clear hK K
          refine wpAnyIn_ready (rs := [0, 4, 5]) (by kernel_rfl) (by simp) ?_
          refine AllReadyIn.cons rfl (fun K hK => ?_) ?_
          · go_simp
            refine hK _ _ ?_
            clear hK K
            refine wpAnyIn_ready (rs := [4, 5]) (by kernel_rfl) (by simp) ?_
            refine AllReadyIn.cons rfl (fun K hK => ?_) ?_
            · go_simp
              refine hK _ _ ?_
              clear hK K
              refine wpAnyIn_ready (rs := [5]) (by kernel_rfl) (by simp) ?_
              refine AllReadyIn.cons rfl (fun K hK => ?_) AllReadyIn.nil
              go_simp
              refine hK _ _ ?_
              clear hK K
              refine wpAnyIn_ready (rs := [6]) (by kernel_rfl) (by simp) ?_
              refine AllReadyIn.cons rfl (fun K hK => ?_) AllReadyIn.nil
              go_simp
              refine hK _ _ ?_
              clear hK K
              refine wpAnyIn_ready (rs := [7]) (by kernel_rfl) (by simp) ?_
              refine AllReadyIn.cons rfl (fun K hK => ?_) AllReadyIn.nil
              go_simp
              refine hK _ _ ?_
              clear hK K
              refine wpAnyIn_ready (rs := [8]) (by kernel_rfl) (by simp) ?_
              refine AllReadyIn.cons rfl (fun K hK => ?_) AllReadyIn.nil
              refine stepIn_app1 rfl (.tmp 17) (.tmp 24) 44 rfl (.slice A2 i C2) (.slice (some ⟨W6.heap.size, 0, none⟩) 1 1) rfl rfl hrun ?_
              refine hK _ _ ?_
              simp only [Act.put, List.setIfInBounds_toArray]
              clear hK K
              refine wpAnyIn_ready (rs := [9]) (by kernel_rfl) (by simp) ?_
              refine AllReadyIn.cons rfl (fun K hK => ?_) AllReadyIn.nil
              go_simp
              refine hK _ _ ?_
              clear hK K
              refine wpAnyIn_done (by kernel_rfl) ?_ _
              exact HFIN.out
            refine AllReadyIn.cons rfl (fun K hK => ?_) AllReadyIn.nil
            go_simp
            refine hK _ _ ?_
            clear hK K
            refine wpAnyIn_ready (rs := [4]) (by kernel_rfl) (by simp) ?_
            refine AllReadyIn.cons rfl (fun K hK => ?_) AllReadyIn.nil
            go_simp
            refine hK _ _ ?_
            clear hK K
            refine wpAnyIn_ready (rs := [6]) (by kernel_rfl) (by simp) ?_
            refine AllReadyIn.cons rfl (fun K hK => ?_) AllReadyIn.nil
            go_simp
            refine hK _ _ ?_
            clear hK K
            refine wpAnyIn_ready (rs := [7]) (by kernel_rfl) (by simp) ?_
            refine AllReadyIn.cons rfl (fun K hK => ?_) AllReadyIn.nil
            go_simp
            refine hK _ _ ?_
            clear hK K
            refine wpAnyIn_ready (rs := [8]) (by kernel_rfl) (by simp) ?_
            refine AllReadyIn.cons rfl (fun K hK => ?_) AllReadyIn.nil
            refine stepIn_app1 rfl (.tmp 17) (.tmp 24) 44 rfl (.slice A2 i C2) (.slice (some ⟨W6.heap.size, 0, none⟩) 1 1) rfl rfl hrun ?_
            refine hK _ _ ?_
            simp only [Act.put, List.setIfInBounds_toArray]
            clear hK K
            refine wpAnyIn_ready (rs := [9]) (by kernel_rfl) (by simp) ?_
            refine AllReadyIn.cons rfl (fun K hK => ?_) AllReadyIn.nil
            go_simp
            refine hK _ _ ?_
            clear hK K
            refine wpAnyIn_done (by kernel_rfl) ?_ _
            exact HFIN.out
          refine AllReadyIn.cons rfl (fun K hK => ?_) ?_
          · go_simp
            refine hK _ _ ?_
            clear hK K
            refine wpAnyIn_ready (rs := [0, 5]) (by kernel_rfl) (by simp) ?_
            refine AllReadyIn.cons rfl (fun K hK => ?_) ?_
            · go_simp
              refine hK _ _ ?_
              clear hK K
              refine wpAnyIn_ready (rs := [5]) (by kernel_rfl) (by simp) ?_
              refine AllReadyIn.cons rfl (fun K hK => ?_) AllReadyIn.nil
              go_simp
              refine hK _ _ ?_
              clear hK K
              refine wpAnyIn_ready (rs := [6]) (by kernel_rfl) (by simp) ?_
              refine AllReadyIn.cons rfl (fun K hK => ?_) AllReadyIn.nil
              go_simp
              refine hK _ _ ?_
              clear hK K
              refine wpAnyIn_ready (rs := [7]) (by kernel_rfl) (by simp) ?_
              refine AllReadyIn.cons rfl (fun K hK => ?_) AllReadyIn.nil
              go_simp
              refine hK _ _ ?_
              clear hK K
              refine wpAnyIn_ready (rs := [8]) (by kernel_rfl) (by simp) ?_
              refine AllReadyIn.cons rfl (fun K hK => ?_) AllReadyIn.nil
              refine stepIn_app1 rfl (.tmp 17) (.tmp 24) 44 rfl (.slice A2 i C2) (.slice (some ⟨W6.heap.size, 0, none⟩) 1 1) rfl rfl hrun ?_
              refine hK _ _ ?_
              simp only [Act.put, List.setIfInBounds_toArray]
              clear hK K
              refine wpAnyIn_ready (rs := [9]) (by kernel_rfl) (by simp) ?_
              refine AllReadyIn.cons rfl (fun K hK => ?_) AllReadyIn.nil
              go_simp
              refine hK _ _ ?_
              clear hK K
              refine wpAnyIn_done (by kernel_rfl) ?_ _
              exact HFIN.out
            refine AllReadyIn.cons rfl (fun K hK => ?_) AllReadyIn.nil
            go_simp
            refine hK _ _ ?_
            clear hK K
            refine wpAnyIn_ready (rs := [0, 6]) (by kernel_rfl) (by simp) ?_
            refine AllReadyIn.cons rfl (fun K hK => ?_) ?_
            · go_simp
              refine hK _ _ ?_
              clear hK K
              refine wpAnyIn_ready (rs := [6]) (by kernel_rfl) (by simp) ?_
              refine AllReadyIn.cons rfl (fun K hK => ?_) AllReadyIn.nil
              go_simp
              refine hK _ _ ?_
              clear hK K
              refine wpAnyIn_ready (rs := [7]) (by kernel_rfl) (by simp) ?_
              refine AllReadyIn.cons rfl (fun K hK => ?_) AllReadyIn.nil
              go_simp
              refine hK _ _ ?_
              clear hK K
              refine wpAnyIn_ready (rs := [8]) (by kernel_rfl) (by simp) ?_
              refine AllReadyIn.cons rfl (fun K hK => ?_) AllReadyIn.nil
              refine stepIn_app1 rfl (.tmp 17) (.tmp 24) 44 rfl (.slice A2 i C2) (.slice (some ⟨W6.heap.size, 0, none⟩) 1 1) rfl rfl hrun ?_
              refine hK _ _ ?_
              simp only [Act.put, List.setIfInBounds_toArray]
              clear hK K
              refine wpAnyIn_ready (rs := [9]) (by kernel_rfl) (by simp) ?_
              refine AllReadyIn.cons rfl (fun K hK => ?_) AllReadyIn.nil
              go_simp
              refine hK _ _ ?_
              clear hK K
              refine wpAnyIn_done (by kernel_rfl) ?_ _
              exact HFIN.out
            refine AllReadyIn.cons rfl (fun K hK => ?_) AllReadyIn.nil
            go_simp
            refine hK _ _ ?_
            clear hK K
            refine wpAnyIn_ready (rs := [0, 7]) (by kernel_rfl) (by simp) ?_
            refine AllReadyIn.cons rfl (fun K hK => ?_) ?_
            · go_simp
              refine hK _ _ ?_
              clear hK K
              refine wpAnyIn_ready (rs := [7]) (by kernel_rfl) (by simp) ?_
              refine AllReadyIn.cons rfl (fun K hK => ?_) AllReadyIn.nil
              go_simp
              refine hK _ _ ?_
              clear hK K
              refine wpAnyIn_ready (rs := [8]) (by kernel_rfl) (by simp) ?_
              refine AllReadyIn.cons rfl (fun K hK => ?_) AllReadyIn.nil
              refine stepIn_app1 rfl (.tmp 17) (.tmp 24) 44 rfl (.slice A2 i C2) (.slice (some ⟨W6.heap.size, 0, none⟩) 1 1) rfl rfl hrun ?_
              refine hK _ _ ?_
              simp only [Act.put, List.setIfInBounds_toArray]
              clear hK K
              refine wpAnyIn_ready (rs := [9]) (by kernel_rfl) (by simp) ?_
              refine AllReadyIn.cons rfl (fun K hK => ?_) AllReadyIn.nil
              go_simp
              refine hK _ _ ?_
              clear hK K
              refine wpAnyIn_done (by kernel_rfl) ?_ _
              exact HFIN.out
            refine AllReadyIn.cons rfl (fun K hK => ?_) AllReadyIn.nil
            go_simp
            refine hK _ _ ?_
            clear hK K
            refine wpAnyIn_ready (rs := [0]) (by kernel_rfl) (by simp) ?_
            refine AllReadyIn.cons rfl (fun K hK => ?_) AllReadyIn.nil
            go_simp
            refine hK _ _ ?_
            clear hK K
            refine wpAnyIn_ready (rs := [8]) (by kernel_rfl) (by simp) ?_
            refine AllReadyIn.cons rfl (fun K hK => ?_) AllReadyIn.nil
            refine stepIn_app1 rfl (.tmp 17) (.tmp 24) 44 rfl (.slice A2 i C2) (.slice (some ⟨W6.heap.size, 0, none⟩) 1 1) rfl rfl hrun ?_
            refine hK _ _ ?_
            simp only [Act.put, List.setIfInBounds_toArray]
            clear hK K
            refine wpAnyIn_ready (rs := [9]) (by kernel_rfl) (by simp) ?_
            refine AllReadyIn.cons rfl (fun K hK => ?_) AllReadyIn.nil
            go_simp
            refine hK _ _ ?_
            clear hK K
            refine wpAnyIn_done (by kernel_rfl) ?_ _
            exact HFIN.out
          refine AllReadyIn.cons rfl (fun K hK => ?_) AllReadyIn.nil
          go_simp
          refine hK _ _ ?_
          clear hK K
          refine wpAnyIn_ready (rs := [0, 4]) (by kernel_rfl) (by simp) ?_
          refine AllReadyIn.cons rfl (fun K hK => ?_) ?_
          · go_simp
            refine hK _ _ ?_
            clear hK K
            refine wpAnyIn_ready (rs := [4]) (by kernel_rfl) (by simp) ?_
            refine AllReadyIn.cons rfl (fun K hK => ?_) AllReadyIn.nil
            go_simp
            refine hK _ _ ?_
            clear hK K
            refine wpAnyIn_ready (rs := [6]) (by kernel_rfl) (by simp) ?_
            refine AllReadyIn.cons rfl (fun K hK => ?_) AllReadyIn.nil
            go_simp
            refine hK _ _ ?_
            clear hK K
            refine wpAnyIn_ready (rs := [7]) (by kernel_rfl) (by simp) ?_
            refine AllReadyIn.cons rfl (fun K hK => ?_) AllReadyIn.nil
            go_simp
            refine hK _ _ ?_
            clear hK K
            refine wpAnyIn_ready (rs := [8]) (by kernel_rfl) (by simp) ?_
            refine AllReadyIn.cons rfl (fun K hK => ?_) AllReadyIn.nil
            refine stepIn_app1 rfl (.tmp 17) (.tmp 24) 44 rfl (.slice A2 i C2) (.slice (some ⟨W6.heap.size, 0, none⟩) 1 1) rfl rfl hrun ?_
            refine hK _ _ ?_
            simp only [Act.put, List.setIfInBounds_toArray]
            clear hK K
            refine wpAnyIn_ready (rs := [9]) (by kernel_rfl) (by simp) ?_
            refine AllReadyIn.cons rfl (fun K hK => ?_) AllReadyIn.nil
            go_simp
            refine hK _ _ ?_
            clear hK K
            refine wpAnyIn_done (by kernel_rfl) ?_ _
            exact HFIN.out
          refine AllReadyIn.cons rfl (fun K hK => ?_) AllReadyIn.nil
          go_simp
          refine hK _ _ ?_
          clear hK K
          refine wpAnyIn_ready (rs := [0, 6]) (by kernel_rfl) (by simp) ?_
          refine AllReadyIn.cons rfl (fun K hK => ?_) ?_
          · go_simp
            refine hK _ _ ?_
            clear hK K
            refine wpAnyIn_ready (rs := [6]) (by kernel_rfl) (by simp) ?_
            refine AllReadyIn.cons rfl (fun K hK => ?_) AllReadyIn.nil
            go_simp
            refine hK _ _ ?_
            clear hK K
            refine wpAnyIn_ready (rs := [7]) (by kernel_rfl) (by simp) ?_
            refine AllReadyIn.cons rfl (fun K hK => ?_) AllReadyIn.nil
            go_simp
            refine hK _ _ ?_
            clear hK K
            refine wpAnyIn_ready (rs := [8]) (by kernel_rfl) (by simp) ?_
            refine AllReadyIn.cons rfl (fun K hK => ?_) AllReadyIn.nil
            refine stepIn_app1 rfl (.tmp 17) (.tmp 24) 44 rfl (.slice A2 i C2) (.slice (some ⟨W6.heap.size, 0, none⟩) 1 1) rfl rfl hrun ?_
            refine hK _ _ ?_
            simp only [Act.put, List.setIfInBounds_toArray]
            clear hK K
            refine wpAnyIn_ready (rs := [9]) (by kernel_rfl) (by simp) ?_
            refine AllReadyIn.cons rfl (fun K hK => ?_) AllReadyIn.nil
            go_simp
            refine hK _ _ ?_
            clear hK K
            refine wpAnyIn_done (by kernel_rfl) ?_ _
            exact HFIN.out
          refine AllReadyIn.cons rfl (fun K hK => ?_) AllReadyIn.nil
          go_simp
          refine hK _ _ ?_
          clear hK K
          refine wpAnyIn_ready (rs := [0, 7]) (by kernel_rfl) (by simp) ?_
          refine AllReadyIn.cons rfl (fun K hK => ?_) ?_
          · go_simp
            refine hK _ _ ?_
            clear hK K
            refine wpAnyIn_ready (rs := [7]) (by kernel_rfl) (by simp) ?_
            refine AllReadyIn.cons rfl (fun K hK => ?_) AllReadyIn.nil
            go_simp
            refine hK _ _ ?_
            clear hK K
            refine wpAnyIn_ready (rs := [8]) (by kernel_rfl) (by simp) ?_
            refine AllReadyIn.cons rfl (fun K hK => ?_) AllReadyIn.nil
            refine stepIn_app1 rfl (.tmp 17) (.tmp 24) 44 rfl (.slice A2 i C2) (.slice (some ⟨W6.heap.size, 0, none⟩) 1 1) rfl rfl hrun ?_
            refine hK _ _ ?_
            simp only [Act.put, List.setIfInBounds_toArray]
            clear hK K
            refine wpAnyIn_ready (rs := [9]) (by kernel_rfl) (by simp) ?_
            refine AllReadyIn.cons rfl (fun K hK => ?_) AllReadyIn.nil
            go_simp
            refine hK _ _ ?_
            clear hK K
            refine wpAnyIn_done (by kernel_rfl) ?_ _
            exact HFIN.out
          refine AllReadyIn.cons rfl (fun K hK => ?_) AllReadyIn.nil
          go_simp
          refine hK _ _ ?_
          clear hK K
          refine wpAnyIn_ready (rs := [0]) (by kernel_rfl) (by simp) ?_
          refine AllReadyIn.cons rfl (fun K hK => ?_) AllReadyIn.nil
          go_simp
          refine hK _ _ ?_
          clear hK K
          refine wpAnyIn_ready (rs := [8]) (by kernel_rfl) (by simp) ?_
          refine AllReadyIn.cons rfl (fun K hK => ?_) AllReadyIn.nil
          refine stepIn_app1 rfl (.tmp 17) (.tmp 24) 44 rfl (.slice A2 i C2) (.slice (some ⟨W6.heap.size, 0, none⟩) 1 1) rfl rfl hrun ?_
          refine hK _ _ ?_
          simp only [Act.put, List.setIfInBounds_toArray]
          clear hK K
          refine wpAnyIn_ready (rs := [9]) (by kernel_rfl) (by simp) ?_
          refine AllReadyIn.cons rfl (fun K hK => ?_) AllReadyIn.nil
          go_simp
          refine hK _ _ ?_
          clear hK K
          refine wpAnyIn_done (by kernel_rfl) ?_ _
          exact HFIN.out
        refine AllReadyIn.cons rfl (fun K hK => ?_) AllReadyIn.nil
        go_simp
        refine hK _ _ ?_
        clear hK K
        refine wpAnyIn_ready (rs := [0, 3]) (by kernel_rfl) (by simp) ?_
        refine AllReadyIn.cons rfl (fun K hK => ?_) ?_
        · go_simp
          refine hK _ _ ?_
          clear hK K
          refine wpAnyIn_ready (rs := [3]) (by kernel_rfl) (by simp) ?_
          refine AllReadyIn.cons rfl (fun K hK => ?_) AllReadyIn.nil
          go_simp
          refine hK _ _ ?_
          clear hK K
          refine wpAnyIn_ready (rs := [4]) (by kernel_rfl) (by simp) ?_
          refine AllReadyIn.cons rfl (fun K hK => ?_) AllReadyIn.nil
          go_simp
          refine hK _ _ ?_
          clear hK K
          refine wpAnyIn_ready (rs := [6]) (by kernel_rfl) (by simp) ?_
          refine AllReadyIn.cons rfl (fun K hK => ?_) AllReadyIn.nil
          go_simp
          refine hK _ _ ?_
          clear hK K
          refine wpAnyIn_ready (rs := [7]) (by kernel_rfl) (by simp) ?_
          refine AllReadyIn.cons rfl (fun K hK => ?_) AllReadyIn.nil
          go_simp
          refine hK _ _ ?_
          clear hK K
          refine wpAnyIn_ready (rs := [8]) (by kernel_rfl) (by simp) ?_
          refine AllReadyIn.cons rfl (fun K hK => ?_) AllReadyIn.nil
          refine stepIn_app1 rfl (.tmp 17) (.tmp 24) 44 rfl (.slice A2 i C2) (.slice (some ⟨W6.heap.size, 0, none⟩) 1 1) rfl rfl hrun ?_
          refine hK _ _ ?_
          simp only [Act.put, List.setIfInBounds_toArray]
          clear hK K
          refine wpAnyIn_ready (rs := [9]) (by kernel_rfl) (by simp) ?_
          refine AllReadyIn.cons rfl (fun K hK => ?_) AllReadyIn.nil
          go_simp
          refine hK _ _ ?_
          clear hK K
          refine wpAnyIn_done (by kernel_rfl) ?_ _
          exact HFIN.out
        refine AllReadyIn.cons rfl (fun K hK => ?_) AllReadyIn.nil
        go_simp
        refine hK _ _ ?_
        clear hK K
        refine wpAnyIn_ready (rs := [0, 4]) (by kernel_rfl) (by simp) ?_
        refine AllReadyIn.cons rfl (fun K hK => ?_) ?_
        · go_simp
          refine hK _ _ ?_
          clear hK K
          refine wpAnyIn_ready (rs := [4]) (by kernel_rfl) (by simp) ?_
          refine AllReadyIn.cons rfl (fun K hK => ?_) AllReadyIn.nil
          go_simp
          refine hK _ _ ?_
          clear hK K
          refine wpAnyIn_ready (rs := [6]) (by kernel_rfl) (by simp) ?_
          refine AllReadyIn.cons rfl (fun K hK => ?_) AllReadyIn.nil
          go_simp
          refine hK _ _ ?_
          clear hK K
          refine wpAnyIn_ready (rs := [7]) (by kernel_rfl) (by simp) ?_
          refine AllReadyIn.cons rfl (fun K hK => ?_) AllReadyIn.nil
          go_simp
          refine hK _ _ ?_
          clear hK K
          refine wpAnyIn_ready (rs := [8]) (by kernel_rfl) (by simp) ?_
          refine AllReadyIn.cons rfl (fun K hK => ?_) AllReadyIn.nil
          refine stepIn_app1 rfl (.tmp 17) (.tmp 24) 44 rfl (.slice A2 i C2) (.slice (some ⟨W6.heap.size, 0, none⟩) 1 1) rfl rfl hrun ?_
          refine hK _ _ ?_
          simp only [Act.put, List.setIfInBounds_toArray]
          clear hK K
          refine wpAnyIn_ready (rs := [9]) (by kernel_rfl) (by simp) ?_
          refine AllReadyIn.cons rfl (fun K hK => ?_) AllReadyIn.nil
          go_simp
          refine hK _ _ ?_
          clear hK K
          refine wpAnyIn_done (by kernel_rfl) ?_ _
          exact HFIN.out
        refine AllReadyIn.cons rfl (fun K hK => ?_) AllReadyIn.nil
        go_simp
        refine hK _ _ ?_
        clear hK K
        refine wpAnyIn_ready (rs := [0, 6]) (by kernel_rfl) (by simp) ?_
        refine AllReadyIn.cons rfl (fun K hK => ?_) ?_
        · go_simp
          refine hK _ _ ?_
          clear hK K
          refine wpAnyIn_ready (rs := [6]) (by kernel_rfl) (by simp) ?_
          refine AllReadyIn.cons rfl (fun K hK => ?_) AllReadyIn.nil
          go_simp
          refine hK _ _ ?_
          clear hK K
          refine wpAnyIn_ready (rs := [7]) (by kernel_rfl) (by simp) ?_
          refine AllReadyIn.cons rfl (fun K hK => ?_) AllReadyIn.nil
          go_simp
          refine hK _ _ ?_
          clear hK K
          refine wpAnyIn_ready (rs := [8]) (by kernel_rfl) (by simp) ?_
          refine AllReadyIn.cons rfl (fun K hK => ?_) AllReadyIn.nil
          refine stepIn_app1 rfl (.tmp 17) (.tmp 24) 44 rfl (.slice A2 i C2) (.slice (some ⟨W6.heap.size, 0, none⟩) 1 1) rfl rfl hrun ?_
          refine hK _ _ ?_
          simp only [Act.put, List.setIfInBounds_toArray]
          clear hK K
          refine wpAnyIn_ready (rs := [9]) (by kernel_rfl) (by simp) ?_
          refine AllReadyIn.cons rfl (fun K hK => ?_) AllReadyIn.nil
          go_simp
          refine hK _ _ ?_
          clear hK K
          refine wpAnyIn_done (by kernel_rfl) ?_ _
          exact HFIN.out
        refine AllReadyIn.cons rfl (fun K hK => ?_) AllReadyIn.nil
        go_simp
        refine hK _ _ ?_
        clear hK K
        refine wpAnyIn_ready (rs := [0, 7]) (by kernel_rfl) (by simp) ?_
        refine AllReadyIn.cons rfl (fun K hK => ?_) ?_
        · go_simp
          refine hK _ _ ?_
          clear hK K
          refine wpAnyIn_ready (rs := [7]) (by kernel_rfl) (by simp) ?_
          refine AllReadyIn.cons rfl (fun K hK => ?_) AllReadyIn.nil
          go_simp
          refine hK _ _ ?_
          clear hK K
          refine wpAnyIn_ready (rs := [8]) (by kernel_rfl) (by simp) ?_
          refine AllReadyIn.cons rfl (fun K hK => ?_) AllReadyIn.nil
          refine stepIn_app1 rfl (.tmp 17) (.tmp 24) 44 rfl (.slice A2 i C2) (.slice (some ⟨W6.heap.size, 0, none⟩) 1 1) rfl rfl hrun ?_
          refine hK _ _ ?_
          simp only [Act.put, List.setIfInBounds_toArray]
          clear hK K
          refine wpAnyIn_ready (rs := [9]) (by kernel_rfl) (by simp) ?_
          refine AllReadyIn.cons rfl (fun K hK => ?_) AllReadyIn.nil
          go_simp
          refine hK _ _ ?_
          clear hK K
          refine wpAnyIn_done (by kernel_rfl) ?_ _
          exact HFIN.out
        refine AllReadyIn.cons rfl (fun K hK => ?_) AllReadyIn.nil
        go_simp
        refine hK _ _ ?_
        clear hK K
        refine wpAnyIn_ready (rs := [0]) (by kernel_rfl) (by simp) ?_
        refine AllReadyIn.cons rfl (fun K hK => ?_) AllReadyIn.nil
        go_simp
        refine hK _ _ ?_
        clear hK K
        refine wpAnyIn_ready (rs := [8]) (by kernel_rfl) (by simp) ?_
        refine AllReadyIn.cons rfl (fun K hK => ?_) AllReadyIn.nil
        refine stepIn_app1 rfl (.tmp 17) (.tmp 24) 44 rfl (.slice A2 i C2) (.slice (some ⟨W6.heap.size, 0, none⟩) 1 1) rfl rfl hrun ?_
        refine hK _ _ ?_
        simp only [Act.put, List.setIfInBounds_toArray]
        clear hK K
        refine wpAnyIn_ready (rs := [9]) (by kernel_rfl) (by simp) ?_
        refine AllReadyIn.cons rfl (fun K hK => ?_) AllReadyIn.nil
        go_simp
        refine hK _ _ ?_
        clear hK K
        refine wpAnyIn_done (by kernel_rfl) ?_ _
        exact HFIN.out
      refine AllReadyIn.cons rfl (fun K hK => ?_) AllReadyIn.nil
      go_simp
      refine hK _ _ ?_
      clear hK K
      refine wpAnyIn_ready (rs := [0, 2]) (by kernel_rfl) (by simp) ?_
      refine AllReadyIn.cons rfl (fun K hK => ?_) ?_
      · go_simp
        refine hK _ _ ?_
        clear hK K
        refine wpAnyIn_ready (rs := [2]) (by kernel_rfl) (by simp) ?_
        refine AllReadyIn.cons rfl (fun K hK => ?_) AllReadyIn.nil
        go_simp
        refine hK _ _ ?_
        clear hK K
        refine wpAnyIn_ready (rs := [3]) (by kernel_rfl) (by simp) ?_
        refine AllReadyIn.cons rfl (fun K hK => ?_) AllReadyIn.nil
        go_simp
        refine hK _ _ ?_
        clear hK K
        refine wpAnyIn_ready (rs := [4]) (by kernel_rfl) (by simp) ?_
        refine AllReadyIn.cons rfl (fun K hK => ?_) AllReadyIn.nil
        go_simp
        refine hK _ _ ?_
        clear hK K
        refine wpAnyIn_ready (rs := [6]) (by kernel_rfl) (by simp) ?_
        refine AllReadyIn.cons rfl (fun K hK => ?_) AllReadyIn.nil
        go_simp
        refine hK _ _ ?_
        clear hK K
        refine wpAnyIn_ready (rs := [7]) (by kernel_rfl) (by simp) ?_
        refine AllReadyIn.cons rfl (fun K hK => ?_) AllReadyIn.nil
        go_simp
        refine hK _ _ ?_
        clear hK K
        refine wpAnyIn_ready (rs := [8]) (by kernel_rfl) (by simp) ?_
        refine AllReadyIn.cons rfl (fun K hK => ?_) AllReadyIn.nil
        refine stepIn_app1 rfl (.tmp 17) (.tmp 24) 44 rfl (.slice A2 i C2) (.slice (some ⟨W6.heap.size, 0, none⟩) 1 1) rfl rfl hrun ?_
        refine hK _ _ ?_
        simp only [Act.put, List.setIfInBounds_toArray]
        clear hK K
        refine wpAnyIn_ready (rs := [9]) (by kernel_rfl) (by simp) ?_
        refine AllReadyIn.cons rfl (fun K hK => ?_) AllReadyIn.nil
        go_simp
        refine hK _ _ ?_
        clear hK K
        refine wpAnyIn_done (by kernel_rfl) ?_ _
        exact HFIN.out
      refine AllReadyIn.cons rfl (fun K hK => ?_) AllReadyIn.nil
      go_simp
      refine hK _ _ ?_
      clear hK K
      refine wpAnyIn_ready (rs := [0, 3]) (by kernel_rfl) (by simp) ?_
      refine AllReadyIn.cons rfl (fun K hK => ?_) ?_
      · go_simp
        refine hK _ _ ?_
        clear hK K
        refine wpAnyIn_ready (rs := [3]) (by kernel_rfl) (by simp) ?_
        refine AllReadyIn.cons rfl (fun K hK => ?_) AllReadyIn.nil
        go_simp
        refine hK _ _ ?_
        clear hK K
        refine wpAnyIn_ready (rs := [4]) (by kernel_rfl) (by simp) ?_
        refine AllReadyIn.cons rfl (fun K hK => ?_) AllReadyIn.nil
        go_simp
        refine hK _ _ ?_
        clear hK K
        refine wpAnyIn_ready (rs := [6]) (by kernel_rfl) (by simp) ?_
        refine AllReadyIn.cons rfl (fun K hK => ?_) AllReadyIn.nil
        go_simp
        refine hK _ _ ?_
        clear hK K
        refine wpAnyIn_ready (rs := [7]) (by kernel_rfl) (by simp) ?_
        refine AllReadyIn.cons rfl (fun K hK => ?_) AllReadyIn.nil
        go_simp
        refine hK _ _ ?_
        clear hK K
        refine wpAnyIn_ready (rs := [8]) (by kernel_rfl) (by simp) ?_
        refine AllReadyIn.cons rfl (fun K hK => ?_) AllReadyIn.nil
        refine stepIn_app1 rfl (.tmp 17) (.tmp 24) 44 rfl (.slice A2 i C2) (.slice (some ⟨W6.heap.size, 0, none⟩) 1 1) rfl rfl hrun ?_
        refine hK _ _ ?_
        simp only [Act.put, List.setIfInBounds_toArray]
        clear hK K
        refine wpAnyIn_ready (rs := [9]) (by kernel_rfl) (by simp) ?_
        refine AllReadyIn.cons rfl (fun K hK => ?_) AllReadyIn.nil
        go_simp
        refine hK _ _ ?_
        clear hK K
        refine wpAnyIn_done (by kernel_rfl) ?_ _
        exact HFIN.out
      refine AllReadyIn.cons rfl (fun K hK => ?_) AllReadyIn.nil
      go_simp
      refine hK _ _ ?_
      clear hK K
      refine wpAnyIn_ready (rs := [0, 4]) (by kernel_rfl) (by simp) ?_
      refine AllReadyIn.cons rfl (fun K hK => ?_) ?_
      · go_simp
        refine hK _ _ ?_
        clear hK K
        refine wpAnyIn_ready (rs := [4]) (by kernel_rfl) (by simp) ?_
        refine AllReadyIn.cons rfl (fun K hK => ?_) AllReadyIn.nil
        go_simp
        refine hK _ _ ?_
        clear hK K
        refine wpAnyIn_ready (rs := [6]) (by kernel_rfl) (by simp) ?_
        refine AllReadyIn.cons rfl (fun K hK => ?_) AllReadyIn.nil
        go_simp
        refine hK _ _ ?_
        clear hK K
        refine wpAnyIn_ready (rs := [7]) (by kernel_rfl) (by simp) ?_
        refine AllReadyIn.cons rfl (fun K hK => ?_) AllReadyIn.nil
        go_simp
        refine hK _ _ ?_
        clear hK K
        refine wpAnyIn_ready (rs := [8]) (by kernel_rfl) (by simp) ?_
        refine AllReadyIn.cons rfl (fun K hK => ?_) AllReadyIn.nil
        refine stepIn_app1 rfl (.tmp 17) (.tmp 24) 44 rfl (.slice A2 i C2) (.slice (some ⟨W6.heap.size, 0, none⟩) 1 1) rfl rfl hrun ?_
        refine hK _ _ ?_
        simp only [Act.put, List.setIfInBounds_toArray]
        clear hK K
        refine wpAnyIn_ready (rs := [9]) (by kernel_rfl) (by simp) ?_
        refine AllReadyIn.cons rfl (fun K hK => ?_) AllReadyIn.nil
        go_simp
        refine hK _ _ ?_
        clear hK K
        refine wpAnyIn_done (by kernel_rfl) ?_ _
        exact HFIN.out
      refine AllReadyIn.cons rfl (fun K hK => ?_) AllReadyIn.nil
      go_simp
      refine hK _ _ ?_
      clear hK K
      refine wpAnyIn_ready (rs := [0, 6]) (by kernel_rfl) (by simp) ?_
      refine AllReadyIn.cons rfl (fun K hK => ?_) ?_
      · go_simp
        refine hK _ _ ?_
        clear hK K
        refine wpAnyIn_ready (rs := [6]) (by kernel_rfl) (by simp) ?_
        refine AllReadyIn.cons rfl (fun K hK => ?_) AllReadyIn.nil
        go_simp
        refine hK _ _ ?_
        clear hK K
        refine wpAnyIn_ready (rs := [7]) (by kernel_rfl) (by simp) ?_
        refine AllReadyIn.cons rfl (fun K hK => ?_) AllReadyIn.nil
        go_simp
        refine hK _ _ ?_
        clear hK K
        refine wpAnyIn_ready (rs := [8]) (by kernel_rfl) (by simp) ?_
        refine AllReadyIn.cons rfl (fun K hK => ?_) AllReadyIn.nil
        refine stepIn_app1 rfl (.tmp 17) (.tmp 24) 44 rfl (.slice A2 i C2) (.slice (some ⟨W6.heap.size, 0, none⟩) 1 1) rfl rfl hrun ?_
        refine hK _ _ ?_
        simp only [Act.put, List.setIfInBounds_toArray]
        clear hK K
        refine wpAnyIn_ready (rs := [9]) (by kernel_rfl) (by simp) ?_
        refine AllReadyIn.cons rfl (fun K hK => ?_) AllReadyIn.nil
        go_simp
        refine hK _ _ ?_
        clear hK K
        refine wpAnyIn_done (by kernel_rfl) ?_ _
        exact HFIN.out
      refine AllReadyIn.cons rfl (fun K hK => ?_) AllReadyIn.nil
      go_simp
      refine hK _ _ ?_
      clear hK K
      refine wpAnyIn_ready (rs := [0, 7]) (by kernel_rfl) (by simp) ?_
      refine AllReadyIn.cons rfl (fun K hK => ?_) ?_
      · go_simp
        refine hK _ _ ?_
        clear hK K
        refine wpAnyIn_ready (rs := [7]) (by kernel_rfl) (by simp) ?_
        refine AllReadyIn.cons rfl (fun K hK => ?_) AllReadyIn.nil
        go_simp
        refine hK _ _ ?_
        clear hK K
        refine wpAnyIn_ready (rs := [8]) (by kernel_rfl) (by simp) ?_
        refine AllReadyIn.cons rfl (fun K hK => ?_) AllReadyIn.nil
        refine stepIn_app1 rfl (.tmp 17) (.tmp 24) 44 rfl (.slice A2 i C2) (.slice (some ⟨W6.heap.size, 0, none⟩) 1 1) rfl rfl hrun ?_
        refine hK _ _ ?_
        simp only [Act.put, List.setIfInBounds_toArray]
        clear hK K
        refine wpAnyIn_ready (rs := [9]) (by kernel_rfl) (by simp) ?_
        refine AllReadyIn.cons rfl (fun K hK => ?_) AllReadyIn.nil
        go_simp
        refine hK _ _ ?_
        clear hK K
        refine wpAnyIn_done (by kernel_rfl) ?_ _
        exact HFIN.out
      refine AllReadyIn.cons rfl (fun K hK => ?_) AllReadyIn.nil
      go_simp
      refine hK _ _ ?_
      clear hK K
      refine wpAnyIn_ready (rs := [0]) (by kernel_rfl) (by simp) ?_
      refine AllReadyIn.cons rfl (fun K hK => ?_) AllReadyIn.nil
      go_simp
      refine hK _ _ ?_
      clear hK K
      refine wpAnyIn_ready (rs := [8]) (by kernel_rfl) (by simp) ?_
      refine AllReadyIn.cons rfl (fun K hK => ?_) AllReadyIn.nil
      refine stepIn_app1 rfl (.tmp 17) (.tmp 24) 44 rfl (.slice A2 i C2) (.slice (some ⟨W6.heap.size, 0, none⟩) 1 1) rfl rfl hrun ?_
      refine hK _ _ ?_
      simp only [Act.put, List.setIfInBounds_toArray]
      clear hK K
      refine wpAnyIn_ready (rs := [9]) (by kernel_rfl) (by simp) ?_
      refine AllReadyIn.cons rfl (fun K hK => ?_) AllReadyIn.nil
      go_simp
      refine hK _ _ ?_
      clear hK K
      refine wpAnyIn_done (by kernel_rfl) ?_ _
      exact HFIN.out
    refine AllReadyIn.cons rfl (fun K hK => ?_) AllReadyIn.nil
    go_simp
    refine hK _ _ ?_
    clear hK K
    refine wpAnyIn_ready (rs := [0, 1]) (by kernel_rfl) (by simp) ?_
    refine AllReadyIn.cons rfl (fun K hK => ?_) ?_
    · go_simp
      refine hK _ _ ?_
      clear hK K
      refine wpAnyIn_ready (rs := [1]) (by kernel_rfl) (by simp) ?_
      refine AllReadyIn.cons rfl (fun K hK => ?_) AllReadyIn.nil
      go_simp
      refine hK _ _ ?_
      clear hK K
      refine wpAnyIn_ready (rs := [2]) (by kernel_rfl) (by simp) ?_
      refine AllReadyIn.cons rfl (fun K hK => ?_) AllReadyIn.nil
      go_simp
      refine hK _ _ ?_
      clear hK K
      refine wpAnyIn_ready (rs := [3]) (by kernel_rfl) (by simp) ?_
      refine AllReadyIn.cons rfl (fun K hK => ?_) AllReadyIn.nil
      go_simp
      refine hK _ _ ?_
      clear hK K
      refine wpAnyIn_ready (rs := [4]) (by kernel_rfl) (by simp) ?_
      refine AllReadyIn.cons rfl (fun K hK => ?_) AllReadyIn.nil
      go_simp
      refine hK _ _ ?_
      clear hK K
      refine wpAnyIn_ready (rs := [6]) (by kernel_rfl) (by simp) ?_
      refine AllReadyIn.cons rfl (fun K hK => ?_) AllReadyIn.nil
      go_simp
      refine hK _ _ ?_
      clear hK K
      refine wpAnyIn_ready (rs := [7]) (by kernel_rfl) (by simp) ?_
      refine AllReadyIn.cons rfl (fun K hK => ?_) AllReadyIn.nil
      go_simp
      refine hK _ _ ?_
      clear hK K
      refine wpAnyIn_ready (rs := [8]) (by kernel_rfl) (by simp) ?_
      refine AllReadyIn.cons rfl (fun K hK => ?_) AllReadyIn.nil
      refine stepIn_app1 rfl (.tmp 17) (.tmp 24) 44 rfl (.slice A2 i C2) (.slice (some ⟨W6.heap.size, 0, none⟩) 1 1) rfl rfl hrun ?_
      refine hK _ _ ?_
      simp only [Act.put, List.setIfInBounds_toArray]
      clear hK K
      refine wpAnyIn_ready (rs := [9]) (by kernel_rfl) (by simp) ?_
      refine AllReadyIn.cons rfl (fun K hK => ?_) AllReadyIn.nil
      go_simp
      refine hK _ _ ?_
      clear hK K
      refine wpAnyIn_done (by kernel_rfl) ?_ _
      exact HFIN.out
    refine AllReadyIn.cons rfl (fun K hK => ?_) AllReadyIn.nil
    go_simp
    refine hK _ _ ?_
    clear hK K
    refine wpAnyIn_ready (rs := [0, 2]) (by kernel_rfl) (by simp) ?_
    refine AllReadyIn.cons rfl (fun K hK => ?_) ?_
    · go_simp
      refine hK _ _ ?_
      clear hK K
      refine wpAnyIn_ready (rs := [2]) (by kernel_rfl) (by simp) ?_
      refine AllReadyIn.cons rfl (fun K hK => ?_) AllReadyIn.nil
      go_simp
      refine hK _ _ ?_
      clear hK K
      refine wpAnyIn_ready (rs := [3]) (by kernel_rfl) (by simp) ?_
      refine AllReadyIn.cons rfl (fun K hK => ?_) AllReadyIn.nil
      go_simp
      refine hK _ _ ?_
      clear hK K
      refine wpAnyIn_ready (rs := [4]) (by kernel_rfl) (by simp) ?_
      refine AllReadyIn.cons rfl (fun K hK => ?_) AllReadyIn.nil
      go_simp
      refine hK _ _ ?_
      clear hK K
      refine wpAnyIn_ready (rs := [6]) (by kernel_rfl) (by simp) ?_
      refine AllReadyIn.cons rfl (fun K hK => ?_) AllReadyIn.nil
      go_simp
      refine hK _ _ ?_
      clear hK K
      refine wpAnyIn_ready (rs := [7]) (by kernel_rfl) (by simp) ?_
      refine AllReadyIn.cons rfl (fun K hK => ?_) AllReadyIn.nil
      go_simp
      refine hK _ _ ?_
      clear hK K
      refine wpAnyIn_ready (rs := [8]) (by kernel_rfl) (by simp) ?_
      refine AllReadyIn.cons rfl (fun K hK => ?_) AllReadyIn.nil
      refine stepIn_app1 rfl (.tmp 17) (.tmp 24) 44 rfl (.slice A2 i C2) (.slice (some ⟨W6.heap.size, 0, none⟩) 1 1) rfl rfl hrun ?_
      refine hK _ _ ?_
      simp only [Act.put, List.setIfInBounds_toArray]
      clear hK K
      refine wpAnyIn_ready (rs := [9]) (by kernel_rfl) (by simp) ?_
      refine AllReadyIn.cons rfl (fun K hK => ?_) AllReadyIn.nil
      go_simp
      refine hK _ _ ?_
      clear hK K
      refine wpAnyIn_done (by kernel_rfl) ?_ _
      exact HFIN.out
    refine AllReadyIn.cons rfl (fun K hK => ?_) AllReadyIn.nil
    go_simp
    refine hK _ _ ?_
    clear hK K
    refine wpAnyIn_ready (rs := [0, 3]) (by kernel_rfl) (by simp) ?_
    refine AllReadyIn.cons rfl (fun K hK => ?_) ?_
    · go_simp
      refine hK _ _ ?_
      clear hK K
      refine wpAnyIn_ready (rs := [3]) (by kernel_rfl) (by simp) ?_
      refine AllReadyIn.cons rfl (fun K hK => ?_) AllReadyIn.nil
      go_simp
      refine hK _ _ ?_
      clear hK K
      refine wpAnyIn_ready (rs := [4]) (by kernel_rfl) (by simp) ?_
      refine AllReadyIn.cons rfl (fun K hK => ?_) AllReadyIn.nil
      go_simp
      refine hK _ _ ?_
      clear hK K
      refine wpAnyIn_ready (rs := [6]) (by kernel_rfl) (by simp) ?_
      refine AllReadyIn.cons rfl (fun K hK => ?_) AllReadyIn.nil
      go_simp
      refine hK _ _ ?_
      clear hK K
      refine wpAnyIn_ready (rs := [7]) (by kernel_rfl) (by simp) ?_
      refine AllReadyIn.cons rfl (fun K hK => ?_) AllReadyIn.nil
      go_simp
      refine hK _ _ ?_
      clear hK K
      refine wpAnyIn_ready (rs := [8]) (by kernel_rfl) (by simp) ?_
      refine AllReadyIn.cons rfl (fun K hK => ?_) AllReadyIn.nil
      refine stepIn_app1 rfl (.tmp 17) (.tmp 24) 44 rfl (.slice A2 i C2) (.slice (some ⟨W6.heap.size, 0, none⟩) 1 1) rfl rfl hrun ?_
      refine hK _ _ ?_
      simp only [Act.put, List.setIfInBounds_toArray]
      clear hK K
      refine wpAnyIn_ready (rs := [9]) (by kernel_rfl) (by simp) ?_
      refine AllReadyIn.cons rfl (fun K hK => ?_) AllReadyIn.nil
      go_simp
      refine hK _ _ ?_
      clear hK K
      refine wpAnyIn_done (by kernel_rfl) ?_ _
      exact HFIN.out
    refine AllReadyIn.cons rfl (fun K hK => ?_) AllReadyIn.nil
    go_simp
    refine hK _ _ ?_
    clear hK K
    refine wpAnyIn_ready (rs := [0, 4]) (by kernel_rfl) (by simp) ?_
    refine AllReadyIn.cons rfl (fun K hK => ?_) ?_
    · go_simp
      refine hK _ _ ?_
      clear hK K
      refine wpAnyIn_ready (rs := [4]) (by kernel_rfl) (by simp) ?_
      refine AllReadyIn.cons rfl (fun K hK => ?_) AllReadyIn.nil
      go_simp
      refine hK _ _ ?_
      clear hK K
      refine wpAnyIn_ready (rs := [6]) (by kernel_rfl) (by simp) ?_
      refine AllReadyIn.cons rfl (fun K hK => ?_) AllReadyIn.nil
      go_simp
      refine hK _ _ ?_
      clear hK K
      refine wpAnyIn_ready (rs := [7]) (by kernel_rfl) (by simp) ?_
      refine AllReadyIn.cons rfl (fun K hK => ?_) AllReadyIn.nil
      go_simp
      refine hK _ _ ?_
      clear hK K
      refine wpAnyIn_ready (rs := [8]) (by kernel_rfl) (by simp) ?_
      refine AllReadyIn.cons rfl (fun K hK => ?_) AllReadyIn.nil
      refine stepIn_app1 rfl (.tmp 17) (.tmp 24) 44 rfl (.slice A2 i C2) (.slice (some ⟨W6.heap.size, 0, none⟩) 1 1) rfl rfl hrun ?_
      refine hK _ _ ?_
      simp only [Act.put, List.setIfInBounds_toArray]
      clear hK K
      refine wpAnyIn_ready (rs := [9]) (by kernel_rfl) (by simp) ?_
      refine AllReadyIn.cons rfl (fun K hK => ?_) AllReadyIn.nil
      go_simp
      refine hK _ _ ?_
      clear hK K
      refine wpAnyIn_done (by kernel_rfl) ?_ _
      exact HFIN.out
    refine AllReadyIn.cons rfl (fun K hK => ?_) AllReadyIn.nil
    go_simp
    refine hK _ _ ?_
    clear hK K
    refine wpAnyIn_ready (rs := [0, 6]) (by kernel_rfl) (by simp) ?_
    refine AllReadyIn.cons rfl (fun K hK => ?_) ?_
    · go_simp
      refine hK _ _ ?_
      clear hK K
      refine wpAnyIn_ready (rs := [6]) (by kernel_rfl) (by simp) ?_
      refine AllReadyIn.cons rfl (fun K hK => ?_) AllReadyIn.nil
      go_simp
      refine hK _ _ ?_
      clear hK K
      refine wpAnyIn_ready (rs := [7]) (by kernel_rfl) (by simp) ?_
      refine AllReadyIn.cons rfl (fun K hK => ?_) AllReadyIn.nil
      go_simp
      refine hK _ _ ?_
      clear hK K
      refine wpAnyIn_ready (rs := [8]) (by kernel_rfl) (by simp) ?_
      refine AllReadyIn.cons rfl (fun K hK => ?_) AllReadyIn.nil
      refine stepIn_app1 rfl (.tmp 17) (.tmp 24) 44 rfl (.slice A2 i C2) (.slice (some ⟨W6.heap.size, 0, none⟩) 1 1) rfl rfl hrun ?_
      refine hK _ _ ?_
      simp only [Act.put, List.setIfInBounds_toArray]
      clear hK K
      refine wpAnyIn_ready (rs := [9]) (by kernel_rfl) (by simp) ?_
      refine AllReadyIn.cons rfl (fun K hK => ?_) AllReadyIn.nil
      go_simp
      refine hK _ _ ?_
      clear hK K
      refine wpAnyIn_done (by kernel_rfl) ?_ _
      exact HFIN.out
    refine AllReadyIn.cons rfl (fun K hK => ?_) AllReadyIn.nil
    go_simp
    refine hK _ _ ?_
    clear hK K
    refine wpAnyIn_ready (rs := [0, 7]) (by kernel_rfl) (by simp) ?_
    refine AllReadyIn.cons rfl (fun K hK => ?_) ?_
    · go_simp
      refine hK _ _ ?_
      clear hK K
      refine wpAnyIn_ready (rs := [7]) (by kernel_rfl) (by simp) ?_
      refine AllReadyIn.cons rfl (fun K hK => ?_) AllReadyIn.nil
      go_simp
      refine hK _ _ ?_
      clear hK K
      refine wpAnyIn_ready (rs := [8]) (by kernel_rfl) (by simp) ?_
      refine AllReadyIn.cons rfl (fun K hK => ?_) AllReadyIn.nil
      refine stepIn_app1 rfl (.tmp 17) (.tmp 24) 44 rfl (.slice A2 i C2) (.slice (some ⟨W6.heap.size, 0, none⟩) 1 1) rfl rfl hrun ?_
      refine hK _ _ ?_
      simp only [Act.put, List.setIfInBounds_toArray]
      clear hK K
      refine wpAnyIn_ready (rs := [9]) (by kernel_rfl) (by simp) ?_
      refine AllReadyIn.cons rfl (fun K hK => ?_) AllReadyIn.nil
      go_simp
      refine hK _ _ ?_
      clear hK K
      refine wpAnyIn_done (by kernel_rfl) ?_ _
      exact HFIN.out
    refine AllReadyIn.cons rfl (fun K hK => ?_) AllReadyIn.nil
    go_simp
    refine hK _ _ ?_
    clear hK K
    refine wpAnyIn_ready (rs := [0]) (by kernel_rfl) (by simp) ?_
    refine AllReadyIn.cons rfl (fun K hK => ?_) AllReadyIn.nil
    go_simp
    refine hK _ _ ?_
    clear hK K
    refine wpAnyIn_ready (rs := [8]) (by kernel_rfl) (by simp) ?_
    refine AllReadyIn.cons rfl (fun K hK => ?_) AllReadyIn.nil
    refine stepIn_app1 rfl (.tmp 17) (.tmp 24) 44 rfl (.slice A2 i C2) (.slice (some ⟨W6.heap.size, 0, none⟩) 1 1) rfl rfl hrun ?_
    refine hK _ _ ?_
    simp only [Act.put, List.setIfInBounds_toArray]
    clear hK K
    refine wpAnyIn_ready (rs := [9]) (by kernel_rfl) (by simp) ?_
    refine AllReadyIn.cons rfl (fun K hK => ?_) AllReadyIn.nil
    go_simp
    refine hK _ _ ?_
    clear hK K
    refine wpAnyIn_done (by kernel_rfl) ?_ _
    exact HFIN.out
  case done =>
    rintro W ⟨A1, C1, A2, C2, hB⟩ hD hK
    have HBB := Lib.hid hB
    have HK1 := Lib.hid hK
    clear hB hD hK
    dsimp only
    go_wp2
    refine ⟨by simp, .inl ⟨_, _, rfl, run_takeDeferred HK1.out, ?_⟩⟩
    have hB2 := HBB.out.aside (Aside.put0 (D := w4.heap.size) W (.deferred none))
    refine ⟨.func (.func 104) #[] #[.pointer (some ⟨w.heap.size + 1, 0, none⟩), .pointer (some ⟨w.heap.size + 1 + 1, 0, none⟩)], ?_, w.heap.size + 1, w.heap.size + 1 + 1, A1, C1, A2, C2, rfl, Lib.hid ⟨(blk_cell hB2.gs).1, (blk_cell hB2.ts).1, ?_, ?_⟩, Lib.hid hB2.bel⟩
    · simp [results, Try.results86, go_sem]
    · have := hB2.ks
      rw [List.take_of_length_le (by rw [HKL.out.1]; exact Nat.le_refl _)] at this
      exact row_low this (Nat.zero_le _)
    · have := hB2.vs
      rw [List.take_of_length_le (by rw [HKL.out.2]; exact Nat.le_refl _)] at this
      exact row_low this (Nat.zero_le _)
end Go.Proofs.Ytnffngbkidehfaa.Nk
