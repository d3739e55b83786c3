/-
  Own text: the code's ring beside the document's: where they lie, and what a call of one leaves of the other.
-/
import Derived.Test.YtjkobejhbgjhlaaRgK
namespace Go.Proofs.Ytjkobejhbgjhlaa
open Go.RowKit

/-- A call of the script, in its box. -/
def OpB (w : World) (e : Nat) (kd n v : Int) : Prop := w.heap[e]? = some (.cells #[.int .i64 kd, .int .i64 n, .int .i64 v] 47 (0, 0))
section
variable {w : World} {e : Nat} {kd n v : Int}
theorem OpB.lt (h : OpB w e kd n v) : e < w.heap.size := (Array.getElem?_eq_some_iff.1 h).1
theorem OpB.cells (h : OpB w e kd n v) : w.cell? ⟨e, 0, none⟩ = some (.int .i64 kd) ∧ w.cell? ⟨e, 1, none⟩ = some (.int .i64 n) ∧ w.cell? ⟨e, 2, none⟩ = some (.int .i64 v) := by
  unfold OpB at h
  simp [World.cell?, h]
theorem OpB.new (w : World) (kd n v : Int) : OpB (w.alloc (.cells #[.int .i64 kd, .int .i64 n, .int .i64 v] 47)) w.heap.size kd n v := Go.Deep.blk_alloc_new w _
end
theorem DBx.setRoom {w : World} {c room first : Nat} {s : Value} (h : DBx w c room first s) (n : Nat) : DBx (w.setCell ⟨c, 0, none⟩ (.int .i64 (n : Int))) c n first s := by
  unfold DBx at *
  simp [World.setCell, Array.getElem?_modify, h]
/-- A list's block holds numbers. -/
theorem OwnI.ints {w : World} {base : Nat} {A : Option Addr} {n C : Nat} {l : List Int} (h : OwnI w base (.slice A n C) n l) {g : Nat} (hg : A.map Addr.block = some g) : ∃ cur : Array Value, w.heap[g]? = some (.cells cur 3 (0, 0)) := by
  rcases h.2 with ⟨e, _⟩ | ⟨g', cap, cur, e, _, hg', _⟩
  · simp only [Value.slice.injEq] at e
    rw [e.1] at hg; simp at hg
  · simp only [Value.slice.injEq] at e
    rw [e.1] at hg
    simp at hg
    subst hg
    exact ⟨cur, hg'⟩
/-- Blocks of other types are other blocks. -/
theorem cells_apart {w : World} {g c : Nat} {a b : Array Value} {t u : TypeId} (hg : w.heap[g]? = some (.cells a t (0, 0))) (hc : w.heap[c]? = some (.cells b u (0, 0))) (h : t ≠ u) : g ≠ c := by
  intro e
  subst e
  rw [hg] at hc
  simp at hc
  exact h hc.2
/-- The code's ring and the document's, side by side. -/
structure Tw (B b : Nat) (R1 R2 : Rn) (A : Option Addr) (C : Nat) (xs : List Int) (A2 : Option Addr) (C2 : Nat) (W : World) : Prop where
  rb : RB W b R1 A C xs
  box : DBx W (B + 1) R2.room R2.first (.slice A2 R2.l.length C2)
  res : DBx W B 0 0 (.slice none 0 0)
  dl : DL W R2 A2 C2
  sb : B + 2 ≤ b
  ss : ∀ k, A.map Addr.block = some k → B + 2 ≤ k
  sd : ∀ k, A2.map Addr.block = some k → B + 2 ≤ k
  ap : ∀ k, A.map Addr.block = some k → ¬ A2.map Addr.block = some k
section
variable {B b C C2 : Nat} {R1 R2 : Rn} {A A2 : Option Addr} {xs : List Int} {W W' : World}
theorem RB.ltA (h : RB W b R1 A C xs) : ∀ k, A.map Addr.block = some k → k < W.heap.size := fun k hk => (h.own.lt k (by rw [own_block]; exact hk)).2
theorem DL.ltA (h : DL W R2 A2 C2) : ∀ k, A2.map Addr.block = some k → k < W.heap.size := fun k hk => (OwnI.lt h k (by rw [own_block]; exact hk)).2
theorem DL.off (h : DL W R2 A2 C2) (hr : RB W b R1 A C xs) : ¬ A2.map Addr.block = some b := fun e => by
  obtain ⟨cur, hc⟩ := OwnI.ints h e
  exact cells_apart hc hr.blk (by decide) rfl
theorem DL.keepF (h : DL W R2 A2 C2) (hr : RB W b R1 A C xs) (ap : ∀ k, A.map Addr.block = some k → ¬ A2.map Addr.block = some k) (hF : Frm b (A.map Addr.block) W W') : DL W' R2 A2 C2 :=
  OwnI.keep h (fun g hg => hF.block g (OwnI.lt h g hg).2 (fun e => by
    subst e
    rw [own_block] at hg
    exact DL.off h hr hg) (fun e => by
    rw [own_block] at hg
    exact ap g e.symm hg))
theorem DBx.keepF {c room first : Nat} {s : Value} (h : DBx W c room first s) (hr : RB W b R1 A C xs) (hF : Frm b (A.map Addr.block) W W') : DBx W' c room first s :=
  h.keep (hF.block c h.lt (fun e => cells_apart h hr.blk (by decide) e) (fun e => by
    obtain ⟨cur, hc⟩ := OwnI.ints hr.own e.symm
    exact cells_apart hc h (by decide) rfl))
theorem OpB.keepF {e : Nat} {kd n v : Int} (h : OpB W e kd n v) (hr : RB W b R1 A C xs) (hF : Frm b (A.map Addr.block) W W') : OpB W' e kd n v :=
  (hF.block e h.lt (fun x => cells_apart h hr.blk (by decide) x) (fun x => by
    obtain ⟨cur, hc⟩ := OwnI.ints hr.own x.symm
    exact cells_apart hc h (by decide) rfl)).trans h
theorem Tw.start {R : Rn} (h : RB W b R none C []) (hl : R.l = []) (hB : B + 2 ≤ b) (h0 : DBx W B 0 0 (.slice none 0 0)) (h1 : DBx W (B + 1) R.room R.first (.slice none 0 0)) : Tw B b R R none C [] none 0 W :=
  ⟨h, by rw [hl]; exact h1, h0, by unfold DL; rw [hl]; exact OwnI.none _ _, hB, fun k hk => by simp at hk, fun k hk => by simp at hk, fun k hk => by simp at hk⟩
theorem Tw.below {B' : Nat} (h : Tw B b R1 R2 A C xs A2 C2 W) (hb : Below B' W W') (hB : W.heap.size ≤ B') : Tw B b R1 R2 A C xs A2 C2 W' :=
  ⟨h.rb.below hb hB, h.box.below hb (Nat.lt_of_lt_of_le h.box.lt hB), h.res.below hb (Nat.lt_of_lt_of_le h.res.lt hB), DL.below h.dl hb hB, h.sb, h.ss, h.sd, h.ap⟩
theorem OpB.below {e B' : Nat} {kd n v : Int} (h : OpB W e kd n v) (hb : Below B' W W') (hB : W.heap.size ≤ B') : OpB W' e kd n v :=
  (hb.block e (Nat.lt_of_lt_of_le h.lt hB)).trans h
theorem ap_moved {A' : Option Addr} (ap : ∀ k, A.map Addr.block = some k → ¬ A2.map Addr.block = some k) (hd : ∀ k, A2.map Addr.block = some k → k < W.heap.size) (hm : Moved W (A.map Addr.block) (A'.map Addr.block)) :
    ∀ k, A'.map Addr.block = some k → ¬ A2.map Addr.block = some k := by
  intro k hk e
  rcases hm with h | h
  · exact ap k (by rw [← h]; exact hk) e
  · have := h k hk
    have := hd k e
    omega
theorem ss_moved {A' : Option Addr} (ss : ∀ k, A.map Addr.block = some k → B + 2 ≤ k) (hB : B + 2 ≤ W.heap.size) (hm : Moved W (A.map Addr.block) (A'.map Addr.block)) :
    ∀ k, A'.map Addr.block = some k → B + 2 ≤ k := by
  intro k hk
  rcases hm with h | h
  · exact ss k (by rw [← h]; exact hk)
  · exact Nat.le_trans hB (h k hk)
/-- The code's ring has gone on. -/
theorem Tw.code {R1' : Rn} {A' : Option Addr} {C' : Nat} {ys : List Int} (h : Tw B b R1 R2 A C xs A2 C2 W) (hr : RB W' b R1' A' C' ys) (hm : Moved W (A.map Addr.block) (A'.map Addr.block)) (hF : Frm b (A.map Addr.block) W W') : Tw B b R1' R2 A' C' ys A2 C2 W' :=
  ⟨hr, h.box.keepF h.rb hF, h.res.keepF h.rb hF, h.dl.keepF h.rb h.ap hF, h.sb, ss_moved h.ss (by have := h.rb.blk.lt; have := h.sb; omega) hm, h.sd, ap_moved h.ap h.dl.ltA hm⟩
theorem Tw.bel {w : World} (h : Tw B b R1 R2 A C xs A2 C2 W) (hb : Below B w W) (hF : Frm b (A.map Addr.block) W W') : Below B w W' :=
  hF.bel hb (by have := h.rb.blk.lt; have := h.sb; omega) (by have := h.sb; omega) (fun k hk => by have := h.ss k hk; omega)
/-- The document's answer is written. -/
theorem Tw.write {R2' : Rn} {A3 : Option Addr} {C3 : Nat} (h : Tw B b R1 R2 A C xs A2 C2 W) (hd : DL W R2' A3 C3) (h3 : ∀ k, A3.map Addr.block = some k → B + 2 ≤ k) (ha : ∀ k, A.map Addr.block = some k → ¬ A3.map Addr.block = some k) :
    Tw B b R1 R2' A C xs A3 C3 (((W.setCell ⟨B + 1, 0, none⟩ (.int .i64 (R2'.room : Int))).setCell ⟨B + 1, 1, none⟩ (.int .i64 (R2'.first : Int))).setCell ⟨B + 1, 2, none⟩ (.slice A3 R2'.l.length C3)) := by
  have e : ∀ k, k ≠ B + 1 → (((W.setCell ⟨B + 1, 0, none⟩ (.int .i64 (R2'.room : Int))).setCell ⟨B + 1, 1, none⟩ (.int .i64 (R2'.first : Int))).setCell ⟨B + 1, 2, none⟩ (.slice A3 R2'.l.length C3)).heap[k]? = W.heap[k]? := fun k hk => by
    rw [Below.heap_setCell _ ⟨B + 1, 2, none⟩ _ k hk, Below.heap_setCell _ ⟨B + 1, 1, none⟩ _ k hk, Below.heap_setCell _ ⟨B + 1, 0, none⟩ _ k hk]
  have hb := h.sb
  refine ⟨h.rb.keep (e b (by omega)) (fun g hg => e g ?_), ((h.box.setRoom _).setFirst _).setL _, h.res.keep (e B (by omega)), OwnI.keep hd (fun g hg => e g ?_), hb, h.ss, h3, ha⟩
  · have := h.ss g (by rw [← own_block]; exact hg); omega
  · have := h3 g (by rw [← own_block]; exact hg); omega
theorem OpB.write {e c : Nat} {kd n v : Int} {room first : Nat} {s : Value} (h : OpB W e kd n v) (hx : DBx W c room first s) (x y z : Value) : OpB (((W.setCell ⟨c, 0, none⟩ x).setCell ⟨c, 1, none⟩ y).setCell ⟨c, 2, none⟩ z) e kd n v := by
  have hk : e ≠ c := cells_apart h hx (by decide)
  unfold OpB
  rw [Below.heap_setCell _ ⟨c, 2, none⟩ _ e hk, Below.heap_setCell _ ⟨c, 1, none⟩ _ e hk, Below.heap_setCell _ ⟨c, 0, none⟩ _ e hk]
  exact h
theorem Dest.far {B' : Nat} {A3 : Option Addr} (h : Dest B' A2 A3) (hB : B + 2 ≤ B') (sd : ∀ k, A2.map Addr.block = some k → B + 2 ≤ k) : ∀ k, A3.map Addr.block = some k → B + 2 ≤ k := fun k hk => by
  rcases h k hk with h | h
  · omega
  · exact sd k h
theorem Dest.apart {B' : Nat} {A3 : Option Addr} (h : Dest B' A2 A3) (ap : ∀ k, A.map Addr.block = some k → ¬ A2.map Addr.block = some k) (hl : ∀ k, A.map Addr.block = some k → k < B') : ∀ k, A.map Addr.block = some k → ¬ A3.map Addr.block = some k := fun k hk e => by
  rcases h k e with h | h
  · have := hl k hk; omega
  · exact ap k hk h
/-- The document's call, and its answer written. -/
theorem Tw.doc {R2' : Rn} {A3 : Option Addr} {C3 : Nat} (h : Tw B b R1 R2 A C xs A2 C2 W) (hb : Below W.heap.size W W') (hd : DL W' R2' A3 C3) (ho : Dest W.heap.size A2 A3) :
    Tw B b R1 R2' A C xs A3 C3 (((W'.setCell ⟨B + 1, 0, none⟩ (.int .i64 (R2'.room : Int))).setCell ⟨B + 1, 1, none⟩ (.int .i64 (R2'.first : Int))).setCell ⟨B + 1, 2, none⟩ (.slice A3 R2'.l.length C3)) :=
  (h.below hb (Nat.le_refl _)).write hd (ho.far (by have := h.rb.blk.lt; have := h.sb; omega) h.sd) (ho.apart h.ap h.rb.ltA)
/-- The document's Reset. -/
theorem Tw.clear (h : Tw B b R1 R2 A C xs A2 C2 W) (n : Nat) : Tw B b R1 ⟨R2.room, n, []⟩ A C xs none 0 ((W.setCell ⟨B + 1, 1, none⟩ (.int .i64 (n : Int))).setCell ⟨B + 1, 2, none⟩ (.slice none 0 0)) := by
  have e : ∀ k, k ≠ B + 1 → ((W.setCell ⟨B + 1, 1, none⟩ (.int .i64 (n : Int))).setCell ⟨B + 1, 2, none⟩ (.slice none 0 0)).heap[k]? = W.heap[k]? := fun k hk => by
    rw [Below.heap_setCell _ ⟨B + 1, 2, none⟩ _ k hk, Below.heap_setCell _ ⟨B + 1, 1, none⟩ _ k hk]
  have hb := h.sb
  refine ⟨h.rb.keep (e b (by omega)) (fun g hg => e g ?_), (h.box.setFirst _).setL _, h.res.keep (e B (by omega)), OwnI.none _ _, hb, h.ss, fun k hk => by simp at hk, fun k hk => by simp⟩
  have := h.ss g (by rw [← own_block]; exact hg); omega
/-- The document's answer waits in a box of its own. -/
structure Pd (B b g : Nat) (R1 R2 R3 : Rn) (A : Option Addr) (C : Nat) (xs : List Int) (A2 : Option Addr) (C2 : Nat) (A3 : Option Addr) (C3 : Nat) (W : World) : Prop where
  tw : Tw B b R1 R2 A C xs A2 C2 W
  box : DBx W g R3.room R3.first (.slice A3 R3.l.length C3)
  dl : DL W R3 A3 C3
  sd : ∀ k, A3.map Addr.block = some k → B + 2 ≤ k
  ap : ∀ k, A.map Addr.block = some k → ¬ A3.map Addr.block = some k
theorem Tw.pend {R3 : Rn} {A3 : Option Addr} {C3 : Nat} (h : Tw B b R1 R2 A C xs A2 C2 W) (hb : Below W.heap.size W W') (hd : DL W' R3 A3 C3) (ho : Dest W.heap.size A2 A3) :
    Pd B b W'.heap.size R1 R2 R3 A C xs A2 C2 A3 C3 (W'.alloc (.cells #[.int .i64 (R3.room : Int), .int .i64 (R3.first : Int), .slice A3 R3.l.length C3] 27)) :=
  have hb2 := (Below.refl W'.heap.size W').alloc (Nat.le_refl _) (.cells #[.int .i64 (R3.room : Int), .int .i64 (R3.first : Int), .slice A3 R3.l.length C3] 27)
  ⟨(h.below hb (Nat.le_refl _)).below hb2 (Nat.le_refl _), DBx.new _ _ _ _, DL.below hd hb2 (Nat.le_refl _), ho.far (by have := h.rb.blk.lt; have := h.sb; omega) h.sd, ho.apart h.ap h.rb.ltA⟩
theorem Pd.code {g : Nat} {R3 R1' : Rn} {A3 A' : Option Addr} {C3 C' : Nat} {ys : List Int} (h : Pd B b g R1 R2 R3 A C xs A2 C2 A3 C3 W) (hr : RB W' b R1' A' C' ys) (hm : Moved W (A.map Addr.block) (A'.map Addr.block)) (hF : Frm b (A.map Addr.block) W W') : Pd B b g R1' R2 R3 A' C' ys A2 C2 A3 C3 W' :=
  ⟨h.tw.code hr hm hF, h.box.keepF h.tw.rb hF, h.dl.keepF h.tw.rb h.ap hF, h.sd, ap_moved h.ap h.dl.ltA hm⟩
/-- The code's ring has a clone. -/
structure Cl (B b c : Nat) (R1 R2 Rc : Rn) (A : Option Addr) (C : Nat) (xs : List Int) (A2 : Option Addr) (C2 : Nat) (Ac : Option Addr) (Cc : Nat) (zs : List Int) (W : World) : Prop where
  tw : Tw B b R1 R2 A C xs A2 C2 W
  rc : RB W c Rc Ac Cc zs
  ne : c ≠ b
  sc : B + 2 ≤ c
  ss : ∀ k, Ac.map Addr.block = some k → B + 2 ≤ k
  ap : ∀ k, A.map Addr.block = some k → ¬ Ac.map Addr.block = some k
  ad : ∀ k, Ac.map Addr.block = some k → ¬ A2.map Addr.block = some k
theorem Tw.clone {Rc : Rn} {Ac : Option Addr} {Cc : Nat} {zs : List Int} (h : Tw B b R1 R2 A C xs A2 C2 W) (hb : Below W.heap.size W W') (hr : RB W' W.heap.size Rc Ac Cc zs) (hs : ∀ k, Ac.map Addr.block = some k → W.heap.size ≤ k) : Cl B b W.heap.size R1 R2 Rc A C xs A2 C2 Ac Cc zs W' :=
  ⟨h.below hb (Nat.le_refl _), hr, by have := h.rb.blk.lt; omega, by have := h.rb.blk.lt; have := h.sb; omega, fun k hk => by have := h.rb.blk.lt; have := h.sb; have := hs k hk; omega,
    fun k hk e => by have := h.rb.ltA k hk; have := hs k e; omega, fun k hk e => by have := h.dl.ltA k e; have := hs k hk; omega⟩
theorem Cl.code {c Cc : Nat} {Rc R1' : Rn} {Ac A' : Option Addr} {zs ys : List Int} {C' : Nat} (h : Cl B b c R1 R2 Rc A C xs A2 C2 Ac Cc zs W) (hr : RB W' b R1' A' C' ys) (hm : Moved W (A.map Addr.block) (A'.map Addr.block)) (hF : Frm b (A.map Addr.block) W W') : Cl B b c R1' R2 Rc A' C' ys A2 C2 Ac Cc zs W' := by
  refine ⟨h.tw.code hr hm hF, h.rc.keep (hF.block c h.rc.blk.lt h.ne fun e => ?_) (fun g hg => ?_), h.ne, h.sc, h.ss, ap_moved h.ap h.rc.ltA hm, h.ad⟩
  · obtain ⟨cur, hc⟩ := OwnI.ints h.tw.rb.own e.symm
    exact cells_apart hc h.rc.blk (by decide) rfl
  · have hg2 : Ac.map Addr.block = some g := by rw [← own_block]; exact hg
    refine hF.block g (h.rc.ltA g hg2) (fun e => ?_) (fun e => h.ap g e.symm hg2)
    subst e
    obtain ⟨cur, hc⟩ := OwnI.ints h.rc.own hg2
    exact cells_apart hc h.tw.rb.blk (by decide) rfl
theorem Cl.done {c Cc : Nat} {Rc : Rn} {Ac : Option Addr} {zs : List Int} (h : Cl B b c R1 R2 Rc A C xs A2 C2 Ac Cc zs W) : Tw B c Rc R2 Ac Cc zs A2 C2 W :=
  ⟨h.rc, h.tw.box, h.tw.res, h.tw.dl, h.sc, h.ss, h.tw.sd, h.ad⟩
end
end Go.Proofs.Ytjkobejhbgjhlaa
