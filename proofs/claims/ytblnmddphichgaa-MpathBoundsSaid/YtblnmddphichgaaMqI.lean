/-
  Own text: an item that bears a datagram is taken out of its queue, walked. (Written by gen_mqi.py.)
-/
import Derived.Test.YtblnmddphichgaaMqE
namespace Go.Proofs.Ytblnmddphichgaa.Mq
open Go.RowKit

theorem infoX (x : It) : (Try.prog.info? 84).map (·.size) = some x.cells.size := infoI
theorem cells_one (x : It) : x.cells.all (·.oneCell') = true := by simp [Value.oneCell']
theorem zc_one : zc.all (·.oneCell') = true := by simp [Value.oneCell']
theorem loadv_it {w : World} {b o : Nat} {x : It} (h : Lies w b o x.cells) : (loadVar 84 ⟨b, o, none⟩).run Try.prog w = .ok x.val w := h.loadVar 84 _ Try.underlying84 rfl infoI
theorem Frm.prt {b c o n : Nat} {s : Option Nat} {w w' w'' : World} (h : Frm b s w w') (hc : w.heap.size ≤ c) (hp : Prt c o n w' w'') : Frm b s w w'' :=
  ⟨hp.os.trans h.os, hp.tape.trans h.tape, hp.output.trans h.output, Nat.le_trans h.size hp.size, fun k hk h1 h2 => (hp.block k (Nat.lt_of_lt_of_le hk h.size) (by omega)).trans (h.block k hk h1 h2)⟩
set_option maxRecDepth 100000 in
theorem take_any (y : It) (b i k : Nat) (Q : Qn) (a t : List It) (A : Option Addr) (C : Nat) (hQ : Q.l = a ++ y :: t) (ha : a.length = i) (hk : t.length = k) (hn : Q.l.length ≤ 1000) (w : World) (h : QB w b Q A C) :
    Calls Try.prog 34 #[.pointer (some ⟨b, 0, none⟩), .int .i64 (i : Int)] w fun e w' => e = .returned y.val ∧ Hid (QB w' b ⟨Q.room, Q.pushed, a ++ t⟩ A C) ∧ Hid (Frm b (A.map Addr.block) w w') := by
  obtain ⟨W1, hW1⟩ : ∃ W1, W1 = w.alloc (.cells zc 84) := ⟨_, rfl⟩
  have hb1 : Below w.heap.size w W1 := by rw [hW1]; exact (Below.refl _ _).alloc (Nat.le_refl _) _
  have hs1 : W1.heap.size = w.heap.size + 1 := by rw [hW1]; simp
  have hr1 : Lies W1 w.heap.size 0 zc := by rw [hW1]; exact Lies.new w zc _ (Below.refl _ _)
  have hq1 : QB W1 b Q A C := h.below hb1 (Nat.le_refl _)
  obtain ⟨c0, c1, c2⟩ := hq1.blk.cells
  obtain ⟨g, rfl, _, hgl, hx⟩ := hq1.own.at_ i y (by rw [hQ, List.getElem?_append_right (by omega), ha]; simp)
  obtain ⟨R, hg, hR, hC⟩ : ∃ R, TBlk W1 g (icells (a ++ y :: t) ++ R) ∧ Q.l.length * 13 + R.length = C * 13 ∧ C ≤ maxLen := by
    rcases hq1.own.form with ⟨e, _⟩ | ⟨g', R, e, _, _, h1, h2, h3⟩
    · simp at e
    · simp at e; subst e
      rw [hQ] at h1
      exact ⟨R, h1, h2, h3⟩
  have hgb := hq1.apart g rfl
  have hlen : Q.l.length = i + 1 + k := by rw [hQ, List.length_append, List.length_cons]; omega
  have hnC : Q.l.length ≤ C := by omega
  have hblt := h.blk.lt
  have hglt : g < w.heap.size := h.lt g rfl
  have HQB := Lib.hid hq1
  obtain ⟨W2, hW2⟩ : ∃ W2, W2 = W1.alloc (.cells zc 84) := ⟨_, rfl⟩
  have HB2 : Hid (Below W1.heap.size W1 W2) := Lib.hid (by rw [hW2]; exact (Below.refl _ _).alloc (Nat.le_refl _) _)
  have HZ2 : Hid (Lies W2 W1.heap.size 0 zc) := Lib.hid (by rw [hW2]; exact Lies.new W1 zc _ (Below.refl _ _))
  have HW2 := Lib.hid hW2
  have HX := Lib.hid hx
  generalize hN : Q.l.length = n at *
  have HDEL : Hid (∀ w3, Below W1.heap.size W1 w3 → Calls Try.prog 55 #[.slice (some ⟨g, 0, none⟩) n C, .int .i64 (i : Int), .int .i64 ((i : Int) + 1)] w3 fun e w' => e = .returned (.slice (some ⟨g, 0, none⟩) (i + k) C) ∧ Hid (OwnT w' 0 (.slice (some ⟨g, 0, none⟩) (i + k) C) (i + k) (a ++ t)) ∧ Hid (w3.grownBy w' (some g))) :=
    Lib.hid (fun w3 hb3 => delete_any y g n C i k a t R ha hk hlen hn hnC hC hR w3 (show w3.heap[g]? = _ from (hb3.block g hgl).trans hg))
  have HC3 : Hid (∀ w3, Below W1.heap.size W1 w3 → w3.cell? ⟨b, 2, none⟩ = some (.slice (some ⟨g, 0, none⟩) n C)) := Lib.hid (fun w3 hb3 => (hb3.cell (p := ⟨b, 2, none⟩) (by rw [hs1]; exact Nat.lt_succ_of_lt hblt)).trans c2)
  have HF : Hid (∀ w3 w4, Below W1.heap.size W1 w3 → w3.grownBy w4 (some g) → QBlk w4 b Q.room Q.pushed (.slice (some ⟨g, 0, none⟩) n C) ∧ (∀ k, w.heap.size ≤ k → k < w3.heap.size → w4.heap[k]? = w3.heap[k]?) ∧ Frm b (some g) w w4) := Lib.hid (fun w3 w4 hb3 hg4 => by
    have hq := HQB.out.blk
    rw [hN] at hq
    have hs3 := hb3.size
    refine ⟨(hq.below hb3 (by omega)).keep (hg4.block b (by omega) (by simp; exact fun e => hgb e.symm)), fun k h1 h2 => hg4.block k h2 (by simp; omega), ?_⟩
    exact (Frm.of_below (hb1.trans (hb3.mono (by omega)))).trans (Frm.grown hg4))
  have HR1 := Lib.hid hr1
  have HS : Hid (W1.heap.size = w.heap.size + 1 ∧ b < w.heap.size ∧ g < w.heap.size ∧ g ≠ b) := Lib.hid ⟨hs1, hblt, hglt, hgb⟩
  have i1 : (i : Int) < (n : Int) := by omega
  have i2 : (n : Int) ≤ 1000 := by omega
  have HLEN : Hid ((a ++ t).length = i + k) := Lib.hid (by rw [List.length_append]; omega)
  have HW1 := Lib.hid hW1
  obtain ⟨Y, hY⟩ : ∃ Y, Y = y.cells := ⟨_, rfl⟩
  have HYS : Hid (Y.size = zc.size) := Lib.hid (by rw [hY]; rfl)
  have HYI : Hid ((Try.prog.info? 84).map (·.size) = some Y.size) := Lib.hid (by rw [hY]; exact infoX y)
  have HY1 : Hid (Y.all (·.oneCell') = true) := Lib.hid (by rw [hY]; exact cells_one y)
  have HY := Lib.hid hY
  rw [← hY] at HX
  clear h hlen hnC hq1 hgl hR hC hQ hg ha hk hn hb1 hs1 hr1 hW1 hW2 hx hgb hblt hglt c0 c1 hY
  go_enter Try.func34, Try.ntmps34
  go_upto_region 1 with fail
  rw [← HW1.out]
  go_wp2_with (first
    | (with_reducible refine wpList_load_lies rfl 84 (.tmp 11) rfl g (i * 13) rfl Y HX.out _ Try.underlying84 rfl HYI.out ?_)
    | ((with_reducible refine wpList_store_lies rfl 84 (.tmp 5) (.tmp 12) rfl W1.heap.size 0 rfl Y rfl zc (HW2.out ▸ HZ2.out) HYS.out HYI.out HY1.out ?_); intro w3 J1 J2 J3; have HB3 : Hid (Below W1.heap.size W1 w3) := Lib.hid (J2.out.bel (HW2.out ▸ HB2.out) (HW2.out ▸ HB2.out.size) (Nat.le_refl _)); clear J2 J3; have c3 := HC3.out w3 HB3.out)
    | (go_at_call 55; (with_reducible refine (HDEL.out w3 HB3.out).mono ?_); rintro e w4 ⟨rfl, HO4, HG4⟩; have HF4 := Lib.hid (HF.out w3 w4 HB3.out HG4.out); obtain ⟨_, _, b2⟩ := HF4.out.1.cells; have bf := HF4.out.1.frozen 2; have HY5 : Hid (Lies (w4.setCell ⟨b, 2, none⟩ (.slice (some ⟨g, 0, none⟩) (i + k) C)) W1.heap.size 0 Y) := Lib.hid (Lies.other (Lies.keep J1.out (HF4.out.2.1 _ (by have := HS.out; omega) J1.out.lt)) (by have := HS.out; show W1.heap.size ≠ b; omega) _); have HR5 : Hid (Lies (w4.setCell ⟨b, 2, none⟩ (.slice (some ⟨g, 0, none⟩) (i + k) C)) w.heap.size 0 zc) := Lib.hid (Lies.other (Lies.keep (Lies.below HR1.out HB3.out (by have := HS.out; omega)) (HF4.out.2.1 _ (Nat.le_refl _) (by have := HS.out; have := HB3.out.size; omega))) (by have := HS.out; show w.heap.size ≠ b; omega) _))
    | (with_reducible refine wpList_load_lies rfl 84 (.tmp 5) rfl W1.heap.size 0 rfl Y HY5.out _ Try.underlying84 rfl HYI.out ?_)
    | ((with_reducible refine wpList_store_lies rfl 84 (.tmp 4) (.tmp 24) rfl w.heap.size 0 rfl Y rfl zc HR5.out HYS.out HYI.out HY1.out ?_); intro w5 N1 N2 N3)
    | fail)
  refine bodyPost_ret (v := y.val) (results_cell0 (p := 4) rfl _ w5 w.heap.size _ rfl (loadv_it (HY.out ▸ N1.out))) rfl ?_
  refine ⟨rfl, Lib.hid ⟨?_, ?_⟩, Lib.hid ?_⟩
  · rw [HLEN.out]
    exact (HF4.out.1.setItems _).keep (N2.out.block b (by simp only [World.setCell, Array.size_modify]; exact HF4.out.1.lt) (by have := HS.out; omega))
  · rw [HLEN.out]
    refine HO4.out.keep (fun g' hg' => ?_)
    simp [Value.ownBlock] at hg'
    subst hg'
    have hl := (HO4.out.lt g rfl).2
    exact (N2.out.block g (by simp only [World.setCell, Array.size_modify]; exact hl) (by have := HS.out; omega)).trans (Below.heap_setCell _ ⟨b, 2, none⟩ _ g HS.out.2.2.2)
  · exact Frm.prt (HF4.out.2.2.trans (Frm.setIn _ _ _ _ _)) (Nat.le_refl _) N2.out
end Go.Proofs.Ytblnmddphichgaa.Mq
