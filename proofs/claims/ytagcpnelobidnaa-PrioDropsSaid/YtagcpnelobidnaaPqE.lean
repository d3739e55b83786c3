/-
  Own text: a queue in plain numbers, in its block; its small calls, walked.
-/
import Derived.Test.YtagcpnelobidnaaPqD
namespace Go.Proofs.Ytagcpnelobidnaa
open Go.RowKit

/-- A queue in plain numbers. -/
structure Qn where
  room : Nat
  pushed : Nat
  l : List It
/-- A queue's block. -/
def QBlk (w : World) (b room pushed : Nat) (s : Value) : Prop := w.heap[b]? = some (.cells #[.int .i64 (room : Int), .int .i64 (pushed : Int), s] 60 (0, 0))
section
variable {w : World} {b room pushed : Nat} {s : Value}
theorem QBlk.lt (h : QBlk w b room pushed s) : b < w.heap.size := (Array.getElem?_eq_some_iff.1 h).1
theorem QBlk.cells (h : QBlk w b room pushed s) : w.cell? ⟨b, 0, none⟩ = some (.int .i64 (room : Int)) ∧ w.cell? ⟨b, 1, none⟩ = some (.int .i64 (pushed : Int)) ∧ w.cell? ⟨b, 2, none⟩ = some s := by
  unfold QBlk at h
  simp [World.cell?, h]
theorem QBlk.frozen (h : QBlk w b room pushed s) (i : Nat) : w.frozen? ⟨b, i, none⟩ = false := by
  unfold QBlk at h
  simp [World.frozen?, h]
theorem QBlk.keep {w' : World} (h : QBlk w b room pushed s) (e : w'.heap[b]? = w.heap[b]?) : QBlk w' b room pushed s := e.trans h
theorem QBlk.below {w' : World} {B : Nat} (h : QBlk w b room pushed s) (hb : Below B w w') (hB : b < B) : QBlk w' b room pushed s := h.keep (hb.block b hB)
theorem QBlk.setPushed (h : QBlk w b room pushed s) (n : Nat) : QBlk (w.setCell ⟨b, 1, none⟩ (.int .i64 (n : Int))) b room n s := by
  unfold QBlk at *
  simp [World.setCell, Array.getElem?_modify, h]
theorem QBlk.setItems (h : QBlk w b room pushed s) (v : Value) : QBlk (w.setCell ⟨b, 2, none⟩ v) b room pushed v := by
  unfold QBlk at *
  simp [World.setCell, Array.getElem?_modify, h]
theorem QBlk.other (h : QBlk w b room pushed s) {p : Addr} (hp : b ≠ p.block) (u : Value) : QBlk (w.setCell p u) b room pushed s := h.keep (Below.heap_setCell w p u b hp)
end
/-- A queue: its block, and its items. -/
structure QB (w : World) (b : Nat) (Q : Qn) (A : Option Addr) (C : Nat) : Prop where
  blk : QBlk w b Q.room Q.pushed (.slice A Q.l.length C)
  own : OwnT w 0 (.slice A Q.l.length C) Q.l.length Q.l
theorem QB.apart {w : World} {b C : Nat} {Q : Qn} {A : Option Addr} (h : QB w b Q A C) (g : Nat) (hg : A.map Addr.block = some g) : g ≠ b := by
  rcases h.own.form with ⟨e, _⟩ | ⟨g', R, e, _, _, hg', _⟩
  · rw [e] at hg; simp at hg
  · rw [e] at hg
    simp at hg
    subst hg
    intro hb
    subst hb
    have := h.blk
    unfold QBlk at this
    unfold TBlk at hg'
    rw [hg'] at this
    simp at this
theorem QB.keep {w w' : World} {b C : Nat} {Q : Qn} {A : Option Addr} (h : QB w b Q A C) (e : w'.heap[b]? = w.heap[b]?) (hg : ∀ g, A.map Addr.block = some g → w'.heap[g]? = w.heap[g]?) : QB w' b Q A C :=
  ⟨h.blk.keep e, h.own.keep (fun g hg' => hg g (by rw [own_block] at hg'; exact hg'))⟩
theorem QB.lt {w : World} {b C : Nat} {Q : Qn} {A : Option Addr} (h : QB w b Q A C) : ∀ g, A.map Addr.block = some g → g < w.heap.size := fun g hg => (h.own.lt g (by rw [own_block]; exact hg)).2
theorem QB.below {w w' : World} {b C B : Nat} {Q : Qn} {A : Option Addr} (h : QB w b Q A C) (hb : Below B w w') (hB : w.heap.size ≤ B) : QB w' b Q A C :=
  h.keep (hb.block b (Nat.lt_of_lt_of_le h.blk.lt hB)) (fun g hg => hb.block g (Nat.lt_of_lt_of_le (h.lt g hg) hB))
theorem QB.drewN {w : World} {b C : Nat} {Q : Qn} {A : Option Addr} (h : QB w b Q A C) (k : Nat) : QB (w.drewN k) b Q A C := h.keep rfl (fun _ _ => rfl)
/-- What a queue's call may turn: its block, its items, what is new. -/
structure Frm (b : Nat) (s : Option Nat) (w w' : World) : Prop where
  os : w'.os = w.os
  tape : w'.tape = w.tape
  output : w'.output = w.output
  size : w.heap.size ≤ w'.heap.size
  block : ∀ k, k < w.heap.size → k ≠ b → some k ≠ s → w'.heap[k]? = w.heap[k]?
theorem Frm.refl (b : Nat) (s : Option Nat) (w : World) : Frm b s w w := ⟨rfl, rfl, rfl, Nat.le_refl _, fun _ _ _ _ => rfl⟩
theorem Frm.trans {b : Nat} {s : Option Nat} {w w1 w2 : World} (h : Frm b s w w1) (k : Frm b s w1 w2) : Frm b s w w2 :=
  ⟨k.os.trans h.os, k.tape.trans h.tape, k.output.trans h.output, Nat.le_trans h.size k.size, fun i hi h1 h2 => (k.block i (Nat.lt_of_lt_of_le hi h.size) h1 h2).trans (h.block i hi h1 h2)⟩
/-- The items lie where they lay, or are new. -/
def Moved (w : World) (s s' : Option Nat) : Prop := s' = s ∨ ∀ k, s' = some k → w.heap.size ≤ k
theorem Moved.trans {w w1 : World} {s s1 s2 : Option Nat} (h : Moved w s s1) (hs : w.heap.size ≤ w1.heap.size) (k : Moved w1 s1 s2) : Moved w s s2 := by
  rcases k with e | e
  · rw [e]; exact h
  · exact .inr (fun i hi => Nat.le_trans hs (e i hi))
theorem Frm.then_ {b : Nat} {s s' : Option Nat} {w w1 w2 : World} (h : Frm b s w w1) (hm : Moved w s s') (k : Frm b s' w1 w2) : Frm b s w w2 :=
  ⟨k.os.trans h.os, k.tape.trans h.tape, k.output.trans h.output, Nat.le_trans h.size k.size, fun i hi h1 h2 => (k.block i (Nat.lt_of_lt_of_le hi h.size) h1 (by
    rcases hm with e | e
    · rw [e]; exact h2
    · intro e2; have := e i e2.symm; omega)).trans (h.block i hi h1 h2)⟩
theorem Frm.drewN {b : Nat} {s : Option Nat} {w w' : World} (h : Frm b s w w') (k : Nat) : Frm b s w (w'.drewN k) := ⟨h.os, h.tape, h.output, h.size, h.block⟩
theorem Frm.grown {b : Nat} {s : Option Nat} {w w' : World} (h : w.grownBy w' s) : Frm b s w w' := ⟨h.os, h.tape, h.output, h.size, fun k hk _ h2 => h.block k hk h2⟩
theorem Frm.setIn (b i : Nat) (s : Option Nat) (w : World) (v : Value) : Frm b s w (w.setCell ⟨b, i, none⟩ v) :=
  ⟨rfl, rfl, rfl, by simp, fun k _ h1 _ => Below.heap_setCell _ _ _ k h1⟩
theorem Frm.bel {b : Nat} {s : Option Nat} {w w' w0 : World} {B : Nat} (h : Frm b s w w') (h0 : Below B w0 w) (hB : B ≤ w.heap.size) (hb : B ≤ b) (hs : ∀ k, s = some k → B ≤ k) : Below B w0 w' :=
  h0.trans ⟨h.os, h.tape, h.output, h.size, fun k hk => h.block k (by omega) (by omega) (fun e => by have := hs k e.symm; omega)⟩
theorem Frm.of_below {b : Nat} {s : Option Nat} {w w' : World} (h : Below w.heap.size w w') : Frm b s w w' := ⟨h.os, h.tape, h.output, h.size, fun k hk _ _ => h.block k hk⟩
theorem Frm.setNew {b c : Nat} {s : Option Nat} {w w' : World} (h : Frm b s w w') (hc : w.heap.size ≤ c) (i : Nat) (v : Value) : Frm b s w (w'.setCell ⟨c, i, none⟩ v) :=
  ⟨h.os, h.tape, h.output, by simpa using h.size, fun k hk h1 h2 => (Below.heap_setCell w' ⟨c, i, none⟩ v k (by show k ≠ c; omega)).trans (h.block k hk h1 h2)⟩
section
variable {w : World} {b room pushed : Nat} {s : Value}
theorem room_any (w : World) (h : QBlk w b room pushed s) :
    Calls Try.prog 31 #[.pointer (some ⟨b, 0, none⟩)] w fun e w' => e = .returned (.int .i64 (room : Int)) ∧ w = w' := by
  obtain ⟨c0, c1, c2⟩ := h.cells
  clear h
  go_enter Try.func31, Try.ntmps31
  go_wp2
  go_ret
  exact ⟨rfl, rfl⟩
theorem len_any (A : Option Addr) (n C : Nat) (w : World) (h : QBlk w b room pushed (.slice A n C)) :
    Calls Try.prog 15 #[.pointer (some ⟨b, 0, none⟩)] w fun e w' => e = .returned (.int .i64 (n : Int)) ∧ w = w' := by
  obtain ⟨c0, c1, c2⟩ := h.cells
  clear h
  go_enter Try.func15, Try.ntmps15
  go_wp2
  go_ret
  exact ⟨rfl, rfl⟩
theorem peek_none (A : Option Addr) (C : Nat) (w : World) (h : QBlk w b room pushed (.slice A 0 C)) :
    Calls Try.prog 23 #[.pointer (some ⟨b, 0, none⟩)] w fun e w' => e = .returned (.tuple #[.int .i64 0, .int .i64 0, .bool false]) ∧ ∃ k, w' = w.drewN k := by
  obtain ⟨c0, c1, c2⟩ := h.cells
  clear h
  go_enter Try.func23, Try.ntmps23
  go_wp2
  go_ret3
  exact ⟨rfl, 0, rfl⟩
end
theorem peek_some (b : Nat) (Q : Qn) (A : Option Addr) (C : Nat) (x : It) (t : List It) (hQ : Q.l = x :: t) (w : World) (h : QB w b Q A C) :
    Calls Try.prog 23 #[.pointer (some ⟨b, 0, none⟩)] w fun e w' => e = .returned (.tuple #[.int .i64 x.v, .int .i64 x.rank, .bool true]) ∧ ∃ k, w' = w.drewN k := by
  obtain ⟨c0, c1, c2⟩ := h.blk.cells
  obtain ⟨g, rfl, _, _, d0, d1, d2⟩ := h.own.at_ 0 x (by rw [hQ]; rfl)
  have hn : 0 < Q.l.length := by rw [hQ]; simp
  have hn0 : ¬ Q.l.length = 0 := by omega
  simp only [Nat.zero_mul, Nat.zero_add] at d0 d1 d2
  clear h hQ
  generalize Q.l.length = n at *
  go_enter Try.func23, Try.ntmps23
  go_upto_region 4 with fail
  go_region
  all_goals
    go_wp2
    go_ret3
    exact ⟨rfl, _, rfl⟩
set_option maxRecDepth 100000 in
theorem new_any (room : Nat) (h1 : 1 ≤ room) (h2 : room ≤ 256) (w : World) :
    Calls Try.prog 12 #[.int .i64 (room : Int)] w fun e w' => e = .returned (.tuple #[.pointer (some ⟨w.heap.size, 0, none⟩), .int .i64 0]) ∧ Hid (QB w' w.heap.size ⟨room, 0, []⟩ none 0) ∧ Hid (Below w.heap.size w w') := by
  have n0 : ¬ (room : Int) < 1 := by omega
  have n1 : ¬ (256 : Int) < (room : Int) := by omega
  have n2 : (1 : Int) ≤ (room : Int) := by omega
  have n3 : (room : Int) ≤ 256 := by omega
  clear h1 h2
  go_enter Try.func12, Try.ntmps12
  go_wp2
  go_ret2
  refine ⟨rfl, Lib.hid ⟨?_, OwnT.none _ _⟩, Lib.hid ((Below.refl w.heap.size w).alloc (Nat.le_refl _) _)⟩
  exact Go.Deep.blk_alloc_new w _
set_option maxRecDepth 100000 in
theorem take_any (y : It) (b i k : Nat) (Q : Qn) (a t : List It) (A : Option Addr) (C : Nat) (hQ : Q.l = a ++ y :: t) (ha : a.length = i) (hk : t.length = k) (hn : Q.l.length ≤ 1000) (w : World) (h : QB w b Q A C) :
    Calls Try.prog 22 #[.pointer (some ⟨b, 0, none⟩), .int .i64 (i : Int)] w fun e w' => e = .returned y.val ∧ Hid (QB w' b ⟨Q.room, Q.pushed, a ++ t⟩ A C) ∧ Hid (Frm b (A.map Addr.block) w w') := by
  obtain ⟨W1, hW1⟩ : ∃ W1, W1 = w.alloc (.cells #[.int .i64 0, .int .i64 0, .int .i64 0] 62) := ⟨_, rfl⟩
  have hb1 : Below w.heap.size w W1 := by rw [hW1]; exact (Below.refl _ _).alloc (Nat.le_refl _) _
  have hs1 : W1.heap.size = w.heap.size + 1 := by rw [hW1]; simp
  have hz1 : TBlk W1 w.heap.size (icells [⟨0, 0, 0⟩]) := by rw [hW1]; exact one_new w ⟨0, 0, 0⟩ _ rfl
  have hq1 : QB W1 b Q A C := h.below hb1 (Nat.le_refl _)
  obtain ⟨c0, c1, c2⟩ := hq1.blk.cells
  obtain ⟨g, rfl, _, hgl, d0, d1, d2⟩ := hq1.own.at_ i y (by rw [hQ, List.getElem?_append_right (by omega), ha]; simp)
  obtain ⟨R, hg, hR, hC⟩ : ∃ R, TBlk W1 g (icells (a ++ y :: t) ++ R) ∧ Q.l.length * 3 + R.length = C * 3 ∧ C ≤ maxLen := by
    rcases hq1.own.form with ⟨e, _⟩ | ⟨g', R, e, _, _, h1, h2, h3⟩
    · simp at e
    · simp at e; subst e
      rw [hQ] at h1
      exact ⟨R, h1, h2, h3⟩
  have hgb := hq1.apart g rfl
  have hlen : Q.l.length = i + 1 + k := by rw [hQ, List.length_append, List.length_cons]; omega
  have hnC : Q.l.length ≤ C := by omega
  unfold It.val
  have HQB := Lib.hid hq1
  have hblt := h.blk.lt
  have hglt : g < w.heap.size := h.lt g rfl
  generalize hN : Q.l.length = n at *
  -- behind the loop variable's box
  have HW2 : Hid (∀ W2, W2 = W1.alloc (.cells #[.int .i64 y.rank, .int .i64 y.num, .int .i64 y.v] 62) →
      (Calls Try.prog 36 #[.slice (some ⟨g, 0, none⟩) n C, .int .i64 (i : Int), .int .i64 ((i : Int) + 1)] W2 fun e w' => e = .returned (.slice (some ⟨g, 0, none⟩) (i + k) C) ∧ Hid (OwnT w' 0 (.slice (some ⟨g, 0, none⟩) (i + k) C) (i + k) (a ++ t)) ∧ Hid (W2.grownBy w' (some g))) ∧ W2.cell? ⟨b, 2, none⟩ = some (.slice (some ⟨g, 0, none⟩) n C)) := Lib.hid (fun W2 hW2 => by
    have hb2 : Below W1.heap.size W1 W2 := by rw [hW2]; exact (Below.refl _ _).alloc (Nat.le_refl _) _
    refine ⟨delete_any y g n C i k a t R ha hk hlen hn hnC hC hR W2 (show W2.heap[g]? = _ from (hb2.block g hgl).trans hg), ?_⟩
    rw [← c2]
    exact hb2.cell (p := ⟨b, 2, none⟩) (by rw [hs1]; exact Nat.lt_succ_of_lt hblt))
  have i1 : (i : Int) < (n : Int) := by omega
  have i2 : (n : Int) ≤ 1000 := by omega
  have HB1 := Lib.hid hb1
  have HLEN : Hid ((a ++ t).length = i + k) := Lib.hid (by rw [List.length_append]; omega)
  clear h hlen hnC hq1 hgl hR hC hQ hg ha hk hn hb1
  generalize y.rank = yr at *
  generalize y.num = yn at *
  generalize y.v = yv at *
  go_enter Try.func22, Try.ntmps22
  go_upto_region 1 with fail
  rw [← hW1]
  clear hW1
  go_upto_region 2 with fail
  obtain ⟨W2, hW2⟩ : ∃ W2, W2 = W1.alloc (.cells #[.int .i64 yr, .int .i64 yn, .int .i64 yv] 62) := ⟨_, rfl⟩
  obtain ⟨hdel, c2'⟩ := HW2.out W2 hW2
  have HDEL := Lib.hid hdel
  have HF : Hid (∀ w3, W2.grownBy w3 (some g) → QBlk w3 b Q.room Q.pushed (.slice (some ⟨g, 0, none⟩) n C) ∧ TBlk w3 w.heap.size (icells [⟨0, 0, 0⟩]) ∧ TBlk w3 (w.heap.size + 1) (icells [⟨yr, yn, yv⟩]) ∧ Below w.heap.size w W2) := Lib.hid (fun w3 hg3 => by
    have hb2 : Below W1.heap.size W1 W2 := by rw [hW2]; exact (Below.refl _ _).alloc (Nat.le_refl _) _
    have hs2 : W2.heap.size = w.heap.size + 2 := by rw [hW2]; simp [hs1]
    have hq := HQB.out.blk
    rw [hN] at hq
    refine ⟨(hq.below hb2 (by omega)).keep (hg3.block b (by omega) (by simp; exact fun e => hgb e.symm)), ?_, ?_, HB1.out.trans (hb2.mono (by omega))⟩
    · exact (hg3.block w.heap.size (by omega) (by simp; omega)).trans ((hb2.block w.heap.size (by omega)).trans hz1)
    · refine (hg3.block (w.heap.size + 1) (by omega) (by simp; omega)).trans ?_
      rw [hW2, ← hs1]
      exact one_new W1 ⟨yr, yn, yv⟩ _ rfl)
  have n1 : ¬ w.heap.size = b := by omega
  have n2 : ¬ w.heap.size + 1 = b := by omega
  have n3 : ¬ b = w.heap.size := by omega
  have n4 : ¬ b = w.heap.size + 1 := by omega
  rw [← hW2]
  clear hdel HW2 hW2 hblt hs1 hz1
  go_wp2_with (first
    | (go_at_call 36; (with_reducible refine (HDEL.out).mono ?_); rintro e w3 ⟨rfl, HO3, HG3⟩; have HF3 := Lib.hid (HF.out w3 HG3.out); obtain ⟨_, _, b2⟩ := HF3.out.1.cells; have bf := HF3.out.1.frozen 2; have z0 := HF3.out.2.1.cell 0; have z1 := HF3.out.2.1.cell 1; have z2 := HF3.out.2.1.cell 2; have zf0 := HF3.out.2.1.frozen 0; have zf1 := HF3.out.2.1.frozen 1; have zf2 := HF3.out.2.1.frozen 2; have y0 := HF3.out.2.2.1.cell 0; have y1 := HF3.out.2.2.1.cell 1; have y2 := HF3.out.2.2.1.cell 2; simp only [icells, List.getElem?_cons_zero, List.getElem?_cons_succ] at z0 z1 z2 y0 y1 y2)
    | fail)
  refine bodyPost_ret (v := .agg #[.int .i64 yr, .int .i64 yn, .int .i64 yv]) (by simp [results, Try.results22, go_sem, z0, z1, z2]) rfl ?_
  refine ⟨rfl, Lib.hid ⟨?_, ?_⟩, Lib.hid ?_⟩
  · rw [HLEN.out]
    exact (((HF3.out.1.setItems _).other (p := ⟨w.heap.size, 0, none⟩) n3 _).other (p := ⟨w.heap.size, 1, none⟩) n3 _).other (p := ⟨w.heap.size, 2, none⟩) n3 _
  · rw [HLEN.out]
    refine HO3.out.keep (fun g' hg' => ?_)
    simp [Value.ownBlock] at hg'
    subst hg'
    have hne : g ≠ w.heap.size := by omega
    rw [Below.heap_setCell _ ⟨w.heap.size, 2, none⟩ _ g hne, Below.heap_setCell _ ⟨w.heap.size, 1, none⟩ _ g hne, Below.heap_setCell _ ⟨w.heap.size, 0, none⟩ _ g hne, Below.heap_setCell _ ⟨b, 2, none⟩ _ g hgb]
  · exact ((((((Frm.of_below (HF3.out.2.2.2)).trans (Frm.grown HG3.out)).trans (Frm.setIn _ _ _ _ _)).setNew (Nat.le_refl _) _ _).setNew (Nat.le_refl _) _ _).setNew (Nat.le_refl _) _ _)
end Go.Proofs.Ytagcpnelobidnaa
