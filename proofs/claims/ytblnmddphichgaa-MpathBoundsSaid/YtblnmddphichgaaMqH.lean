/-
  Own text: Pop at a queue whose items bear a datagram; the calls at a queue that lies from a place on. (Written by gen_mqh.py.)
-/
import Derived.Test.YtblnmddphichgaaMqG
namespace Go.Proofs.Ytblnmddphichgaa.Mq
open Go.RowKit

set_option maxRecDepth 100000 in
theorem pop_none (b : Nat) (Q : Qn) (A : Option Addr) (C : Nat) (hQ : Q.l = []) (w : World) (h : QB w b Q A C) :
    Calls Try.prog 25 #[.pointer (some ⟨b, 0, none⟩)] w fun e w' => e = .returned (.tuple #[nil.val, .int .i64 0, .bool false]) ∧ Hid (Below w.heap.size w w') := by
  obtain ⟨W1, hW1⟩ : ∃ W1, W1 = w.alloc (.cells (dcells nil) 35) := ⟨_, rfl⟩
  have HB1 : Hid (Below w.heap.size w W1) := Lib.hid (by rw [hW1]; exact (Below.refl _ _).alloc (Nat.le_refl _) _)
  have HS1 : Hid (W1.heap.size = w.heap.size + 1) := Lib.hid (by rw [hW1]; simp)
  have HR1 : Hid (Lies W1 w.heap.size 0 (dcells nil)) := Lib.hid (by rw [hW1]; exact Lies.new w (dcells nil) _ (Below.refl _ _))
  have HW1 := Lib.hid hW1
  have hb := h.blk
  rw [hQ] at hb
  have CP := Lib.hid (peek_none A C W1 (hb.below HB1.out hb.lt))
  clear h hb hQ hW1
  go_enter Try.func25, Try.ntmps25
  go_upto_region 1 with fail
  rw [← HW1.out]
  go_wp2_with (first
    | (go_at_call 22; (with_reducible refine (CP.out).mono ?_); rintro e w2 ⟨rfl, HB2⟩; have HZ3 : Hid (Lies (w2.alloc (.cells (dcells nil) 35)) w2.heap.size 0 (dcells nil)) := Lib.hid (Lies.new w2 (dcells nil) _ (Below.refl _ _)))
    | ((with_reducible refine wpList_store_lies rfl 35 (.tmp 5) (.tmp 11) rfl w2.heap.size 0 rfl (dcells nil) rfl (dcells nil) HZ3.out rfl (infoC nil) (dcells_one nil) ?_); intro w3 J1 J2 J3; have HB3 : Hid (Below w2.heap.size w2 w3) := Lib.hid (J2.out.bel ((Below.refl _ _).alloc (Nat.le_refl _) _) (by simp) (Nat.le_refl _)); have HR3 : Hid (Lies w3 w.heap.size 0 (dcells nil)) := Lib.hid ((HR1.out.below HB2.out HR1.out.lt).below HB3.out (Nat.lt_of_lt_of_le HR1.out.lt HB2.out.size)); clear J2 J3)
    | (with_reducible refine wpList_load_lies rfl 35 (.tmp 5) rfl w2.heap.size 0 rfl (dcells nil) J1.out _ Try.underlying35 rfl (infoC nil) ?_)
    | ((with_reducible refine wpList_store_lies rfl 35 (.tmp 2) (.tmp 17) rfl w.heap.size 0 rfl (dcells nil) rfl (dcells nil) HR3.out rfl (infoC nil) (dcells_one nil) ?_); intro w5 N1 N2 N3)
    | fail)
  refine bodyPost_ret (v := .tuple #[nil.val, .int .i64 0, .bool false]) (results_cell2 (p := 2) (u := 3) (v := 4) rfl _ w5 w.heap.size _ _ _ rfl rfl rfl (loadv_dg N1.out)) rfl ?_
  exact ⟨rfl, Lib.hid (N2.out.bel (HB1.out.trans ((HB2.out.trans (HB3.out.mono HB2.out.size)).mono HB1.out.size)) (Nat.le_trans HB1.out.size (Nat.le_trans HB2.out.size HB3.out.size)) (Nat.le_refl _))⟩
set_option maxRecDepth 100000 in
theorem pop_some (b : Nat) (Q : Qn) (A : Option Addr) (C : Nat) (x : It) (t : List It) (hQ : Q.l = x :: t) (hn : Q.l.length ≤ 1000) (w : World) (h : QB w b Q A C) :
    Calls Try.prog 25 #[.pointer (some ⟨b, 0, none⟩)] w fun e w' => e = .returned (.tuple #[x.v.val, .int .i64 x.rank, .bool true]) ∧ Hid (QB w' b ⟨Q.room, Q.pushed, t⟩ A C) ∧ Hid (Frm b (A.map Addr.block) w w') := by
  obtain ⟨W1, hW1⟩ : ∃ W1, W1 = w.alloc (.cells (dcells nil) 35) := ⟨_, rfl⟩
  have HB1 : Hid (Below w.heap.size w W1) := Lib.hid (by rw [hW1]; exact (Below.refl _ _).alloc (Nat.le_refl _) _)
  have HS1 : Hid (W1.heap.size = w.heap.size + 1) := Lib.hid (by rw [hW1]; simp)
  have HR1 : Hid (Lies W1 w.heap.size 0 (dcells nil)) := Lib.hid (by rw [hW1]; exact Lies.new w (dcells nil) _ (Below.refl _ _))
  have HW1 := Lib.hid hW1
  have HQ1 : Hid (QB W1 b Q A C) := Lib.hid (h.below HB1.out (Nat.le_refl _))
  have CP := Lib.hid (peek_some b Q A C x t hQ W1 HQ1.out)
  have CT : Hid (∀ w', Below W1.heap.size W1 w' → Calls Try.prog 34 #[.pointer (some ⟨b, 0, none⟩), .int .i64 0] w' fun e w'' => e = .returned x.val ∧ Hid (QB w'' b ⟨Q.room, Q.pushed, t⟩ A C) ∧ Hid (Frm b (A.map Addr.block) w' w'')) := Lib.hid (fun w' hb => take_any x b 0 t.length Q [] t A C hQ rfl rfl hn w' (HQ1.out.below hb (Nat.le_refl _)))
  have HBW := Lib.hid h.blk.lt
  have HGL := Lib.hid h.lt
  clear h hQ hn hW1
  obtain ⟨D, hD⟩ : ∃ D, D = x.v := ⟨_, rfl⟩
  obtain ⟨r, hr⟩ : ∃ r, r = x.rank := ⟨_, rfl⟩
  rw [← hD, ← hr] at CP ⊢
  clear hD hr
  go_enter Try.func25, Try.ntmps25
  go_upto_region 1 with fail
  rw [← HW1.out]
  go_wp2_with (first
    | (go_at_call 22; (with_reducible refine (CP.out).mono ?_); rintro e w2 ⟨rfl, HB2⟩; have HZ3 : Hid (Lies (w2.alloc (.cells (dcells nil) 35)) w2.heap.size 0 (dcells nil)) := Lib.hid (Lies.new w2 (dcells nil) _ (Below.refl _ _)))
    | ((with_reducible refine wpList_store_lies rfl 35 (.tmp 5) (.tmp 11) rfl w2.heap.size 0 rfl (dcells D) rfl (dcells nil) HZ3.out rfl (infoC D) (dcells_one D) ?_); intro w3 J1 J2 J3; have HB3 : Hid (Below w2.heap.size w2 w3) := Lib.hid (J2.out.bel ((Below.refl _ _).alloc (Nat.le_refl _) _) (by simp) (Nat.le_refl _)); have HB13 : Hid (Below W1.heap.size W1 w3) := Lib.hid (HB2.out.trans (HB3.out.mono HB2.out.size)); have HR3 : Hid (Lies w3 w.heap.size 0 (dcells nil)) := Lib.hid (HR1.out.below HB13.out HR1.out.lt); clear J2 J3)
    | (go_at_call 34; (with_reducible refine (CT.out w3 HB13.out).mono ?_); rintro e w4 ⟨rfl, HQ4, HF4⟩; have HR4 : Hid (Lies w4 w.heap.size 0 (dcells nil)) := Lib.hid (HR3.out.keep (HF4.out.block _ HR3.out.lt (by have := HBW.out; omega) (fun e => by have := HGL.out _ e.symm; omega))); have HD4 : Hid (Lies w4 w2.heap.size 0 (dcells D)) := Lib.hid (J1.out.keep (HF4.out.block _ J1.out.lt (by have := HBW.out; have := HB2.out.size; have := HS1.out; omega) (fun e => by have := HGL.out _ e.symm; have := HB2.out.size; have := HS1.out; omega))))
    | (with_reducible refine wpList_load_lies rfl 35 (.tmp 5) rfl w2.heap.size 0 rfl (dcells D) HD4.out _ Try.underlying35 rfl (infoC D) ?_)
    | ((with_reducible refine wpList_store_lies rfl 35 (.tmp 2) (.tmp 17) rfl w.heap.size 0 rfl (dcells D) rfl (dcells nil) HR4.out rfl (infoC D) (dcells_one D) ?_); intro w5 N1 N2 N3)
    | fail)
  refine bodyPost_ret (v := .tuple #[D.val, .int .i64 r, .bool true]) (results_cell2 (p := 2) (u := 3) (v := 4) rfl _ w5 w.heap.size _ _ _ rfl rfl rfl (loadv_dg N1.out)) rfl ?_
  exact ⟨rfl, Lib.hid (HQ4.out.prt N2.out (by have := HBW.out; omega) (fun g hg => by have := HGL.out g hg; omega)), Lib.hid (Frm.prt ((Frm.of_below (HB1.out.trans (HB13.out.mono HB1.out.size))).trans HF4.out) (Nat.le_refl _) N2.out)⟩
/-- A queue whose blocks lie from a place on. -/
def From (w : World) (B b : Nat) (Q : Qn) : Prop := ∃ A C, QB w b Q A C ∧ B ≤ b ∧ B ≤ w.heap.size ∧ ∀ k, A.map Addr.block = some k → B ≤ k
theorem From.below {w w' : World} {B B' b : Nat} {Q : Qn} (h : From w B b Q) (hb : Below B' w w') (hB : w.heap.size ≤ B') : From w' B b Q := by
  obtain ⟨A, C, h1, h2, h3, h4⟩ := h
  exact ⟨A, C, h1.below hb hB, h2, Nat.le_trans h3 hb.size, h4⟩
theorem From.low {w : World} {B B' b : Nat} {Q : Qn} (h : From w B b Q) (hB : B' ≤ B) : From w B' b Q := by
  obtain ⟨A, C, h1, h2, h3, h4⟩ := h
  exact ⟨A, C, h1, Nat.le_trans hB h2, Nat.le_trans hB h3, fun k hk => Nat.le_trans hB (h4 k hk)⟩
theorem From.drewN {w : World} {B b : Nat} {Q : Qn} (h : From w B b Q) (k : Nat) : From (w.drewN k) B b Q := by
  obtain ⟨A, C, h1, h2, h3, h4⟩ := h
  exact ⟨A, C, h1.drewN k, h2, h3, h4⟩
theorem From.to {w w' : World} {B b : Nat} {Q Q' : Qn} {A : Option Addr} {C : Nat} (_ : QB w b Q A C) (hB : B ≤ b) (hw : B ≤ w.heap.size) (hs : ∀ k, A.map Addr.block = some k → B ≤ k) (h : QTo w b A Q' w') : From w' B b Q' ∧ Below B w w' := by
  obtain ⟨A2, C2, h1, h2, h3⟩ := h
  refine ⟨⟨A2, C2, h1, hB, Nat.le_trans hw h3.size, fun k hk => ?_⟩, h3.bel (Below.refl _ _) hw hB hs⟩
  rcases h2 with e | e
  · exact hs k (by rw [← e]; exact hk)
  · exact Nat.le_trans hw (e k hk)
/-- The calls at a queue that lies from a place on. -/
theorem new_from (room : Nat) (h1 : 1 ≤ room) (h2 : room ≤ 256) (w : World) :
    Calls Try.prog 15 #[.int .i64 (room : Int)] w fun e w' => e = .returned (.tuple #[.pointer (some ⟨w.heap.size, 0, none⟩), .int .i64 0]) ∧ Hid (From w' w.heap.size w.heap.size ⟨room, 0, []⟩) ∧ Hid (Below w.heap.size w w') := by
  refine (new_any room h1 h2 w).mono ?_
  rintro e w' ⟨rfl, hq, hb⟩
  exact ⟨rfl, Lib.hid ⟨none, 0, hq.out, Nat.le_refl _, hb.out.size, fun k hk => by simp at hk⟩, hb⟩
theorem len_from (B b : Nat) (Q : Qn) (w : World) (h : From w B b Q) :
    Calls Try.prog 29 #[.pointer (some ⟨b, 0, none⟩)] w fun e w' => e = .returned (.int .i64 (Q.l.length : Int)) ∧ w = w' := by
  obtain ⟨A, C, h1, _⟩ := h
  exact len_any A Q.l.length C w h1.blk
theorem push_from (r : Int) (v : Dg) (B b k : Nat) (Q : Qn) (hf : Q.fit k) (hk : k ≤ 1000000) (w : World) (h : From w B b Q) :
    Calls Try.prog 16 #[.pointer (some ⟨b, 0, none⟩), .int .i64 r, v.val] w fun e w' => e = .returned (.tuple #[(Q.gone r v).val, .bool (decide (Q.room ≤ Q.l.length))]) ∧ Hid (From w' B b (Q.push r v)) ∧ Hid (Below B w w') := by
  obtain ⟨A, C, h1, h2, h3, h4⟩ := h
  refine (push_any r v b k Q A C hf hk w h1).mono ?_
  rintro e w' ⟨rfl, hp⟩
  have := From.to h1 h2 h3 h4 hp.out
  exact ⟨rfl, Lib.hid this.1, Lib.hid this.2⟩
/-- Its answer. -/
def Qn.front (Q : Qn) : Value := match Q.l with | [] => .tuple #[nil.val, .int .i64 0, .bool false] | x :: _ => .tuple #[x.v.val, .int .i64 x.rank, .bool true]
def Qn.pop (Q : Qn) : Qn := ⟨Q.room, Q.pushed, Q.l.tail⟩
theorem Qn.pop_fit {Q : Qn} {k : Nat} (h : Q.fit k) : Q.pop.fit k := by
  unfold Qn.pop
  cases hl : Q.l with
  | nil => exact ⟨h.lo, h.hi, Nat.zero_le _, h.pushed, fun x hx => by simp at hx, List.Pairwise.nil, List.Pairwise.nil⟩
  | cons x t => exact Qn.tail_fit h hl
theorem pop_from (B b : Nat) (Q : Qn) (hn : Q.l.length ≤ 1000) (w : World) (h : From w B b Q) :
    Calls Try.prog 25 #[.pointer (some ⟨b, 0, none⟩)] w fun e w' => e = .returned Q.front ∧ Hid (From w' B b Q.pop) ∧ Hid (Below B w w') := by
  obtain ⟨A, C, h1, h2, h3, h4⟩ := h
  unfold Qn.front Qn.pop
  cases hl : Q.l with
  | nil =>
    refine (pop_none b Q A C hl w h1).mono ?_
    rintro e w' ⟨rfl, hb⟩
    refine ⟨rfl, Lib.hid ?_, Lib.hid (hb.out.mono h3)⟩
    have e1 : (⟨Q.room, Q.pushed, [].tail⟩ : Qn) = Q := by cases Q; simp at hl; subst hl; rfl
    rw [e1]
    exact From.below ⟨A, C, h1, h2, h3, h4⟩ hb.out (Nat.le_refl _)
  | cons x t =>
    refine (pop_some b Q A C x t hl hn w h1).mono ?_
    rintro e w' ⟨rfl, hq, hf⟩
    have := From.to h1 h2 h3 h4 (⟨A, C, hq.out, .inl rfl, hf.out⟩ : QTo w b A _ w')
    exact ⟨rfl, Lib.hid this.1, Lib.hid this.2⟩
theorem peek_from (B b : Nat) (Q : Qn) (w : World) (h : From w B b Q) :
    Calls Try.prog 22 #[.pointer (some ⟨b, 0, none⟩)] w fun e w' => e = .returned Q.front ∧ Hid (Below w.heap.size w w') := by
  obtain ⟨A, C, h1, h2, h3, h4⟩ := h
  unfold Qn.front
  cases hl : Q.l with
  | nil =>
    have hb := h1.blk
    rw [hl] at hb
    exact peek_none A C w hb
  | cons x t => exact peek_some b Q A C x t hl w h1
end Go.Proofs.Ytblnmddphichgaa.Mq
