/-
  Own text: Pop, Clone, walked.
-/
import Derived.Test.YtagcpnelobidnaaPqG
import Derived.Lib.SliceRun
namespace Go.Proofs.Ytagcpnelobidnaa
open Go.RowKit

theorem pop_none (b : Nat) (Q : Qn) (A : Option Addr) (C : Nat) (hQ : Q.l = []) (w : World) (h : QB w b Q A C) :
    Calls Try.prog 14 #[.pointer (some ⟨b, 0, none⟩)] w fun e w' => e = .returned (.tuple #[.int .i64 0, .int .i64 0, .bool false]) ∧ ∃ k, w' = w.drewN k := by
  have hb := h.blk
  rw [hQ] at hb
  have CP := Lib.hid (peek_none A C w hb)
  clear h hb hQ
  go_enter Try.func14, Try.ntmps14
  go_wp2_with (first
    | (go_at_call 23; (with_reducible refine (CP.out).mono ?_); rintro e w1 ⟨rfl, k, rfl⟩)
    | fail)
  go_ret3
  exact ⟨rfl, _, rfl⟩
theorem pop_some (b : Nat) (Q : Qn) (A : Option Addr) (C : Nat) (x : It) (t : List It) (hQ : Q.l = x :: t) (hn : Q.l.length ≤ 1000) (w : World) (h : QB w b Q A C) :
    Calls Try.prog 14 #[.pointer (some ⟨b, 0, none⟩)] w fun e w' => e = .returned (.tuple #[.int .i64 x.v, .int .i64 x.rank, .bool true]) ∧ Hid (QB w' b ⟨Q.room, Q.pushed, t⟩ A C) ∧ Hid (Frm b (A.map Addr.block) w w') := by
  have CP := Lib.hid (peek_some b Q A C x t hQ w h)
  have CT : Hid (∀ k, Calls Try.prog 22 #[.pointer (some ⟨b, 0, none⟩), .int .i64 0] (w.drewN k) fun e w' => e = .returned x.val ∧ Hid (QB w' b ⟨Q.room, Q.pushed, t⟩ A C) ∧ Hid (Frm b (A.map Addr.block) (w.drewN k) w')) := Lib.hid (fun k => take_any x b 0 t.length Q [] t A C hQ rfl rfl hn (w.drewN k) (h.drewN k))
  clear h hQ hn
  go_enter Try.func14, Try.ntmps14
  go_wp2_with (first
    | (go_at_call 23; (with_reducible refine (CP.out).mono ?_); rintro e w1 ⟨rfl, k, rfl⟩)
    | (go_at_call 22; (with_reducible refine (CT.out _).mono ?_); rintro e w2 ⟨rfl, H2, F2⟩)
    | fail)
  go_ret3
  exact ⟨rfl, H2, Lib.hid (((Frm.refl _ _ w).drewN k).trans F2.out)⟩
/-- Items in a slice that is copied. -/
def CopyTo (w : World) (n : Nat) (l : List It) (e : Ending) (w' : World) : Prop := ∃ A' C', e = .returned (.slice A' n C') ∧ Hid (OwnT w' w.heap.size (.slice A' n C') n l) ∧ Hid (Below w.heap.size w w')
set_option maxRecDepth 100000 in
theorem copy_any (A : Option Addr) (n C : Nat) (l : List It) (hn : n ≤ 1000) (w : World) (h : OwnT w 0 (.slice A n C) n l) :
    Calls Try.prog 24 #[.slice A n C] w (CopyTo w n l) := by
  have heq : ∀ (a : Option Addr) (w : World), (binOp .eql 58 (.slice a n C) (.slice none 0 0)).run Try.prog w = .ok (.bool a.isNone) w := fun a w => Lib.run_eql_slice_nil w 58 62 a n C 0 0 Try.underlying58
  rcases h.form with ⟨rfl, rfl, rfl, rfl⟩ | ⟨g, R, rfl, _, hgl, hg, _, _⟩
  · clear h
    go_enter Try.func24, Try.ntmps24
    go_wp2
    go_ret
    exact ⟨none, 0, rfl, Lib.hid (OwnT.none _ _), Lib.hid (Below.refl _ _)⟩
  · have hl := h.length
    obtain ⟨W1, hW1⟩ : ∃ W1, W1 = w.alloc (.cells #[] 62) := ⟨_, rfl⟩
    have hb1 : Below w.heap.size w W1 := by rw [hW1]; exact (Below.refl _ _).alloc (Nat.le_refl _) _
    have HE : Hid (OwnT W1 w.heap.size (.slice (some ⟨w.heap.size, 0, none⟩) 0 0) 0 []) := Lib.hid (OwnT.of (R := []) rfl (Nat.le_refl _) (by rw [hW1]; exact Go.Deep.blk_alloc_new w _) rfl (Nat.zero_le _))
    have HN : Hid (∀ j u, (icells l)[j]? = some u → W1.cell? ((⟨g, 0, none⟩ : Addr).add j) = some u) := Lib.hid (TBlk.src (P := []) (S := R) (by rw [List.nil_append]; exact (hb1.block g hgl).trans hg) 0 rfl)
    have HL := Lib.hid hl
    have HM : Hid (0 + n ≤ 100000) := Lib.hid (by omega)
    have HB1 := Lib.hid hb1
    have HLE : Hid (w.heap.size ≤ W1.heap.size) := Lib.hid hb1.size
    have HW1 := Lib.hid hW1
    clear h hg hl hn hb1 hW1 hgl
    go_enter Try.func24, Try.ntmps24
    go_wp2_with (first
      | (at_builtin; rw [← HW1.out]; (with_reducible refine wpList_append_items rfl (.tmp 5) (.tmp 6) rfl w.heap.size (some ⟨w.heap.size, 0, none⟩) 0 0 rfl [] HE.out ⟨g, 0, none⟩ n C rfl l HL.out HN.out HM.out HLE.out ?_); intro A' C' w' H1 H2)
      | fail)
    rw [Nat.zero_add] at H1
    go_ret
    refine ⟨A', C', rfl, H1, Lib.hid ?_⟩
    exact below_grown HB1.out H2.out.grown HLE.out (fun k hk => by simp at hk; omega)
/-- A queue whose blocks lie from a place on. -/
def From (w : World) (B b : Nat) (Q : Qn) : Prop := ∃ A C, QB w b Q A C ∧ B ≤ b ∧ B ≤ w.heap.size ∧ ∀ k, A.map Addr.block = some k → B ≤ k
theorem From.below {w w' : World} {B B' b : Nat} {Q : Qn} (h : From w B b Q) (hb : Below B' w w') (hB : w.heap.size ≤ B') : From w' B b Q := by
  obtain ⟨A, C, h1, h2, h3, h4⟩ := h
  exact ⟨A, C, h1.below hb hB, h2, Nat.le_trans h3 hb.size, h4⟩
theorem From.low {w : World} {B B' b : Nat} {Q : Qn} (h : From w B b Q) (hB : B' ≤ B) : From w B' b Q := by
  obtain ⟨A, C, h1, h2, h3, h4⟩ := h
  exact ⟨A, C, h1, Nat.le_trans hB h2, Nat.le_trans hB h3, fun k hk => Nat.le_trans hB (h4 k hk)⟩
theorem From.drewN {w : World} {B b : Nat} {Q : Qn} (h : From w B b Q) (k : Nat) : From (w.drewN k) B b Q := by
  obtain ⟨A, C, h1, h2, h3, h4⟩ := h
  exact ⟨A, C, h1.drewN k, h2, h3, h4⟩
theorem From.to {w w' : World} {B b : Nat} {Q Q' : Qn} {A : Option Addr} {C : Nat} (_ : QB w b Q A C) (hB : B ≤ b) (hw : B ≤ w.heap.size) (hs : ∀ k, A.map Addr.block = some k → B ≤ k) (h : QTo w b A Q' w') : From w' B b Q' ∧ Below B w w' := by
  obtain ⟨A2, C2, h1, h2, h3⟩ := h
  refine ⟨⟨A2, C2, h1, hB, Nat.le_trans hw h3.size, fun k hk => ?_⟩, h3.bel (Below.refl _ _) hw hB hs⟩
  rcases h2 with e | e
  · exact hs k (by rw [← e]; exact hk)
  · exact Nat.le_trans hw (e k hk)
/-- The calls at a queue that lies from a place on. -/
theorem push_from (r v : Int) (B b k : Nat) (Q : Qn) (hf : Q.fit k) (hk : k ≤ 1000000) (w : World) (h : From w B b Q) :
    Calls Try.prog 13 #[.pointer (some ⟨b, 0, none⟩), .int .i64 r, .int .i64 v] w fun e w' => e = .returned (.tuple #[.int .i64 (Q.gone r v), .bool (decide (Q.room ≤ Q.l.length))]) ∧ Hid (From w' B b (Q.push r v)) ∧ Hid (Below B w w') := by
  obtain ⟨A, C, h1, h2, h3, h4⟩ := h
  refine (push_any r v b k Q A C hf hk w h1).mono ?_
  rintro e w' ⟨rfl, hp⟩
  have := From.to h1 h2 h3 h4 hp.out
  exact ⟨rfl, Lib.hid this.1, Lib.hid this.2⟩
/-- Its answer. -/
def Qn.front (Q : Qn) : Value := match Q.l with | [] => .tuple #[.int .i64 0, .int .i64 0, .bool false] | x :: _ => .tuple #[.int .i64 x.v, .int .i64 x.rank, .bool true]
def Qn.pop (Q : Qn) : Qn := ⟨Q.room, Q.pushed, Q.l.tail⟩
theorem Qn.pop_fit {Q : Qn} {k : Nat} (h : Q.fit k) : Q.pop.fit k := by
  unfold Qn.pop
  cases hl : Q.l with
  | nil => exact ⟨h.lo, h.hi, Nat.zero_le _, h.pushed, fun x hx => by simp at hx, List.Pairwise.nil, List.Pairwise.nil⟩
  | cons x t => exact Qn.tail_fit h hl
theorem pop_from (B b : Nat) (Q : Qn) (hn : Q.l.length ≤ 1000) (w : World) (h : From w B b Q) :
    Calls Try.prog 14 #[.pointer (some ⟨b, 0, none⟩)] w fun e w' => e = .returned Q.front ∧ Hid (From w' B b Q.pop) ∧ Hid (Below B w w') := by
  obtain ⟨A, C, h1, h2, h3, h4⟩ := h
  unfold Qn.front Qn.pop
  cases hl : Q.l with
  | nil =>
    refine (pop_none b Q A C hl w h1).mono ?_
    rintro e w' ⟨rfl, k, rfl⟩
    refine ⟨rfl, Lib.hid ?_, Lib.hid (below_drewN (Below.refl _ _) k)⟩
    have e1 : (⟨Q.room, Q.pushed, [].tail⟩ : Qn) = Q := by cases Q; simp at hl; subst hl; rfl
    rw [e1]
    exact From.drewN ⟨A, C, h1, h2, h3, h4⟩ k
  | cons x t =>
    refine (pop_some b Q A C x t hl hn w h1).mono ?_
    rintro e w' ⟨rfl, hq, hf⟩
    have := From.to h1 h2 h3 h4 (⟨A, C, hq.out, .inl rfl, hf.out⟩ : QTo w b A _ w')
    exact ⟨rfl, Lib.hid this.1, Lib.hid this.2⟩
theorem peek_from (B b : Nat) (Q : Qn) (w : World) (h : From w B b Q) :
    Calls Try.prog 23 #[.pointer (some ⟨b, 0, none⟩)] w fun e w' => e = .returned Q.front ∧ ∃ k, w' = w.drewN k := by
  obtain ⟨A, C, h1, h2, h3, h4⟩ := h
  unfold Qn.front
  cases hl : Q.l with
  | nil =>
    have hb := h1.blk
    rw [hl] at hb
    exact peek_none A C w hb
  | cons x t => exact peek_some b Q A C x t hl w h1
set_option maxRecDepth 100000 in
theorem clone_from (B b : Nat) (Q : Qn) (hn : Q.l.length ≤ 1000) (w : World) (h : From w B b Q) :
    Calls Try.prog 30 #[.pointer (some ⟨b, 0, none⟩)] w fun e w' => e = .returned (.pointer (some ⟨w.heap.size, 0, none⟩)) ∧ Hid (From w' w.heap.size w.heap.size Q) ∧ Hid (Below w.heap.size w w') := by
  obtain ⟨A, C, h1, h2, h3, h4⟩ := h
  obtain ⟨c0, c1, c2⟩ := h1.blk.cells
  obtain ⟨W1, hW1⟩ : ∃ W1, W1 = w.alloc (.cells #[.int .i64 (Q.room : Int), .int .i64 (Q.pushed : Int), .slice A Q.l.length C] 60) := ⟨_, rfl⟩
  have hb1 : Below w.heap.size w W1 := by rw [hW1]; exact (Below.refl _ _).alloc (Nat.le_refl _) _
  have hs1 : W1.heap.size = w.heap.size + 1 := by rw [hW1]; simp
  have hx1 : QBlk W1 w.heap.size Q.room Q.pushed (.slice A Q.l.length C) := by rw [hW1]; exact Go.Deep.blk_alloc_new w _
  have hq1 : QB W1 b Q A C := h1.below hb1 (Nat.le_refl _)
  obtain ⟨d0, d1, d2⟩ := hq1.blk.cells
  have CC := Lib.hid (copy_any A Q.l.length C Q.l hn W1 hq1.own)
  have HX1 := Lib.hid hx1
  have HS1 := Lib.hid hs1
  have HB1 := Lib.hid hb1
  have HW1 := Lib.hid hW1
  clear h1 h2 h3 h4 hn hx1 hs1 hb1 hq1 hW1
  go_enter Try.func30, Try.ntmps30
  go_upto_region 2 with fail
  rw [← HW1.out]
  go_wp2_with (first
    | (go_at_call 24; (with_reducible refine (CC.out).mono ?_); rintro e w2 ⟨A2, C2, rfl, HO2, HB2⟩; have HX2 := Lib.hid (HX1.out.below HB2.out (by have := HS1.out; omega)); obtain ⟨f0, f1, f2⟩ := HX2.out.cells; have ff := HX2.out.frozen 2)
    | fail)
  go_ret
  have hne : ∀ g, (Value.slice A2 Q.l.length C2).ownBlock = some g → g ≠ w.heap.size := fun g hg => by
    have := (HO2.out.lt g hg).1
    have := HS1.out
    omega
  refine ⟨rfl, Lib.hid ⟨A2, C2, ⟨HX2.out.setItems _, (HO2.out.low (Nat.zero_le _)).keep (fun g hg => Below.heap_setCell _ _ _ g (hne g hg))⟩, Nat.le_refl _, ?_, fun k hk => ?_⟩, Lib.hid ((HB1.out.trans (HB2.out.mono (by have := HS1.out; omega))).setCell (p := ⟨w.heap.size, 2, none⟩) (Nat.le_refl _) _)⟩
  · have := HB2.out.size
    have := HS1.out
    simp
    omega
  · have := (HO2.out.lt k (by rw [own_block]; exact hk)).1
    have := HS1.out
    omega
end Go.Proofs.Ytagcpnelobidnaa
