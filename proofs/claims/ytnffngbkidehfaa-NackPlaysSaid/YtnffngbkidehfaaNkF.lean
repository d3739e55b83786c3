/-
  Own text: Stop, Clear, Left, walked.
-/
import Derived.Test.YtnffngbkidehfaaNkE
namespace Go.Proofs.Ytnffngbkidehfaa.Nk
open Go.RowKit

/-- A set behind a call. -/
def QTo (w : World) (b : Nat) (A : Option Addr) (Q : Qn) (w' : World) : Prop := ∃ A' C', QB w' b Q A' C' ∧ Moved w (A.map Addr.block) (A'.map Addr.block) ∧ Frm b (A.map Addr.block) w w'
theorem fAt_no {k : Int} {l : List It} (h : ¬ fidx k l < l.length) : fAt k l = -1 := by unfold fAt; rw [if_neg h]
theorem fAt_yes {k : Int} {l : List It} (h : fidx k l < l.length) : fAt k l = (fidx k l : Int) := by unfold fAt; rw [if_pos h]
theorem stop_no {Q : Qn} {k : Int} (h : ¬ fidx k Q.l < Q.l.length) : Q.stop k = Q := by
  unfold Qn.stop
  rw [cutK_no h]
theorem stop_none (k : Int) (b : Nat) (Q : Qn) (A : Option Addr) (C : Nat) (hn : Q.l.length ≤ 1000) (hk : ¬ fidx k Q.l < Q.l.length) (w : World) (h : QB w b Q A C) :
    Calls Try.prog 65 #[.pointer (some ⟨b, 0, none⟩), .int .u32 k] w fun e w' => e = .returned (.bool false) ∧ Below w.heap.size w w' := by
  have CF := Lib.hid (find_any k b Q A C hn w h)
  rw [fAt_no hk] at CF
  clear h hn hk
  go_enter Try.func65, Try.ntmps65
  go_wp2_with (first
    | (go_at_call 91; (with_reducible refine (CF.out).mono ?_); rintro e w1 ⟨rfl, hb⟩; have HB1 := Lib.hid hb; clear hb)
    | fail)
  go_ret
  exact ⟨rfl, HB1.out⟩
theorem split_at {k : Int} {l : List It} (h : fidx k l < l.length) : ∃ y, l = l.take (fidx k l) ++ ([y] ++ l.drop (fidx k l + 1)) ∧ l[fidx k l]? = some y := by
  refine ⟨l[fidx k l], ?_, List.getElem?_eq_getElem h⟩
  conv => lhs; rw [← List.take_append_drop (fidx k l) l]
  rw [List.drop_eq_getElem_cons h]
  rfl
set_option maxRecDepth 100000 in
theorem stop_some (k : Int) (b : Nat) (Q : Qn) (A : Option Addr) (C : Nat) (hn : Q.l.length ≤ 1000) (hk : fidx k Q.l < Q.l.length) (w : World) (h : QB w b Q A C) :
    Calls Try.prog 65 #[.pointer (some ⟨b, 0, none⟩), .int .u32 k] w fun e w' => e = .returned (.bool true) ∧ Hid (QTo w b A (Q.stop k) w') := by
  have CF := Lib.hid (find_any k b Q A C hn w h)
  rw [fAt_yes hk] at CF
  obtain ⟨y, hy, _⟩ := split_at hk
  obtain ⟨i, hi⟩ : ∃ i, i = fidx k Q.l := ⟨_, rfl⟩
  obtain ⟨n, hN⟩ : ∃ n, n = Q.l.length := ⟨_, rfl⟩
  rw [← hi] at CF hy hk
  rw [← hN] at hk
  have ha : (Q.l.take i).length = i := by rw [List.length_take]; omega
  have hb : (Q.l.drop (i + 1)).length = n - (i + 1) := by rw [List.length_drop, hN]
  have hcut : cutK k Q.l = Q.l.take i ++ Q.l.drop (i + 1) := by unfold cutK; rw [← hi]
  obtain ⟨g, R, rfl, hg, hR, hC⟩ : ∃ g R, A = some ⟨g, 0, none⟩ ∧ TBlk w g (icells Q.l ++ R) ∧ n * 2 + R.length = C * 2 ∧ C ≤ maxLen := by
    rcases h.own.form with ⟨_, h0, _⟩ | ⟨g, R, e, _, _, h1, h2, h3⟩
    · omega
    · exact ⟨g, R, e, h1, by rw [hN]; exact h2, h3⟩
  have hgb := h.apart g rfl
  have hgl := h.lt g rfl
  rw [hy] at hg
  have CD : Hid (∀ w1, Below w.heap.size w w1 → Calls Try.prog 90 #[.slice (some ⟨g, 0, none⟩) n C, .int .i64 (i : Int), .int .i64 ((i : Int) + 1)] w1 fun e w2 => e = .returned (.slice (some ⟨g, 0, none⟩) (n - 1) C) ∧ Hid (QBlk w2 b Q.room Q.now (.slice (some ⟨g, 0, none⟩) n C)) ∧ Hid (QTo w b (some ⟨g, 0, none⟩) (Q.stop k) (w2.setCell ⟨b, 2, none⟩ (.slice (some ⟨g, 0, none⟩) (n - 1) C)))) := Lib.hid (fun w1 h1 => by
    have hd := delete_some g n C i 1 (n - (i + 1)) (Q.l.take i) [y] (Q.l.drop (i + 1)) R ha rfl hb (by omega) (by omega) (by omega) (by omega) hC hR w1 ((h1.block g hgl).trans hg)
    rw [show ((1 : Nat) : Int) = 1 from rfl, show i + (n - (i + 1)) = n - 1 by omega] at hd
    refine hd.mono ?_
    rintro e w2 ⟨rfl, h2, h3⟩
    have hq := h.blk.below h1 h.blk.lt
    have hq2 : QBlk w2 b Q.room Q.now (.slice (some ⟨g, 0, none⟩) Q.l.length C) := hq.keep (h3.out.block b (Nat.lt_of_lt_of_le h.blk.lt h1.size) (by simp; exact fun e => hgb e.symm))
    have hl : (Q.stop k).l.length = n - 1 := by show (cutK k Q.l).length = _; rw [cutK_length, ← hi, ← hN, if_pos hk]
    refine ⟨rfl, Lib.hid (by rw [hN]; exact hq2), Lib.hid ⟨some ⟨g, 0, none⟩, C, ⟨?_, ?_⟩, .inl rfl, ?_⟩⟩
    · rw [hl]
      exact hq2.setItems _
    · rw [hl]
      show OwnT _ 0 _ _ (cutK k Q.l)
      rw [hcut]
      refine h2.out.keep (fun g' hg' => ?_)
      simp [Value.ownBlock] at hg'
      subst hg'
      exact Below.heap_setCell _ ⟨b, 2, none⟩ _ g hgb
    · exact ((Frm.of_below h1).trans (Frm.grown h3.out)).trans (Frm.setIn _ _ _ _ _))
  have HC : Hid (∀ w1, Below w.heap.size w w1 → w1.cell? ⟨b, 2, none⟩ = some (.slice (some ⟨g, 0, none⟩) n C)) := Lib.hid (fun w1 h1 => by rw [hN]; exact (h.blk.below h1 h.blk.lt).cells.2.2)
  have i1 : (i : Int) < 1000 := by omega
  clear h hn hk hy hi hN ha hb hcut hg hR hC hgb hgl
  go_enter Try.func65, Try.ntmps65
  go_wp2_with (first
    | (go_at_call 91; (with_reducible refine (CF.out).mono ?_); rintro e w1 ⟨rfl, hb⟩; have c2 := HC.out w1 hb; have CD1 := Lib.hid (CD.out w1 hb); clear hb)
    | (go_at_call 90; (with_reducible refine (CD1.out).mono ?_); rintro e w2 ⟨rfl, H2, H3⟩; obtain ⟨f0, f1, f2⟩ := H2.out.cells; have ff := H2.out.frozen 2)
    | fail)
  go_ret
  exact ⟨rfl, H3⟩
/-- Stop, whatever runs. -/
theorem stop_any (k : Int) (b : Nat) (Q : Qn) (A : Option Addr) (C : Nat) (hn : Q.l.length ≤ 1000) (w : World) (h : QB w b Q A C) :
    Calls Try.prog 65 #[.pointer (some ⟨b, 0, none⟩), .int .u32 k] w fun e w' => e = .returned (.bool (hasK k Q.l)) ∧ Hid (QTo w b A (Q.stop k) w') := by
  by_cases hk : fidx k Q.l < Q.l.length
  · have e : hasK k Q.l = true := by unfold hasK; exact decide_eq_true hk
    rw [e]
    exact stop_some k b Q A C hn hk w h
  · have e : hasK k Q.l = false := by unfold hasK; exact decide_eq_false hk
    rw [e, stop_no hk]
    refine (stop_none k b Q A C hn hk w h).mono ?_
    rintro e w' ⟨rfl, hb⟩
    exact ⟨rfl, Lib.hid ⟨A, C, h.below hb (Nat.le_refl _), .inl rfl, Frm.of_below hb⟩⟩
/-- What Left answers. -/
def Qn.left (Q : Qn) (k : Int) : Int := match Q.l[fidx k Q.l]? with | some x => x.due - Q.now | none => 0
end Go.Proofs.Ytnffngbkidehfaa.Nk
