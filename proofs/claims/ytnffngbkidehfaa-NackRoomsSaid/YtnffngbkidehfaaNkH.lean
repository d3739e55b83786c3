/-
  Own text: Tick, walked.
-/
import Derived.Test.YtnffngbkidehfaaNkG
namespace Go.Proofs.Ytnffngbkidehfaa.Nk
open Go.RowKit

/-- What Tick answers: the keys that came, in a slice of the call's own. -/
def TickTo (w : World) (b : Nat) (A : Option Addr) (Q : Qn) (L : List Int) (e : Ending) (w' : World) : Prop :=
  ∃ A3 C3, e = .returned (.slice A3 L.length C3) ∧ Hid (OwnW w' w.heap.size (.slice A3 L.length C3) L.length L) ∧ Hid (QTo w b A Q w')
theorem map_more (l : List It) (q : Nat) (y : It) (h : l[q]? = some y) : (l.take q).map (fun x => x.key) ++ [y.key] = (l.take (q + 1)).map (fun x => x.key) := by
  rw [← take_more l q y h, List.map_append]
  rfl
theorem own_drewI {w : World} {base n : Nat} {v : Value} {l : List Int} (h : OwnW w base v n l) : OwnW w.drew base v n l := h.keep (fun _ _ => rfl)
set_option maxRecDepth 100000 in
set_option maxHeartbeats 1000000 in
theorem tick_any (t : Int) (b : Nat) (Q : Qn) (A : Option Addr) (C : Nat) (hf : Q.fit) (w : World) (h : QB w b Q A C) :
    Calls Try.prog 63 #[.pointer (some ⟨b, 0, none⟩), .int .i64 t] w (TickTo w b A (Q.tick t) (Q.came t)) := by
  obtain ⟨m, hm⟩ : ∃ m, m = adv Q.now t := ⟨_, rfl⟩
  obtain ⟨P, hP⟩ : ∃ P, P = dpos m Q.l := ⟨_, rfl⟩
  obtain ⟨n, hn⟩ : ∃ n, n = Q.l.length := ⟨_, rfl⟩
  have hPn : P ≤ n := by rw [hP, hn]; exact dpos_le _ _
  have hn1 : n ≤ 256 := by have := hf.len; have := hf.hi; omega
  have HTK : Hid (Q.tick t = ⟨Q.room, m, Q.l.drop P⟩ ∧ Q.came t = (Q.l.take P).map (fun x => x.key)) := Lib.hid (by unfold Qn.tick Qn.came; rw [← hm, ← hP]; exact ⟨rfl, rfl⟩)
  have hmm := adv_in (t := t) hf.now0 hf.now1
  rw [← hm] at hmm
  have m0 : 0 ≤ Q.now := hf.now0
  have m1 : Q.now ≤ 1099511627776 := hf.now1
  have HM : Hid (m = adv Q.now t ∧ P = dpos m Q.l ∧ n = Q.l.length ∧ P ≤ n ∧ n ≤ 256 ∧ 0 ≤ m ∧ m ≤ 1099511627776) := Lib.hid ⟨hm, hP, hn, hPn, hn1, by omega, hmm.2⟩
  have HF := Lib.hid hf
  have HQ := Lib.hid h
  obtain ⟨c0, c1, c2⟩ := h.blk.cells
  have ff := h.blk.frozen 1
  have HS1 : Hid (∀ v : Int, v = m → QB ((w.drew).setCell ⟨b, 1, none⟩ (.int .i64 v)) b ⟨Q.room, m, Q.l⟩ A C ∧ Frm b (A.map Addr.block) w ((w.drew).setCell ⟨b, 1, none⟩ (.int .i64 v)) ∧ w.heap.size ≤ ((w.drew).setCell ⟨b, 1, none⟩ (.int .i64 v)).heap.size) := Lib.hid (fun v hv => by
    subst hv
    refine ⟨⟨(h.drewN 1).blk.setNow v, (h.drewN 1).own.keep (fun g hg => Below.heap_setCell _ _ _ g (h.apart g (by rw [own_block] at hg; exact hg)))⟩, ?_, by simp⟩
    exact ((Frm.refl b _ w).drewN 1).trans (Frm.setIn _ _ _ _ _))
  clear h hf hm hP hn hPn hn1 hmm
  generalize Q.now = now at *
  go_enter Try.func63, Try.ntmps63
  go_upto_region 1 with fail
  go_cut [4] (fun s wx => s = .slice none 0 0 ∧ Hid (QB wx b ⟨Q.room, m, Q.l⟩ A C ∧ Frm b (A.map Addr.block) w wx ∧ w.heap.size ≤ wx.heap.size))
  case first =>
    by_cases h1 : t < 0
    · have hv : now = m := by have := HM.out.1; unfold adv at this; rw [if_pos (by omega)] at this; exact this.symm
      have HV := Lib.hid hv
      have a1 : (t < 0) = True := by simp; omega
      have a3 : ((1099511627776 : Int) - now < 0) = False := by simp; omega
      clear hv
      go_region
      all_goals
        go_wp2
        go_meet
        exact ⟨rfl, Lib.hid (HS1.out _ HV.out)⟩
    · by_cases h2 : 1099511627776 - now < t
      · have hv : (1099511627776 : Int) = m := by have := HM.out.1; unfold adv at this; rw [if_neg (by omega), if_pos h2] at this; exact this.symm
        have HV := Lib.hid hv
        have a1 : (t < 0) = False := by simp; omega
        have a3 : (1099511627776 - now < t) = True := by simp; omega
        have a5 : now + (1099511627776 - now) = 1099511627776 := by omega
        clear hv h1 h2
        go_region
        all_goals
          go_wp2
          go_meet
          exact ⟨rfl, Lib.hid (HS1.out _ HV.out)⟩
      · have hv : now + t = m := by have := HM.out.1; unfold adv at this; split at this <;> omega
        have HV := Lib.hid hv
        have a1 : (t < 0) = False := by simp; omega
        have a3 : (1099511627776 - now < t) = False := by simp; omega
        have a5 : now + t ≤ 1099511627776 := by omega
        have a6 : 0 ≤ t := by omega
        clear hv h1 h2
        go_region
        all_goals
          go_wp2
          go_meet
          exact ⟨rfl, Lib.hid (HS1.out _ HV.out)⟩
  case rest =>
    obtain ⟨rfl, HQ1⟩ := hcut
    generalize wc = w1 at *
    clear c0 c1 c2 ff HS1 HQ
    obtain ⟨hq1, hf1, hs1⟩ := HQ1.out
    have hn := HM.out.2.2.1
    have CU : Hid (Calls Try.prog 88 #[.pointer (some ⟨b, 0, none⟩), .int .i64 m] w1 fun e w' => e = .returned (.int .i64 (P : Int)) ∧ Below w1.heap.size w1 w') := Lib.hid (by
      have := until_any m HM.out.2.2.2.2.2.1 (by have := HM.out; omega) b ⟨Q.room, m, Q.l⟩ A C (by have := HM.out; show Q.l.length ≤ 1000; omega) HF.out.sorted w1 hq1
      rw [HM.out.2.1]
      exact this)
    have hall : ∀ w', Below w1.heap.size w1 w' → QB w' b ⟨Q.room, m, Q.l⟩ A C := fun w' hb => hq1.below hb (Nat.le_refl _)
    have HC : Hid (∀ w', Below w1.heap.size w1 w' → w'.cell? ⟨b, 1, none⟩ = some (.int .i64 m) ∧ w'.cell? ⟨b, 2, none⟩ = some (.slice A n C)) := Lib.hid (fun w' hb => by
      obtain ⟨a0, a1, a2⟩ := (hall w' hb).blk.cells
      rw [hn]
      exact ⟨a1, a2⟩)
    have HOWN : Hid (∀ w', Below w1.heap.size w1 w' → OwnT w' 0 (.slice A n C) n Q.l) := Lib.hid (fun w' hb => by rw [hn]; exact (hall w' hb).own)
    have CD : Hid (∀ (w' : World) (A3 : Option Addr) (C3 : Nat), Below w1.heap.size w1 w' → OwnW w' w1.heap.size (.slice A3 P C3) P ((Q.l.take P).map (fun x => x.key)) → Calls Try.prog 90 #[.slice A n C, .int .i64 0, .int .i64 (P : Int)] w' fun e w5 => e = .returned (.slice A (n - P) C) ∧ Hid (QBlk w5 b Q.room m (.slice A n C)) ∧ Hid (TickTo w b A (Q.tick t) (Q.came t) (.returned (.slice A3 P C3)) (w5.setCell ⟨b, 2, none⟩ (.slice A (n - P) C)))) := Lib.hid (fun w' A3 C3 hb ho => by
      have hq' := hall w' hb
      have hblt : b < w'.heap.size := hq'.blk.lt
      have hl3 : ((Q.l.take P).map (fun x => x.key)).length = P := by rw [List.length_map, List.length_take]; have := HM.out; omega
      have hcn : n ≤ C := by have := (HOWN.out w' hb).slice; obtain ⟨_, _, e, h1, _⟩ := this; simp at e; omega
      -- behind the deletion, whatever it turned
      have hfin : ∀ (w5 : World), w'.grownBy w5 (A.map Addr.block) → OwnT w5 0 (.slice A (n - P) C) (n - P) (Q.l.drop P) → Hid (QBlk w5 b Q.room m (.slice A n C)) ∧ Hid (TickTo w b A (Q.tick t) (Q.came t) (.returned (.slice A3 P C3)) (w5.setCell ⟨b, 2, none⟩ (.slice A (n - P) C))) := fun w5 hg ho5 => by
        have hb5 : QBlk w5 b Q.room m (.slice A n C) := by
          have := hq'.blk.keep (hg.block b hblt (fun e => hq'.apart b e.symm rfl))
          rw [hn]
          exact this
        have hld : (Q.l.drop P).length = n - P := by rw [List.length_drop, ← hn]
        refine ⟨Lib.hid hb5, Lib.hid ⟨A3, C3, by rw [HTK.out.2, hl3], Lib.hid ?_, Lib.hid ?_⟩⟩
        · rw [HTK.out.2, hl3]
          refine (OwnW.low ho hs1).keep (fun g hg' => ?_)
          have hge := ho.lt g hg'
          have h1 : g ≠ b := by have := hq1.blk.lt; omega
          rw [Below.heap_setCell _ ⟨b, 2, none⟩ _ g h1]
          refine hg.block g hge.2 (fun e => ?_)
          have := hq1.lt g e.symm
          omega
        · rw [HTK.out.1]
          refine ⟨A, C, ⟨?_, ?_⟩, .inl rfl, ?_⟩
          · show QBlk _ b Q.room m (.slice A (Q.l.drop P).length C)
            rw [hld]
            exact hb5.setItems _
          · show OwnT _ 0 (.slice A (Q.l.drop P).length C) (Q.l.drop P).length (Q.l.drop P)
            rw [hld]
            exact ho5.keep (fun g hg' => Below.heap_setCell _ _ _ g (hq1.apart g (by rw [own_block] at hg'; exact hg')))
          · exact ((hf1.trans (Frm.of_below hb)).trans (Frm.grown hg)).trans (Frm.setIn _ _ _ _ _)
      by_cases hp0 : P = 0
      · have hd := delete_none A n C (by have := HM.out; omega) hcn w'
        rw [hp0]
        refine hd.mono ?_
        rintro e w5 ⟨rfl, rfl⟩
        have := hfin w5 (grown_refl _ _) (by rw [hp0]; exact HOWN.out w5 hb)
        rw [hp0] at this
        exact ⟨rfl, this.1, this.2⟩
      · rcases (HOWN.out w' hb).form with ⟨_, h0, _⟩ | ⟨g, R, rfl, _, _, hg, hR, hC⟩
        · have := HM.out; omega
        · rw [← List.take_append_drop P Q.l] at hg
          have hd := delete_first g n C P (n - P) (Q.l.take P) (Q.l.drop P) R (by rw [List.length_take]; have := HM.out; omega) (by rw [List.length_drop, ← hn]) (by omega) (by have := HM.out; omega) (by have := HM.out; omega) hcn hC hR w' hg
          refine hd.mono ?_
          rintro e w5 ⟨rfl, ho5, hg5⟩
          obtain ⟨x1, x2⟩ := hfin w5 hg5.out ho5.out
          exact ⟨rfl, x1, x2⟩)
    have i1 : (P : Int) ≤ (n : Int) := by have := HM.out; omega
    have i2 : (n : Int) ≤ 256 := by have := HM.out; omega
    have i3 : (n : Int) ≤ (C : Int) := by have := (HOWN.out w1 (Below.refl _ _)).slice; obtain ⟨_, _, e, h1, _⟩ := this; simp at e; omega
    have i4 : (P : Int) ≤ (C : Int) := by omega
    have i5 : P ≤ C := by omega
    have HPN : Hid (P ≤ n) := Lib.hid (by omega)
    have HLN : Hid (Q.l.length = n) := Lib.hid hn.symm
    clear hq1 hf1 hs1 hn hall HQ1
    obtain ⟨a1, a2⟩ := HC.out w1 (Below.refl _ _)
    go_upto_region 4 with (first
      | (go_at_call 88; (with_reducible refine (CU.out).mono ?_); rintro e w2 ⟨rfl, hb⟩; have HB2 := Lib.hid hb; obtain ⟨b1, b2⟩ := HC.out w2 hb; clear hb)
      | fail)
    clear a1 a2
    go_wp2
    go_loopw [6, 37] (fun o i wr => ∃ (q C3 : Nat) (A3 : Option Addr), q ≤ P ∧ i = .int .i64 (q : Int) ∧ o = .slice A3 q C3 ∧ Hid (OwnW wr w1.heap.size (.slice A3 q C3) q ((Q.l.take q).map (fun x => x.key))) ∧ Hid (Below w1.heap.size w1 wr)) (fun _ i _ => P - (intOf i).toNat)
    case atStart => exact ⟨0, 0, none, Nat.zero_le _, rfl, rfl, Lib.hid (OwnW.none _ _), HB2⟩
    case round =>
      obtain ⟨q, C3, A3, hq, rfl, rfl, HO, HB⟩ := hrel
      by_cases hlt : q < P
      · obtain ⟨y, hy⟩ : ∃ y, Q.l[q]? = some y := ⟨_, List.getElem?_eq_getElem (by have := HLN.out; have := HPN.out; omega)⟩
        obtain ⟨g, eA, _, hgl, d0, d1⟩ := (HOWN.out wr HB.out).at_ q y hy
        subst eA
        have k1 : (q : Int) < (P : Int) := by omega
        have HLT := Lib.hid hlt
        have HT := Lib.hid (map_more Q.l q y hy)
        have HSZ := Lib.hid HB.out.size
        have HM1 : Hid (q + 1 ≤ 100000) := Lib.hid (by have := HPN.out; omega)
        have HAL : Hid (∀ o1 o2, Below w1.heap.size w1 ((wr.alloc o1).alloc o2) ∧ w1.heap.size ≤ ((wr.alloc o1).alloc o2).heap.size ∧ Below wr.heap.size wr ((wr.alloc o1).alloc o2)) := Lib.hid (fun o1 o2 => by
          have h1 : Below wr.heap.size wr ((wr.alloc o1).alloc o2) := ((Below.refl _ _).alloc (Nat.le_refl _) _).alloc (by simp) _
          exact ⟨HB.out.trans (h1.mono HSZ.out), by have := HSZ.out; simp; omega, h1⟩)
        clear hy hgl
        generalize y.key = yk at *
        generalize y.due = yd at *
        go_wp2_with (first
          | (at_builtin; (with_reducible refine wpList_append_w rfl (.tmp 41) (.tmp 44) rfl w1.heap.size A3 q C3 rfl ((Q.l.take q).map (fun x => x.key)) (HO.out.below (HAL.out _ _).2.2 (Nat.le_refl _)) (wr.heap.size + 1) rfl yk (by simp [go_sem]) HM1.out (HAL.out _ _).2.1 ?_); intro A4 C4 w5 HO5 HB5)
          | fail)
        go_roundw
        case rel => exact ⟨q + 1, C4, A4, HLT.out, by go_num, rfl, Lib.hid (by rw [← HT.out]; exact HO5.out), Lib.hid ((HAL.out _ _).1.trans HB5.out)⟩
        case measure => simp [intOf] <;> (have := HLT.out; omega)
      · obtain rfl : q = P := by omega
        obtain ⟨d1, d2⟩ := HC.out wr HB.out
        have CD1 := Lib.hid (CD.out wr A3 C3 HB.out HO.out)
        go_wp2_with (first
          | (go_at_call 90; (with_reducible refine (CD1.out).mono ?_); rintro e w5 ⟨rfl, H5, HT5⟩; obtain ⟨f0, f1, f2⟩ := H5.out.cells; have ff := H5.out.frozen 2)
          | fail)
        go_ret
        exact HT5.out
end Go.Proofs.Ytnffngbkidehfaa.Nk
