/-
  Own text: Put, walked; New; the law's awake.
-/
import Derived.Test.YtjkobejhbgjhlaaRgB
import Derived.Deep.DeepCutAuto
import Derived.BigQuiet
namespace Go.Proofs.Ytjkobejhbgjhlaa
open Go.RowKit

/-- What Put leaves. -/
def PutTo (w : World) (b : Nat) (R : Rn) (s : Option Nat) (v : Int) (w' : World) : Prop :=
  ∃ A C ys, RB w' b (R.put v) A C ys ∧ Moved w s (Value.slice A ys.length C).ownBlock ∧ Frm b s w w'
theorem wpList_append_zeros {w : World} {ops : Array Oper} {rest : List Oper} {o : Oper} {a : Act} {Q : Exit → Act → World → Prop} (hgd : o.guard = none) (s x : Operand)
    (ho : o.op = .call { callee := .builtin .append, args := #[s, x], argTypes := #[25, 3] })
    (dp : Option Addr) (n dC : Nat) (hs : a.eval s = .slice dp n dC) (l : List Int) (hown : OwnI w 0 (.slice dp n dC) n l)
    (m : Nat) (hx : a.eval x = .int .i64 (m : Int)) (hm : 0 < m) (hb : n + m ≤ 100000)
    (h : ∀ A C w', Hid (OwnI w' 0 (.slice A (n + m) C) (n + m) (l ++ List.replicate m 0)) → Hid (w.grownBy w' (Value.slice dp n dC).ownBlock) → Hid (Moved w (Value.slice dp n dC).ownBlock (Value.slice A (n + m) C).ownBlock) → wpList Try.prog ops Q rest (a.put o.dst (.slice A (n + m) C)) w') :
    wpList Try.prog ops Q (o :: rest) a w := by
  refine wpList_plain hgd fun K hK => ?_
  obtain ⟨A, C, w', hr, h1, h2, h3⟩ := run_append_zeros 0 o.type dp n dC l hown m hm hb (Nat.zero_le _)
  unfold Oper.wp execOp
  simp only [ho, resolve, invoke, builtin, Sem.run_bind, Sem.run_pure, Result.andThen_ok, List.map_toArray, List.map_cons, List.map_nil, hs, hx, hr]
  exact hK _ _ (h A C w' (Lib.hid h1) (Lib.hid h2) (Lib.hid (h3.imp id (fun e k hk => by rw [e] at hk; simp at hk; omega))))
theorem Rn.drop_one {R : Rn} (h1 : 1 ≤ R.room) (h : R.l.length = R.room) : R.drop ((R.first : Int) + 1) = ⟨R.room, R.first + 1, R.l.drop 1⟩ := by
  have e : R.pos ((R.first : Int) + 1) = 1 := by unfold Rn.pos Rn.next; omega
  unfold Rn.drop
  rw [e]
theorem tmod_nat (n r : Nat) : ((n : Int)).tmod (r : Int) = ((n % r : Nat) : Int) := (Int.ofNat_tmod n r).symm
/-- One more entry is in its slot. -/
theorem RB.push {w : World} {b C g : Nat} {R : Rn} {zs : List Int} (hl : R.l.length + 1 ≤ R.room) (hb : RBlk w b R.room R.first (R.next + 1) (.slice (some ⟨g, 0, none⟩) zs.length C)) (ho : OwnI w 0 (.slice (some ⟨g, 0, none⟩) zs.length C) zs.length zs)
    (hz : zs.length ≤ R.room) (hp : R.next % R.room < zs.length) (hs : ∀ i, i < R.l.length → zs[(R.first + i) % R.room]? = R.l[i]?) (v : Int) :
    RB (w.setCell ⟨g, R.next % R.room, none⟩ (.int .i64 v)) b ⟨R.room, R.first, R.l ++ [v]⟩ (some ⟨g, 0, none⟩) C (zs.set (R.next % R.room) v) := by
  have hg : g ≠ b := by
    intro e
    subst e
    obtain ⟨_, e2, _, _, _, _, _, _, cur, hc⟩ := ho.at_ _ hp
    simp only [Option.some.injEq, Addr.mk.injEq, and_true] at e2
    subst e2
    unfold RBlk at hb
    rw [hb] at hc
    simp at hc
  have e1 : (⟨R.room, R.first, R.l ++ [v]⟩ : Rn).next = R.next + 1 := by unfold Rn.next; simp; omega
  refine ⟨?_, ?_, ?_, ?_⟩
  · rw [e1, List.length_set]; exact hb.other (p := ⟨g, _, none⟩) (fun e => hg e.symm) _
  · rw [List.length_set]; exact ho.set _ _
  · rw [List.length_set]; exact hz
  · intro j hj
    have hj2 : j < R.l.length + 1 := by simpa using hj
    show (zs.set (R.next % R.room) v)[(R.first + j) % R.room]? = (R.l ++ [v])[j]?
    by_cases e : j = R.l.length
    · subst e
      rw [List.getElem?_append_right (Nat.le_refl _), Nat.sub_self]
      show (zs.set (R.next % R.room) v)[R.next % R.room]? = _
      rw [List.getElem?_set_self hp]
      rfl
    · have hne : R.next % R.room ≠ (R.first + j) % R.room := mod_apart (i := R.l.length) (j := j) (by omega) (by omega) (fun h => e h.symm)
      rw [List.getElem?_set_ne hne, List.getElem?_append_left (by omega)]
      exact hs j (by omega)
set_option maxRecDepth 100000 in
theorem put_any (v : Int) (b k : Nat) (R : Rn) (A : Option Addr) (C : Nat) (xs : List Int) (hf : R.fit k) (hk : k ≤ 1000000) (w : World) (h : RB w b R A C xs) :
    Calls Try.prog 17 #[.pointer (some ⟨b, 0, none⟩), .int .i64 v] w fun e w' => e = .returned (.int .i64 (R.next : Int)) ∧ Hid (PutTo w b R (Value.slice A xs.length C).ownBlock v w') := by
  have CL := Lib.hid (fun j => len_any (s := .slice A xs.length C) (room := R.room) (first := R.first) (next := R.next) (b := b) R.l.length rfl (by have := hf.next; omega) (w.drewN j) (h.blk))
  have CD := Lib.hid (fun j => drop_any ((R.first : Int) + 1) b k R A C xs hf hk (w.drewN j) (h.drewN j))
  obtain ⟨c0, c1, c2, c3⟩ := h.blk.cells
  have HR := Lib.hid h
  have HF := Lib.hid hf
  have HK := Lib.hid hk
  have hlen := hf.len
  have hnx : R.next ≤ 1099512627776 := by have := hf.next; omega
  have hfx : R.first ≤ 1099512627776 := by have := hf.next; unfold Rn.next at this; omega
  clear h hf hk
  go_enter Try.func17, Try.ntmps17
  go_upto_region 1 with fail
  go_quiet ((go_at_call 18; exact Calls.quiet_of (CL.out _)))
  go_upto_if 13 with fail
  go_cut [0, 1] (fun s0 s1 wx => s0 = .pointer (some ⟨b, 0, none⟩) ∧ s1 = .int .i64 v ∧ ∃ (R1 : Rn) (ys : List Int), Hid (R1.fit k) ∧ R1.l.length + 1 ≤ R1.room ∧ R1.next = R.next ∧ Hid (R.put v = ⟨R1.room, R1.first, R1.l ++ [v]⟩) ∧ ys.length = xs.length ∧ Hid (RB wx b R1 A C ys) ∧ Hid (Frm b (Value.slice A xs.length C).ownBlock w wx))
  case first =>
    by_cases hq : R.l.length = R.room
    · have hb : ((R.l.length : Int) == (R.room : Int)) = true := by simp [hq]
      have HQ := Lib.hid hq
      clear hq
      go_wp2_with (first
        | (go_at_call 25; (refine (CD.out _).mono ?_); rintro e w1 ⟨rfl, HY, HFR⟩; obtain ⟨ys, hy1, hy2⟩ := HY.out; clear HY; have HY1 := Lib.hid hy1; have HY2 := Lib.hid hy2; clear hy1 hy2)
        | fail)
      go_meet
      refine ⟨rfl, rfl, R.drop ((R.first : Int) + 1), ys, Lib.hid (Rn.drop_fit HF.out _), ?_, R.drop_next _, Lib.hid ?_, HY1.out, HY2, Lib.hid (((Frm.refl b _ w).drewN _).trans HFR.out)⟩
      · rw [Rn.drop_one HF.out.lo HQ.out]
        have := HQ.out
        have := HF.out.lo
        simp only [List.length_drop]
        omega
      · rw [Rn.drop_one HF.out.lo HQ.out]
        unfold Rn.put
        rw [if_pos HQ.out]
    · have hb : ((R.l.length : Int) == (R.room : Int)) = false := by simp; omega
      have HQ := Lib.hid hq
      go_wp2_with fail
      go_meet
      refine ⟨rfl, rfl, R, xs, HF, by omega, rfl, Lib.hid ?_, rfl, Lib.hid (HR.out.drewN _), Lib.hid ((Frm.refl b _ w).drewN _)⟩
      unfold Rn.put
      rw [if_neg HQ.out]
  case rest =>
    obtain ⟨rfl, rfl, R1, ys, HF1, hl1, hn1, HPV, hys, HR1, HFR⟩ := hcut
    clear c0 c1 c2 c3
    obtain ⟨c0, c1, c2, c3⟩ := HR1.out.blk.cells
    have f2 := HR1.out.blk.frozen 2
    have f3 := HR1.out.blk.frozen 3
    rw [hn1] at c2
    rw [hys] at c3
    have hr1 := HF1.out.lo
    have hr2 := HF1.out.hi
    have tm := tmod_nat R.next R1.room
    have hP : R.next % R1.room < R1.room := Nat.mod_lt _ (by omega)
    have HPP : Hid (R1.next % R1.room = R.next % R1.room) := Lib.hid (by rw [hn1])
    have h0 : ¬ (R1.room : Int) = 0 := by omega
    have hle := HR1.out.le
    rw [hys] at hle
    have HN1 := Lib.hid hn1
    have HYS := Lib.hid hys
    obtain ⟨P, hPe⟩ : ∃ P, P = R.next % R1.room := ⟨_, rfl⟩
    have HP2 : Hid (P = R.next % R1.room) := Lib.hid hPe
    rw [← hPe] at hP tm HPP
    clear hys hn1 hPe hlen
    go_upto_region 5 with fail
    go_quiet (fail)
    go_upto_if 46 with fail
    have HB4 : Hid (RBlk ((wc.setCell ⟨b, 2, none⟩ (.int .i64 ((R.next : Int) + 1))).drewN nq) b R1.room R1.first (R.next + 1) (.slice A xs.length C)) := Lib.hid (by
      have := HR1.out.blk.setNext (R.next + 1)
      rw [HYS.out, show ((R.next + 1 : Nat) : Int) = (R.next : Int) + 1 by omega] at this
      exact this)
    have HO4 : Hid (OwnI ((wc.setCell ⟨b, 2, none⟩ (.int .i64 ((R.next : Int) + 1))).drewN nq) 0 (.slice A xs.length C) xs.length ys) := Lib.hid (by
      have := own_setIn HR1.out HR1.out.own 2 (.int .i64 ((R.next : Int) + 1))
      rw [HYS.out] at this
      exact this)
    have HF4 : Hid (Frm b (Value.slice A xs.length C).ownBlock w ((wc.setCell ⟨b, 2, none⟩ (.int .i64 ((R.next : Int) + 1))).drewN nq)) := Lib.hid ((HFR.out.trans (Frm.setIn _ _ _ _ _)).drewN _)
    have HSP := Lib.hid HR1.out.spot
    have HAP : Hid (∀ g, (Value.slice A xs.length C).ownBlock = some g → g ≠ b) := Lib.hid HR.out.apart
    generalize (wc.setCell ⟨b, 2, none⟩ (.int .i64 ((R.next : Int) + 1))).drewN nq = W4 at *
    clear c0 c1 c2 c3 f2 f3 HR1 HFR CL CD tm
    obtain ⟨c0, c1, c2, c3⟩ := HB4.out.cells
    have f3 := HB4.out.frozen 3
    obtain ⟨D, hD⟩ : ∃ D : Int, D = (P : Int) + 1 - xs.length := ⟨_, rfl⟩
    rw [← hD]
    have HD := Lib.hid hD
    clear hD
    go_cut [0, 1, 5] (fun s0 s1 s5 wx => s0 = .pointer (some ⟨b, 0, none⟩) ∧ s1 = .int .i64 v ∧ s5 = .int .i64 (R.next : Int) ∧ ∃ (A2 : Option Addr) (C2 : Nat) (zs : List Int), P < zs.length ∧ zs.length ≤ R1.room ∧ Hid (RBlk wx b R1.room R1.first (R.next + 1) (.slice A2 zs.length C2)) ∧ Hid (OwnI wx 0 (.slice A2 zs.length C2) zs.length zs) ∧ Hid (∀ i, i < R1.l.length → zs[(R1.first + i) % R1.room]? = R1.l[i]?) ∧ Hid (Frm b (Value.slice A xs.length C).ownBlock w wx) ∧ Hid (Moved w (Value.slice A xs.length C).ownBlock (Value.slice A2 zs.length C2).ownBlock))
    case first =>
      by_cases hq : xs.length < P + 1
      · have hb : decide ((xs.length : Int) < (P : Int) + 1) = true := decide_eq_true (by omega)
        have hq2 : (xs.length : Int) < (P : Int) + 1 := by omega
        obtain ⟨m, hm⟩ : ∃ m : Nat, D = (m : Int) := ⟨P + 1 - xs.length, by have := HD.out; omega⟩
        have hm0 : 0 < m := by have := HD.out; omega
        have hmm : xs.length + m = P + 1 := by have := HD.out; omega
        subst hm
        have HM0 := Lib.hid hm0
        have HMM := Lib.hid (show xs.length + m ≤ 100000 by omega)
        have HME := Lib.hid hmm
        have HPL := Lib.hid hP
        have HYL := Lib.hid (show ys.length = xs.length from HYS.out)
        clear hm0 hmm hq hP hle h0
        go_wp2_with (first
          | ((with_reducible refine wpList_append_zeros rfl (.tmp 51) (.tmp 52) rfl A xs.length C rfl ys HO4.out m rfl HM0.out HMM.out ?_); intro A2 C2 w5 HO5 HG5 HM5; have HB5 := Lib.hid (HB4.out.keep (HG5.out.block b HB4.out.lt (fun e => absurd rfl (HAP.out b e.symm)))); obtain ⟨d0, d1, d2, d3⟩ := HB5.out.cells; have g3 := HB5.out.frozen 3)
          | fail)
        go_meet
        have hzl : (ys ++ List.replicate m 0).length = xs.length + m := by rw [List.length_append, List.length_replicate, HYL.out]
        have hbl := HB4.out.lt
        refine ⟨rfl, rfl, rfl, A2, C2, ys ++ List.replicate m 0, ?_, ?_, Lib.hid ?_, Lib.hid ?_, Lib.hid ?_, Lib.hid ?_, Lib.hid ?_⟩
        · rw [hzl]; have := HME.out; omega
        · rw [hzl]; have := HME.out; have := HPL.out; omega
        · rw [hzl]; exact HB5.out.setSlots _
        · rw [hzl]
          refine HO5.out.keep (fun g hg => Below.heap_setCell _ _ _ g ?_)
          show g ≠ b
          rcases HM5.out with e | e
          · exact HAP.out g (by rw [← e]; exact hg)
          · have := e g hg; omega
        · intro i hi
          have e := HSP.out i hi
          rw [List.getElem?_eq_getElem hi] at e
          obtain ⟨h1, _⟩ := List.getElem?_eq_some_iff.1 e
          rw [List.getElem?_append_left h1]
          exact HSP.out i hi
        · exact (HF4.out.trans (Frm.grown HG5.out)).trans (Frm.setIn _ _ _ _ _)
        · rw [hzl]
          exact HM5.out.imp id (fun h k hk => Nat.le_trans HF4.out.size (h k hk))
      · have hb : decide ((xs.length : Int) < (P : Int) + 1) = false := decide_eq_false (by omega)
        have hq2 : ¬ (xs.length : Int) < (P : Int) + 1 := by omega
        have HYL := Lib.hid (show ys.length = xs.length from HYS.out)
        go_wp2_with fail
        go_meet
        refine ⟨rfl, rfl, rfl, A, C, ys, by rw [HYL.out]; omega, by rw [HYL.out]; exact hle, ?_, ?_, HSP, HF4, Lib.hid ?_⟩
        · rw [HYL.out]; exact HB4
        · rw [HYL.out]; exact HO4
        · rw [HYL.out]; exact .inl rfl
    case rest =>
      obtain ⟨rfl, rfl, rfl, A2, C2, zs, hPz, hzr, HB6, HO6, HS6, HF6, HM6⟩ := hcut
      clear c0 c1 c2 c3 f3 HB4 HO4 HF4
      obtain ⟨g, eA, _, _, _, hfz, _⟩ := HO6.out.at_ _ hPz
      subst eA
      obtain ⟨ncap, hnc⟩ : ∃ q, q = R.next := ⟨_, rfl⟩
      have CS := Lib.hid (slot_any R.next 0 C2 zs.length _ zs hr1 (by omega) hr2 (by rw [← HP2.out]; exact hPz) wc HB6.out HO6.out (by omega))
      rw [← HP2.out] at CS
      have HFZ := Lib.hid hfz
      have HS := Lib.hid (RB.push (v := v) hl1 (by rw [HN1.out]; exact HB6.out) HO6.out hzr (by rw [HPP.out]; exact hPz) HS6.out)
      rw [HPP.out] at HS
      clear hfz hPz hzr h0 hP hle hnc
      go_wp2_with (first
        | (go_at_call 33; (with_reducible refine (CS.out).mono ?_); rintro e w1 ⟨⟨g2, eg, rfl⟩, q, rfl⟩; have HE := Lib.hid eg; clear eg; obtain rfl : g = g2 := (by have := HE.out; simpa using this); have hfz := HFZ.out)
        | fail)
      go_ret
      refine ⟨rfl, Lib.hid ⟨some ⟨g, 0, none⟩, C2, zs.set P v, ?_, ?_, (HF6.out.then_ HM6.out (Frm.setSlot b g P wc _)).drewN q⟩⟩
      · rw [HPV.out]; exact HS.out.drewN q
      · rw [List.length_set]; exact HM6.out
end Go.Proofs.Ytjkobejhbgjhlaa
