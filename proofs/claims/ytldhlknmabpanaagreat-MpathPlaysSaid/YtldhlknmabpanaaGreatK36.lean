/-
  Own text: the document's Flush, walked. (Written by gen_mrh.py.)
-/
import Derived.Test.YtldhlknmabpanaaGreatK35
import Derived.Test.YtldhlknmabpanaaGreatK31
namespace Go.Proofs.YtldhlknmabpanaaGreat.Mp
open Go.RowKit

/-- How many wait by the document, read off its box. -/
def dlen (b : Nat) (w : World) : Nat := match w.cell? ⟨b, 161, none⟩ with
  | some (.slice _ n _) => n
  | _ => 0
theorem DB.dlen {w : World} {b : Nat} {t : Sd} {A : Option Addr} {C : Nat} (h : DB w b t A C) : Mp.dlen b w = t.q.l.length := by
  unfold Mp.dlen
  rw [h.cells.2.1]
theorem step_load_lies {w : World} {ops : Array Oper} {op : Oper} {a : Act} {K : Act → World → Prop} {Q : Exit → Act → World → Prop} {E : Prop} (hgd : op.guard = none) (ty : TypeId) (x : Operand) (ho : op.op = .load ty x)
    (g o : Nat) (hx : a.eval x = .pointer (some ⟨g, o, none⟩)) (cs : Array Value) (hg : Lies w g o cs) (d : TypeDesc) (hu : Tryz.prog.underlying ty = some d) (hd : d.isRow = true) (hi : (Tryz.prog.info? ty).map (·.size) = some cs.size)
    (h : K (a.put op.dst (.agg cs)) w) : if Region.wanted op (yielded ops a.tmps) = true then Oper.wp Tryz.prog op a w K Q else E := by
  have hw : Region.wanted op (yielded ops a.tmps) = true := by simp [Region.wanted, hgd]
  rw [if_pos hw]
  refine wp_load_mid ty x ho g o hx cs.toList d hg.range hu hd (by rw [hi]; simp) ?_
  simpa using h
theorem sends_more (d : Dg) : ∀ (l : List Nat) (s : Sd) (i : Nat), s.sends d (l ++ [i]) = ((s.sends d l).1 ++ [(s.sends d l).2.one i d], (s.sends d l).2.sent i)
  | [], _, _ => rfl
  | a :: t, s, i => by
    show (s.one a d :: ((s.sent a).sends d (t ++ [i])).1, ((s.sent a).sends d (t ++ [i])).2) = _
    rw [sends_more d t]
    rfl
set_option maxRecDepth 100000 in
set_option maxHeartbeats 8000000 in
theorem rflush15_any (t : Sd) (A : Option Addr) (C k : Nat) (hf : t.fit k) (hk : k ≤ 1000000) (w : World) (hl : DL w A t.q.l) (hdl : ∀ x ∈ t.q.l, x.v.dl ≤ 1200) (hcap : t.q.l.length ≤ C) :
    Calls Tryz.prog 36 #[.agg (dsa t A C)] w fun e w' => ∃ A' C' A1 C1, e = .returned (.tuple #[.agg (dsa t.flush.2 A' C'), .slice A1 t.flush.1.length C1]) ∧ Hid (DRw w' w.heap.size A1 C1 (t.flush.1.map On.d)) ∧ Hid (DL w A' t.flush.2.q.l ∧ A'.map Addr.block = A.map Addr.block ∧ t.flush.2.q.l.length ≤ C') ∧ Hid (Below w.heap.size w w') := by
  obtain ⟨W, hW⟩ : ∃ W, W = (w.alloc (.cells (dsa t A C) 40)).alloc (.cells (dsa Sdz none 0) 40) := ⟨_, rfl⟩
  obtain ⟨hb, hd, hz⟩ := two_d w t A C hW
  have hs : W.heap.size = w.heap.size + 2 := by rw [hW]; simp
  have zz := zeroD
  obtain ⟨V, hV⟩ : ∃ V, V = dsa t A C := ⟨_, rfl⟩
  obtain ⟨Z, hZ⟩ : ∃ Z, Z = dsa Sdz none 0 := ⟨_, rfl⟩
  have HZS : Hid (∀ t A C, (dsa t A C).size = Z.size) := Lib.hid (fun t A C => by rw [hZ, dsa_size, dsa_size])
  have HT0 : Hid (Tw w W t A C Z none 0 []) := Lib.hid ⟨hd, by rw [hZ]; exact hz, DRw.start _ _, hb, by omega⟩
  obtain ⟨F1, hF1⟩ : ∃ F1, F1 = t.flush.1 := ⟨_, rfl⟩
  obtain ⟨F2, hF2⟩ : ∃ F2, F2 = t.flush.2 := ⟨_, rfl⟩
  have HF12 : Hid (F1 = [] ++ (flushL t.q.l t).1 ∧ F2 = (flushL t.q.l t).2) := Lib.hid ⟨hF1, hF2⟩
  have HN : Hid (t.q.l.length ≤ 256) := Lib.hid (Nat.le_trans hf.q.len hf.q.hi)
  have HK := Lib.hid hk
  have HF := Lib.hid hf
  have HL := Lib.hid hl
  have HDL := Lib.hid hdl
  have HCP := Lib.hid hcap
  have IG := Lib.hid infoGZ
  have HZG : Hid (zDg.cells.size = 11) := Lib.hid rfl
  rw [← hF1, ← hF2]
  rw [← hZ] at zz hW
  rw [← hV] at hW ⊢
  clear hb hd hz hs hV hZ hf hk hl hdl hcap hF1 hF2
  go_enter Tryz.func36, Tryz.ntmps36
  go_upto_region 1 with fail
  rw [← hW]
  clear hW
  go_wp2
  go_loopw [4] (fun s4 wr => ∃ (l : List On) (A1 : Option Addr) (C1 : Nat) (sn : Sd) (A' : Option Addr) (C' : Nat) (j : Nat), s4 = .slice A1 l.length C1 ∧ Hid (Tw w wr sn A' C' Z A1 C1 (l.map On.d)) ∧ Hid (DL w A' sn.q.l ∧ A'.map Addr.block = A.map Addr.block ∧ sn.q.l.length ≤ C') ∧ Hid (sn.fit (k + 3 * j)) ∧ Hid (j + sn.q.l.length = t.q.l.length) ∧ Hid (l.length ≤ 2 * j) ∧ Hid (F1 = l ++ (flushL sn.q.l sn).1 ∧ F2 = (flushL sn.q.l sn).2) ∧ Hid (∀ x ∈ sn.q.l, x.v.dl ≤ 1200)) (fun _ wr => Mp.dlen w.heap.size wr)
  case atStart => exact ⟨[], none, 0, t, A, C, 0, rfl, HT0, Lib.hid ⟨HL.out, rfl, HCP.out⟩, HF, Lib.hid (Nat.zero_add _), Lib.hid (by simp), HF12, HDL⟩
  case round =>
    obtain ⟨l, A1, C1, sn, A', C', j, rfl, HTW, HLA, HFN, HJ, HLN, HE, HDX⟩ := hrel
    clear HT0 HF HF12 HL HDL HCP
    have HQL := Lib.hid HTW.out.db.dlen
    obtain ⟨m, hm⟩ : ∃ m, m = l.length := ⟨_, rfl⟩
    have HM := Lib.hid hm
    rw [← hm]
    clear hm
    have c161 := HTW.out.db.cells.2.1
    match hq : sn.q.l with
    | [] =>
      have HE2 : Hid (F1 = l ∧ F2 = sn) := Lib.hid (by have := HE.out; rw [hq] at this; exact ⟨by rw [this.1]; simp [flushL], this.2⟩)
      rw [hq] at c161
      have c161 : wr.cell? ⟨w.heap.size, 161, none⟩ = some (.slice A' 0 C') := c161
      clear hq
      go_wp2_with (first
        | (with_reducible refine wpList_load_lies rfl 40 (.tmp 1) rfl w.heap.size 0 rfl (dsa sn A' C') HTW.out.db.whole _ Tryz.underlying40 rfl (infoD15 _ _ _) ?_)
        | ((with_reducible refine wpList_store_lies rfl 40 (.tmp 2) (.tmp 86) rfl (w.heap.size + 1) 0 rfl (dsa sn A' C') rfl Z HTW.out.z (HZS.out _ _ _) (infoD15 _ _ _) (dsa_one _ _ _) ?_); intro w5 N1 N2 N3)
        | fail)
      refine bodyPost_ret (v := .tuple #[.agg (dsa sn A' C'), .slice A1 m C1]) (Mq.results_cell1 (p := 2) (u := 3) rfl _ w5 (w.heap.size + 1) _ _ rfl rfl (Lies.loadVar N1.out 40 _ Tryz.underlying40 rfl (infoD15 _ _ _))) rfl ?_
      refine ⟨A', C', A1, C1, by rw [HE2.out.1, HE2.out.2, HM.out], Lib.hid ?_, by rw [HE2.out.2]; exact HLA, Lib.hid (N2.out.bel HTW.out.bel HTW.out.bel.size (Nat.le_succ _))⟩
      rw [HE2.out.1]
      exact ownsRow_low (DRw.keep HTW.out.own (fun k h1 h2 => N2.out.block k h2 (by omega))) (by omega)
    | x :: tl =>
      obtain ⟨g, off, rfl, hg, hit⟩ := (show DL w A' (x :: tl) by rw [← hq]; exact HLA.out.1).first
      have hxl : x.v.dl ≤ 1200 := HDX.out x (by rw [hq]; exact List.mem_cons_self)
      have HXL := Lib.hid hxl
      have HNL : Hid (sn.q.l.length ≤ 256 ∧ j < 256 ∧ sn.q.l.length = tl.length + 1) := Lib.hid (by
        have h1 := HJ.out
        have h2 := HN.out
        have h3 : sn.q.l.length = tl.length + 1 := by rw [hq]; rfl
        omega)
      have HEQ : Hid (F1 = l ++ (flushL (x :: tl) sn).1 ∧ F2 = (flushL (x :: tl) sn).2) := Lib.hid (by have := HE.out; rw [hq] at this; exact this)
      obtain ⟨n, hn⟩ : ∃ n, n = tl.length + 1 := ⟨_, rfl⟩
      have HNN := Lib.hid hn
      have hn1 : (0 : Int) < (n : Int) := by omega
      rw [HNL.out.2.2, ← hn] at c161
      have HIT := Lib.hid (hit.below HTW.out.bel hg)
      have HCH : Hid (∀ w', Calls Tryz.prog 70 #[.agg (dsa sn (some ⟨g, off, none⟩) C'), .int .i64 x.rank] w' (RChose w' (sn.choose x.rank))) := Lib.hid (fun w' => rchoose_any x.rank sn _ _ _ HFN.out w')
      have HQ := Lib.hid hq
      clear hq hg hit hn hxl HE
      go_upto_region 4 with (first
        | (with_reducible refine wpList_load_lies rfl 130 (.tmp 19) rfl g off rfl (dic x) HIT.out _ Tryz.underlying130 rfl (infoI15 x) ?_)
        | fail)
      obtain ⟨w3, hw3⟩ : ∃ w3, w3 = wr.alloc (.cells (dic x) 130) := ⟨_, rfl⟩
      rw [← hw3]
      have hb3 : Below wr.heap.size wr w3 := by rw [hw3]; exact (Below.refl _ _).alloc (Nat.le_refl _) _
      have HT3 := Lib.hid (HTW.out.below hb3)
      have hx3 : Lies w3 wr.heap.size 0 (dic x) := by rw [hw3]; exact Lies.new wr _ _ (Below.refl _ _)
      have HX3 := Lib.hid hx3
      have HX3T : Hid (w3.heap[wr.heap.size]? = some (.cells (dic x) 130 (0, 0))) := Lib.hid (by rw [hw3]; exact Go.Deep.blk_alloc_new wr _)
      have HG5 : Hid (w.heap.size + 2 ≤ wr.heap.size) := Lib.hid HTW.out.hs
      have c0 : w3.cell? ⟨wr.heap.size, 0, none⟩ = some (.int .i64 x.rank) := hx3.cell 0 (by decide : 0 < 12)
      have c11 : w3.cell? ⟨wr.heap.size, 11, none⟩ = some (.slice x.v.da x.v.dl x.v.dc) := hx3.cell 11 (by decide : 11 < 12)
      obtain ⟨chl, hchl⟩ : ∃ chl, chl = sn.choose x.rank := ⟨_, rfl⟩
      rw [← hchl] at HCH
      obtain ⟨n0, hn0⟩ : ∃ n0, n0 = chl.length := ⟨_, rfl⟩
      obtain ⟨mn, hmn⟩ : ∃ mn, mn = sn.many x.rank (33 + (x.v.dl : Int)) := ⟨_, rfl⟩
      obtain ⟨nd, hnd⟩ : ∃ nd, nd = sn.need x := ⟨_, rfl⟩
      obtain ⟨zq, hzq⟩ : ∃ zq : Int, zq = 33 + (x.v.dl : Int) := ⟨_, rfl⟩
      have hz1 : 33 ≤ zq ∧ zq ≤ 2000 := by have := HXL.out; omega
      have hw33 : IntKind.i64.wrap (33 + (x.v.dl : Int)) = zq := by rw [IntKind.wrap_i64]; omega
      have HMN := Lib.hid hmn
      have HND := Lib.hid hnd
      have HMC : Hid ((n0 = if sn.both x.rank then 2 else 1) ∧ mn = if sn.both x.rank ∧ sn.bk.may (2 * zq) = true then 2 else 1) := Lib.hid ⟨by rw [hn0, hchl]; unfold Sd.choose; split <;> rfl, by rw [hmn, hzq]; rfl⟩
      have HNDE : Hid (nd = (mn : Int) * zq) := Lib.hid (by rw [hnd, hmn, hzq]; rfl)
      have HMAY : Hid (sn.bk.may (2 * zq) = decide (2 * zq ≤ sn.bk.he)) := Lib.hid (by unfold Bk.may; congr 1; exact propext ⟨fun h => h.2, fun h => ⟨by omega, h⟩⟩)
      have HV : Hid (∀ v : Nat, (v = n0 ∨ v = mn) → (1 ≤ v ∧ v ≤ 2) ∧ (1 < v → sn.bk.he < zq * (v : Int) → v - 1 = mn) ∧ (¬ (1 < v ∧ sn.bk.he < zq * (v : Int)) → v = mn)) := Lib.hid (fun v hv => by
        have h1 := HMC.out.1
        have h2 := HMC.out.2
        rw [HMAY.out] at h2
        by_cases hb : sn.both x.rank
        · rw [if_pos hb] at h1
          by_cases hm : 2 * zq ≤ sn.bk.he
          · rw [if_pos ⟨hb, decide_eq_true hm⟩] at h2
            obtain rfl : v = 2 := by omega
            exact ⟨by omega, fun _ h => by omega, fun _ => by omega⟩
          · rw [if_neg (fun h => hm (of_decide_eq_true h.2))] at h2
            rcases (by omega : v = 1 ∨ v = 2) with rfl | rfl
            · exact ⟨by omega, fun h => by omega, fun _ => by omega⟩
            · exact ⟨by omega, fun _ _ => by omega, fun h => (h ⟨by omega, by omega⟩).elim⟩
        · rw [if_neg hb] at h1
          rw [if_neg (fun h => hb h.1)] at h2
          obtain rfl : v = 1 := by omega
          exact ⟨by omega, fun h => by omega, fun _ => by omega⟩)
      have HGL : Hid (sn.goers x = chl.take mn ∧ (sn.goers x).length = mn) := Lib.hid ⟨by rw [hchl, hmn]; rfl, by rw [hmn]; exact sn.goers_length x⟩
      have HM2 : Hid (1 ≤ mn ∧ mn ≤ 2) := Lib.hid (by rw [hmn]; exact sn.many_lo _ _)
      have hf1 := HFN.out.bk
      obtain ⟨sP, hsP⟩ : ∃ sP, sP = sn.paid nd := ⟨_, rfl⟩
      have HSP := Lib.hid hsP
      have hnd0 : 0 ≤ nd ∧ nd ≤ 10000 := by
        have h1 := HNDE.out
        have h2 := HM2.out
        rcases (by omega : mn = 1 ∨ mn = 2) with e | e <;> rw [e] at h1 <;> omega
      have CTK : Hid (∀ w', Calls Tryz.prog 65 #[.agg (dsa sn (some ⟨g, off, none⟩) C'), .int .i64 nd] w' fun e w'' => e = .returned (.tuple #[.agg (dsa sP (some ⟨g, off, none⟩) C'), .bool (sn.bk.may nd)]) ∧ Below w'.heap.size w' w'') := Lib.hid (fun w' => by rw [hsP]; exact rtake15_any nd hnd0.1 sn _ _ _ hf1 (by have := HK.out; have := HNL.out; omega) w')
      have hwm : IntKind.i64.wrap (zq * (mn : Int)) = nd := by rw [HNDE.out, Int.mul_comm, IntKind.wrap_i64]; have := HNDE.out; omega
      have HWM := Lib.hid hwm
      have HZ1 := Lib.hid hz1
      have HCHL := Lib.hid hchl
      have HN0 := Lib.hid hn0
      unfold RChose at HCH
      rw [← hn0] at HCH
      clear hw3 hb3 hx3 hchl hn0 hmn hnd hsP hf1 hnd0 hwm hz1 c161 HIT HTW hzq
      generalize wr.heap.size = g5 at *
      obtain ⟨dl, hdl⟩ : ∃ dl, dl = x.v.dl := ⟨_, rfl⟩
      rw [← hdl] at hw33 c11
      clear hdl
      go_upto_region 6 with (first
        | (with_reducible refine wpList_load_lies rfl 40 (.tmp 1) rfl w.heap.size 0 rfl (dsa sn (some ⟨g, off, none⟩) C') HT3.out.db.whole _ Tryz.underlying40 rfl (infoD15 _ _ _) ?_)
        | (go_at_call 70; (with_reducible refine (HCH.out _).mono ?_); rintro e w4 ⟨g2, C2, rfl, HG4, HB4⟩)
        | fail)
      have HT4 := Lib.hid (HT3.out.below HB4.out)
      have HX4 : Hid (w4.heap[g5]? = some (.cells (dic x) 130 (0, 0))) := Lib.hid ((HB4.out.block g5 HX3.out.lt).trans HX3T.out)
      have HB34 : Hid (g5 < w3.heap.size) := Lib.hid HX3.out.lt
      have HG5W : Hid (g5 < w4.heap.size) := Lib.hid (Nat.lt_of_lt_of_le HX3.out.lt HB4.out.size)
      have HG2 : Hid (g5 < g2 ∧ g2 < w4.heap.size ∨ n0 = 0) := Lib.hid (by
        by_cases h0 : n0 = 0
        · exact .inr h0
        · have hlt : 0 < chl.length := by have := HN0.out; omega
          have h1 := HG4.out.1 0 chl[0] (List.getElem?_eq_getElem hlt)
          have h2 := HX3.out.lt
          have h3 := HG4.out.2
          exact .inl ⟨by omega, World.block_lt_of_cell? w4 _ h1⟩)
      clear HT3 HX3 HX3T HB4 HCH c0 c11 hw33 HB34
      go_upto_region 7 with fail
      go_wp2
      go_loopw [8] (fun s8 wx => ∃ v : Nat, s8 = .int .i64 (v : Int) ∧ Hid (v = n0 ∨ v = mn) ∧ Hid (w4 = wx)) (fun s8 _ => (intOf s8).toNat)
      case atStart => exact ⟨n0, rfl, Lib.hid (.inl rfl), Lib.hid rfl⟩
      case round =>
        obtain ⟨v, rfl, HVC, HWX⟩ := hrel
        obtain rfl := HWX.out
        have hv := HV.out v HVC.out
        have hz1 := HZ1.out
        have hwv : IntKind.i64.wrap (zq * (v : Int)) = zq * (v : Int) := by
          rw [IntKind.wrap_i64]
          rcases (by omega : v = 1 ∨ v = 2) with e | e <;> rw [e] <;> omega
        have c158 : w4.cell? ⟨w.heap.size, 158, none⟩ = some (.int .i64 sn.bk.he) := HT4.out.db.cells.1.2.2.1
        by_cases hc : 1 < v ∧ sn.bk.he < zq * (v : Int)
        · have h1 : (1 : Int) < (v : Int) := by omega
          have h2 := hc.2
          have HVN : Hid (v - 1 = n0 ∨ v - 1 = mn) := Lib.hid (.inr (hv.2.1 hc.1 hc.2))
          have HV1 := Lib.hid hv.1.1
          have hv2 : (v : Int) ≤ 2 := by have := hv.1.2; omega
          clear hv hc hz1
          go_wp2
          go_roundw
          case rel => exact ⟨v - 1, by have := HV1.out; simp; omega, HVN, Lib.hid (by trivial)⟩
          case measure => simp [intOf] <;> omega
        · have hvm : v = mn := hv.2.2 hc
          have hcc : (v : Int) ≤ 1 ∨ ((1 : Int) < (v : Int) ∧ ¬ sn.bk.he < zq * (v : Int)) := by omega
          clear HVC HV hv hz1 hc
          subst hvm
          have hwm := HWM.out
          have HN2 : Hid (0 < v) := Lib.hid HM2.out.1
          have HV0 : Hid (1 ≤ n0) := Lib.hid (by rw [HMC.out.1]; split <;> omega)
          rw [hwm] at hwv
          rw [← hwv] at hcc
          clear hwv
          rcases hcc with h1 | ⟨h1, h2⟩
          all_goals
            go_upto_region 10 with (first
              | (with_reducible refine wpList_load_lies rfl 40 (.tmp 1) rfl w.heap.size 0 rfl (dsa sn (some ⟨g, off, none⟩) C') HT4.out.db.whole _ Tryz.underlying40 rfl (infoD15 _ _ _) ?_)
              | (go_at_call 65; (with_reducible refine (CTK.out _).mono ?_); rintro e w5 ⟨rfl, hb5⟩; have HT5 := Lib.hid (HT4.out.below hb5); have HB5 := Lib.hid hb5; clear hb5)
              | ((with_reducible refine wpList_store_lies rfl 40 (.tmp 9) (.tmp 51) rfl w5.heap.size 0 rfl (dsa sP (some ⟨g, off, none⟩) C') rfl Z (Lies.new w5 Z 40 (Below.refl _ _)) (HZS.out _ _ _) (infoD15 _ _ _) (dsa_one _ _ _) ?_); intro w6 N1 N2 N3)
              | fail)
            have hb56 : Below w5.heap.size w5 w6 := N2.out.bel ((Below.refl w5.heap.size w5).alloc (Nat.le_refl _) (.cells Z 40)) (by simp) (Nat.le_refl _)
            have HT6 := Lib.hid (HT5.out.below hb56)
            have HB6 := Lib.hid (HB5.out.trans (hb56.mono HB5.out.size))
            have HL9 := N1
            have HG9 : Hid (w4.heap.size ≤ w5.heap.size) := Lib.hid HB5.out.size
            clear N1 N2 N3 HT5 HB5 hb56 HT4 c158 CTK
            generalize w5.heap.size = g9 at *
            have HHE : Hid (sn.he ≤ 2000000) := Lib.hid (by have := HFN.out.he; have := HK.out; have := HNL.out; omega)
            obtain ⟨my, hmy⟩ : ∃ my, my = sn.bk.may nd := ⟨_, rfl⟩
            have HMY := Lib.hid hmy
            rw [← hmy]
            clear hmy
            cases my
            · have c166 : w6.cell? ⟨w.heap.size, 166, none⟩ = some (.int .i64 (sn.he : Int)) := HT6.out.db.cells.2.2.2.2.2.2
              have f166 := HT6.out.db.frozen 166
              have hwh : IntKind.i64.wrap ((sn.he : Int) + 1) = (sn.he : Int) + 1 := by rw [IntKind.wrap_i64]; have := HHE.out; omega
              have HF0 : Hid (F1 = l ∧ F2 = sn.held) := Lib.hid (by
                have := HEQ.out
                rw [flushL, ← HND.out, if_neg (by rw [← HMY.out]; decide)] at this
                exact ⟨by rw [this.1, List.append_nil], this.2⟩)
              go_upto_region 12 with fail
              have HTH : Hid (Tw w (w6.setCell ⟨w.heap.size, 166, none⟩ (.int .i64 ((sn.he : Int) + 1))) sn.held (some ⟨g, off, none⟩) C' Z A1 C1 (l.map On.d)) := Lib.hid (HT6.out.put (o := 156) (n := 11) ((Prt.refl _ _ _ _).set 10 (by decide) _) (HT6.out.db.tail 10 (by decide) (.int .i64 ((sn.he : Int) + 1)) rfl rfl))
              clear c166 f166 HT6 HL9 hwh
              obtain ⟨sH, hsH⟩ : ∃ sH, sH = sn.held := ⟨_, rfl⟩
              rw [← hsH] at HTH
              have HSH := Lib.hid hsH
              clear hsH
              generalize w6.setCell ⟨w.heap.size, 166, none⟩ (.int .i64 ((sn.he : Int) + 1)) = w7 at *
              go_wp2_with (first
                | (with_reducible refine wpList_load_lies rfl 40 (.tmp 1) rfl w.heap.size 0 rfl (dsa sH (some ⟨g, off, none⟩) C') HTH.out.db.whole _ Tryz.underlying40 rfl (infoD15 _ _ _) ?_)
                | ((with_reducible refine wpList_store_lies rfl 40 (.tmp 2) (.tmp 59) rfl (w.heap.size + 1) 0 rfl (dsa sH (some ⟨g, off, none⟩) C') rfl Z HTH.out.z (HZS.out _ _ _) (infoD15 _ _ _) (dsa_one _ _ _) ?_); intro w8 N1 N2 N3)
                | fail)
              refine bodyPost_ret (v := .tuple #[.agg (dsa sH (some ⟨g, off, none⟩) C'), .slice A1 m C1]) (Mq.results_cell1 (p := 2) (u := 3) rfl _ w8 (w.heap.size + 1) _ _ rfl rfl (Lies.loadVar N1.out 40 _ Tryz.underlying40 rfl (infoD15 _ _ _))) rfl ?_
              refine ⟨some ⟨g, off, none⟩, C', A1, C1, by rw [HF0.out.1, HF0.out.2, HSH.out, HM.out], Lib.hid ?_, Lib.hid ⟨by rw [HF0.out.2]; exact HLA.out.1, HLA.out.2.1, by rw [HF0.out.2]; exact HLA.out.2.2⟩, Lib.hid (N2.out.bel HTH.out.bel HTH.out.bel.size (Nat.le_succ _))⟩
              rw [HF0.out.1]
              exact ownsRow_low (DRw.keep HTH.out.own (fun k h1 h2 => N2.out.block k h2 (by omega))) (by omega)
            · have HDB6 := Lib.hid HT6.out.db.whole
              go_upto_region 14 with (first
                | (with_reducible refine wpList_load_lies rfl 40 (.tmp 9) rfl g9 0 rfl (dsa sP (some ⟨g, off, none⟩) C') HL9.out _ Tryz.underlying40 rfl (infoD15 _ _ _) ?_)
                | ((with_reducible refine wpList_store_lies rfl 40 (.tmp 1) (.tmp 61) rfl w.heap.size 0 rfl (dsa sP (some ⟨g, off, none⟩) C') rfl (dsa sn (some ⟨g, off, none⟩) C') HDB6.out ((HZS.out _ _ _).trans (HZS.out _ _ _).symm) (infoD15 _ _ _) (dsa_one _ _ _) ?_); intro w7 N1 N2 N3)
                | fail)
              have HT7 := Lib.hid (HT6.out.put N2.out (DB.of N1.out))
              have HB7 : Hid (∀ k, k < w4.heap.size → k ≠ w.heap.size → w7.heap[k]? = w4.heap[k]?) := Lib.hid (fun k h1 h2 => (N2.out.block k (Nat.lt_of_lt_of_le h1 HB6.out.size) h2).trans (HB6.out.block k h1))
              have HS7 : Hid (w4.heap.size ≤ w7.heap.size) := Lib.hid (Nat.le_trans HB6.out.size N2.out.size)
              clear N1 N2 N3 HT6 HL9 HDB6 HB6
              have c161 : w7.cell? ⟨w.heap.size, 161, none⟩ = some (.slice (some ⟨g, off, none⟩) n C') := by
                have := HT7.out.db.cells.2.1
                have e : sP.q.l.length = n := by rw [HSP.out, HNN.out]; show sn.q.l.length = _; rw [HNL.out.2.2]
                rw [e] at this
                exact this
              have f161 := HT7.out.db.frozen 161
              go_upto_region 15 with fail
              obtain ⟨A9, hA9⟩ : ∃ A9 : Option Addr, A9 = if C' = 1 then some ⟨g, off, none⟩ else some ⟨g, off + 12, none⟩ := ⟨_, rfl⟩
              rw [← hA9]
              have hnc : n ≤ C' := by have := HLA.out.2.2; rw [HNL.out.2.2, ← HNN.out] at this; exact this
              have hntl : n - 1 = tl.length := by have := HNN.out; omega
              have hdl9 : DL w A9 tl := by
                by_cases h1 : C' = 1
                · have : tl = [] := List.length_eq_zero_iff.1 (by omega)
                  rw [this]; exact DL.nil _ _
                · rw [hA9, if_neg h1]
                  exact (show DL w (some ⟨g, off, none⟩) (x :: tl) by rw [← HQ.out]; exact HLA.out.1).tail
              have hab : A9.map Addr.block = A.map Addr.block := by
                rw [← HLA.out.2.1, hA9]
                split <;> rfl
              obtain ⟨sR, hsR⟩ : ∃ sR, sR = sP.rest tl := ⟨_, rfl⟩
              have HSR := Lib.hid hsR
              have HTR : Hid (Tw w (w7.setCell ⟨w.heap.size, 161, none⟩ (.slice A9 (n - 1) (C' - 1))) sR A9 (C' - 1) Z A1 C1 (l.map On.d)) := Lib.hid (HT7.out.put (o := 156) (n := 11) ((Prt.refl _ _ _ _).set 5 (by decide) _) (HT7.out.db.tail 5 (by decide) (.slice A9 (n - 1) (C' - 1)) (by rw [hsR, hntl]; rfl) (by rw [hsR]; rfl)))
              have HB8 : Hid (∀ k, k < w4.heap.size → k ≠ w.heap.size → (w7.setCell ⟨w.heap.size, 161, none⟩ (.slice A9 (n - 1) (C' - 1))).heap[k]? = w4.heap[k]?) := Lib.hid (fun k h1 h2 => (Below.heap_setCell w7 ⟨w.heap.size, 161, none⟩ _ k h2).trans (HB7.out k h1 h2))
              have HLA9 : Hid (DL w A9 sR.q.l ∧ A9.map Addr.block = A.map Addr.block ∧ sR.q.l.length ≤ C' - 1) := Lib.hid ⟨by rw [hsR]; exact hdl9, hab, by rw [hsR]; show tl.length ≤ _; omega⟩
              have HSQ : Hid (sR.q.l = tl) := Lib.hid (by rw [hsR]; rfl)
              obtain ⟨gl, hgl⟩ : ∃ gl, gl = sn.goers x := ⟨_, rfl⟩
              have HGI : Hid (∀ i, i < v → ∃ j, gl[i]? = some j ∧ j < 2 ∧ chl[i]? = some j) := Lib.hid (fun i hi => by
                have h1 : i < gl.length := by rw [hgl, HGL.out.2]; exact hi
                obtain ⟨q, hq⟩ : ∃ q, gl[i]? = some q := ⟨_, List.getElem?_eq_getElem h1⟩
                refine ⟨q, hq, sn.goers_lt x q (by rw [← hgl]; exact List.mem_of_getElem? hq), ?_⟩
                rw [hgl, HGL.out.1, List.getElem?_take, if_pos hi] at hq
                exact hq)
              have HGV : Hid (gl.length = v) := Lib.hid (by rw [hgl]; exact HGL.out.2)
              have HFF : Hid (∀ i, i ≤ v → ((sR.sends x.v (gl.take i)).2).fit (k + 3 * j + 1 + i)) := Lib.hid (fun i hi => by
                have h1 := sends_fit x.v (gl.take i) sR (k + 3 * j + 1) (fun q hq => sn.goers_lt x q (by rw [← hgl]; exact List.mem_of_mem_take hq)) (by rw [hsR, HSP.out]; exact Sd.rest_fit (Sd.paid_fit HFN.out nd) (by show sn.q.l = _; exact HQ.out))
                have h2 : (gl.take i).length = i := by rw [List.length_take, HGV.out]; omega
                rw [h2] at h1
                exact h1)
              have HSN9 : Hid (F1 = l ++ ((sR.sends x.v gl).1 ++ (flushL tl (sR.sends x.v gl).2).1) ∧ F2 = (flushL tl (sR.sends x.v gl).2).2) := Lib.hid (by
                have := HEQ.out
                rw [flushL, ← HND.out, if_pos (HMY.out.symm)] at this
                have e : sn.first x tl = sR.sends x.v gl := by rw [hsR, HSP.out, HND.out, hgl]; rfl
                rw [e] at this
                exact this)
              have HG2T : Hid (g5 < g2 ∧ g2 < w4.heap.size ∧ ∃ cur : Array Value, w4.heap[g2]? = some (.cells cur 3 (0, 0))) := Lib.hid (by
                have h0 := HN2.out
                have h1 := HV0.out
                rcases HG2.out with h2 | h2
                · exact ⟨h2.1, h2.2, HG4.out.2.2⟩
                · omega)
              clear hA9 hnc hntl hdl9 hab hsR hgl HT7 HB7 c161 f161
              generalize w7.setCell ⟨w.heap.size, 161, none⟩ (.slice A9 (n - 1) (C' - 1)) = w8 at *
              go_upto_region 16 with fail
              have HK8 : Hid (w8.heap[g5]? = w4.heap[g5]? ∧ w8.heap[g2]? = w4.heap[g2]?) := Lib.hid ⟨HB8.out g5 HG5W.out (by have := HG5.out; omega), HB8.out g2 HG2T.out.2.1 (by have := HG5.out; have := HG2T.out.1; omega)⟩
              clear HB8 HG2
              go_wp2
              go_loopw [4, 11] (fun s4 s11 wr => ∃ (i : Nat) (A2 : Option Addr) (D2 : Nat), i ≤ v ∧ s11 = .int .i64 (i : Int) ∧ s4 = .slice A2 (m + i) D2 ∧ Hid (Tw w wr (sR.sends x.v (gl.take i)).2 A9 (C' - 1) Z A2 D2 ((l ++ (sR.sends x.v (gl.take i)).1).map On.d)) ∧ Hid (wr.heap[g5]? = w4.heap[g5]? ∧ wr.heap[g2]? = w4.heap[g2]?)) (fun _ s11 _ => v - (intOf s11).toNat)
              case atStart => exact ⟨0, A1, C1, Nat.zero_le _, rfl, rfl, by have := HTR; simpa [Sd.sends] using this, HK8⟩
              case round =>
                obtain ⟨i, A2, D2, hi, rfl, rfl, HTI, HKI⟩ := hrel
                clear HTR HK8
                have i0 : (0 : Int) ≤ (i : Int) := by omega
                by_cases hlt : i < v
                · have i1 : (i : Int) < (v : Int) := by omega
                  obtain ⟨q, hq, hq2, hqc⟩ := HGI.out i hlt
                  have i2 : (i : Int) < (n0 : Int) := by have := (List.getElem?_eq_some_iff.1 hqc).1; have := HN0.out; omega
                  have i3 : (i : Int) < 2 := by have := HM2.out.2; omega
                  have HI : Hid (i + 1 ≤ v ∧ v ≤ 2) := Lib.hid ⟨hlt, HM2.out.2⟩
                  have HDM : Hid (v - (i + 1) < v - i) := Lib.hid (by omega)
                  have cq : wr.cell? ⟨g2, i, none⟩ = some (.int .i64 (q : Int)) := (World.cell?_of_block (w := w4) (a := ⟨g2, i, none⟩) HKI.out.2).trans (HG4.out.1 i q hqc)
                  have hlx : Lies wr g5 1 (Mq.dcells x.v) := by
                    have hx : Lies wr g5 0 (dic x) := ⟨_, _, HKI.out.1.trans HX4.out, Nat.le_refl _, fun j _ => by rw [Nat.zero_add]⟩
                    have := hx.sub 1 (Mq.dcells x.v) (by decide : 1 + 11 ≤ 12) (fun j hj => by
                      have hj : j < 11 := hj
                      rcases (by omega : j = 0 ∨ j = 1 ∨ j = 2 ∨ j = 3 ∨ j = 4 ∨ j = 5 ∨ j = 6 ∨ j = 7 ∨ j = 8 ∨ j = 9 ∨ j = 10) with rfl | rfl | rfl | rfl | rfl | rfl | rfl | rfl | rfl | rfl | rfl <;> rfl)
                    exact this
                  have hnx := (HFF.out i hi).wy q hq2
                  have htk : gl.take (i + 1) = gl.take i ++ [q] := take_more hq
                  have hsm := sends_more x.v (gl.take i) sR q
                  rw [← htk] at hsm
                  have HLL : Hid ((l ++ (sR.sends x.v (gl.take i)).1).length = l.length + i) := Lib.hid (by rw [List.length_append, sends_length, List.length_take, HGV.out]; omega)
                  obtain ⟨lI, hlI⟩ : ∃ lI, lI = (sR.sends x.v (gl.take i)).1 := ⟨_, rfl⟩
                  obtain ⟨sI, hsI⟩ : ∃ sI, sI = (sR.sends x.v (gl.take i)).2 := ⟨_, rfl⟩
                  rw [← hlI, ← hsI] at hsm HTI
                  rw [← hlI] at HLL
                  rw [← hsI] at hnx
                  obtain ⟨dd, hdd⟩ : ∃ dd, dd = mark x.v (sI.wy q).nx q sI.now := ⟨_, rfl⟩
                  obtain ⟨sS, hsS⟩ : ∃ sS, sS = sI.sent q := ⟨_, rfl⟩
                  have HNX : Hid ((sR.sends x.v (gl.take (i + 1))).2 = sS ∧ (l ++ (sR.sends x.v (gl.take (i + 1))).1).map On.d = (l ++ lI).map On.d ++ [dd]) := Lib.hid ⟨by rw [hsm, hsS], by rw [hsm, ← List.append_assoc, List.map_append, hdd]; rfl⟩
                  obtain ⟨VI, hVI⟩ : ∃ VI, VI = dsa sI A9 (C' - 1) := ⟨_, rfl⟩
                  obtain ⟨VS, hVS⟩ : ∃ VS, VS = dsa sS A9 (C' - 1) := ⟨_, rfl⟩
                  have CSM : Hid (∀ w', Calls Tryz.prog 66 #[.agg VI, .int .i64 (q : Int), x.v.val] w' fun e w'' => e = .returned (.tuple #[.agg VS, dd.val]) ∧ Below w'.heap.size w' w'') := Lib.hid (fun w' => by rw [hVI, hVS, hsS, hdd]; exact rstamp15_any q hq2 x.v sI A9 (C' - 1) hnx.nx w')
                  have IVI : Hid ((Tryz.prog.info? 40).map (·.size) = some VI.size) := Lib.hid (by rw [hVI]; exact infoD15 _ _ _)
                  have IVS : Hid ((Tryz.prog.info? 40).map (·.size) = some VS.size) := Lib.hid (by rw [hVS]; exact infoD15 _ _ _)
                  have SVS : Hid (VS.size = VI.size) := Lib.hid (by rw [hVS, hVI, dsa_size, dsa_size])
                  have OVS : Hid (VS.all (·.oneCell') = true) := Lib.hid (by rw [hVS]; exact dsa_one _ _ _)
                  have HVS := Lib.hid hVS
                  obtain ⟨w9, hw9⟩ : ∃ w9, w9 = wr.alloc (.cells (Mq.dcells Mq.nil) 50) := ⟨_, rfl⟩
                  have hb9 : Below wr.heap.size wr w9 := by rw [hw9]; exact (Below.refl _ _).alloc (Nat.le_refl _) _
                  have HB9 := Lib.hid hb9
                  have HS9 : Hid (Lies w9 w.heap.size 0 VI ∧ w9.cell? ⟨g2, i, none⟩ = some (.int .i64 (q : Int)) ∧ Lies w9 g5 1 (Mq.dcells x.v)) := Lib.hid ⟨by rw [hVI]; exact (HTI.out.below hb9).db.whole, (hb9.cell (p := ⟨g2, i, none⟩) (World.block_lt_of_cell? wr _ cq)).trans cq, hlx.below hb9 hlx.lt⟩
                  have HL12 : Hid (Lies w9 wr.heap.size 0 (Mq.dcells Mq.nil)) := Lib.hid (by rw [hw9]; exact Lies.new wr _ _ (Below.refl _ _))
                  have HWR : Hid (w.heap.size + 2 ≤ wr.heap.size ∧ g2 < wr.heap.size ∧ g5 < wr.heap.size) := Lib.hid ⟨HTI.out.hs, World.block_lt_of_cell? wr _ cq, hlx.lt⟩
                  clear hlt hi hq hqc hq2 hlx hnx htk hsm hlI hsI hdd hsS hVI hVS hb9
                  go_upto_region 19 with fail
                  rw [← hw9]
                  clear hw9 cq
                  refine wp_region_held_drew (S := fun w' => w'.cell? ⟨g2, i, none⟩ = some (.int .i64 (q : Int)) ∧ Lies w' g5 1 (Mq.dcells x.v)) (by kernel_rfl) HS9.out.2 (fun hHeld => ?_)
                  refine taken_at (i := 1) (v := .slice (some ⟨g2, 0, none⟩) n0 C2) (some 73) rfl rfl (by kernel_rfl) (by kernel_rfl) (by kernel_rfl) (fun _ _ _ h => h) (Or.inl ⟨rfl, fun _ _ => rfl⟩) hHeld ?_
                  try simp only [Act.put, List.setIfInBounds_toArray, List.set_cons_zero, List.set_cons_succ]
                  refine taken_at (i := 2) (v := .int .i64 (i : Int)) (some 74) rfl rfl (by kernel_rfl) (by kernel_rfl) (by kernel_rfl) (fun _ _ _ h => h) (Or.inl ⟨rfl, fun _ _ => rfl⟩) hHeld ?_
                  try simp only [Act.put, List.setIfInBounds_toArray, List.set_cons_zero, List.set_cons_succ]
                  refine taken_at (i := 3) (v := .pointer (some ⟨g2, i, none⟩)) (some 75) rfl rfl (by kernel_rfl) (by kernel_rfl) (by kernel_rfl) (fun _ _ _ h => h) (Or.inl ⟨rfl, fun w' hw => by obtain ⟨k0, k1⟩ := hw; go_simp⟩) hHeld ?_
                  try simp only [Act.put, List.setIfInBounds_toArray, List.set_cons_zero, List.set_cons_succ]
                  refine taken_at (i := 4) (v := .int .i64 (q : Int)) (some 76) rfl rfl (by kernel_rfl) (by kernel_rfl) (by kernel_rfl) (fun _ _ _ h => h) (Or.inl ⟨rfl, fun w' hw => by obtain ⟨k0, k1⟩ := hw; go_simp⟩) hHeld ?_
                  try simp only [Act.put, List.setIfInBounds_toArray, List.set_cons_zero, List.set_cons_succ]
                  refine taken_at (i := 5) (v := .pointer (some ⟨g5, 1, none⟩)) (some 77) rfl rfl (by kernel_rfl) (by kernel_rfl) (by kernel_rfl) (fun _ _ _ h => h) (Or.inl ⟨rfl, fun w' hw => by obtain ⟨k0, k1⟩ := hw; go_simp⟩) hHeld ?_
                  try simp only [Act.put, List.setIfInBounds_toArray, List.set_cons_zero, List.set_cons_succ]
                  refine taken_at (i := 6) (v := x.v.val) (some 78) rfl rfl (by kernel_rfl) (by kernel_rfl) (by kernel_rfl) (fun _ _ _ h => h) (yields_loadAt 50 (.tmp 77) (.pointer (some ⟨g5, 1, none⟩)) rfl rfl rfl (fun w' hw => hw.2.loadAt 50 _ Tryz.underlying50 rfl (Mq.infoC x.v))) hHeld ?_
                  try simp only [Act.put, List.setIfInBounds_toArray, List.set_cons_zero, List.set_cons_succ]
                  refine wpAnyH_ready (rs := [0]) (by kernel_rfl) (by simp) ?_
                  refine AllReadyH.cons rfl (fun K hK => ?_) AllReadyH.nil
                  refine step_load_lies rfl 40 (.tmp 1) rfl w.heap.size 0 rfl VI HS9.out.1.drew _ Tryz.underlying40 rfl IVI.out ?_
                  refine hK.out _ _ hHeld (fun hHeld => ?_)
                  clear hK K
                  try simp only [Act.put, List.setIfInBounds_toArray]
                  refine wpAnyH_ready (rs := [7]) (by kernel_rfl) (by simp) ?_
                  refine AllReadyH.cons rfl (fun K hK => ?_) AllReadyH.nil
                  go_simp
                  go_at_call 66
                  refine (CSM.out _).mono ?_
                  rintro e w10 ⟨rfl, hb10⟩
                  have hb10 : Below w9.heap.size w9 w10 := ((Below.refl w9.heap.size w9).drew).trans hb10
                  have HB10 := Lib.hid hb10
                  have HV10 : Hid (Lies w10 w.heap.size 0 VI) := Lib.hid (HS9.out.1.below hb10 HS9.out.1.lt)
                  have HL10 : Hid (Lies w10 wr.heap.size 0 (Mq.dcells Mq.nil)) := Lib.hid (HL12.out.below hb10 HL12.out.lt)
                  have hS10 : w10.cell? ⟨g2, i, none⟩ = some (.int .i64 (q : Int)) ∧ Lies w10 g5 1 (Mq.dcells x.v) := ⟨(hb10.cell (p := ⟨g2, i, none⟩) (World.block_lt_of_cell? w9 _ HS9.out.2.1)).trans HS9.out.2.1, HS9.out.2.2.below hb10 HS9.out.2.2.lt⟩
                  clear hb10
                  refine hK.out _ _ hS10 (fun hHeld => ?_)
                  clear hK K hS10
                  try simp only [Act.put, List.setIfInBounds_toArray, List.set_cons_zero, List.set_cons_succ]
                  refine taken_at (i := 8) (v := .tuple #[.agg VS, dd.val]) (some 71) rfl rfl (by kernel_rfl) (by kernel_rfl) (by kernel_rfl) (fun _ _ _ h => h) (Or.inl ⟨rfl, fun _ _ => rfl⟩) hHeld ?_
                  try simp only [Act.put, List.setIfInBounds_toArray, List.set_cons_zero, List.set_cons_succ]
                  refine taken_at (i := 9) (v := .agg VS) (some 80) rfl rfl (by kernel_rfl) (by kernel_rfl) (by kernel_rfl) (fun _ _ _ h => h) (Or.inl ⟨rfl, fun _ _ => rfl⟩) hHeld ?_
                  try simp only [Act.put, List.setIfInBounds_toArray, List.set_cons_zero, List.set_cons_succ]
                  refine taken_at (i := 10) (v := dd.val) (some 81) rfl rfl (by kernel_rfl) (by kernel_rfl) (by kernel_rfl) (fun _ _ _ h => h) (Or.inl ⟨rfl, fun _ _ => rfl⟩) hHeld ?_
                  try simp only [Act.put, List.setIfInBounds_toArray, List.set_cons_zero, List.set_cons_succ]
                  refine wpAnyH_ready (rs := [11]) (by kernel_rfl) (by simp) ?_
                  refine AllReadyH.cons rfl (fun K hK => ?_) AllReadyH.nil
                  refine step_store_lies rfl 40 (.tmp 1) (.tmp 80) rfl w.heap.size 0 rfl VS rfl VI HV10.out SVS.out IVS.out OVS.out ?_
                  intro w11 N1 N2 N3
                  refine hK.out _ _ ⟨(World.cell?_of_block (w := w10) (a := ⟨g2, i, none⟩) (N2.out.block g2 (World.block_lt_of_cell? w10 _ hHeld.1) (by have := HG2T.out.1; have := HG5.out; omega))).trans hHeld.1, hHeld.2.apart N2.out (by have := HG5.out; omega)⟩ (fun hHeld => ?_)
                  clear hK K
                  try simp only [Act.put]
                  refine wpAnyH_ready (rs := [12]) (by kernel_rfl) (by simp) ?_
                  refine AllReadyH.cons rfl (fun K hK => ?_) AllReadyH.nil
                  refine step_store_lies rfl 50 (.tmp 12) (.tmp 81) rfl wr.heap.size 0 rfl (Mq.dcells dd) rfl (Mq.dcells Mq.nil) (HL10.out.apart N2.out (by have := HWR.out.1; omega)) rfl (Mq.infoC dd) (Mq.dcells_one dd) ?_
                  intro w12 M1 M2 M3
                  refine hK.out _ _ ⟨(World.cell?_of_block (w := w11) (a := ⟨g2, i, none⟩) (M2.out.block g2 (World.block_lt_of_cell? w11 _ hHeld.1) (by have := HWR.out.2.1; omega))).trans hHeld.1, hHeld.2.apart M2.out (by have := HWR.out.2.2; omega)⟩ (fun hHeld => ?_)
                  clear hK K
                  try simp only [Act.put]
                  refine wpAnyH_done (by kernel_rfl) ?_ _
                  clear hHeld
                  have HTF : Hid (Tw w w12 sS A9 (C' - 1) Z A2 D2 ((l ++ lI).map On.d)) := Lib.hid (HTI.out.via (HB9.out.trans (HB10.out.mono HB9.out.size)) N2.out (DB.of (by rw [← HVS.out]; exact N1.out)) M2.out)
                  have HK12 : Hid (w12.heap[g5]? = w4.heap[g5]? ∧ w12.heap[g2]? = w4.heap[g2]?) := Lib.hid (by
                    have e : ∀ k, k < wr.heap.size → k ≠ w.heap.size → w12.heap[k]? = wr.heap[k]? := fun k h1 h2 =>
                      (M2.out.block k (Nat.lt_of_lt_of_le h1 (Nat.le_trans HB9.out.size (Nat.le_trans HB10.out.size N2.out.size))) (by omega)).trans ((N2.out.block k (Nat.lt_of_lt_of_le h1 (Nat.le_trans HB9.out.size HB10.out.size)) h2).trans ((HB10.out.block k (Nat.lt_of_lt_of_le h1 HB9.out.size)).trans (HB9.out.block k h1)))
                    exact ⟨(e g5 HWR.out.2.2 (by have := HG5.out; omega)).trans HKI.out.1, (e g2 HWR.out.2.1 (by have := HG5.out; have := HG2T.out.1; omega)).trans HKI.out.2⟩)
                  have HLD := M1
                  have hmm : m + i = ((l ++ lI).map On.d).length := by rw [List.length_map, HLL.out, HM.out]
                  have HMM := Lib.hid hmm
                  have hm9 : m + i + 1 ≤ 100000 := by have h1 := HLN.out; have h2 := HM.out; have h3 := HNL.out; have h4 := HI.out; omega
                  have HM9 := Lib.hid hm9
                  clear hmm hm9 N1 N2 N3 M1 M2 M3 HTI HKI HB9 HB10 HS9 HL12 HV10 HL10 CSM
                  generalize wr.heap.size = g12 at *
                  go_wp2_with (first
                    | (with_reducible refine wpList_load_lies rfl 50 (.tmp 12) rfl g12 0 rfl (Mq.dcells dd) HLD.out _ Tryz.underlying50 rfl (Mq.infoC dd) ?_)
                    | (with_reducible refine wpList_build_one rfl 95 50 (.tmp 83) rfl zDg 11 88 (Mq.dcells dd) rfl Tryz.underlying95 IG.out (dcells_size dd) (by decide) (by decide) ?_; obtain ⟨ho8, hl8, hs8⟩ := HTF.out.room HMM.out dd; have HO8 := Lib.hid ho8; have HLN8 := Lib.hid hl8; have HS8 := Lib.hid hs8; clear ho8 hl8 hs8)
                    | (at_builtin; (with_reducible refine wpList_append_el rfl (.tmp 82) (.tmp 84) 95 50 rfl zDg 11 88 Tryz.underlying95 IG.out HZG.out (by decide) (by decide) (w.heap.size + 2) A2 (m + i) D2 rfl _ HO8.out w12.heap.size rfl (Mq.dcells dd) (dcells_size dd) HLN8.out (Mq.dcells_one dd) HM9.out HS8.out ?_); intro A3 D3 w13 HA9 HG9)
                    | fail)
                  go_roundw
                  case rel =>
                    refine ⟨i + 1, A3, D3, HI.out.1, by go_num, rfl, ?_, Lib.hid ⟨(HG9.out.typ g5 _ _ ((Below.heap_alloc w12 _ g5 (Array.getElem?_eq_some_iff.1 (HK12.out.1.trans HX4.out)).1).trans (HK12.out.1.trans HX4.out)) (by decide)).trans ((Below.heap_alloc w12 _ g5 (Array.getElem?_eq_some_iff.1 (HK12.out.1.trans HX4.out)).1).trans HK12.out.1), ?_⟩⟩
                    · rw [HNX.out.1, HNX.out.2]
                      exact Lib.hid (HTF.out.more HMM.out HA9.out HG9.out)
                    · obtain ⟨cur, hcur⟩ := HG2T.out.2.2
                      have h1 := HK12.out.2.trans hcur
                      have h2 := (Below.heap_alloc w12 (.cells (Mq.dcells dd) 50) g2 (Array.getElem?_eq_some_iff.1 h1).1).trans h1
                      exact (HG9.out.typ g2 _ _ h2 (by decide)).trans (h2.trans hcur.symm)
                  case measure => have := HDM.out; simp [intOf] <;> omega
                · obtain rfl : i = v := by omega
                  have htk : gl.take i = gl := by rw [← HGV.out]; exact List.take_length
                  rw [htk] at HTI
                  have hfe := HFF.out i (Nat.le_refl _)
                  rw [htk] at hfe
                  have HFE := Lib.hid hfe
                  have HSE := Lib.hid (sends_keep x.v gl sR)
                  have HLE : Hid ((sR.sends x.v gl).1.length = i) := Lib.hid (by rw [sends_length]; exact HGV.out)
                  clear hi hlt htk hfe
                  generalize sR.sends x.v gl = SS at *
                  go_wp2
                  go_roundw
                  case rel =>
                    refine ⟨l ++ SS.1, A2, D2, SS.2, A9, C' - 1, j + 1, ?_, HTI, ?_, ?_, ?_, ?_, ?_, ?_⟩
                    · rw [List.length_append, HLE.out, HM.out]
                    · rw [HSE.out.1]; exact HLA9
                    · exact Lib.hid (HFE.out.upto (by have := HM2.out.2; omega))
                    · refine Lib.hid ?_
                      rw [HSE.out.1, HSQ.out]
                      have h1 := HJ.out
                      have h2 := HNL.out
                      omega
                    · refine Lib.hid ?_
                      rw [List.length_append, HLE.out]
                      have h1 := HLN.out
                      have h2 := HM2.out.2
                      omega
                    · refine Lib.hid ?_
                      rw [HSE.out.1, HSQ.out]
                      exact ⟨by rw [HSN9.out.1, List.append_assoc], HSN9.out.2⟩
                    · refine Lib.hid ?_
                      rw [HSE.out.1, HSQ.out]
                      exact fun y hy => HDX.out y (by rw [HQ.out]; exact List.mem_cons_of_mem _ hy)
                  case measure =>
                    rw [HTI.out.db.dlen, HQL.out, HSE.out.1, HSQ.out]
                    have := HNL.out
                    omega
end Go.Proofs.YtldhlknmabpanaaGreat.Mp
