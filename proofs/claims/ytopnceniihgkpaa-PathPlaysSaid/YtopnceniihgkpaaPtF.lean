/-
  Own text: the document's Heard, walked.
-/
import Derived.Test.YtopnceniihgkpaaPtE
import Derived.Test.YtopnceniihgkpaaStF
namespace Go.Proofs.Ytopnceniihgkpaa
open Go.RowKit

theorem Sn.dc_one (s : Sn) (i : Nat) : (s.dc i).oneCell' = true := dcl_one _ _ _ _ _ _ i
theorem SV_is (s : Sk) : SV s = .agg #[.int .i64 s.lo, .int .i64 s.rt, .int .i64 s.va, .int .i64 s.ma, .int .i64 s.tr] := rfl
/-- What came, out of the middle of the document's way. -/
theorem RB.mid {w : World} {b : Nat} {p : Pn} (h : RB w b p) : w.rangeAt b 5 ((List.range 69).map p.sn.dc) := fun j v hv => by
  have hj : j < 69 := by simpa using (List.getElem?_eq_some_iff.1 hv).1
  rw [World.rowIs.cell h (i := 5 + j) (by omega)]
  rw [← hv, List.getElem?_map, List.getElem?_range hj]
  have n0 : ¬ 5 + j = 0 := by omega
  have n1 : ¬ 5 + j = 1 := by omega
  have n2 : ¬ 5 + j = 2 := by omega
  have n3 : ¬ 5 + j = 3 := by omega
  have n4 : ¬ 5 + j = 4 := by omega
  have n5 : 5 + j < 74 := by omega
  have n6 : 5 + j - 5 = j := by omega
  simp only [Pn.dc, pcl, n0, n1, n2, n3, n4, n5, n6, if_false, if_true, Option.map_some]
theorem RB.there {w : World} {b : Nat} {p : Pn} (h : RB w b p) (s : Sn) : w.there b 5 (rowOf 69 s.dc).size := fun j hj => by
  rw [rowOf_size] at hj
  exact ⟨by rw [World.rowIs.cell h (i := 5 + j) (by omega)]; rfl, World.rowIs.frozen h _⟩
theorem RB.setsn {w : World} {b : Nat} {p : Pn} (h : RB w b p) (s : Sn) : RB (w.setCells b 5 (rowOf 69 s.dc).toList) b ⟨p.st, s, p.q, p.pr, p.ga, p.nx⟩ :=
  (rowIs_setCells (rowOf 69 s.dc).toList 5 w _ h).congr (fun i hi => by
    rw [rowOf_getD]
    by_cases h5 : 5 ≤ i
    · have n0 : ¬ i = 0 := by omega
      have n1 : ¬ i = 1 := by omega
      have n2 : ¬ i = 2 := by omega
      have n3 : ¬ i = 3 := by omega
      have n4 : ¬ i = 4 := by omega
      by_cases h74 : i < 74
      · have n7 : i - 5 < 69 := by omega
        simp only [Pn.dc, pcl, n0, n1, n2, n3, n4, h5, h74, n7, if_false, if_true]
      · have n7 : ¬ i - 5 < 69 := by omega
        simp only [Pn.dc, pcl, n0, n1, n2, n3, n4, h5, h74, n7, if_false, if_true]
    · rcases (by omega : i = 0 ∨ i = 1 ∨ i = 2 ∨ i = 3 ∨ i = 4) with rfl | rfl | rfl | rfl | rfl <;> rfl)
theorem wpList_load_seen {w : World} {ops : Array Oper} {rest : List Oper} {o : Oper} {a : Act} {Q : Exit → Act → World → Prop} (hgd : o.guard = none) (x : Operand) (ho : o.op = .load 35 x)
    (b : Nat) (hx : a.eval x = .pointer (some ⟨b, 5, none⟩)) (p : Pn) (h : RB w b p) (k : wpList Try.prog ops Q rest (a.put o.dst (.agg (rowOf 69 p.sn.dc))) w) : wpList Try.prog ops Q (o :: rest) a w :=
  wpList_load_mid hgd 35 x ho b 5 hx ((List.range 69).map p.sn.dc) _ h.mid Try.underlying35 rfl (by rw [info30]; simp) k
theorem wpList_store_seen {w : World} {ops : Array Oper} {rest : List Oper} {o : Oper} {a : Act} {Q : Exit → Act → World → Prop} (hgd : o.guard = none) (x y : Operand) (ho : o.op = .store 35 x y)
    (b : Nat) (hx : a.eval x = .pointer (some ⟨b, 5, none⟩)) (s : Sn) (hy : a.eval y = .agg (rowOf 69 s.dc)) (p : Pn) (h : RB w b p) (k : wpList Try.prog ops Q rest (a.put o.dst undef) (w.setCells b 5 (rowOf 69 s.dc).toList)) : wpList Try.prog ops Q (o :: rest) a w :=
  wpList_store_mid hgd 35 x y ho b 5 (rowOf 69 s.dc) hx hy (h.there s) (by rw [info30, rowOf_size]) (rowOf_one (dcl_one _ _ _ _ _ _)) k
/-- The box of the document's way, that of the answer, and that of what came. -/
structure RH (w : World) (p : Pn) (g : Nat) (s2 : Sn) (W : World) : Prop where
  rt : RT w p W
  sb : DRow W g s2.dc
  hg : w.heap.size + 1 < g
section
variable {w W W' : World} {p : Pn} {g : Nat} {s2 : Sn}
theorem RH.below (h : RH w p g s2 W) (hb : Below W.heap.size W W') : RH w p g s2 W' := ⟨h.rt.below hb, h.sb.of_block (hb.block _ h.sb.lt), h.hg⟩
theorem RH.setq (h : RH w p g s2 W) (n : Int) : RH w ⟨p.st, p.sn, n, p.pr, p.ga, p.nx⟩ g s2 (W.setCell ⟨w.heap.size, 74, none⟩ (.int .i64 n)) :=
  ⟨h.rt.setq n, h.sb.setOther (a := ⟨w.heap.size, 74, none⟩) (by have := h.hg; show g ≠ w.heap.size; omega) _, h.hg⟩
theorem RH.setpr (h : RH w p g s2 W) (n : Int) : RH w ⟨p.st, p.sn, p.q, n, p.ga, p.nx⟩ g s2 (W.setCell ⟨w.heap.size, 75, none⟩ (.int .i64 n)) :=
  ⟨h.rt.setpr n, h.sb.setOther (a := ⟨w.heap.size, 75, none⟩) (by have := h.hg; show g ≠ w.heap.size; omega) _, h.hg⟩
theorem RH.setga (h : RH w p g s2 W) (n : Int) : RH w ⟨p.st, p.sn, p.q, p.pr, n, p.nx⟩ g s2 (W.setCell ⟨w.heap.size, 76, none⟩ (.int .i64 n)) :=
  ⟨h.rt.setga n, h.sb.setOther (a := ⟨w.heap.size, 76, none⟩) (by have := h.hg; show g ≠ w.heap.size; omega) _, h.hg⟩
theorem RH.setst (h : RH w p g s2 W) (s : Sk) : RH w ⟨s, p.sn, p.q, p.pr, p.ga, p.nx⟩ g s2 (((((W.setCell ⟨w.heap.size, 0, none⟩ (.int .i64 s.lo)).setCell ⟨w.heap.size, 1, none⟩ (.int .i64 s.rt)).setCell ⟨w.heap.size, 2, none⟩ (.int .i64 s.va)).setCell ⟨w.heap.size, 3, none⟩ (.int .i64 s.ma)).setCell ⟨w.heap.size, 4, none⟩ (.int .i64 s.tr)) :=
  ⟨h.rt.setst s, by
    have hn : g ≠ w.heap.size := by have := h.hg; omega
    exact ((((World.rowIs.setOther h.sb (a := ⟨w.heap.size, 0, none⟩) hn _).setOther (a := ⟨w.heap.size, 1, none⟩) hn _).setOther (a := ⟨w.heap.size, 2, none⟩) hn _).setOther (a := ⟨w.heap.size, 3, none⟩) hn _).setOther (a := ⟨w.heap.size, 4, none⟩) hn _, h.hg⟩
theorem RH.setsn (h : RH w p g s2 W) (s : Sn) : RH w ⟨p.st, s, p.q, p.pr, p.ga, p.nx⟩ g s2 (W.setCells w.heap.size 5 (rowOf 69 s.dc).toList) :=
  ⟨⟨h.rt.box.setsn s, h.rt.res.of_block (setCells_other _ _ _ _ _ (by omega)), setCells_below _ _ (Nat.le_refl _) _ _ _ _ h.rt.bel⟩, h.sb.of_block (setCells_other _ _ _ _ _ (by have := h.hg; omega)), h.hg⟩
end
set_option maxRecDepth 100000 in
set_option maxHeartbeats 4000000 in
theorem rheard_any (p : Pn) (n k : Nat) (hf : p.fit k) (hk : k ≤ 1000000) (hn : n < 4294967296) (w : World) :
    Calls Try.prog 14 #[.agg (rowOf 78 p.dc), .int .u32 n] w fun e w' => e = .returned (.tuple #[.agg (rowOf 78 (p.heard n).dc), .int .i64 (p.sn.take n).2]) ∧ Below w.heap.size w w' := by
  obtain ⟨W, hW⟩ : ∃ W, W = (w.alloc (.cells (rowOf 78 p.dc) 37)).alloc (.cells (rowOf 78 Pn.zero.dc) 37) := ⟨_, rfl⟩
  have H0 := Lib.hid (RT.start w p hW)
  have h2f := Sn.take_fit hn hf.sn
  have hlost := Sn.take_lost p.sn n
  have hH : p.heard n = if (p.sn.take n).2 = 0 then ⟨(p.st.marks (p.lostBy n)).mark false, (p.sn.take n).1, 0, 0, 0, p.nx⟩ else ⟨p.st, (p.sn.take n).1, 0, 0, 0, p.nx⟩ := rfl
  have hL : p.lostBy n = if p.sn.any = true then min ((p.sn.take n).1.lost - p.sn.lost) 64 else 0 := rfl
  have CT := Lib.hid (fun w' => rtake_any p.sn n k hn hf.sn hk w')
  have HF := Lib.hid hf
  have hl1 := hf.sn.lost
  have hl2 := h2f.lost
  have HH := Lib.hid hH
  have HLB := Lib.hid hL
  have HLO := Lib.hid hlost
  clear hH hL hlost h2f hf
  generalize (p.sn.take n).1 = s2 at *
  generalize (p.sn.take n).2 = er at *
  generalize p.lostBy n = lb at *
  generalize p.heard n = Z at *
  have I37 := Lib.hid info37
  have I35 := Lib.hid info30
  have ca : W.cell? ⟨w.heap.size, 5, none⟩ = some (.bool p.sn.any) := H0.out.box.cell (i := 5) (by decide)
  have cl : W.cell? ⟨w.heap.size, 73, none⟩ = some (.int .i64 p.sn.lost) := H0.out.box.cell (i := 73) (by decide)
  obtain ⟨R, hRR⟩ : ∃ R, R = rowOf 78 p.dc := ⟨_, rfl⟩
  rw [← hRR] at hW ⊢
  have zz := zero37
  obtain ⟨ZZ, hZZ⟩ : ∃ ZZ, ZZ = rowOf 78 Pn.zero.dc := ⟨_, rfl⟩
  rw [← hZZ] at hW zz
  clear hRR hZZ
  go_enter Try.func14, Try.ntmps14
  go_upto_region 1 with fail
  rw [← hW]
  clear hW zz
  go_quiet (fail)
  have H1 := Lib.hid (H0.out.drewN nq)
  clear ca cl H0
  generalize W.drewN nq = W1 at *
  have z30 := zero30
  go_upto_region 3 with (first
    | (with_reducible refine wpList_load_seen rfl (.tmp 18) rfl w.heap.size rfl p H1.out.box ?_)
    | (go_at_call 27; (with_reducible refine (CT.out _).mono ?_); rintro e w2 ⟨rfl, hb2⟩; have H2 := Lib.hid (H1.out.below hb2); clear hb2)
    | (with_reducible refine wpList_store_rowIs rfl 35 (.tmp 8) (.tmp 22) rfl w2.heap.size rfl 69 s2.dc rfl 35 Sn.zero.dc (rowIs_new w2 69 Sn.zero.dc 35) I35.out s2.dc_one ?_; intro w3 G1 G2 G3 G4)
    | fail)
  have H3 := Lib.hid (H2.out.below (((Below.refl w2.heap.size w2).alloc (Nat.le_refl _) (.cells (rowOf 69 Sn.zero.dc) 35)).trans G3.out))
  have HG : Hid (w.heap.size + 1 < w2.heap.size) := Lib.hid H2.out.res.lt
  clear H1 H2 z30 G2 G3 G4
  generalize w2.heap.size = g at *
  have HR3 : Hid (RH w p g s2 w3) := Lib.hid ⟨H3.out, G1.out, HG.out⟩
  clear G1 H3 HG
  go_upto_region 4 with (first
    | (with_reducible refine wpList_load_rowIs rfl 35 (.tmp 8) rfl g rfl 35 69 s2.dc HR3.out.sb _ Try.underlying35 rfl I35.out ?_)
    | (with_reducible refine wpList_store_seen rfl (.tmp 25) (.tmp 24) rfl w.heap.size rfl s2 rfl p HR3.out.rt.box ?_)
    | fail)
  have HR4 := Lib.hid (HR3.out.setsn s2)
  clear HR3
  generalize w3.setCells w.heap.size 5 (rowOf 69 s2.dc).toList = w4 at *
  obtain ⟨c0, c1, c2, c3⟩ := HR4.out.rt.box.four
  have f0 := HR4.out.rt.box.frozen 74
  have f1 := HR4.out.rt.box.frozen 75
  have f2 := HR4.out.rt.box.frozen 76
  go_upto_region 5 with fail
  have HR5 := Lib.hid (((HR4.out.setq 0).setpr 0).setga 0)
  dsimp only at HR5
  clear c0 c1 c2 c3 f0 f1 f2 HR4
  generalize ((w4.setCell ⟨w.heap.size, 74, none⟩ (.int .i64 0)).setCell ⟨w.heap.size, 75, none⟩ (.int .i64 0)).setCell ⟨w.heap.size, 76, none⟩ (.int .i64 0) = w5 at *
  by_cases he : er = 0
  · have HZ := Lib.hid (HH.out.trans (if_pos he))
    subst he
    clear HH CT
    have HL64 : Hid (lb ≤ 64 ∧ 65 * k ≤ 65000000) := Lib.hid (by have := HLB.out; refine ⟨?_, by omega⟩; rw [this]; split <;> omega)
    cases ha : p.sn.any
    · have HL0 : Hid (lb = 0) := Lib.hid (by have := HLB.out; rw [ha] at this; simpa using this)
      have HZ : Hid (Z = ⟨(p.st.marks 0).mark false, s2, 0, 0, 0, p.nx⟩) := Lib.hid (by have := HZ.out; rw [HL0.out] at this; exact this)
      have HR5 : Hid (RH w ⟨p.st.marks 0, s2, 0, 0, 0, p.nx⟩ g s2 w5) := HR5
      clear ha HLB HLO hl1 hl2
      go_wp2
      go_loopw [10] (fun i wr => i = .int .i64 0 ∧ Hid (wr = w5)) (fun _ _ => 0)
      case atStart => exact ⟨rfl, Lib.hid rfl⟩
      case round =>
        obtain ⟨rfl, HW⟩ := hrel
        obtain rfl := HW.out
        go_upto_region 11 with fail
        have CK : Hid (∀ w', Calls Try.prog 28 #[SV (p.st.marks 0), .bool false] w' fun e w'' => e = .returned (SV ((p.st.marks 0).mark false)) ∧ Below w'.heap.size w' w'') := Lib.hid (fun w' => rmark_any false (65 * k + 0) _ (Sk.marks_fit HF.out.st _) (by have := HL64.out; omega) w')
        simp only [SV_is] at CK
        generalize p.st.marks 0 = sm at *
        generalize sm.mark false = sf at *
        obtain ⟨c0, c1, c2, c3, c4⟩ := HR5.out.rt.box.five
        dsimp only at c0 c1 c2 c3 c4
        go_upto_region 12 with (first
          | (go_at_call 28; (with_reducible refine (CK.out _).mono ?_); rintro e w5 ⟨rfl, hb5⟩; have H5 := Lib.hid (HR5.out.below hb5); clear hb5; obtain ⟨d0, d1, d2, d3, d4⟩ := H5.out.rt.box.five; have f0 := H5.out.rt.box.frozen 0; have f1 := H5.out.rt.box.frozen 1; have f2 := H5.out.rt.box.frozen 2; have f3 := H5.out.rt.box.frozen 3; have f4 := H5.out.rt.box.frozen 4)
          | fail)
        have H6 := Lib.hid (H5.out.setst sf)
        dsimp only at H6
        clear d0 d1 d2 d3 d4 f0 f1 f2 f3 f4 c0 c1 c2 c3 c4
        generalize ((((w5.setCell ⟨w.heap.size, 0, none⟩ (.int .i64 sf.lo)).setCell ⟨w.heap.size, 1, none⟩ (.int .i64 sf.rt)).setCell ⟨w.heap.size, 2, none⟩ (.int .i64 sf.va)).setCell ⟨w.heap.size, 3, none⟩ (.int .i64 sf.ma)).setCell ⟨w.heap.size, 4, none⟩ (.int .i64 sf.tr) = w6 at *
        go_wp2_with (first
          | (with_reducible refine wpList_load_rowIs rfl 37 (.tmp 2) rfl w.heap.size rfl 37 78 (⟨sf, s2, 0, 0, 0, p.nx⟩ : Pn).dc H6.out.rt.box _ Try.underlying37 rfl I37.out ?_)
          | (with_reducible refine wpList_store_rowIs rfl 37 (.tmp 4) (.tmp 56) rfl (w.heap.size + 1) rfl 78 (⟨sf, s2, 0, 0, 0, p.nx⟩ : Pn).dc rfl 37 Pn.zero.dc H6.out.rt.res I37.out (⟨sf, s2, 0, 0, 0, p.nx⟩ : Pn).dc_one ?_; intro W9 G1 G2 G3 G4)
          | fail)
        refine bodyPost_ret (results_row_tmp (p := 4) (u := 5) rfl _ W9 (w.heap.size + 1) 37 78 (⟨sf, s2, 0, 0, 0, p.nx⟩ : Pn).dc (.int .i64 0) _ rfl rfl G1.out Try.underlying37 rfl I37.out) rfl ?_
        exact ⟨by rw [HZ.out], H6.out.rt.bel.trans (G3.out.mono (by have := H6.out.rt.bel.size; omega))⟩
    · have HD : Hid (∃ d : Nat, (s2.lost : Int) - p.sn.lost = (d : Int) ∧ lb = min d 64) := Lib.hid (by
        have h1 := HLO.out ha
        refine ⟨s2.lost - p.sn.lost, by omega, ?_⟩
        have := HLB.out
        rw [ha, if_pos rfl] at this
        exact this)
      obtain ⟨d, hd, hlb⟩ := HD.out
      have HLBD := Lib.hid hlb
      have HDD := Lib.hid hd
      have wd : IntKind.i64.wrap ((s2.lost : Int) - p.sn.lost) = (d : Int) := by rw [IntKind.wrap_i64]; omega
      have hdl : d ≤ 4294967296 * 1000001 := by omega
      clear ha HLB HLO hlb HD hd
      go_wp2
      go_loopw [10] (fun i wr => ∃ j : Nat, i = .int .i64 (j : Int) ∧ Hid (j ≤ lb) ∧ Hid (RH w ⟨p.st.marks j, s2, 0, 0, 0, p.nx⟩ g s2 wr)) (fun i _ => lb - (intOf i).toNat)
      case atStart => exact ⟨0, rfl, Lib.hid (Nat.zero_le _), HR5⟩
      case round =>
        obtain ⟨j, rfl, HJ, HRW⟩ := hrel
        clear HR5
        have hj := HJ.out
        have hlb := HLBD.out
        have cg : wr.cell? ⟨g, 68, none⟩ = some (.int .i64 s2.lost) := HRW.out.sb.cell (i := 68) (by decide)
        have hdd := HDD.out
        by_cases hlt : j < lb
        · have k1 : (j : Int) < (d : Int) := by omega
          have k2 : (j : Int) < 64 := by omega
          have HJ2 : Hid (j + 1 ≤ lb) := Lib.hid (by omega)
          have HDM : Hid (lb - (j + 1) < lb - j) := Lib.hid (by omega)
          have CK : Hid (∀ w', Calls Try.prog 28 #[SV (p.st.marks j), .bool true] w' fun e w'' => e = .returned (SV (p.st.marks (j + 1))) ∧ Below w'.heap.size w' w'') := Lib.hid (fun w' => rmark_any true (65 * k + j) _ (Sk.marks_fit HF.out.st _) (by have := HL64.out; omega) w')
          simp only [SV_is] at CK
          generalize hsf : p.st.marks (j + 1) = sf at *
          have HSF := Lib.hid hsf
          clear hsf
          obtain ⟨c0, c1, c2, c3, c4⟩ := HRW.out.rt.box.five
          dsimp only at c0 c1 c2 c3 c4
          clear hlt hj hlb hdd
          generalize p.st.marks j = sm at *
          go_wp2_with (first
        | (go_at_call 28; (with_reducible refine (CK.out _).mono ?_); rintro e w5 ⟨rfl, hb5⟩; have H5 := Lib.hid (HRW.out.below hb5); clear hb5; obtain ⟨d0, d1, d2, d3, d4⟩ := H5.out.rt.box.five; have f0 := H5.out.rt.box.frozen 0; have f1 := H5.out.rt.box.frozen 1; have f2 := H5.out.rt.box.frozen 2; have f3 := H5.out.rt.box.frozen 3; have f4 := H5.out.rt.box.frozen 4)
        | fail)
          have H6 := Lib.hid (H5.out.setst sf)
          dsimp only at H6
          go_roundw
          case rel => exact ⟨j + 1, by go_num, HJ2, by rw [HSF.out]; exact H6⟩
          case measure => have := HDM.out; simp [intOf] <;> omega
        · obtain rfl : j = lb := by omega
          have hcs : ¬ (j : Int) < (d : Int) ∨ ((j : Int) < (d : Int) ∧ ¬ (j : Int) < 64) := by omega
          clear hlt hj hlb hdd
          rcases hcs with h1 | ⟨h1, h2⟩
          all_goals
            go_upto_region 11 with fail
            have CK : Hid (∀ w', Calls Try.prog 28 #[SV (p.st.marks j), .bool false] w' fun e w'' => e = .returned (SV ((p.st.marks j).mark false)) ∧ Below w'.heap.size w' w'') := Lib.hid (fun w' => rmark_any false (65 * k + j) _ (Sk.marks_fit HF.out.st _) (by have := HL64.out; omega) w')
            simp only [SV_is] at CK
            generalize p.st.marks j = sm at *
            generalize sm.mark false = sf at *
            obtain ⟨c0, c1, c2, c3, c4⟩ := HRW.out.rt.box.five
            dsimp only at c0 c1 c2 c3 c4
            go_upto_region 12 with (first
              | (go_at_call 28; (with_reducible refine (CK.out _).mono ?_); rintro e w5 ⟨rfl, hb5⟩; have H5 := Lib.hid (HRW.out.below hb5); clear hb5; obtain ⟨d0, d1, d2, d3, d4⟩ := H5.out.rt.box.five; have f0 := H5.out.rt.box.frozen 0; have f1 := H5.out.rt.box.frozen 1; have f2 := H5.out.rt.box.frozen 2; have f3 := H5.out.rt.box.frozen 3; have f4 := H5.out.rt.box.frozen 4)
              | fail)
            have H6 := Lib.hid (H5.out.setst sf)
            dsimp only at H6
            clear d0 d1 d2 d3 d4 f0 f1 f2 f3 f4 c0 c1 c2 c3 c4
            generalize ((((w5.setCell ⟨w.heap.size, 0, none⟩ (.int .i64 sf.lo)).setCell ⟨w.heap.size, 1, none⟩ (.int .i64 sf.rt)).setCell ⟨w.heap.size, 2, none⟩ (.int .i64 sf.va)).setCell ⟨w.heap.size, 3, none⟩ (.int .i64 sf.ma)).setCell ⟨w.heap.size, 4, none⟩ (.int .i64 sf.tr) = w6 at *
            go_wp2_with (first
              | (with_reducible refine wpList_load_rowIs rfl 37 (.tmp 2) rfl w.heap.size rfl 37 78 (⟨sf, s2, 0, 0, 0, p.nx⟩ : Pn).dc H6.out.rt.box _ Try.underlying37 rfl I37.out ?_)
              | (with_reducible refine wpList_store_rowIs rfl 37 (.tmp 4) (.tmp 56) rfl (w.heap.size + 1) rfl 78 (⟨sf, s2, 0, 0, 0, p.nx⟩ : Pn).dc rfl 37 Pn.zero.dc H6.out.rt.res I37.out (⟨sf, s2, 0, 0, 0, p.nx⟩ : Pn).dc_one ?_; intro W9 G1 G2 G3 G4)
              | fail)
            refine bodyPost_ret (results_row_tmp (p := 4) (u := 5) rfl _ W9 (w.heap.size + 1) 37 78 (⟨sf, s2, 0, 0, 0, p.nx⟩ : Pn).dc (.int .i64 0) _ rfl rfl G1.out Try.underlying37 rfl I37.out) rfl ?_
            exact ⟨by rw [HZ.out], H6.out.rt.bel.trans (G3.out.mono (by have := H6.out.rt.bel.size; omega))⟩
  · have HZ := Lib.hid (HH.out.trans (if_neg he))
    go_wp2_with (first
      | (with_reducible refine wpList_load_rowIs rfl 37 (.tmp 2) rfl w.heap.size rfl 37 78 (⟨p.st, s2, 0, 0, 0, p.nx⟩ : Pn).dc HR5.out.rt.box _ Try.underlying37 rfl I37.out ?_)
      | (with_reducible refine wpList_store_rowIs rfl 37 (.tmp 4) (.tmp 31) rfl (w.heap.size + 1) rfl 78 (⟨p.st, s2, 0, 0, 0, p.nx⟩ : Pn).dc rfl 37 Pn.zero.dc HR5.out.rt.res I37.out (⟨p.st, s2, 0, 0, 0, p.nx⟩ : Pn).dc_one ?_; intro W9 G1 G2 G3 G4)
      | fail)
    refine bodyPost_ret (results_row_tmp (p := 4) (u := 5) rfl _ W9 (w.heap.size + 1) 37 78 (⟨p.st, s2, 0, 0, 0, p.nx⟩ : Pn).dc (.int .i64 er) _ rfl rfl G1.out Try.underlying37 rfl I37.out) rfl ?_
    exact ⟨by rw [HZ.out], HR5.out.rt.bel.trans (G3.out.mono (by have := HR5.out.rt.bel.size; omega))⟩
end Go.Proofs.Ytopnceniihgkpaa
