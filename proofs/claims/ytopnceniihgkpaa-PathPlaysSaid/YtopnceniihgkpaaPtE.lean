/-
  Own text: the document's Tick, walked. (Written by gen_pte.py.)
-/
import Derived.Test.YtopnceniihgkpaaPtD
import Derived.Deep.DeepCutAuto
namespace Go.Proofs.Ytopnceniihgkpaa
open Go.RowKit

/-- The box of the document's way, and that of the answer. -/
structure RT (w : World) (p : Pn) (W : World) : Prop where
  box : RB W w.heap.size p
  res : RB W (w.heap.size + 1) Pn.zero
  bel : Below w.heap.size w W
section
variable {w W W' : World} {p : Pn}
theorem RT.start (w : World) (p : Pn) (hW : W = (w.alloc (.cells (rowOf 78 p.dc) 37)).alloc (.cells (rowOf 78 Pn.zero.dc) 37)) : RT w p W := by
  subst hW
  refine ⟨(RB.new w p).alloc _, ?_, ((Below.refl _ _).alloc (Nat.le_refl _) _).alloc (by simp) _⟩
  have := RB.new (w.alloc (.cells (rowOf 78 p.dc) 37)) Pn.zero
  simpa using this
theorem RT.below (h : RT w p W) (hb : Below W.heap.size W W') : RT w p W' := ⟨h.box.below hb h.box.lt, h.res.below hb h.res.lt, h.bel.trans (hb.mono h.bel.size)⟩
theorem RT.drew (h : RT w p W) : RT w p W.drew := ⟨h.box, h.res, h.bel.drew⟩
theorem RT.drewN (h : RT w p W) (k : Nat) : RT w p (W.drewN k) := ⟨h.box.of_block rfl, h.res.of_block rfl, below_drewN h.bel k⟩
theorem RT.setq (h : RT w p W) (n : Int) : RT w ⟨p.st, p.sn, n, p.pr, p.ga, p.nx⟩ (W.setCell ⟨w.heap.size, 74, none⟩ (.int .i64 n)) :=
  ⟨h.box.setq n, h.res.setOther (a := ⟨w.heap.size, 74, none⟩) (by show w.heap.size + 1 ≠ w.heap.size; omega) _, h.bel.setCell (p := ⟨w.heap.size, 74, none⟩) (Nat.le_refl _) _⟩
theorem RT.setpr (h : RT w p W) (n : Int) : RT w ⟨p.st, p.sn, p.q, n, p.ga, p.nx⟩ (W.setCell ⟨w.heap.size, 75, none⟩ (.int .i64 n)) :=
  ⟨h.box.setpr n, h.res.setOther (a := ⟨w.heap.size, 75, none⟩) (by show w.heap.size + 1 ≠ w.heap.size; omega) _, h.bel.setCell (p := ⟨w.heap.size, 75, none⟩) (Nat.le_refl _) _⟩
theorem RT.setga (h : RT w p W) (n : Int) : RT w ⟨p.st, p.sn, p.q, p.pr, n, p.nx⟩ (W.setCell ⟨w.heap.size, 76, none⟩ (.int .i64 n)) :=
  ⟨h.box.setga n, h.res.setOther (a := ⟨w.heap.size, 76, none⟩) (by show w.heap.size + 1 ≠ w.heap.size; omega) _, h.bel.setCell (p := ⟨w.heap.size, 76, none⟩) (Nat.le_refl _) _⟩
theorem RT.setst (h : RT w p W) (s : Sk) : RT w ⟨s, p.sn, p.q, p.pr, p.ga, p.nx⟩ (((((W.setCell ⟨w.heap.size, 0, none⟩ (.int .i64 s.lo)).setCell ⟨w.heap.size, 1, none⟩ (.int .i64 s.rt)).setCell ⟨w.heap.size, 2, none⟩ (.int .i64 s.va)).setCell ⟨w.heap.size, 3, none⟩ (.int .i64 s.ma)).setCell ⟨w.heap.size, 4, none⟩ (.int .i64 s.tr)) :=
  ⟨h.box.setst s, h.res.off5 (by omega) _ _ _ _ _, ((((h.bel.setCell (p := ⟨w.heap.size, 0, none⟩) (Nat.le_refl _) _).setCell (p := ⟨w.heap.size, 1, none⟩) (Nat.le_refl _) _).setCell (p := ⟨w.heap.size, 2, none⟩) (Nat.le_refl _) _).setCell (p := ⟨w.heap.size, 3, none⟩) (Nat.le_refl _) _).setCell (p := ⟨w.heap.size, 4, none⟩) (Nat.le_refl _) _⟩
end
set_option maxRecDepth 100000 in
set_option maxHeartbeats 4000000 in
theorem rtick_any (p : Pn) (hk : p.ok) (w : World) :
    Calls Try.prog 13 #[.agg (rowOf 78 p.dc)] w fun e w' => e = .returned (.tuple #[.agg (rowOf 78 p.tick.dc), .bool p.fires]) ∧ Below w.heap.size w w' := by
  obtain ⟨W, hW⟩ : ∃ W, W = (w.alloc (.cells (rowOf 78 p.dc) 37)).alloc (.cells (rowOf 78 Pn.zero.dc) 37) := ⟨_, rfl⟩
  have H0 := Lib.hid (RT.start w p hW)
  have q0 := hk.q0
  have q1 := hk.q1
  have pg := hk.pg
  obtain ⟨m, hm⟩ : ∃ m, m = more30 p.q := ⟨_, rfl⟩
  have ml := more30_lo q0
  have hT : p.tick = if m < 20 then ⟨p.st, p.sn, m, 0, 0, p.nx⟩ else if p.ga = 0 then ⟨p.st, p.sn, m, 5, 10, p.nx⟩ else if 1 < p.pr then ⟨p.st, p.sn, m, p.pr - 1, p.ga, p.nx⟩ else ⟨p.st, p.sn, m, p.ga, if 40 < p.ga then 80 else 2 * p.ga, p.nx⟩ := by rw [hm]; rfl
  have hR : p.fires = if m < 20 then false else if p.ga = 0 then true else if 1 < p.pr then false else true := by rw [hm]; rfl
  have hmin : (p.q + 1 ≤ 1073741824 ∧ m = p.q + 1) ∨ (¬ p.q + 1 ≤ 1073741824 ∧ m = 1073741824) := by
    rw [hm]
    unfold more30
    split <;> omega
  rw [← hm] at ml
  have hne : m < 20 → stateOf m = 0 := fun hh => by unfold stateOf; rw [if_neg (by omega), if_neg (by omega)]
  have hst : ¬ m < 20 → ¬ stateOf m = 0 := fun hh => by
    unfold stateOf
    split
    · decide
    · rw [if_pos (by omega)]; decide
  have I37 := Lib.hid info37
  have HZ := Lib.hid zero37
  have CS : Hid (∀ w', Calls Try.prog 26 #[.agg (rowOf 78 (⟨p.st, p.sn, m, p.pr, p.ga, p.nx⟩ : Pn).dc)] w' fun e w'' => e = .returned (.int .i64 (stateOf m)) ∧ Below w'.heap.size w' w'') := Lib.hid (fun w' => rstate_any ⟨p.st, p.sn, m, p.pr, p.ga, p.nx⟩ w')
  obtain ⟨c0, c1, c2, c3⟩ := H0.out.box.four
  have f0 := H0.out.box.frozen 74
  have HT := Lib.hid hT
  have HR := Lib.hid hR
  clear hT hR
  generalize p.tick = PT at *
  generalize p.fires = PF at *
  clear hm hk
  generalize stateOf m = z at *
  obtain ⟨R, hRR⟩ : ∃ R, R = rowOf 78 p.dc := ⟨_, rfl⟩
  rw [← hRR] at hW ⊢
  have zz := zero37
  obtain ⟨Z, hZZ⟩ : ∃ Z, Z = rowOf 78 Pn.zero.dc := ⟨_, rfl⟩
  rw [← hZZ] at hW zz
  clear hRR hZZ HZ
  go_enter Try.func13, Try.ntmps13
  go_upto_region 1 with fail
  rw [← hW]
  clear hW zz
  have H1 := Lib.hid (H0.out.setq m)
  have hmin2 := Lib.hid hmin
  go_cut [] (fun wx => Hid (RT w ⟨p.st, p.sn, m, p.pr, p.ga, p.nx⟩ wx))
  case first =>
    rcases hmin with ⟨hmin, rfl⟩ | ⟨hmin, rfl⟩
    all_goals
      go_wp2
      go_meet
      exact H1
  case rest =>
    clear c0 c1 c2 c3 f0 H0 H1 hmin hmin2
    have ci := I37
    by_cases a1 : m < 20
    · have e1 := HT.out.trans (if_pos a1)
      have e2 := HR.out.trans (if_pos a1)
      have hz := hne a1
      have E1 := Lib.hid e1
      subst e2
      clear hne hst pg HT HR e1 a1 ml ci
      go_upto_region 4 with (first
        | (with_reducible refine wpList_load_rowIs rfl 37 (.tmp 1) rfl w.heap.size rfl 37 78 (Pn.dc ⟨p.st, p.sn, m, p.pr, p.ga, p.nx⟩) hcut.out.box _ Try.underlying37 rfl I37.out ?_)
        | (go_at_call 26; (with_reducible refine (CS.out _).mono ?_); rintro e w3 ⟨rfl, hb3⟩; have H3 := Lib.hid (hcut.out.below hb3); clear hb3; obtain ⟨c0, c1, c2, c3⟩ := H3.out.box.four; have g75 := H3.out.box.frozen 75; have g76 := H3.out.box.frozen 76)
        | fail)
      have H4 := Lib.hid ((H3.out.setpr 0).setga 0)
      dsimp only at H4
      clear c0 c1 c2 c3 g75 g76
      generalize (World.setCell (World.setCell w3 ⟨w.heap.size, 75, none⟩ (.int .i64 0)) ⟨w.heap.size, 76, none⟩ (.int .i64 0)) = w4 at *
      go_wp2_with (first
        | (with_reducible refine wpList_load_rowIs rfl 37 (.tmp 1) rfl w.heap.size rfl 37 78 (⟨p.st, p.sn, m, 0, 0, p.nx⟩ : Pn).dc H4.out.box _ Try.underlying37 rfl I37.out ?_)
        | (with_reducible refine wpList_store_rowIs rfl 37 (.tmp 2) (.tmp 14) rfl (w.heap.size + 1) rfl 78 (⟨p.st, p.sn, m, 0, 0, p.nx⟩ : Pn).dc rfl 37 Pn.zero.dc H4.out.res I37.out (⟨p.st, p.sn, m, 0, 0, p.nx⟩ : Pn).dc_one ?_; intro W9 G1 G2 G3 G4)
        | fail)
      refine bodyPost_ret (results_row_tmp (p := 2) (u := 3) rfl _ W9 (w.heap.size + 1) 37 78 (⟨p.st, p.sn, m, 0, 0, p.nx⟩ : Pn).dc (.bool false) _ rfl rfl G1.out Try.underlying37 rfl I37.out) rfl ?_
      exact ⟨by rw [E1.out], H4.out.bel.trans (G3.out.mono (by have := H4.out.bel.size; omega))⟩
    · have hz := hst a1
      have hz2 : (z == 0) = false := by simp [hz]
      clear hz hne hst
      by_cases a2 : p.ga = 0
      · have e1 := HT.out.trans ((if_neg a1).trans (if_pos a2))
        have e2 := HR.out.trans ((if_neg a1).trans (if_pos a2))
        have E1 := Lib.hid e1
        subst e2
        have HA2 := Lib.hid a2
        clear pg HT HR e1 a1 ml ci a2
        go_upto_region 5 with (first
          | (with_reducible refine wpList_load_rowIs rfl 37 (.tmp 1) rfl w.heap.size rfl 37 78 (Pn.dc ⟨p.st, p.sn, m, p.pr, p.ga, p.nx⟩) hcut.out.box _ Try.underlying37 rfl I37.out ?_)
          | (go_at_call 26; (with_reducible refine (CS.out _).mono ?_); rintro e w3 ⟨rfl, hb3⟩; have H3 := Lib.hid (hcut.out.below hb3); clear hb3; obtain ⟨c0, c1, c2, c3⟩ := H3.out.box.four; have g75 := H3.out.box.frozen 75; have g76 := H3.out.box.frozen 76)
          | fail)
        rw [HA2.out] at c2
        go_upto_region 7 with fail
        have H4 := Lib.hid ((H3.out.setga 5).setpr 1)
        dsimp only at H4
        clear c0 c1 c2 c3 g75 g76
        generalize (World.setCell (World.setCell w3 ⟨w.heap.size, 76, none⟩ (.int .i64 5)) ⟨w.heap.size, 75, none⟩ (.int .i64 1)) = w4 at *
        obtain ⟨c0, c1, c2, c3⟩ := H4.out.box.four
        have g75 := H4.out.box.frozen 75
        have g76 := H4.out.box.frozen 76
        dsimp only at c0 c1 c2 c3
        go_upto_region 11 with fail
        have H5 := Lib.hid ((H4.out.setpr 0).setpr 5)
        dsimp only at H5
        clear c0 c1 c2 c3 g75 g76
        generalize (World.setCell (World.setCell w4 ⟨w.heap.size, 75, none⟩ (.int .i64 0)) ⟨w.heap.size, 75, none⟩ (.int .i64 5)) = w5 at *
        obtain ⟨c0, c1, c2, c3⟩ := H5.out.box.four
        have g76 := H5.out.box.frozen 76
        dsimp only at c0 c1 c2 c3
        go_upto_region 12 with fail
        have H6 := Lib.hid (H5.out.setga 10)
        dsimp only at H6
        clear c0 c1 c2 c3 g76
        generalize (World.setCell w5 ⟨w.heap.size, 76, none⟩ (.int .i64 10)) = w6 at *
        go_wp2_with (first
          | (with_reducible refine wpList_load_rowIs rfl 37 (.tmp 1) rfl w.heap.size rfl 37 78 (⟨p.st, p.sn, m, 5, 10, p.nx⟩ : Pn).dc H6.out.box _ Try.underlying37 rfl I37.out ?_)
          | (with_reducible refine wpList_store_rowIs rfl 37 (.tmp 2) (.tmp 36) rfl (w.heap.size + 1) rfl 78 (⟨p.st, p.sn, m, 5, 10, p.nx⟩ : Pn).dc rfl 37 Pn.zero.dc H6.out.res I37.out (⟨p.st, p.sn, m, 5, 10, p.nx⟩ : Pn).dc_one ?_; intro W9 G1 G2 G3 G4)
          | fail)
        refine bodyPost_ret (results_row_tmp (p := 2) (u := 3) rfl _ W9 (w.heap.size + 1) 37 78 (⟨p.st, p.sn, m, 5, 10, p.nx⟩ : Pn).dc (.bool true) _ rfl rfl G1.out Try.underlying37 rfl I37.out) rfl ?_
        exact ⟨by rw [E1.out], H6.out.bel.trans (G3.out.mono (by have := H6.out.bel.size; omega))⟩
      · have pg2 : 5 ≤ p.ga ∧ p.ga ≤ 80 ∧ 1 ≤ p.pr ∧ p.pr ≤ 80 := by rcases pg with hh | hh <;> omega
        obtain ⟨k0, k1, r0, r1⟩ := pg2
        clear pg
        by_cases a3 : 1 < p.pr
        · have e1 := HT.out.trans ((if_neg a1).trans ((if_neg a2).trans (if_pos a3)))
          have e2 := HR.out.trans ((if_neg a1).trans ((if_neg a2).trans (if_pos a3)))
          have E1 := Lib.hid e1
          subst e2
          clear HT HR e1 a1 ml ci
          go_upto_region 9 with (first
            | (with_reducible refine wpList_load_rowIs rfl 37 (.tmp 1) rfl w.heap.size rfl 37 78 (Pn.dc ⟨p.st, p.sn, m, p.pr, p.ga, p.nx⟩) hcut.out.box _ Try.underlying37 rfl I37.out ?_)
            | (go_at_call 26; (with_reducible refine (CS.out _).mono ?_); rintro e w3 ⟨rfl, hb3⟩; have H3 := Lib.hid (hcut.out.below hb3); clear hb3; obtain ⟨c0, c1, c2, c3⟩ := H3.out.box.four; have g75 := H3.out.box.frozen 75; have g76 := H3.out.box.frozen 76)
            | fail)
          have H4 := Lib.hid (H3.out.setpr (p.pr - 1))
          dsimp only at H4
          clear c0 c1 c2 c3 g75 g76
          generalize (World.setCell w3 ⟨w.heap.size, 75, none⟩ (.int .i64 (p.pr - 1))) = w4 at *
          go_wp2_with (first
            | (with_reducible refine wpList_load_rowIs rfl 37 (.tmp 1) rfl w.heap.size rfl 37 78 (⟨p.st, p.sn, m, p.pr - 1, p.ga, p.nx⟩ : Pn).dc H4.out.box _ Try.underlying37 rfl I37.out ?_)
            | (with_reducible refine wpList_store_rowIs rfl 37 (.tmp 2) (.tmp 27) rfl (w.heap.size + 1) rfl 78 (⟨p.st, p.sn, m, p.pr - 1, p.ga, p.nx⟩ : Pn).dc rfl 37 Pn.zero.dc H4.out.res I37.out (⟨p.st, p.sn, m, p.pr - 1, p.ga, p.nx⟩ : Pn).dc_one ?_; intro W9 G1 G2 G3 G4)
            | fail)
          refine bodyPost_ret (results_row_tmp (p := 2) (u := 3) rfl _ W9 (w.heap.size + 1) 37 78 (⟨p.st, p.sn, m, p.pr - 1, p.ga, p.nx⟩ : Pn).dc (.bool false) _ rfl rfl G1.out Try.underlying37 rfl I37.out) rfl ?_
          exact ⟨by rw [E1.out], H4.out.bel.trans (G3.out.mono (by have := H4.out.bel.size; omega))⟩
        · have e1 := HT.out.trans ((if_neg a1).trans ((if_neg a2).trans (if_neg a3)))
          have e2 := HR.out.trans ((if_neg a1).trans ((if_neg a2).trans (if_neg a3)))
          have E1 := Lib.hid e1
          subst e2
          have HP1 : Hid (p.pr = 1) := Lib.hid (by omega)
          obtain ⟨gg, hgg⟩ : ∃ gg, gg = (if 40 < p.ga then (80 : Int) else 2 * p.ga) := ⟨_, rfl⟩
          have hg2 : (40 < p.ga ∧ gg = 80) ∨ (¬ 40 < p.ga ∧ gg = 2 * p.ga) := by rw [hgg]; split <;> omega
          have E2 : Hid (PT = ⟨p.st, p.sn, m, p.ga, gg, p.nx⟩) := Lib.hid (by rw [hgg]; exact E1.out)
          have HG := Lib.hid hg2
          clear HT HR e1 a1 ml ci a3 r0 r1 hgg hg2 E1
          have wr1 : IntKind.i64.wrap (2 * p.ga) = 2 * p.ga := by rw [IntKind.wrap_i64]; omega
          go_upto_region 5 with (first
            | (with_reducible refine wpList_load_rowIs rfl 37 (.tmp 1) rfl w.heap.size rfl 37 78 (Pn.dc ⟨p.st, p.sn, m, p.pr, p.ga, p.nx⟩) hcut.out.box _ Try.underlying37 rfl I37.out ?_)
            | (go_at_call 26; (with_reducible refine (CS.out _).mono ?_); rintro e w3 ⟨rfl, hb3⟩; have H3 := Lib.hid (hcut.out.below hb3); clear hb3; obtain ⟨c0, c1, c2, c3⟩ := H3.out.box.four; have g75 := H3.out.box.frozen 75; have g76 := H3.out.box.frozen 76)
            | fail)
          rw [HP1.out] at c1
          go_upto_region 8 with fail
          have H4 := Lib.hid (H3.out.setpr 0)
          dsimp only at H4
          clear c0 c1 c2 c3 g75 g76
          generalize (World.setCell w3 ⟨w.heap.size, 75, none⟩ (.int .i64 0)) = w4 at *
          obtain ⟨c0, c1, c2, c3⟩ := H4.out.box.four
          have g75 := H4.out.box.frozen 75
          dsimp only at c0 c1 c2 c3
          go_upto_region 11 with fail
          have H5 := Lib.hid (H4.out.setpr p.ga)
          dsimp only at H5
          clear c0 c1 c2 c3 g75
          generalize (World.setCell w4 ⟨w.heap.size, 75, none⟩ (.int .i64 p.ga)) = w5 at *
          obtain ⟨c0, c1, c2, c3⟩ := H5.out.box.four
          have g76 := H5.out.box.frozen 76
          dsimp only at c0 c1 c2 c3
          have H6 := Lib.hid (H5.out.setga gg)
          dsimp only at H6
          go_cut [] (fun wx => Hid (RT w ⟨p.st, p.sn, m, p.ga, gg, p.nx⟩ wx))
          case first =>
            rcases HG.out with ⟨a4, rfl⟩ | ⟨a4, rfl⟩
            all_goals
              go_wp2
              go_meet
              exact H6
          case rest =>
            clear c0 c1 c2 c3 g76 wr1
            go_wp2_with (first
              | (with_reducible refine wpList_load_rowIs rfl 37 (.tmp 1) rfl w.heap.size rfl 37 78 (⟨p.st, p.sn, m, p.ga, gg, p.nx⟩ : Pn).dc hcut.out.box _ Try.underlying37 rfl I37.out ?_)
              | (with_reducible refine wpList_store_rowIs rfl 37 (.tmp 2) (.tmp 36) rfl (w.heap.size + 1) rfl 78 (⟨p.st, p.sn, m, p.ga, gg, p.nx⟩ : Pn).dc rfl 37 Pn.zero.dc hcut.out.res I37.out (⟨p.st, p.sn, m, p.ga, gg, p.nx⟩ : Pn).dc_one ?_; intro W9 G1 G2 G3 G4)
              | fail)
            refine bodyPost_ret (results_row_tmp (p := 2) (u := 3) rfl _ W9 (w.heap.size + 1) 37 78 (⟨p.st, p.sn, m, p.ga, gg, p.nx⟩ : Pn).dc (.bool true) _ rfl rfl G1.out Try.underlying37 rfl I37.out) rfl ?_
            exact ⟨by rw [E2.out], hcut.out.bel.trans (G3.out.mono (by have := hcut.out.bel.size; omega))⟩
end Go.Proofs.Ytopnceniihgkpaa
