/-
  Own text: the document's way, by value and in its block of 78 cells; its State, walked.
    the document's Tick, walked. (Written by gen_pte.py.)
    the document's Heard, walked.
-/
import Derived.Test.YtldhlknmabpanaaGreatK03
import Derived.Test.YtldhlknmabpanaaGreatK24
import Derived.Test.YtldhlknmabpanaaGreatK06
import Derived.Deep.DeepCutAuto
namespace Go.Proofs.YtldhlknmabpanaaGreat
open Go.RowKit

/-- The cells of the document's way. -/
def pcl (s : Sk) (f : Nat → Value) (q pr ga : Int) (nx i : Nat) : Value :=
  if i = 0 then .int .i64 s.lo else if i = 1 then .int .i64 s.rt else if i = 2 then .int .i64 s.va else if i = 3 then .int .i64 s.ma else if i = 4 then .int .i64 s.tr
  else if i < 74 then f (i - 5) else if i = 74 then .int .i64 q else if i = 75 then .int .i64 pr else if i = 76 then .int .i64 ga else .int .u32 nx
def Pn.dc (p : Pn) : Nat → Value := pcl p.st p.sn.dc p.q p.pr p.ga p.nx
theorem pcl_one (s : Sk) (f : Nat → Value) (hf : ∀ i, (f i).oneCell' = true) (q pr ga : Int) (nx i : Nat) : (pcl s f q pr ga nx i).oneCell' = true := by
  unfold pcl
  repeat' split
  all_goals first | rfl | exact hf _
theorem Pn.dc_one (p : Pn) (i : Nat) : (p.dc i).oneCell' = true := pcl_one _ _ (dcl_one _ _ _ _ _ _) _ _ _ _ _
theorem info37 : (Tryz.prog.info? 34).map (·.size) = some 78 := by kernel_rfl
theorem zero37 (w : World) : (zeroValue 34).run Tryz.prog w = .ok (.agg (rowOf 78 Pn.zero.dc)) w := by kernel_rfl
/-- The document's way in its block. -/
abbrev RB (w : World) (b : Nat) (p : Pn) : Prop := w.rowIs b 34 78 p.dc
section
variable {w w' : World} {b : Nat} {p : Pn}
theorem RB.below {B : Nat} (h : RB w b p) (hb : Below B w w') (hB : b < B) : RB w' b p := h.of_block (hb.block b hB)
/-- Quiet, Probe, Gap, Next. -/
theorem RB.four (h : RB w b p) : w.cell? ⟨b, 74, none⟩ = some (.int .i64 p.q) ∧ w.cell? ⟨b, 75, none⟩ = some (.int .i64 p.pr) ∧ w.cell? ⟨b, 76, none⟩ = some (.int .i64 p.ga) ∧ w.cell? ⟨b, 77, none⟩ = some (.int .u32 p.nx) :=
  ⟨h.cell (i := 74) (by decide), h.cell (i := 75) (by decide), h.cell (i := 76) (by decide), h.cell (i := 77) (by decide)⟩
/-- How it has done. -/
theorem RB.five (h : RB w b p) : w.cell? ⟨b, 0, none⟩ = some (.int .i64 p.st.lo) ∧ w.cell? ⟨b, 1, none⟩ = some (.int .i64 p.st.rt) ∧ w.cell? ⟨b, 2, none⟩ = some (.int .i64 p.st.va) ∧ w.cell? ⟨b, 3, none⟩ = some (.int .i64 p.st.ma) ∧ w.cell? ⟨b, 4, none⟩ = some (.int .i64 p.st.tr) :=
  ⟨h.cell (i := 0) (by decide), h.cell (i := 1) (by decide), h.cell (i := 2) (by decide), h.cell (i := 3) (by decide), h.cell (i := 4) (by decide)⟩
theorem RB.setq (h : RB w b p) (n : Int) : RB (w.setCell ⟨b, 74, none⟩ (.int .i64 n)) b ⟨p.st, p.sn, n, p.pr, p.ga, p.nx⟩ := (h.set 74 _).congr (fun i _ => by
  by_cases g : i = 74
  · subst g
    rfl
  · simp only [Pn.dc, pcl, g, if_false])
theorem RB.setpr (h : RB w b p) (n : Int) : RB (w.setCell ⟨b, 75, none⟩ (.int .i64 n)) b ⟨p.st, p.sn, p.q, n, p.ga, p.nx⟩ := (h.set 75 _).congr (fun i _ => by
  by_cases g : i = 75
  · subst g
    rfl
  · simp only [Pn.dc, pcl, g, if_false])
theorem RB.setga (h : RB w b p) (n : Int) : RB (w.setCell ⟨b, 76, none⟩ (.int .i64 n)) b ⟨p.st, p.sn, p.q, p.pr, n, p.nx⟩ := (h.set 76 _).congr (fun i _ => by
  by_cases g : i = 76
  · subst g
    rfl
  · simp only [Pn.dc, pcl, g, if_false])
theorem RB.setnx (h : RB w b p) (n : Nat) : RB (w.setCell ⟨b, 77, none⟩ (.int .u32 n)) b ⟨p.st, p.sn, p.q, p.pr, p.ga, n⟩ := (h.set 77 _).congr (fun i hi => by
  unfold Pn.dc pcl
  repeat' split
  all_goals first | rfl | omega)
/-- A store of how it has done. -/
theorem RB.setst (h : RB w b p) (s : Sk) : RB (((((w.setCell ⟨b, 0, none⟩ (.int .i64 s.lo)).setCell ⟨b, 1, none⟩ (.int .i64 s.rt)).setCell ⟨b, 2, none⟩ (.int .i64 s.va)).setCell ⟨b, 3, none⟩ (.int .i64 s.ma)).setCell ⟨b, 4, none⟩ (.int .i64 s.tr)) b ⟨s, p.sn, p.q, p.pr, p.ga, p.nx⟩ :=
  (((((World.rowIs.set h 0 (.int .i64 s.lo)).set 1 (.int .i64 s.rt)).set 2 (.int .i64 s.va)).set 3 (.int .i64 s.ma)).set 4 (.int .i64 s.tr)).congr (fun i hi => by
    rcases (by omega : i = 0 ∨ i = 1 ∨ i = 2 ∨ i = 3 ∨ i = 4 ∨ 5 ≤ i) with rfl | rfl | rfl | rfl | rfl | h5
    · rfl
    · rfl
    · rfl
    · rfl
    · rfl
    · have n0 : ¬ i = 0 := by omega
      have n1 : ¬ i = 1 := by omega
      have n2 : ¬ i = 2 := by omega
      have n3 : ¬ i = 3 := by omega
      have n4 : ¬ i = 4 := by omega
      simp only [Pn.dc, pcl, n0, n1, n2, n3, n4, if_false])
theorem RB.off5 {c : Nat} (h : RB w b p) (hc : b ≠ c) (v0 v1 v2 v3 v4 : Value) : RB (((((w.setCell ⟨c, 0, none⟩ v0).setCell ⟨c, 1, none⟩ v1).setCell ⟨c, 2, none⟩ v2).setCell ⟨c, 3, none⟩ v3).setCell ⟨c, 4, none⟩ v4) b p :=
  ((((World.rowIs.setOther h (a := ⟨c, 0, none⟩) hc _).setOther (a := ⟨c, 1, none⟩) hc _).setOther (a := ⟨c, 2, none⟩) hc _).setOther (a := ⟨c, 3, none⟩) hc _).setOther (a := ⟨c, 4, none⟩) hc _
end
theorem RB.new (w : World) (p : Pn) : RB (w.alloc (.cells (rowOf 78 p.dc) 34)) w.heap.size p := rowIs_new w 78 p.dc _
set_option maxRecDepth 100000 in
theorem rstate_any (p : Pn) (w : World) :
    Calls Tryz.prog 60 #[.agg (rowOf 78 p.dc)] w fun e w' => e = .returned (.int .i64 p.state) ∧ Below w.heap.size w w' := by
  obtain ⟨R, hR⟩ : ∃ R, R = rowOf 78 p.dc := ⟨_, rfl⟩
  obtain ⟨W, hW⟩ : ∃ W, W = w.alloc (.cells R 34) := ⟨_, rfl⟩
  have HB := Lib.hid (show Below w.heap.size w W by rw [hW]; exact (Below.refl _ _).alloc (Nat.le_refl _) _)
  obtain ⟨c0, c1, c2, c3⟩ := (show RB W w.heap.size p by rw [hW, hR]; exact RB.new w p).four
  rw [← hR]
  unfold Pn.state stateOf
  clear c1 c2 c3 hR
  generalize p.q = q at *
  by_cases h1 : 60 ≤ q
  · rw [if_pos h1]
    go_enter Tryz.func60, Tryz.ntmps60
    go_upto_region 1 with fail
    rw [← hW]
    clear hW
    go_wp2
    go_ret
    exact ⟨rfl, HB.out⟩
  · rw [if_neg h1]
    by_cases h2 : 20 ≤ q
    all_goals
      first | rw [if_pos h2] | rw [if_neg h2]
      go_enter Tryz.func60, Tryz.ntmps60
      go_upto_region 1 with fail
      rw [← hW]
      clear hW
      go_wp2
      go_ret
      exact ⟨rfl, HB.out⟩
end Go.Proofs.YtldhlknmabpanaaGreat
namespace Go.Proofs.YtldhlknmabpanaaGreat
open Go.RowKit

/-- The box of the document's way, and that of the answer. -/
structure RT (w : World) (p : Pn) (W : World) : Prop where
  box : RB W w.heap.size p
  res : RB W (w.heap.size + 1) Pn.zero
  bel : Below w.heap.size w W
section
variable {w W W' : World} {p : Pn}
theorem RT.start (w : World) (p : Pn) (hW : W = (w.alloc (.cells (rowOf 78 p.dc) 34)).alloc (.cells (rowOf 78 Pn.zero.dc) 34)) : RT w p W := by
  subst hW
  refine ⟨(RB.new w p).alloc _, ?_, ((Below.refl _ _).alloc (Nat.le_refl _) _).alloc (by simp) _⟩
  have := RB.new (w.alloc (.cells (rowOf 78 p.dc) 34)) Pn.zero
  simpa using this
theorem RT.below (h : RT w p W) (hb : Below W.heap.size W W') : RT w p W' := ⟨h.box.below hb h.box.lt, h.res.below hb h.res.lt, h.bel.trans (hb.mono h.bel.size)⟩
theorem RT.drew (h : RT w p W) : RT w p W.drew := ⟨h.box, h.res, h.bel.drew⟩
theorem RT.drewN (h : RT w p W) (k : Nat) : RT w p (W.drewN k) := ⟨h.box.of_block rfl, h.res.of_block rfl, below_drewN h.bel k⟩
theorem RT.setq (h : RT w p W) (n : Int) : RT w ⟨p.st, p.sn, n, p.pr, p.ga, p.nx⟩ (W.setCell ⟨w.heap.size, 74, none⟩ (.int .i64 n)) :=
  ⟨h.box.setq n, h.res.setOther (a := ⟨w.heap.size, 74, none⟩) (by show w.heap.size + 1 ≠ w.heap.size; omega) _, h.bel.setCell (p := ⟨w.heap.size, 74, none⟩) (Nat.le_refl _) _⟩
theorem RT.setpr (h : RT w p W) (n : Int) : RT w ⟨p.st, p.sn, p.q, n, p.ga, p.nx⟩ (W.setCell ⟨w.heap.size, 75, none⟩ (.int .i64 n)) :=
  ⟨h.box.setpr n, h.res.setOther (a := ⟨w.heap.size, 75, none⟩) (by show w.heap.size + 1 ≠ w.heap.size; omega) _, h.bel.setCell (p := ⟨w.heap.size, 75, none⟩) (Nat.le_refl _) _⟩
theorem RT.setga (h : RT w p W) (n : Int) : RT w ⟨p.st, p.sn, p.q, p.pr, n, p.nx⟩ (W.setCell ⟨w.heap.size, 76, none⟩ (.int .i64 n)) :=
  ⟨h.box.setga n, h.res.setOther (a := ⟨w.heap.size, 76, none⟩) (by show w.heap.size + 1 ≠ w.heap.size; omega) _, h.bel.setCell (p := ⟨w.heap.size, 76, none⟩) (Nat.le_refl _) _⟩
theorem RT.setst (h : RT w p W) (s : Sk) : RT w ⟨s, p.sn, p.q, p.pr, p.ga, p.nx⟩ (((((W.setCell ⟨w.heap.size, 0, none⟩ (.int .i64 s.lo)).setCell ⟨w.heap.size, 1, none⟩ (.int .i64 s.rt)).setCell ⟨w.heap.size, 2, none⟩ (.int .i64 s.va)).setCell ⟨w.heap.size, 3, none⟩ (.int .i64 s.ma)).setCell ⟨w.heap.size, 4, none⟩ (.int .i64 s.tr)) :=
  ⟨h.box.setst s, h.res.off5 (by omega) _ _ _ _ _, ((((h.bel.setCell (p := ⟨w.heap.size, 0, none⟩) (Nat.le_refl _) _).setCell (p := ⟨w.heap.size, 1, none⟩) (Nat.le_refl _) _).setCell (p := ⟨w.heap.size, 2, none⟩) (Nat.le_refl _) _).setCell (p := ⟨w.heap.size, 3, none⟩) (Nat.le_refl _) _).setCell (p := ⟨w.heap.size, 4, none⟩) (Nat.le_refl _) _⟩
end
set_option maxRecDepth 100000 in
set_option maxHeartbeats 4000000 in
theorem rtick_any (p : Pn) (hk : p.ok) (w : World) :
    Calls Tryz.prog 64 #[.agg (rowOf 78 p.dc)] w fun e w' => e = .returned (.tuple #[.agg (rowOf 78 p.tick.dc), .bool p.fires]) ∧ Below w.heap.size w w' := by
  obtain ⟨W, hW⟩ : ∃ W, W = (w.alloc (.cells (rowOf 78 p.dc) 34)).alloc (.cells (rowOf 78 Pn.zero.dc) 34) := ⟨_, rfl⟩
  have H0 := Lib.hid (RT.start w p hW)
  have q0 := hk.q0
  have q1 := hk.q1
  have pg := hk.pg
  obtain ⟨m, hm⟩ : ∃ m, m = more30 p.q := ⟨_, rfl⟩
  have ml := more30_lo q0
  have hT : p.tick = if m < 20 then ⟨p.st, p.sn, m, 0, 0, p.nx⟩ else if p.ga = 0 then ⟨p.st, p.sn, m, 5, 10, p.nx⟩ else if 1 < p.pr then ⟨p.st, p.sn, m, p.pr - 1, p.ga, p.nx⟩ else ⟨p.st, p.sn, m, p.ga, if 40 < p.ga then 80 else 2 * p.ga, p.nx⟩ := by rw [hm]; rfl
  have hR : p.fires = if m < 20 then false else if p.ga = 0 then true else if 1 < p.pr then false else true := by rw [hm]; rfl
  have hmin : (p.q + 1 ≤ 1073741824 ∧ m = p.q + 1) ∨ (¬ p.q + 1 ≤ 1073741824 ∧ m = 1073741824) := by
    rw [hm]
    unfold more30
    split <;> omega
  rw [← hm] at ml
  have hne : m < 20 → stateOf m = 0 := fun hh => by unfold stateOf; rw [if_neg (by omega), if_neg (by omega)]
  have hst : ¬ m < 20 → ¬ stateOf m = 0 := fun hh => by
    unfold stateOf
    split
    · decide
    · rw [if_pos (by omega)]; decide
  have I37 := Lib.hid info37
  have HZ := Lib.hid zero37
  have CS : Hid (∀ w', Calls Tryz.prog 60 #[.agg (rowOf 78 (⟨p.st, p.sn, m, p.pr, p.ga, p.nx⟩ : Pn).dc)] w' fun e w'' => e = .returned (.int .i64 (stateOf m)) ∧ Below w'.heap.size w' w'') := Lib.hid (fun w' => rstate_any ⟨p.st, p.sn, m, p.pr, p.ga, p.nx⟩ w')
  obtain ⟨c0, c1, c2, c3⟩ := H0.out.box.four
  have f0 := H0.out.box.frozen 74
  have HT := Lib.hid hT
  have HR := Lib.hid hR
  clear hT hR
  generalize p.tick = PT at *
  generalize p.fires = PF at *
  clear hm hk
  generalize stateOf m = z at *
  obtain ⟨R, hRR⟩ : ∃ R, R = rowOf 78 p.dc := ⟨_, rfl⟩
  rw [← hRR] at hW ⊢
  have zz := zero37
  obtain ⟨Z, hZZ⟩ : ∃ Z, Z = rowOf 78 Pn.zero.dc := ⟨_, rfl⟩
  rw [← hZZ] at hW zz
  clear hRR hZZ HZ
  go_enter Tryz.func64, Tryz.ntmps64
  go_upto_region 1 with fail
  rw [← hW]
  clear hW zz
  have H1 := Lib.hid (H0.out.setq m)
  have hmin2 := Lib.hid hmin
  go_cut [] (fun wx => Hid (RT w ⟨p.st, p.sn, m, p.pr, p.ga, p.nx⟩ wx))
  case first =>
    rcases hmin with ⟨hmin, rfl⟩ | ⟨hmin, rfl⟩
    all_goals
      go_wp2
      go_meet
      exact H1
  case rest =>
    clear c0 c1 c2 c3 f0 H0 H1 hmin hmin2
    have ci := I37
    by_cases a1 : m < 20
    · have e1 := HT.out.trans (if_pos a1)
      have e2 := HR.out.trans (if_pos a1)
      have hz := hne a1
      have E1 := Lib.hid e1
      subst e2
      clear hne hst pg HT HR e1 a1 ml ci
      go_upto_region 4 with (first
        | (with_reducible refine wpList_load_rowIs rfl 34 (.tmp 1) rfl w.heap.size rfl 34 78 (Pn.dc ⟨p.st, p.sn, m, p.pr, p.ga, p.nx⟩) hcut.out.box _ Tryz.underlying34 rfl I37.out ?_)
        | (go_at_call 60; (with_reducible refine (CS.out _).mono ?_); rintro e w3 ⟨rfl, hb3⟩; have H3 := Lib.hid (hcut.out.below hb3); clear hb3; obtain ⟨c0, c1, c2, c3⟩ := H3.out.box.four; have g75 := H3.out.box.frozen 75; have g76 := H3.out.box.frozen 76)
        | fail)
      have H4 := Lib.hid ((H3.out.setpr 0).setga 0)
      dsimp only at H4
      clear c0 c1 c2 c3 g75 g76
      generalize (World.setCell (World.setCell w3 ⟨w.heap.size, 75, none⟩ (.int .i64 0)) ⟨w.heap.size, 76, none⟩ (.int .i64 0)) = w4 at *
      go_wp2_with (first
        | (with_reducible refine wpList_load_rowIs rfl 34 (.tmp 1) rfl w.heap.size rfl 34 78 (⟨p.st, p.sn, m, 0, 0, p.nx⟩ : Pn).dc H4.out.box _ Tryz.underlying34 rfl I37.out ?_)
        | (with_reducible refine wpList_store_rowIs rfl 34 (.tmp 2) (.tmp 14) rfl (w.heap.size + 1) rfl 78 (⟨p.st, p.sn, m, 0, 0, p.nx⟩ : Pn).dc rfl 34 Pn.zero.dc H4.out.res I37.out (⟨p.st, p.sn, m, 0, 0, p.nx⟩ : Pn).dc_one ?_; intro W9 G1 G2 G3 G4)
        | fail)
      refine bodyPost_ret (results_row_tmp (p := 2) (u := 3) rfl _ W9 (w.heap.size + 1) 34 78 (⟨p.st, p.sn, m, 0, 0, p.nx⟩ : Pn).dc (.bool false) _ rfl rfl G1.out Tryz.underlying34 rfl I37.out) rfl ?_
      exact ⟨by rw [E1.out], H4.out.bel.trans (G3.out.mono (by have := H4.out.bel.size; omega))⟩
    · have hz := hst a1
      have hz2 : (z == 0) = false := by simp [hz]
      clear hz hne hst
      by_cases a2 : p.ga = 0
      · have e1 := HT.out.trans ((if_neg a1).trans (if_pos a2))
        have e2 := HR.out.trans ((if_neg a1).trans (if_pos a2))
        have E1 := Lib.hid e1
        subst e2
        have HA2 := Lib.hid a2
        clear pg HT HR e1 a1 ml ci a2
        go_upto_region 5 with (first
          | (with_reducible refine wpList_load_rowIs rfl 34 (.tmp 1) rfl w.heap.size rfl 34 78 (Pn.dc ⟨p.st, p.sn, m, p.pr, p.ga, p.nx⟩) hcut.out.box _ Tryz.underlying34 rfl I37.out ?_)
          | (go_at_call 60; (with_reducible refine (CS.out _).mono ?_); rintro e w3 ⟨rfl, hb3⟩; have H3 := Lib.hid (hcut.out.below hb3); clear hb3; obtain ⟨c0, c1, c2, c3⟩ := H3.out.box.four; have g75 := H3.out.box.frozen 75; have g76 := H3.out.box.frozen 76)
          | fail)
        rw [HA2.out] at c2
        go_upto_region 7 with fail
        have H4 := Lib.hid ((H3.out.setga 5).setpr 1)
        dsimp only at H4
        clear c0 c1 c2 c3 g75 g76
        generalize (World.setCell (World.setCell w3 ⟨w.heap.size, 76, none⟩ (.int .i64 5)) ⟨w.heap.size, 75, none⟩ (.int .i64 1)) = w4 at *
        obtain ⟨c0, c1, c2, c3⟩ := H4.out.box.four
        have g75 := H4.out.box.frozen 75
        have g76 := H4.out.box.frozen 76
        dsimp only at c0 c1 c2 c3
        go_upto_region 11 with fail
        have H5 := Lib.hid ((H4.out.setpr 0).setpr 5)
        dsimp only at H5
        clear c0 c1 c2 c3 g75 g76
        generalize (World.setCell (World.setCell w4 ⟨w.heap.size, 75, none⟩ (.int .i64 0)) ⟨w.heap.size, 75, none⟩ (.int .i64 5)) = w5 at *
        obtain ⟨c0, c1, c2, c3⟩ := H5.out.box.four
        have g76 := H5.out.box.frozen 76
        dsimp only at c0 c1 c2 c3
        go_upto_region 12 with fail
        have H6 := Lib.hid (H5.out.setga 10)
        dsimp only at H6
        clear c0 c1 c2 c3 g76
        generalize (World.setCell w5 ⟨w.heap.size, 76, none⟩ (.int .i64 10)) = w6 at *
        go_wp2_with (first
          | (with_reducible refine wpList_load_rowIs rfl 34 (.tmp 1) rfl w.heap.size rfl 34 78 (⟨p.st, p.sn, m, 5, 10, p.nx⟩ : Pn).dc H6.out.box _ Tryz.underlying34 rfl I37.out ?_)
          | (with_reducible refine wpList_store_rowIs rfl 34 (.tmp 2) (.tmp 36) rfl (w.heap.size + 1) rfl 78 (⟨p.st, p.sn, m, 5, 10, p.nx⟩ : Pn).dc rfl 34 Pn.zero.dc H6.out.res I37.out (⟨p.st, p.sn, m, 5, 10, p.nx⟩ : Pn).dc_one ?_; intro W9 G1 G2 G3 G4)
          | fail)
        refine bodyPost_ret (results_row_tmp (p := 2) (u := 3) rfl _ W9 (w.heap.size + 1) 34 78 (⟨p.st, p.sn, m, 5, 10, p.nx⟩ : Pn).dc (.bool true) _ rfl rfl G1.out Tryz.underlying34 rfl I37.out) rfl ?_
        exact ⟨by rw [E1.out], H6.out.bel.trans (G3.out.mono (by have := H6.out.bel.size; omega))⟩
      · have pg2 : 5 ≤ p.ga ∧ p.ga ≤ 80 ∧ 1 ≤ p.pr ∧ p.pr ≤ 80 := by rcases pg with hh | hh <;> omega
        obtain ⟨k0, k1, r0, r1⟩ := pg2
        clear pg
        by_cases a3 : 1 < p.pr
        · have e1 := HT.out.trans ((if_neg a1).trans ((if_neg a2).trans (if_pos a3)))
          have e2 := HR.out.trans ((if_neg a1).trans ((if_neg a2).trans (if_pos a3)))
          have E1 := Lib.hid e1
          subst e2
          clear HT HR e1 a1 ml ci
          go_upto_region 9 with (first
            | (with_reducible refine wpList_load_rowIs rfl 34 (.tmp 1) rfl w.heap.size rfl 34 78 (Pn.dc ⟨p.st, p.sn, m, p.pr, p.ga, p.nx⟩) hcut.out.box _ Tryz.underlying34 rfl I37.out ?_)
            | (go_at_call 60; (with_reducible refine (CS.out _).mono ?_); rintro e w3 ⟨rfl, hb3⟩; have H3 := Lib.hid (hcut.out.below hb3); clear hb3; obtain ⟨c0, c1, c2, c3⟩ := H3.out.box.four; have g75 := H3.out.box.frozen 75; have g76 := H3.out.box.frozen 76)
            | fail)
          have H4 := Lib.hid (H3.out.setpr (p.pr - 1))
          dsimp only at H4
          clear c0 c1 c2 c3 g75 g76
          generalize (World.setCell w3 ⟨w.heap.size, 75, none⟩ (.int .i64 (p.pr - 1))) = w4 at *
          go_wp2_with (first
            | (with_reducible refine wpList_load_rowIs rfl 34 (.tmp 1) rfl w.heap.size rfl 34 78 (⟨p.st, p.sn, m, p.pr - 1, p.ga, p.nx⟩ : Pn).dc H4.out.box _ Tryz.underlying34 rfl I37.out ?_)
            | (with_reducible refine wpList_store_rowIs rfl 34 (.tmp 2) (.tmp 27) rfl (w.heap.size + 1) rfl 78 (⟨p.st, p.sn, m, p.pr - 1, p.ga, p.nx⟩ : Pn).dc rfl 34 Pn.zero.dc H4.out.res I37.out (⟨p.st, p.sn, m, p.pr - 1, p.ga, p.nx⟩ : Pn).dc_one ?_; intro W9 G1 G2 G3 G4)
            | fail)
          refine bodyPost_ret (results_row_tmp (p := 2) (u := 3) rfl _ W9 (w.heap.size + 1) 34 78 (⟨p.st, p.sn, m, p.pr - 1, p.ga, p.nx⟩ : Pn).dc (.bool false) _ rfl rfl G1.out Tryz.underlying34 rfl I37.out) rfl ?_
          exact ⟨by rw [E1.out], H4.out.bel.trans (G3.out.mono (by have := H4.out.bel.size; omega))⟩
        · have e1 := HT.out.trans ((if_neg a1).trans ((if_neg a2).trans (if_neg a3)))
          have e2 := HR.out.trans ((if_neg a1).trans ((if_neg a2).trans (if_neg a3)))
          have E1 := Lib.hid e1
          subst e2
          have HP1 : Hid (p.pr = 1) := Lib.hid (by omega)
          obtain ⟨gg, hgg⟩ : ∃ gg, gg = (if 40 < p.ga then (80 : Int) else 2 * p.ga) := ⟨_, rfl⟩
          have hg2 : (40 < p.ga ∧ gg = 80) ∨ (¬ 40 < p.ga ∧ gg = 2 * p.ga) := by rw [hgg]; split <;> omega
          have E2 : Hid (PT = ⟨p.st, p.sn, m, p.ga, gg, p.nx⟩) := Lib.hid (by rw [hgg]; exact E1.out)
          have HG := Lib.hid hg2
          clear HT HR e1 a1 ml ci a3 r0 r1 hgg hg2 E1
          have wr1 : IntKind.i64.wrap (2 * p.ga) = 2 * p.ga := by rw [IntKind.wrap_i64]; omega
          go_upto_region 5 with (first
            | (with_reducible refine wpList_load_rowIs rfl 34 (.tmp 1) rfl w.heap.size rfl 34 78 (Pn.dc ⟨p.st, p.sn, m, p.pr, p.ga, p.nx⟩) hcut.out.box _ Tryz.underlying34 rfl I37.out ?_)
            | (go_at_call 60; (with_reducible refine (CS.out _).mono ?_); rintro e w3 ⟨rfl, hb3⟩; have H3 := Lib.hid (hcut.out.below hb3); clear hb3; obtain ⟨c0, c1, c2, c3⟩ := H3.out.box.four; have g75 := H3.out.box.frozen 75; have g76 := H3.out.box.frozen 76)
            | fail)
          rw [HP1.out] at c1
          go_upto_region 8 with fail
          have H4 := Lib.hid (H3.out.setpr 0)
          dsimp only at H4
          clear c0 c1 c2 c3 g75 g76
          generalize (World.setCell w3 ⟨w.heap.size, 75, none⟩ (.int .i64 0)) = w4 at *
          obtain ⟨c0, c1, c2, c3⟩ := H4.out.box.four
          have g75 := H4.out.box.frozen 75
          dsimp only at c0 c1 c2 c3
          go_upto_region 11 with fail
          have H5 := Lib.hid (H4.out.setpr p.ga)
          dsimp only at H5
          clear c0 c1 c2 c3 g75
          generalize (World.setCell w4 ⟨w.heap.size, 75, none⟩ (.int .i64 p.ga)) = w5 at *
          obtain ⟨c0, c1, c2, c3⟩ := H5.out.box.four
          have g76 := H5.out.box.frozen 76
          dsimp only at c0 c1 c2 c3
          have H6 := Lib.hid (H5.out.setga gg)
          dsimp only at H6
          go_cut [] (fun wx => Hid (RT w ⟨p.st, p.sn, m, p.ga, gg, p.nx⟩ wx))
          case first =>
            rcases HG.out with ⟨a4, rfl⟩ | ⟨a4, rfl⟩
            all_goals
              go_wp2
              go_meet
              exact H6
          case rest =>
            clear c0 c1 c2 c3 g76 wr1
            go_wp2_with (first
              | (with_reducible refine wpList_load_rowIs rfl 34 (.tmp 1) rfl w.heap.size rfl 34 78 (⟨p.st, p.sn, m, p.ga, gg, p.nx⟩ : Pn).dc hcut.out.box _ Tryz.underlying34 rfl I37.out ?_)
              | (with_reducible refine wpList_store_rowIs rfl 34 (.tmp 2) (.tmp 36) rfl (w.heap.size + 1) rfl 78 (⟨p.st, p.sn, m, p.ga, gg, p.nx⟩ : Pn).dc rfl 34 Pn.zero.dc hcut.out.res I37.out (⟨p.st, p.sn, m, p.ga, gg, p.nx⟩ : Pn).dc_one ?_; intro W9 G1 G2 G3 G4)
              | fail)
            refine bodyPost_ret (results_row_tmp (p := 2) (u := 3) rfl _ W9 (w.heap.size + 1) 34 78 (⟨p.st, p.sn, m, p.ga, gg, p.nx⟩ : Pn).dc (.bool true) _ rfl rfl G1.out Tryz.underlying34 rfl I37.out) rfl ?_
            exact ⟨by rw [E2.out], hcut.out.bel.trans (G3.out.mono (by have := hcut.out.bel.size; omega))⟩
end Go.Proofs.YtldhlknmabpanaaGreat
namespace Go.Proofs.YtldhlknmabpanaaGreat
open Go.RowKit

theorem Sn.dc_one (s : Sn) (i : Nat) : (s.dc i).oneCell' = true := dcl_one _ _ _ _ _ _ i
theorem SV_is (s : Sk) : SV s = .agg #[.int .i64 s.lo, .int .i64 s.rt, .int .i64 s.va, .int .i64 s.ma, .int .i64 s.tr] := rfl
/-- What came, out of the middle of the document's way. -/
theorem RB.mid {w : World} {b : Nat} {p : Pn} (h : RB w b p) : w.rangeAt b 5 ((List.range 69).map p.sn.dc) := fun j v hv => by
  have hj : j < 69 := by simpa using (List.getElem?_eq_some_iff.1 hv).1
  rw [World.rowIs.cell h (i := 5 + j) (by omega)]
  rw [← hv, List.getElem?_map, List.getElem?_range hj]
  have n0 : ¬ 5 + j = 0 := by omega
  have n1 : ¬ 5 + j = 1 := by omega
  have n2 : ¬ 5 + j = 2 := by omega
  have n3 : ¬ 5 + j = 3 := by omega
  have n4 : ¬ 5 + j = 4 := by omega
  have n5 : 5 + j < 74 := by omega
  have n6 : 5 + j - 5 = j := by omega
  simp only [Pn.dc, pcl, n0, n1, n2, n3, n4, n5, n6, if_false, if_true, Option.map_some]
theorem RB.there {w : World} {b : Nat} {p : Pn} (h : RB w b p) (s : Sn) : w.there b 5 (rowOf 69 s.dc).size := fun j hj => by
  rw [rowOf_size] at hj
  exact ⟨by rw [World.rowIs.cell h (i := 5 + j) (by omega)]; rfl, World.rowIs.frozen h _⟩
theorem RB.setsn {w : World} {b : Nat} {p : Pn} (h : RB w b p) (s : Sn) : RB (w.setCells b 5 (rowOf 69 s.dc).toList) b ⟨p.st, s, p.q, p.pr, p.ga, p.nx⟩ :=
  (rowIs_setCells (rowOf 69 s.dc).toList 5 w _ h).congr (fun i hi => by
    rw [rowOf_getD]
    by_cases h5 : 5 ≤ i
    · have n0 : ¬ i = 0 := by omega
      have n1 : ¬ i = 1 := by omega
      have n2 : ¬ i = 2 := by omega
      have n3 : ¬ i = 3 := by omega
      have n4 : ¬ i = 4 := by omega
      by_cases h74 : i < 74
      · have n7 : i - 5 < 69 := by omega
        simp only [Pn.dc, pcl, n0, n1, n2, n3, n4, h5, h74, n7, if_false, if_true]
      · have n7 : ¬ i - 5 < 69 := by omega
        simp only [Pn.dc, pcl, n0, n1, n2, n3, n4, h5, h74, n7, if_false, if_true]
    · rcases (by omega : i = 0 ∨ i = 1 ∨ i = 2 ∨ i = 3 ∨ i = 4) with rfl | rfl | rfl | rfl | rfl <;> rfl)
theorem wpList_load_seen {w : World} {ops : Array Oper} {rest : List Oper} {o : Oper} {a : Act} {Q : Exit → Act → World → Prop} (hgd : o.guard = none) (x : Operand) (ho : o.op = .load 32 x)
    (b : Nat) (hx : a.eval x = .pointer (some ⟨b, 5, none⟩)) (p : Pn) (h : RB w b p) (k : wpList Tryz.prog ops Q rest (a.put o.dst (.agg (rowOf 69 p.sn.dc))) w) : wpList Tryz.prog ops Q (o :: rest) a w :=
  wpList_load_mid hgd 32 x ho b 5 hx ((List.range 69).map p.sn.dc) _ h.mid Tryz.underlying32 rfl (by rw [info30]; simp) k
theorem wpList_store_seen {w : World} {ops : Array Oper} {rest : List Oper} {o : Oper} {a : Act} {Q : Exit → Act → World → Prop} (hgd : o.guard = none) (x y : Operand) (ho : o.op = .store 32 x y)
    (b : Nat) (hx : a.eval x = .pointer (some ⟨b, 5, none⟩)) (s : Sn) (hy : a.eval y = .agg (rowOf 69 s.dc)) (p : Pn) (h : RB w b p) (k : wpList Tryz.prog ops Q rest (a.put o.dst undef) (w.setCells b 5 (rowOf 69 s.dc).toList)) : wpList Tryz.prog ops Q (o :: rest) a w :=
  wpList_store_mid hgd 32 x y ho b 5 (rowOf 69 s.dc) hx hy (h.there s) (by rw [info30, rowOf_size]) (rowOf_one (dcl_one _ _ _ _ _ _)) k
/-- The box of the document's way, that of the answer, and that of what came. -/
structure RH (w : World) (p : Pn) (g : Nat) (s2 : Sn) (W : World) : Prop where
  rt : RT w p W
  sb : DRow W g s2.dc
  hg : w.heap.size + 1 < g
section
variable {w W W' : World} {p : Pn} {g : Nat} {s2 : Sn}
theorem RH.below (h : RH w p g s2 W) (hb : Below W.heap.size W W') : RH w p g s2 W' := ⟨h.rt.below hb, h.sb.of_block (hb.block _ h.sb.lt), h.hg⟩
theorem RH.setq (h : RH w p g s2 W) (n : Int) : RH w ⟨p.st, p.sn, n, p.pr, p.ga, p.nx⟩ g s2 (W.setCell ⟨w.heap.size, 74, none⟩ (.int .i64 n)) :=
  ⟨h.rt.setq n, h.sb.setOther (a := ⟨w.heap.size, 74, none⟩) (by have := h.hg; show g ≠ w.heap.size; omega) _, h.hg⟩
theorem RH.setpr (h : RH w p g s2 W) (n : Int) : RH w ⟨p.st, p.sn, p.q, n, p.ga, p.nx⟩ g s2 (W.setCell ⟨w.heap.size, 75, none⟩ (.int .i64 n)) :=
  ⟨h.rt.setpr n, h.sb.setOther (a := ⟨w.heap.size, 75, none⟩) (by have := h.hg; show g ≠ w.heap.size; omega) _, h.hg⟩
theorem RH.setga (h : RH w p g s2 W) (n : Int) : RH w ⟨p.st, p.sn, p.q, p.pr, n, p.nx⟩ g s2 (W.setCell ⟨w.heap.size, 76, none⟩ (.int .i64 n)) :=
  ⟨h.rt.setga n, h.sb.setOther (a := ⟨w.heap.size, 76, none⟩) (by have := h.hg; show g ≠ w.heap.size; omega) _, h.hg⟩
theorem RH.setst (h : RH w p g s2 W) (s : Sk) : RH w ⟨s, p.sn, p.q, p.pr, p.ga, p.nx⟩ g s2 (((((W.setCell ⟨w.heap.size, 0, none⟩ (.int .i64 s.lo)).setCell ⟨w.heap.size, 1, none⟩ (.int .i64 s.rt)).setCell ⟨w.heap.size, 2, none⟩ (.int .i64 s.va)).setCell ⟨w.heap.size, 3, none⟩ (.int .i64 s.ma)).setCell ⟨w.heap.size, 4, none⟩ (.int .i64 s.tr)) :=
  ⟨h.rt.setst s, by
    have hn : g ≠ w.heap.size := by have := h.hg; omega
    exact ((((World.rowIs.setOther h.sb (a := ⟨w.heap.size, 0, none⟩) hn _).setOther (a := ⟨w.heap.size, 1, none⟩) hn _).setOther (a := ⟨w.heap.size, 2, none⟩) hn _).setOther (a := ⟨w.heap.size, 3, none⟩) hn _).setOther (a := ⟨w.heap.size, 4, none⟩) hn _, h.hg⟩
theorem RH.setsn (h : RH w p g s2 W) (s : Sn) : RH w ⟨p.st, s, p.q, p.pr, p.ga, p.nx⟩ g s2 (W.setCells w.heap.size 5 (rowOf 69 s.dc).toList) :=
  ⟨⟨h.rt.box.setsn s, h.rt.res.of_block (setCells_other _ _ _ _ _ (by omega)), setCells_below _ _ (Nat.le_refl _) _ _ _ _ h.rt.bel⟩, h.sb.of_block (setCells_other _ _ _ _ _ (by have := h.hg; omega)), h.hg⟩
end
set_option maxRecDepth 100000 in
set_option maxHeartbeats 4000000 in
theorem rheard_any (p : Pn) (n k : Nat) (hf : p.fit k) (hk : k ≤ 1000000) (hn : n < 4294967296) (w : World) :
    Calls Tryz.prog 38 #[.agg (rowOf 78 p.dc), .int .u32 n] w fun e w' => e = .returned (.tuple #[.agg (rowOf 78 (p.heard n).dc), .int .i64 (p.sn.take n).2]) ∧ Below w.heap.size w w' := by
  obtain ⟨W, hW⟩ : ∃ W, W = (w.alloc (.cells (rowOf 78 p.dc) 34)).alloc (.cells (rowOf 78 Pn.zero.dc) 34) := ⟨_, rfl⟩
  have H0 := Lib.hid (RT.start w p hW)
  have h2f := Sn.take_fit hn hf.sn
  have hlost := Sn.take_lost p.sn n
  have hH : p.heard n = if (p.sn.take n).2 = 0 then ⟨(p.st.marks (p.lostBy n)).mark false, (p.sn.take n).1, 0, 0, 0, p.nx⟩ else ⟨p.st, (p.sn.take n).1, 0, 0, 0, p.nx⟩ := rfl
  have hL : p.lostBy n = if p.sn.any = true then min ((p.sn.take n).1.lost - p.sn.lost) 64 else 0 := rfl
  have CT := Lib.hid (fun w' => rtake_any p.sn n k hn hf.sn hk w')
  have HF := Lib.hid hf
  have hl1 := hf.sn.lost
  have hl2 := h2f.lost
  have HH := Lib.hid hH
  have HLB := Lib.hid hL
  have HLO := Lib.hid hlost
  clear hH hL hlost h2f hf
  generalize (p.sn.take n).1 = s2 at *
  generalize (p.sn.take n).2 = er at *
  generalize p.lostBy n = lb at *
  generalize p.heard n = Z at *
  have I37 := Lib.hid info37
  have I35 := Lib.hid info30
  have ca : W.cell? ⟨w.heap.size, 5, none⟩ = some (.bool p.sn.any) := H0.out.box.cell (i := 5) (by decide)
  have cl : W.cell? ⟨w.heap.size, 73, none⟩ = some (.int .i64 p.sn.lost) := H0.out.box.cell (i := 73) (by decide)
  obtain ⟨R, hRR⟩ : ∃ R, R = rowOf 78 p.dc := ⟨_, rfl⟩
  rw [← hRR] at hW ⊢
  have zz := zero37
  obtain ⟨ZZ, hZZ⟩ : ∃ ZZ, ZZ = rowOf 78 Pn.zero.dc := ⟨_, rfl⟩
  rw [← hZZ] at hW zz
  clear hRR hZZ
  go_enter Tryz.func38, Tryz.ntmps38
  go_upto_region 1 with fail
  rw [← hW]
  clear hW zz
  go_quiet (fail)
  have H1 := Lib.hid (H0.out.drewN nq)
  clear ca cl H0
  generalize W.drewN nq = W1 at *
  have z30 := zero30
  go_upto_region 3 with (first
    | (with_reducible refine wpList_load_seen rfl (.tmp 18) rfl w.heap.size rfl p H1.out.box ?_)
    | (go_at_call 73; (with_reducible refine (CT.out _).mono ?_); rintro e w2 ⟨rfl, hb2⟩; have H2 := Lib.hid (H1.out.below hb2); clear hb2)
    | (with_reducible refine wpList_store_rowIs rfl 32 (.tmp 8) (.tmp 22) rfl w2.heap.size rfl 69 s2.dc rfl 32 Sn.zero.dc (rowIs_new w2 69 Sn.zero.dc 32) I35.out s2.dc_one ?_; intro w3 G1 G2 G3 G4)
    | fail)
  have H3 := Lib.hid (H2.out.below (((Below.refl w2.heap.size w2).alloc (Nat.le_refl _) (.cells (rowOf 69 Sn.zero.dc) 32)).trans G3.out))
  have HG : Hid (w.heap.size + 1 < w2.heap.size) := Lib.hid H2.out.res.lt
  clear H1 H2 z30 G2 G3 G4
  generalize w2.heap.size = g at *
  have HR3 : Hid (RH w p g s2 w3) := Lib.hid ⟨H3.out, G1.out, HG.out⟩
  clear G1 H3 HG
  go_upto_region 4 with (first
    | (with_reducible refine wpList_load_rowIs rfl 32 (.tmp 8) rfl g rfl 32 69 s2.dc HR3.out.sb _ Tryz.underlying32 rfl I35.out ?_)
    | (with_reducible refine wpList_store_seen rfl (.tmp 25) (.tmp 24) rfl w.heap.size rfl s2 rfl p HR3.out.rt.box ?_)
    | fail)
  have HR4 := Lib.hid (HR3.out.setsn s2)
  clear HR3
  generalize w3.setCells w.heap.size 5 (rowOf 69 s2.dc).toList = w4 at *
  obtain ⟨c0, c1, c2, c3⟩ := HR4.out.rt.box.four
  have f0 := HR4.out.rt.box.frozen 74
  have f1 := HR4.out.rt.box.frozen 75
  have f2 := HR4.out.rt.box.frozen 76
  go_upto_region 5 with fail
  have HR5 := Lib.hid (((HR4.out.setq 0).setpr 0).setga 0)
  dsimp only at HR5
  clear c0 c1 c2 c3 f0 f1 f2 HR4
  generalize ((w4.setCell ⟨w.heap.size, 74, none⟩ (.int .i64 0)).setCell ⟨w.heap.size, 75, none⟩ (.int .i64 0)).setCell ⟨w.heap.size, 76, none⟩ (.int .i64 0) = w5 at *
  by_cases he : er = 0
  · have HZ := Lib.hid (HH.out.trans (if_pos he))
    subst he
    clear HH CT
    have HL64 : Hid (lb ≤ 64 ∧ 65 * k ≤ 65000000) := Lib.hid (by have := HLB.out; refine ⟨?_, by omega⟩; rw [this]; split <;> omega)
    cases ha : p.sn.any
    · have HL0 : Hid (lb = 0) := Lib.hid (by have := HLB.out; rw [ha] at this; simpa using this)
      have HZ : Hid (Z = ⟨(p.st.marks 0).mark false, s2, 0, 0, 0, p.nx⟩) := Lib.hid (by have := HZ.out; rw [HL0.out] at this; exact this)
      have HR5 : Hid (RH w ⟨p.st.marks 0, s2, 0, 0, 0, p.nx⟩ g s2 w5) := HR5
      clear ha HLB HLO hl1 hl2
      go_wp2
      go_loopw [10] (fun i wr => i = .int .i64 0 ∧ Hid (wr = w5)) (fun _ _ => 0)
      case atStart => exact ⟨rfl, Lib.hid rfl⟩
      case round =>
        obtain ⟨rfl, HW⟩ := hrel
        obtain rfl := HW.out
        go_upto_region 11 with fail
        have CK : Hid (∀ w', Calls Tryz.prog 74 #[SV (p.st.marks 0), .bool false] w' fun e w'' => e = .returned (SV ((p.st.marks 0).mark false)) ∧ Below w'.heap.size w' w'') := Lib.hid (fun w' => rmark_any false (65 * k + 0) _ (Sk.marks_fit HF.out.st _) (by have := HL64.out; omega) w')
        simp only [SV_is] at CK
        generalize p.st.marks 0 = sm at *
        generalize sm.mark false = sf at *
        obtain ⟨c0, c1, c2, c3, c4⟩ := HR5.out.rt.box.five
        dsimp only at c0 c1 c2 c3 c4
        go_upto_region 12 with (first
          | (go_at_call 74; (with_reducible refine (CK.out _).mono ?_); rintro e w5 ⟨rfl, hb5⟩; have H5 := Lib.hid (HR5.out.below hb5); clear hb5; obtain ⟨d0, d1, d2, d3, d4⟩ := H5.out.rt.box.five; have f0 := H5.out.rt.box.frozen 0; have f1 := H5.out.rt.box.frozen 1; have f2 := H5.out.rt.box.frozen 2; have f3 := H5.out.rt.box.frozen 3; have f4 := H5.out.rt.box.frozen 4)
          | fail)
        have H6 := Lib.hid (H5.out.setst sf)
        dsimp only at H6
        clear d0 d1 d2 d3 d4 f0 f1 f2 f3 f4 c0 c1 c2 c3 c4
        generalize ((((w5.setCell ⟨w.heap.size, 0, none⟩ (.int .i64 sf.lo)).setCell ⟨w.heap.size, 1, none⟩ (.int .i64 sf.rt)).setCell ⟨w.heap.size, 2, none⟩ (.int .i64 sf.va)).setCell ⟨w.heap.size, 3, none⟩ (.int .i64 sf.ma)).setCell ⟨w.heap.size, 4, none⟩ (.int .i64 sf.tr) = w6 at *
        go_wp2_with (first
          | (with_reducible refine wpList_load_rowIs rfl 34 (.tmp 2) rfl w.heap.size rfl 34 78 (⟨sf, s2, 0, 0, 0, p.nx⟩ : Pn).dc H6.out.rt.box _ Tryz.underlying34 rfl I37.out ?_)
          | (with_reducible refine wpList_store_rowIs rfl 34 (.tmp 4) (.tmp 56) rfl (w.heap.size + 1) rfl 78 (⟨sf, s2, 0, 0, 0, p.nx⟩ : Pn).dc rfl 34 Pn.zero.dc H6.out.rt.res I37.out (⟨sf, s2, 0, 0, 0, p.nx⟩ : Pn).dc_one ?_; intro W9 G1 G2 G3 G4)
          | fail)
        refine bodyPost_ret (results_row_tmp (p := 4) (u := 5) rfl _ W9 (w.heap.size + 1) 34 78 (⟨sf, s2, 0, 0, 0, p.nx⟩ : Pn).dc (.int .i64 0) _ rfl rfl G1.out Tryz.underlying34 rfl I37.out) rfl ?_
        exact ⟨by rw [HZ.out], H6.out.rt.bel.trans (G3.out.mono (by have := H6.out.rt.bel.size; omega))⟩
    · have HD : Hid (∃ d : Nat, (s2.lost : Int) - p.sn.lost = (d : Int) ∧ lb = min d 64) := Lib.hid (by
        have h1 := HLO.out ha
        refine ⟨s2.lost - p.sn.lost, by omega, ?_⟩
        have := HLB.out
        rw [ha, if_pos rfl] at this
        exact this)
      obtain ⟨d, hd, hlb⟩ := HD.out
      have HLBD := Lib.hid hlb
      have HDD := Lib.hid hd
      have wd : IntKind.i64.wrap ((s2.lost : Int) - p.sn.lost) = (d : Int) := by rw [IntKind.wrap_i64]; omega
      have hdl : d ≤ 4294967296 * 1000001 := by omega
      clear ha HLB HLO hlb HD hd
      go_wp2
      go_loopw [10] (fun i wr => ∃ j : Nat, i = .int .i64 (j : Int) ∧ Hid (j ≤ lb) ∧ Hid (RH w ⟨p.st.marks j, s2, 0, 0, 0, p.nx⟩ g s2 wr)) (fun i _ => lb - (intOf i).toNat)
      case atStart => exact ⟨0, rfl, Lib.hid (Nat.zero_le _), HR5⟩
      case round =>
        obtain ⟨j, rfl, HJ, HRW⟩ := hrel
        clear HR5
        have hj := HJ.out
        have hlb := HLBD.out
        have cg : wr.cell? ⟨g, 68, none⟩ = some (.int .i64 s2.lost) := HRW.out.sb.cell (i := 68) (by decide)
        have hdd := HDD.out
        by_cases hlt : j < lb
        · have k1 : (j : Int) < (d : Int) := by omega
          have k2 : (j : Int) < 64 := by omega
          have HJ2 : Hid (j + 1 ≤ lb) := Lib.hid (by omega)
          have HDM : Hid (lb - (j + 1) < lb - j) := Lib.hid (by omega)
          have CK : Hid (∀ w', Calls Tryz.prog 74 #[SV (p.st.marks j), .bool true] w' fun e w'' => e = .returned (SV (p.st.marks (j + 1))) ∧ Below w'.heap.size w' w'') := Lib.hid (fun w' => rmark_any true (65 * k + j) _ (Sk.marks_fit HF.out.st _) (by have := HL64.out; omega) w')
          simp only [SV_is] at CK
          generalize hsf : p.st.marks (j + 1) = sf at *
          have HSF := Lib.hid hsf
          clear hsf
          obtain ⟨c0, c1, c2, c3, c4⟩ := HRW.out.rt.box.five
          dsimp only at c0 c1 c2 c3 c4
          clear hlt hj hlb hdd
          generalize p.st.marks j = sm at *
          go_wp2_with (first
        | (go_at_call 74; (with_reducible refine (CK.out _).mono ?_); rintro e w5 ⟨rfl, hb5⟩; have H5 := Lib.hid (HRW.out.below hb5); clear hb5; obtain ⟨d0, d1, d2, d3, d4⟩ := H5.out.rt.box.five; have f0 := H5.out.rt.box.frozen 0; have f1 := H5.out.rt.box.frozen 1; have f2 := H5.out.rt.box.frozen 2; have f3 := H5.out.rt.box.frozen 3; have f4 := H5.out.rt.box.frozen 4)
        | fail)
          have H6 := Lib.hid (H5.out.setst sf)
          dsimp only at H6
          go_roundw
          case rel => exact ⟨j + 1, by go_num, HJ2, by rw [HSF.out]; exact H6⟩
          case measure => have := HDM.out; simp [intOf] <;> omega
        · obtain rfl : j = lb := by omega
          have hcs : ¬ (j : Int) < (d : Int) ∨ ((j : Int) < (d : Int) ∧ ¬ (j : Int) < 64) := by omega
          clear hlt hj hlb hdd
          rcases hcs with h1 | ⟨h1, h2⟩
          all_goals
            go_upto_region 11 with fail
            have CK : Hid (∀ w', Calls Tryz.prog 74 #[SV (p.st.marks j), .bool false] w' fun e w'' => e = .returned (SV ((p.st.marks j).mark false)) ∧ Below w'.heap.size w' w'') := Lib.hid (fun w' => rmark_any false (65 * k + j) _ (Sk.marks_fit HF.out.st _) (by have := HL64.out; omega) w')
            simp only [SV_is] at CK
            generalize p.st.marks j = sm at *
            generalize sm.mark false = sf at *
            obtain ⟨c0, c1, c2, c3, c4⟩ := HRW.out.rt.box.five
            dsimp only at c0 c1 c2 c3 c4
            go_upto_region 12 with (first
              | (go_at_call 74; (with_reducible refine (CK.out _).mono ?_); rintro e w5 ⟨rfl, hb5⟩; have H5 := Lib.hid (HRW.out.below hb5); clear hb5; obtain ⟨d0, d1, d2, d3, d4⟩ := H5.out.rt.box.five; have f0 := H5.out.rt.box.frozen 0; have f1 := H5.out.rt.box.frozen 1; have f2 := H5.out.rt.box.frozen 2; have f3 := H5.out.rt.box.frozen 3; have f4 := H5.out.rt.box.frozen 4)
              | fail)
            have H6 := Lib.hid (H5.out.setst sf)
            dsimp only at H6
            clear d0 d1 d2 d3 d4 f0 f1 f2 f3 f4 c0 c1 c2 c3 c4
            generalize ((((w5.setCell ⟨w.heap.size, 0, none⟩ (.int .i64 sf.lo)).setCell ⟨w.heap.size, 1, none⟩ (.int .i64 sf.rt)).setCell ⟨w.heap.size, 2, none⟩ (.int .i64 sf.va)).setCell ⟨w.heap.size, 3, none⟩ (.int .i64 sf.ma)).setCell ⟨w.heap.size, 4, none⟩ (.int .i64 sf.tr) = w6 at *
            go_wp2_with (first
              | (with_reducible refine wpList_load_rowIs rfl 34 (.tmp 2) rfl w.heap.size rfl 34 78 (⟨sf, s2, 0, 0, 0, p.nx⟩ : Pn).dc H6.out.rt.box _ Tryz.underlying34 rfl I37.out ?_)
              | (with_reducible refine wpList_store_rowIs rfl 34 (.tmp 4) (.tmp 56) rfl (w.heap.size + 1) rfl 78 (⟨sf, s2, 0, 0, 0, p.nx⟩ : Pn).dc rfl 34 Pn.zero.dc H6.out.rt.res I37.out (⟨sf, s2, 0, 0, 0, p.nx⟩ : Pn).dc_one ?_; intro W9 G1 G2 G3 G4)
              | fail)
            refine bodyPost_ret (results_row_tmp (p := 4) (u := 5) rfl _ W9 (w.heap.size + 1) 34 78 (⟨sf, s2, 0, 0, 0, p.nx⟩ : Pn).dc (.int .i64 0) _ rfl rfl G1.out Tryz.underlying34 rfl I37.out) rfl ?_
            exact ⟨by rw [HZ.out], H6.out.rt.bel.trans (G3.out.mono (by have := H6.out.rt.bel.size; omega))⟩
  · have HZ := Lib.hid (HH.out.trans (if_neg he))
    go_wp2_with (first
      | (with_reducible refine wpList_load_rowIs rfl 34 (.tmp 2) rfl w.heap.size rfl 34 78 (⟨p.st, s2, 0, 0, 0, p.nx⟩ : Pn).dc HR5.out.rt.box _ Tryz.underlying34 rfl I37.out ?_)
      | (with_reducible refine wpList_store_rowIs rfl 34 (.tmp 4) (.tmp 31) rfl (w.heap.size + 1) rfl 78 (⟨p.st, s2, 0, 0, 0, p.nx⟩ : Pn).dc rfl 34 Pn.zero.dc HR5.out.rt.res I37.out (⟨p.st, s2, 0, 0, 0, p.nx⟩ : Pn).dc_one ?_; intro W9 G1 G2 G3 G4)
      | fail)
    refine bodyPost_ret (results_row_tmp (p := 4) (u := 5) rfl _ W9 (w.heap.size + 1) 34 78 (⟨p.st, s2, 0, 0, 0, p.nx⟩ : Pn).dc (.int .i64 er) _ rfl rfl G1.out Tryz.underlying34 rfl I37.out) rfl ?_
    exact ⟨by rw [HZ.out], HR5.out.rt.bel.trans (G3.out.mono (by have := HR5.out.rt.bel.size; omega))⟩
end Go.Proofs.YtldhlknmabpanaaGreat
