/-
  Own text: the play of layer 15, walked. (Written by gen_mrp.py.)
-/
import Derived.Test.YtldhlknmabpanaaGreatK47
namespace Go.Proofs.YtldhlknmabpanaaGreat.Mp
open Go.RowKit

theorem range_loadAt {w : World} {b o : Nat} {cs : Array Value} (h : w.rangeAt b o cs.toList) (ty : TypeId) (d : TypeDesc) (hu : Tryz.prog.underlying ty = some d) (hd : d.isRow = true) (hi : (Tryz.prog.info? ty).map (·.size) = some cs.size) :
    (Instr.loadAt ty (.pointer (some ⟨b, o, none⟩))).run Tryz.prog w = .ok (.agg cs) w := by
  have := run_loadVar_mid w b o ty cs.toList d h hu hd (by rw [hi]; simp)
  simp only [Instr.loadAt, Instr.sureAddr, Sem.run_bind, Sem.run_pure, Result.andThen_ok]
  simpa using this
/-- Between two calls of the play. -/
structure Pz (w : World) (p b9 : Nat) (Z : Array Value) (s t : Sd) (A : Option Addr) (C k : Nat) (W : World) : Prop where
  cx : ∃ S, Cx S W w.heap.size p s t A C k ∧ ∀ g, S g → g ≠ w.heap.size + 1 ∧ g ≠ b9
  hA : ∀ g, A.map Addr.block = some g → g ≠ w.heap.size + 1 ∧ g ≠ b9
  box : Lies W b9 0 (dsa t A C)
  z : Lies W (w.heap.size + 1) 0 Z
  bel : Below w.heap.size w W
  hb : w.heap.size + 2 ≤ b9
/-- Behind the law's call, its answer in a box. -/
structure Pd (w wr : World) (p b9 : Nat) (Z V R : Array Value) (g k : Nat) (W : World) : Prop where
  cx : ∃ s' t' A' C', R = dsa t' A' C' ∧ (∃ S', Cx S' W w.heap.size p s' t' A' C' k ∧ ∀ j, S' j → j ≠ w.heap.size + 1 ∧ j ≠ b9 ∧ j ≠ g) ∧ ∀ q, A'.map Addr.block = some q → q ≠ w.heap.size + 1 ∧ q ≠ b9 ∧ q ≠ g
  box : Lies W b9 0 V
  z : Lies W (w.heap.size + 1) 0 Z
  bel : Below w.heap.size w W
  hg : wr.heap.size ≤ g ∧ g < W.heap.size
theorem wp_rg {P : Program} {c : Code} {Q : Exit → Act → World → Prop} {a : Act} {w : World} {G : Array Value → Nat → World → Prop} {F : Array Value → Nat → Act} (reg : Code.wp P c (fun e a' w' => e = .normal ∧ ∃ x y, a' = F x y ∧ G x y w') a w) (post : ∀ x y w', G x y w' → Q .normal (F x y) w') : Code.wp P c Q a w :=
  Code.wp_mono (fun e a' w' ⟨h1, x, y, h2, h3⟩ => by subst h1 h2; exact post x y w' h3) reg
/-- What the law's call leaves to the play, ahead of the store. -/
theorem do15_play {w w1 w2 : World} {S : Nat → Prop} {p b9 k : Nat} {Z V : Array Value} {s t : Sd} {A : Option Addr} {C : Nat} {e : Ending} (h : Cx S w1 w.heap.size p s t A C k) (hS : ∀ g, S g → g ≠ w.heap.size + 1 ∧ g ≠ b9) (hA : ∀ g, A.map Addr.block = some g → g ≠ w.heap.size + 1 ∧ g ≠ b9)
    (hb9 : Lies w1 b9 0 V) (hz : Lies w1 (w.heap.size + 1) 0 Z) (hbel : Below w.heap.size w w1) (hd : Do15 w1 S w.heap.size p A (k + 800) e w2) :
    ∃ s' t' A' C', e = .returned (.tuple #[.agg (dsa t' A' C'), .bool true]) ∧ (∃ S', Cx S' w2 w.heap.size p s' t' A' C' (k + 800) ∧ ∀ j, S' j → (S j ∨ w1.heap.size ≤ j) ∧ j < w2.heap.size ∧ j ≠ w.heap.size + 1 ∧ j ≠ b9) ∧ (∀ q, A'.map Addr.block = some q → (A.map Addr.block = some q ∨ w1.heap.size ≤ q) ∧ q < w2.heap.size ∧ q ≠ w.heap.size + 1 ∧ q ≠ b9) ∧ Lies w2 b9 0 V ∧ Lies w2 (w.heap.size + 1) 0 Z ∧ Below w.heap.size w w2 ∧ Fr S w1 w2 := by
  obtain ⟨s', t', A', C', h1, h2, h3, h4⟩ := hd
  obtain ⟨S', h5, h6⟩ := h2.out
  have hl := hb9.lt
  have hl2 := hz.lt
  refine ⟨s', t', A', C', h1, ⟨S', h5, fun j hj => ⟨h6 j hj, h5.lt j hj, ?_⟩⟩, fun q hq => ⟨h3.out q hq, (h5.ls q hq).2, ?_⟩, hb9.keep (h4.out.block b9 hl (fun hs => (hS _ hs).2 rfl)), hz.keep (h4.out.block _ hl2 (fun hs => (hS _ hs).1 rfl)), hbel.trans (h4.out.below h.low h.hB), h4.out⟩
  · rcases h6 j hj with h | h
    · exact hS j h
    · omega
  · rcases h3.out q hq with h | h
    · exact hA q h
    · omega
set_option maxRecDepth 100000 in
set_option maxHeartbeats 8000000 in
theorem played15_yes (r bu : Int) (room : Nat) (hok : okB r bu = true) (hr1 : 1 ≤ room) (hr2 : room ≤ 256) (a : Option Addr) (n c : Nat) (f : Nat → Op15) (w : World) (ho : Ops15 w a n f) :
    Calls Tryz.prog 5 #[.agg #[.int .i64 r, .int .i64 bu, .int .i64 (room : Int)], .slice a n c] w (Play15 w) := by
  obtain ⟨W, hW⟩ : ∃ W, W = (w.alloc (.cells #[.int .i64 r, .int .i64 bu, .int .i64 (room : Int)] 23)).alloc (.cells (dsa Sdz none 0) 40) := ⟨_, rfl⟩
  obtain ⟨hb, hl, hz, hs⟩ := two_p w r bu room hW
  have HB := Lib.hid hb
  have HS := Lib.hid hs
  have HO := Lib.hid ho
  obtain ⟨s0, hs0⟩ : ∃ s0, s0 = Sd.new 7 r bu room := ⟨_, rfl⟩
  have CN : Hid (∀ w, Calls Tryz.prog 6 #[.int .u32 7, .int .i64 r, .int .i64 bu, .int .i64 (room : Int)] w fun e w' => ∃ p, e = .returned (.tuple #[.pointer (some ⟨p, 0, none⟩), .int .i64 0]) ∧ Hid (After (@SB tgh) w (fun _ => False) p s0 w')) := Lib.hid (fun w => by
    rw [hs0]
    exact (@new_sb tgh 7 room r bu w hok hr1 hr2))
  have CD : Hid (∀ w, Calls Tryz.prog 10 #[.int .u32 7, .int .i64 r, .int .i64 bu, .int .i64 (room : Int)] w fun e w' => e = .returned (.tuple #[.agg (dsa s0 none 0), .bool true]) ∧ Below w.heap.size w w') := Lib.hid (fun w => by
    have h := rnew15_any 7 r bu (room : Int) w
    have e : (okB r bu && decide (1 ≤ (room : Int)) && decide ((room : Int) ≤ 256)) = true := by
      rw [hok, decide_eq_true (show (1 : Int) ≤ (room : Int) by omega), decide_eq_true (show (room : Int) ≤ 256 by omega)]; rfl
    rw [e] at h
    rw [hs0]
    exact h)
  have HCX : Hid (∀ w1 w' p, After (@SB tgh) W (fun _ => False) p s0 w1 → Below w1.heap.size w1 w' → (∃ S, Cx S w' w.heap.size p s0 s0 none 0 0 ∧ ∀ g, S g → W.heap.size ≤ g ∧ g < w1.heap.size) ∧ Below W.heap.size W w1) := Lib.hid (fun w1 w' p ha hb1 => by
    obtain ⟨⟨S', h1, h2⟩, h3⟩ := ha
    have hlt : ∀ g, S' g → g < w1.heap.size := @sb_lt tgh _ _ _ _ h1
    have hge : ∀ g, S' g → W.heap.size ≤ g := fun g hg => (h2 g hg).elim (fun h => h.elim) id
    have hbw : Below W.heap.size W w1 := ⟨h3.os, h3.tape, h3.output, h3.size, fun g hg => h3.block g hg (fun h => h)⟩
    refine ⟨⟨S', ⟨@sb_below tgh _ _ _ _ _ h1 hb1, fun g hg => Nat.le_trans hb.size (hge g hg), Nat.le_trans hb.size (Nat.le_trans h3.size hb1.size), fun g hg => (by cases hg), fun y hy => (by rw [hs0] at hy; cases hy), (by rw [hs0]; exact DL.nil _ _), (by rw [hs0]; exact Nat.le_refl _), ⟨rfl, rfl, rfl, rfl, rfl, rfl, rfl, by rw [hs0]; exact .nil⟩, ?_, ?_⟩, fun g hg => ⟨hge g hg, hlt g hg⟩⟩, hbw⟩
    · rw [hs0]; exact Sd.new_fit (by decide) hok hr1 hr2
    · rw [hs0]; exact Sd.new_fit (by decide) hok hr1 hr2)
  have HCL : Hid (∀ w', Below W.heap.size W w' → w'.cell? ⟨w.heap.size, 0, none⟩ = some (.int .i64 r) ∧ w'.cell? ⟨w.heap.size, 1, none⟩ = some (.int .i64 bu) ∧ w'.cell? ⟨w.heap.size, 2, none⟩ = some (.int .i64 (room : Int))) := Lib.hid (fun w' h => ⟨(hl.below h hl.lt).cell 0 (by decide : 0 < 3), (hl.below h hl.lt).cell 1 (by decide : 1 < 3), (hl.below h hl.lt).cell 2 (by decide : 2 < 3)⟩)
  obtain ⟨c0, c1, c2⟩ := HCL.out W (Below.refl _ _)
  have zz := zeroD
  obtain ⟨Z, hZ⟩ : ∃ Z, Z = dsa Sdz none 0 := ⟨_, rfl⟩
  obtain ⟨R0, hR0⟩ : ∃ R0, R0 = dsa s0 none 0 := ⟨_, rfl⟩
  have HZZ0 := Lib.hid hZ
  have HZS : Hid (∀ t A C, (dsa t A C).size = Z.size) := Lib.hid (fun t A C => by rw [hZ, dsa_size, dsa_size])
  have HRZ : Hid (R0.size = Z.size) := Lib.hid (by rw [hR0, hZ, dsa_size, dsa_size])
  have HRI : Hid ((Tryz.prog.info? 40).map (·.size) = some R0.size) := Lib.hid (by rw [hR0]; exact infoD15 _ _ _)
  have HR1 : Hid (R0.all (·.oneCell') = true) := Lib.hid (by rw [hR0]; exact dsa_one _ _ _)
  have HR0 := Lib.hid hR0
  have HLZ : Hid (Lies W (w.heap.size + 1) 0 Z) := Lib.hid (by rw [hZ]; exact hz)
  rw [← hZ] at zz hW
  rw [← hR0] at CD
  clear hb hl hz hs hZ hR0 hok hr1 hr2 ho hs0
  go_enter Tryz.func5, Tryz.ntmps5
  go_upto_region 1 with fail
  rw [← hW]
  clear hW
  go_upto_region 2 with (first
    | (go_at_call 6; (with_reducible refine (CN.out _).mono ?_); rintro e w1 ⟨p, rfl, HAF⟩)
    | fail)
  have HB1 := Lib.hid (HCX.out w1 w1 p HAF.out (Below.refl _ _)).2
  clear c0 c1 c2
  obtain ⟨c0, c1, c2⟩ := HCL.out w1 HB1.out
  go_upto_region 5 with (first
    | (go_at_call 10; (with_reducible refine (CD.out _).mono ?_); rintro e w2 ⟨rfl, hb2⟩; have HB2 := Lib.hid hb2; clear hb2; have HZN : Hid (Lies (w2.alloc (.cells Z 40)) w2.heap.size 0 Z) := Lib.hid (Lies.new w2 Z _ (Below.refl _ _)))
    | ((with_reducible refine wpList_store_lies rfl 40 (.tmp 9) (.tmp 32) rfl w2.heap.size 0 rfl R0 rfl Z HZN.out HRZ.out HRI.out HR1.out ?_); intro w3 N1 N2 N3)
    | fail)
  have HB23 : Hid (Below w2.heap.size w2 w3) := Lib.hid (N2.out.bel ((Below.refl _ _).alloc (Nat.le_refl _) _) (by simp) (Nat.le_refl _))
  have HB13 : Hid (Below w1.heap.size w1 w3) := Lib.hid (HB2.out.trans (HB23.out.mono HB2.out.size))
  have HBW : Hid (Below W.heap.size W w3) := Lib.hid (HB1.out.trans (HB13.out.mono HB1.out.size))
  have HPZ : Hid (Pz w p w2.heap.size Z s0 s0 none 0 (800 * 0) w3) := Lib.hid (by
    obtain ⟨S, h1, h2⟩ := (HCX.out w1 w3 p HAF.out HB13.out).1
    have h3 := HS.out
    have h4 := HB2.out.size
    have h5 := HB1.out.size
    exact ⟨⟨S, h1, fun g hg => by have := h2 g hg; omega⟩, fun g hg => (by cases hg), (by rw [← HR0.out]; exact N1.out), HLZ.out.below HBW.out HLZ.out.lt, HB.out.trans (HBW.out.mono HB.out.size), by omega⟩)
  have HLR3 : Hid (Lies w3 w2.heap.size 0 R0) := N1
  have CS : Hid (Calls Tryz.prog 11 #[.pointer (some ⟨p, 0, none⟩), .agg R0] w3 fun e w' => e = .returned (.bool true) ∧ Below w3.heap.size w3 w') := Lib.hid (by
    obtain ⟨S, h1, _⟩ := HPZ.out.cx
    rw [HR0.out]
    exact (@same_sb tgh _ _ _ _ _ none 0 h1.sb h1.rel.twin (fun e => by
      obtain ⟨kb, qb, A9, C9, ⟨_, _, _, _, h5, _, h7, _⟩⟩ := h1.sb
      have := h7 p h5.1
      omega)))
  clear c0 c1 c2 N1 N2 N3 HZN CN CD HCL HLZ HCX HAF zz
  generalize w2.heap.size = b9 at *
  go_upto_region 7 with (first
    | ((with_reducible refine wpList_load_liesW 40 (.tmp 9) rfl b9 0 rfl R0 HLR3.out _ Tryz.underlying40 rfl HRI.out ?_ ?_); · rfl)
    | (go_at_call 11; (with_reducible refine (CS.out).mono ?_); rintro e w4 ⟨rfl, HB4⟩)
    | fail)
  have HPZ4 : Hid (Pz w p b9 Z s0 s0 none 0 (800 * 0) w4) := Lib.hid (by
    obtain ⟨⟨S, h1, h2⟩, h3, h4, h5, h6, h7⟩ := HPZ.out
    exact ⟨⟨S, h1.below HB4, h2⟩, h3, h4.below HB4 h4.lt, h5.below HB4 h5.lt, h6.trans (HB4.mono h6.size), h7⟩)
  clear HPZ HB1 HB2 HB23 HB13 HBW HLR3 CS HB4 HRZ HRI HR1 HR0
  go_wp2
  go_loopw [11] (fun s11 wr => ∃ (i : Nat) (s t : Sd) (A : Option Addr) (C : Nat), i ≤ 60 ∧ s11 = .int .i64 (i : Int) ∧ Hid (Pz w p b9 Z s t A C (800 * i) wr)) (fun s11 _ => 60 - (intOf s11).toNat)
  case atStart => exact ⟨0, s0, s0, none, 0, by omega, rfl, HPZ4⟩
  case round =>
    obtain ⟨i, s, t, A, C, hi, rfl, HP⟩ := hrel
    clear HPZ4
    obtain ⟨wo, hwo⟩ : ∃ wo, wo = wr := ⟨_, rfl⟩
    subst hwo
    have i0 : (0 : Int) ≤ (i : Int) := by omega
    have i3 : (i : Int) ≤ 60 := by omega
    obtain ⟨V, hV⟩ : ∃ V, V = dsa t A C := ⟨_, rfl⟩
    have HV := Lib.hid hV
    have HLV : Hid (Lies wo b9 0 V) := Lib.hid (by rw [hV]; exact HP.out.box)
    have HVS : Hid (V.size = Z.size) := Lib.hid (by rw [hV]; exact HZS.out _ _ _)
    have HV167 : Hid (V.size = 167) := Lib.hid (by rw [hV, dsa_size])
    have HVI : Hid ((Tryz.prog.info? 40).map (·.size) = some V.size) := Lib.hid (by rw [hV]; exact infoD15 _ _ _)
    have HV1 : Hid (V.all (·.oneCell') = true) := Lib.hid (by rw [hV]; exact dsa_one _ _ _)
    have HLVD : Hid (Lies wo.drew b9 0 V) := Lib.hid HLV.out.drew
    have HLZD : Hid (Lies wo.drew (w.heap.size + 1) 0 Z) := Lib.hid HP.out.z.drew
    have HBD : Hid (Below w.heap.size w wo.drew) := Lib.hid HP.out.bel.drew
    have HB9 : Hid (w.heap.size + 2 ≤ b9) := Lib.hid HP.out.hb
    have HZZ := HZZ0
    clear hV
    by_cases hlt : i < n ∧ i < 60
    · have j1 : (i : Int) < (n : Int) := by omega
      have j2 : (i : Int) < 60 := by omega
      obtain ⟨g, off, rfl, hg, hops⟩ := HO.out.resolve_left (by omega)
      obtain ⟨hrg, hok⟩ := hops i hlt.1
      have HOK := Lib.hid hok
      obtain ⟨op, hop⟩ : ∃ op, op = f i := ⟨_, rfl⟩
      rw [← hop] at hrg HOK
      have HRG : Hid (∀ w', Below w.heap.size w w' → w'.rangeAt g (off + i * 16) op.cells.toList) := Lib.hid (fun w' hb j v hv => (hb.cell (p := ⟨g, off + i * 16 + j, none⟩) hg).trans (hrg j v hv))
      have c12 : wo.cell? ⟨g, off + i * 16 + 12, none⟩ = some (.slice op.d.da op.d.dl op.d.dc) := HRG.out wo HP.out.bel 12 _ rfl
      have d0 : (op.d.dl : Int) ≤ 9223372036854775807 := by have := HOK.out.d.le; have := HOK.out.d.max; omega
      have HI : Hid (i + 1 ≤ 60) := Lib.hid hlt.2
      have HDM : Hid (60 - (i + 1) < 60 - i) := Lib.hid (by omega)
      clear hops hrg hok hop hg hlt hi
      by_cases hbig : 1300 < op.d.dl
      · have q1 : (1300 : Int) < (op.d.dl : Int) := by omega
        go_upto_region 11 with fail
        apply wp_one15 (F := fun w' => Hid (Lies w' (w.heap.size + 1) 0 V) ∧ Hid (Below w.heap.size w w'))
        case reg =>
          refine wp_region_noPanic ?_
          refine wp_region_held_drew (S := fun w' => Lies w' b9 0 V) (by kernel_rfl) HLVD.out (fun hHeld => ?_)
          refine taken_at (i := 0) (v := .agg V) (some 74) rfl rfl (by kernel_rfl) (by kernel_rfl) (by kernel_rfl) (fun _ _ _ h => h) (yields_loadAt 40 (.tmp 9) (.pointer (some ⟨b9, 0, none⟩)) rfl rfl rfl (fun w' hw => hw.loadAt 40 _ Tryz.underlying40 rfl HVI.out)) hHeld ?_
          try simp only [Act.put, List.setIfInBounds_toArray, List.set_cons_zero, List.set_cons_succ]
          refine taken_at (i := 1) (v := .pointer none) (some 4) rfl rfl (by kernel_rfl) (by kernel_rfl) (by kernel_rfl) (fun _ _ _ h => h) (Or.inl ⟨rfl, fun _ _ => rfl⟩) hHeld ?_
          try simp only [Act.put, List.setIfInBounds_toArray, List.set_cons_zero, List.set_cons_succ]
          refine wpAnyH_ready (rs := [2]) (by kernel_rfl) (by simp) ?_
          refine AllReadyH.cons (o := _) rfl (fun K hK => ?_) AllReadyH.nil
          refine step_store_at rfl rfl 40 (.tmp 5) (.tmp 74) rfl (w.heap.size + 1) 0 rfl V rfl Z HLZD.out HVS.out HVI.out HV1.out ?_
          intro w5 G1 G2 G3
          refine hK.out _ _ (HLVD.out.keep (G2.out.block _ HLVD.out.lt (by have := HB9.out; omega))) (fun hHeld => ?_)
          clear hK K
          refine taken_at (i := 3) (v := .bool true) (some 6) rfl rfl (by kernel_rfl) (by kernel_rfl) (by kernel_rfl) (fun _ _ _ h => h) (Or.inl ⟨rfl, fun _ _ => rfl⟩) hHeld ?_
          try simp only [Act.put, List.setIfInBounds_toArray, List.set_cons_zero, List.set_cons_succ]
          refine wpAnyH_done (by kernel_rfl) ?_ _
          exact NoPanic.normal ⟨rfl, rfl, G1, Lib.hid (G2.out.bel HBD.out HBD.out.size (Nat.le_succ _))⟩
        case post =>
          intro w6 ⟨HL6, HB6⟩
          go_wp2
          refine bodyPost_ret (v := .tuple #[.pointer none, .agg V, .bool true]) (results_mid (p := 4) (q := 5) (u := 6) rfl _ w6 (w.heap.size + 1) _ _ _ rfl rfl rfl (Lies.loadVar HL6.out 40 _ Tryz.underlying40 rfl HVI.out)) rfl ?_
          exact ⟨_, V, rfl, Lib.hid ⟨HV167.out, HV1.out⟩, HB6⟩
      · have q1 : ¬ (1300 : Int) < (op.d.dl : Int) := by omega
        go_upto_region 12 with fail
        obtain ⟨S, hcx, hS⟩ := HP.out.cx
        have HLTS := Lib.hid hcx.lt
        have HSN := Lib.hid hS
        obtain ⟨OC, hOC⟩ : ∃ OC, OC = op.cells := ⟨_, rfl⟩
        have IOC : Hid ((Tryz.prog.info? 58).map (·.size) = some OC.size) := Lib.hid (by rw [hOC]; exact infoOp op)
        have hk6 : 800 * i ≤ 900000 := by omega
        have CDO : Hid (∀ w', Below wo.heap.size wo w' → Calls Tryz.prog 12 #[.pointer (some ⟨p, 0, none⟩), .agg V, .agg OC] w' fun e w2 => ∃ R, e = .returned (.tuple #[.agg R, .bool true]) ∧ Hid (∃ s' t' A' C', R = dsa t' A' C' ∧ (∃ S', Cx S' w2 w.heap.size p s' t' A' C' (800 * i + 800) ∧ ∀ j, S' j → (S j ∨ w'.heap.size ≤ j) ∧ j < w2.heap.size ∧ j ≠ w.heap.size + 1 ∧ j ≠ b9) ∧ ∀ q, A'.map Addr.block = some q → (A.map Addr.block = some q ∨ w'.heap.size ≤ q) ∧ q < w2.heap.size ∧ q ≠ w.heap.size + 1 ∧ q ≠ b9) ∧ Hid (Lies w2 b9 0 V ∧ Lies w2 (w.heap.size + 1) 0 Z ∧ Below w.heap.size w w2 ∧ Fr S w' w2)) := Lib.hid (fun w' hb => by
          rw [HV.out, hOC]
          refine (do15_any op (hcx.below hb) hk6 (HOK.out.below (HP.out.bel.trans (hb.mono HP.out.bel.size))) ?_).mono (fun e w2 hd => ?_)
          · by_cases hz : op.d.dl = 0
            · exact .inl hz
            · obtain ⟨l, hl⟩ := HOK.out.by_
              rcases hl.cell with h0 | ⟨_, b, o9, e9, hlt9, _⟩
              · exact .inl h0
              · exact .inr (fun q hq => by rw [e9] at hq; simp at hq; omega)
          · obtain ⟨s', t', A', C', h1, h2, h3, h4, h5, h6, h7⟩ := do15_play (Z := Z) (V := V) (hcx.below hb) hS HP.out.hA (HLV.out.below hb HLV.out.lt) (HP.out.z.below hb HP.out.z.lt) (HP.out.bel.trans (hb.mono HP.out.bel.size)) hd
            exact ⟨_, h1, Lib.hid ⟨s', t', A', C', rfl, h2, h3⟩, Lib.hid ⟨by rw [← HV.out]; exact h4, h5, h6, h7⟩⟩)
        have HAL : Hid (∀ q, A.map Addr.block = some q → q < wo.heap.size) := Lib.hid (fun q hq => (hcx.ls q hq).2)
        rw [← hOC] at HRG
        have zz := zeroD
        rw [← HZZ.out] at zz
        clear hcx hS hk6 hOC c12 q1 hbig d0
        apply wp_rg (G := fun R g1 w' => Hid (Pd w wo p b9 Z V R g1 (800 * i + 800) w') ∧ Hid (Lies w' g1 0 R))
        case reg =>
          refine wp_region_noPanic ?_
          refine wp_region_held_drew (S := fun w' => Below w.heap.size w w' ∧ Lies w' b9 0 V) (by kernel_rfl) ⟨HBD.out, HLVD.out⟩ (fun hHeld => ?_)
          refine taken_at (i := 0) (v := .pointer (some ⟨p, 0, none⟩)) (some 76) rfl rfl (by kernel_rfl) (by kernel_rfl) (by kernel_rfl) (fun _ _ _ h => h) (Or.inl ⟨rfl, fun _ _ => rfl⟩) hHeld ?_
          try simp only [Act.put, List.setIfInBounds_toArray, List.set_cons_zero, List.set_cons_succ]
          refine taken_at (i := 1) (v := .agg V) (some 77) rfl rfl (by kernel_rfl) (by kernel_rfl) (by kernel_rfl) (fun _ _ _ h => h) (yields_loadAt 40 (.tmp 9) (.pointer (some ⟨b9, 0, none⟩)) rfl rfl rfl (fun w' hw => hw.2.loadAt 40 _ Tryz.underlying40 rfl HVI.out)) hHeld ?_
          try simp only [Act.put, List.setIfInBounds_toArray, List.set_cons_zero, List.set_cons_succ]
          refine taken_at (i := 2) (v := .slice (some ⟨g, off, none⟩) n c) (some 78) rfl rfl (by kernel_rfl) (by kernel_rfl) (by kernel_rfl) (fun _ _ _ h => h) (Or.inl ⟨rfl, fun _ _ => rfl⟩) hHeld ?_
          try simp only [Act.put, List.setIfInBounds_toArray, List.set_cons_zero, List.set_cons_succ]
          refine taken_at (i := 3) (v := .int .i64 (i : Int)) (some 79) rfl rfl (by kernel_rfl) (by kernel_rfl) (by kernel_rfl) (fun _ _ _ h => h) (Or.inl ⟨rfl, fun _ _ => rfl⟩) hHeld ?_
          try simp only [Act.put, List.setIfInBounds_toArray, List.set_cons_zero, List.set_cons_succ]
          refine taken_at (i := 4) (v := .pointer (some ⟨g, off + i * 16, none⟩)) (some 80) rfl rfl (by kernel_rfl) (by kernel_rfl) (by kernel_rfl) (fun _ _ _ h => h) (Or.inl ⟨rfl, fun w' hw => by go_simp⟩) hHeld ?_
          try simp only [Act.put, List.setIfInBounds_toArray, List.set_cons_zero, List.set_cons_succ]
          refine taken_at (i := 5) (v := .agg OC) (some 81) rfl rfl (by kernel_rfl) (by kernel_rfl) (by kernel_rfl) (fun _ _ _ h => h) (yields_loadAt 58 (.tmp 80) (.pointer (some ⟨g, off + i * 16, none⟩)) rfl rfl rfl (fun w' hw => range_loadAt (HRG.out w' hw.1) 58 _ Tryz.underlying58 rfl IOC.out)) hHeld ?_
          try simp only [Act.put, List.setIfInBounds_toArray, List.set_cons_zero, List.set_cons_succ]
          refine wpAnyH_ready (rs := [6, 10]) (by kernel_rfl) (by simp) ?_
          refine AllReadyH.cons (o := _) rfl (fun K hK => ?_) (AllReadyH.cons (o := _) rfl (fun K hK => ?_) AllReadyH.nil)
          · go_simp
            go_at_call 12
            refine (CDO.out (wo.drew) ((Below.refl wo.heap.size wo).drew)).mono ?_
            rintro e w2 ⟨R, rfl, HCR, HFR⟩
            obtain ⟨hl2, hz2, hbw2, hfr⟩ := HFR.out
            go_wp2_with fail
            refine hK.out _ _ ⟨hbw2, hl2⟩ (fun hHeld => ?_)
            clear hK K
            try simp only [Act.put, List.setIfInBounds_toArray, List.set_cons_zero, List.set_cons_succ]
            refine taken_at (i := 7) (v := .tuple #[.agg R, .bool true]) (some 75) rfl rfl (by kernel_rfl) (by kernel_rfl) (by kernel_rfl) (fun _ _ _ h => h) (Or.inl ⟨rfl, fun _ _ => rfl⟩) hHeld ?_
            try simp only [Act.put, List.setIfInBounds_toArray, List.set_cons_zero, List.set_cons_succ]
            refine taken_at (i := 8) (v := .agg R) (some 83) rfl rfl (by kernel_rfl) (by kernel_rfl) (by kernel_rfl) (fun _ _ _ h => h) (Or.inl ⟨rfl, fun _ _ => rfl⟩) hHeld ?_
            try simp only [Act.put, List.setIfInBounds_toArray, List.set_cons_zero, List.set_cons_succ]
            refine taken_at (i := 9) (v := .bool true) (some 84) rfl rfl (by kernel_rfl) (by kernel_rfl) (by kernel_rfl) (fun _ _ _ h => h) (Or.inl ⟨rfl, fun _ _ => rfl⟩) hHeld ?_
            try simp only [Act.put, List.setIfInBounds_toArray, List.set_cons_zero, List.set_cons_succ]
            have HRS : Hid (R.size = Z.size) := Lib.hid (by obtain ⟨s', t', A', C', e9, _⟩ := HCR.out; rw [e9]; exact HZS.out _ _ _)
            have HRI : Hid ((Tryz.prog.info? 40).map (·.size) = some R.size) := Lib.hid (by obtain ⟨s', t', A', C', e9, _⟩ := HCR.out; rw [e9]; exact infoD15 _ _ _)
            have HR1 : Hid (R.all (·.oneCell') = true) := Lib.hid (by obtain ⟨s', t', A', C', e9, _⟩ := HCR.out; rw [e9]; exact dsa_one _ _ _)
            obtain ⟨g1, hg1⟩ : ∃ g1, g1 = w2.heap.size := ⟨_, rfl⟩
            have HGN : Lies (w2.alloc (.cells Z 40)) g1 0 Z := by rw [hg1]; exact Lies.new w2 Z _ (Below.refl _ _)
            have hgl : wo.heap.size ≤ g1 := by rw [hg1]; exact hfr.size
            have hba : Below w2.heap.size w2 (w2.alloc (.cells Z 40)) := (Below.refl _ _).alloc (Nat.le_refl _) _
            have hbwa : Below w.heap.size w (w2.alloc (.cells Z 40)) := hbw2.trans (hba.mono hbw2.size)
            have hla : Lies (w2.alloc (.cells Z 40)) b9 0 V := hl2.below hba hl2.lt
            have hza : Lies (w2.alloc (.cells Z 40)) (w.heap.size + 1) 0 Z := hz2.below hba hz2.lt
            have hne : ∀ q, ((S q ∨ wo.drew.heap.size ≤ q) ∨ A.map Addr.block = some q) → q < w2.heap.size → q ≠ g1 := fun q _ h e => by omega
            refine wpAnyH_ready (rs := [10]) (by kernel_rfl) (by simp) ?_
            refine AllReadyH.cons (o := _) rfl (fun K hK => ?_) AllReadyH.nil
            go_simp
            refine hK.out _ _ ⟨hbwa, hla⟩ (fun hHeld => ?_)
            clear hK K
            try simp only [Act.put, List.setIfInBounds_toArray, List.set_cons_zero, List.set_cons_succ]
            rw [← hg1]
            refine wpAnyH_ready (rs := [11]) (by kernel_rfl) (by simp) ?_
            refine AllReadyH.cons (o := _) rfl (fun K hK => ?_) AllReadyH.nil
            refine step_store_at rfl rfl 40 (.tmp 12) (.tmp 83) rfl (g1) 0 rfl R rfl Z HGN HRS.out HRI.out HR1.out ?_
            intro w5 G1 G2 G3
            have hb5 : Below w.heap.size w w5 := G2.out.bel hbwa (hbwa).size (Nat.le_trans HP.out.bel.size hgl)
            have hl5 : Lies w5 b9 0 V := (hla).keep (G2.out.block _ (hla).lt (by have := HLV.out.lt; omega))
            refine hK.out _ _ ⟨hb5, hl5⟩ (fun hHeld => ?_)
            clear hK K
            refine taken_at (i := 12) (v := .bool true) (some 13) rfl rfl (by kernel_rfl) (by kernel_rfl) (by kernel_rfl) (fun _ _ _ h => h) (Or.inl ⟨rfl, fun _ _ => rfl⟩) hHeld ?_
            try simp only [Act.put, List.setIfInBounds_toArray, List.set_cons_zero, List.set_cons_succ]
            refine wpAnyH_done (by kernel_rfl) ?_ _
            refine NoPanic.normal ⟨rfl, R, g1, rfl, Lib.hid ?_, G1⟩
            obtain ⟨s', t', A', C', e9, ⟨S', h1, h2⟩, h3⟩ := HCR.out
            have hz5 : Lies w5 (w.heap.size + 1) 0 Z := (hza).keep (G2.out.block _ (hza).lt (by have := HB9.out; have := HLV.out.lt; omega))
            refine ⟨⟨s', t', A', C', e9, ⟨S', (h1.below hba).prt G2.out (fun hs => ?_) (fun hq => ?_) (Nat.le_trans HP.out.bel.size hgl), fun j hj => ⟨(h2 j hj).2.2.1, (h2 j hj).2.2.2, ?_⟩⟩, fun q hq => ⟨(h3 q hq).2.2.1, (h3 q hq).2.2.2, ?_⟩⟩, hl5, hz5, hb5, hgl, G1.out.lt⟩
            · exact hne _ (.inl (h2 _ hs).1) (h2 _ hs).2.1 rfl
            · rcases (h3 _ hq).1 with h9 | h9
              · exact hne _ (.inr h9) (h3 _ hq).2.1 rfl
              · exact hne _ (.inl (.inr h9)) (h3 _ hq).2.1 rfl
            · exact hne _ (.inl (h2 _ hj).1) (h2 _ hj).2.1
            · rcases (h3 _ hq).1 with h9 | h9
              · exact hne _ (.inr h9) (h3 _ hq).2.1
              · exact hne _ (.inl (.inr h9)) (h3 _ hq).2.1
          · have HGN0 : Lies (wo.alloc (.cells Z 40)).drew wo.heap.size 0 Z := (Lies.new wo Z _ (Below.refl _ _)).drew
            have hba : Below wo.heap.size wo (wo.alloc (.cells Z 40)).drew := ((Below.refl wo.heap.size wo).alloc (Nat.le_refl _) _).drew
            have hla : Lies (wo.alloc (.cells Z 40)).drew b9 0 V := HLV.out.below hba HLV.out.lt
            have hbwa : Below w.heap.size w (wo.alloc (.cells Z 40)).drew := HP.out.bel.trans (hba.mono HP.out.bel.size)
            go_simp
            refine hK.out _ _ ⟨hbwa, hla⟩ (fun hHeld => ?_)
            clear hK K
            try simp only [Act.put, List.setIfInBounds_toArray, List.set_cons_zero, List.set_cons_succ]
            refine wpAnyH_ready (rs := [6]) (by kernel_rfl) (by simp) ?_
            refine AllReadyH.cons (o := _) rfl (fun K hK => ?_) AllReadyH.nil
            go_simp
            go_at_call 12
            refine (CDO.out ((wo.alloc (.cells Z 40)).drew) (hba)).mono ?_
            rintro e w2 ⟨R, rfl, HCR, HFR⟩
            obtain ⟨hl2, hz2, hbw2, hfr⟩ := HFR.out
            go_wp2_with fail
            refine hK.out _ _ ⟨hbw2, hl2⟩ (fun hHeld => ?_)
            clear hK K
            try simp only [Act.put, List.setIfInBounds_toArray, List.set_cons_zero, List.set_cons_succ]
            refine taken_at (i := 7) (v := .tuple #[.agg R, .bool true]) (some 75) rfl rfl (by kernel_rfl) (by kernel_rfl) (by kernel_rfl) (fun _ _ _ h => h) (Or.inl ⟨rfl, fun _ _ => rfl⟩) hHeld ?_
            try simp only [Act.put, List.setIfInBounds_toArray, List.set_cons_zero, List.set_cons_succ]
            refine taken_at (i := 8) (v := .agg R) (some 83) rfl rfl (by kernel_rfl) (by kernel_rfl) (by kernel_rfl) (fun _ _ _ h => h) (Or.inl ⟨rfl, fun _ _ => rfl⟩) hHeld ?_
            try simp only [Act.put, List.setIfInBounds_toArray, List.set_cons_zero, List.set_cons_succ]
            refine taken_at (i := 9) (v := .bool true) (some 84) rfl rfl (by kernel_rfl) (by kernel_rfl) (by kernel_rfl) (fun _ _ _ h => h) (Or.inl ⟨rfl, fun _ _ => rfl⟩) hHeld ?_
            try simp only [Act.put, List.setIfInBounds_toArray, List.set_cons_zero, List.set_cons_succ]
            have HRS : Hid (R.size = Z.size) := Lib.hid (by obtain ⟨s', t', A', C', e9, _⟩ := HCR.out; rw [e9]; exact HZS.out _ _ _)
            have HRI : Hid ((Tryz.prog.info? 40).map (·.size) = some R.size) := Lib.hid (by obtain ⟨s', t', A', C', e9, _⟩ := HCR.out; rw [e9]; exact infoD15 _ _ _)
            have HR1 : Hid (R.all (·.oneCell') = true) := Lib.hid (by obtain ⟨s', t', A', C', e9, _⟩ := HCR.out; rw [e9]; exact dsa_one _ _ _)
            have HGN : Lies w2 wo.heap.size 0 Z := HGN0.keep (hfr.block _ HGN0.lt (fun hs => by have := HLTS.out _ hs; omega))
            have hgl : wo.heap.size ≤ wo.heap.size := Nat.le_refl _
            have hlt9 := HGN0.lt
            have hne : ∀ q, ((S q ∨ (wo.alloc (.cells Z 40)).drew.heap.size ≤ q) ∨ A.map Addr.block = some q) → q < w2.heap.size → q ≠ wo.heap.size := fun q h _ e => by
              rcases h with (h | h) | h
              · have := HLTS.out q h; omega
              · omega
              · have := HAL.out q h; omega
            refine wpAnyH_ready (rs := [11]) (by kernel_rfl) (by simp) ?_
            refine AllReadyH.cons (o := _) rfl (fun K hK => ?_) AllReadyH.nil
            refine step_store_at rfl rfl 40 (.tmp 12) (.tmp 83) rfl (wo.heap.size) 0 rfl R rfl Z HGN HRS.out HRI.out HR1.out ?_
            intro w5 G1 G2 G3
            have hb5 : Below w.heap.size w w5 := G2.out.bel hbw2 (hbw2).size (Nat.le_trans HP.out.bel.size hgl)
            have hl5 : Lies w5 b9 0 V := (hl2).keep (G2.out.block _ (hl2).lt (by have := HLV.out.lt; omega))
            refine hK.out _ _ ⟨hb5, hl5⟩ (fun hHeld => ?_)
            clear hK K
            refine taken_at (i := 12) (v := .bool true) (some 13) rfl rfl (by kernel_rfl) (by kernel_rfl) (by kernel_rfl) (fun _ _ _ h => h) (Or.inl ⟨rfl, fun _ _ => rfl⟩) hHeld ?_
            try simp only [Act.put, List.setIfInBounds_toArray, List.set_cons_zero, List.set_cons_succ]
            refine wpAnyH_done (by kernel_rfl) ?_ _
            refine NoPanic.normal ⟨rfl, R, wo.heap.size, rfl, Lib.hid ?_, G1⟩
            obtain ⟨s', t', A', C', e9, ⟨S', h1, h2⟩, h3⟩ := HCR.out
            have hz5 : Lies w5 (w.heap.size + 1) 0 Z := (hz2).keep (G2.out.block _ (hz2).lt (by have := HB9.out; have := HLV.out.lt; omega))
            refine ⟨⟨s', t', A', C', e9, ⟨S', (h1).prt G2.out (fun hs => ?_) (fun hq => ?_) (Nat.le_trans HP.out.bel.size hgl), fun j hj => ⟨(h2 j hj).2.2.1, (h2 j hj).2.2.2, ?_⟩⟩, fun q hq => ⟨(h3 q hq).2.2.1, (h3 q hq).2.2.2, ?_⟩⟩, hl5, hz5, hb5, hgl, G1.out.lt⟩
            · exact hne _ (.inl (h2 _ hs).1) (h2 _ hs).2.1 rfl
            · rcases (h3 _ hq).1 with h9 | h9
              · exact hne _ (.inr h9) (h3 _ hq).2.1 rfl
              · exact hne _ (.inl (.inr h9)) (h3 _ hq).2.1 rfl
            · exact hne _ (.inl (h2 _ hj).1) (h2 _ hj).2.1
            · rcases (h3 _ hq).1 with h9 | h9
              · exact hne _ (.inr h9) (h3 _ hq).2.1
              · exact hne _ (.inl (.inr h9)) (h3 _ hq).2.1
        case post =>
          intro R g1 w6 ⟨HPD, HLR⟩
          obtain ⟨s', t', A', C', e9, ⟨S', hcx6, hS6⟩, hA6⟩ := HPD.out.cx
          have HE9 := Lib.hid e9
          have HCX6 := Lib.hid hcx6
          have HS6 := Lib.hid hS6
          have HA6 := Lib.hid hA6
          have HRV : Hid (R.size = V.size) := Lib.hid (by rw [e9, HVS.out]; exact HZS.out _ _ _)
          have HRI : Hid ((Tryz.prog.info? 40).map (·.size) = some R.size) := Lib.hid (by rw [e9]; exact infoD15 _ _ _)
          have HR1 : Hid (R.all (·.oneCell') = true) := Lib.hid (by rw [e9]; exact dsa_one _ _ _)
          have CS6 : Hid (Calls Tryz.prog 11 #[.pointer (some ⟨p, 0, none⟩), .agg R] w6 fun e w' => e = .returned (.bool true) ∧ Below w6.heap.size w6 w') := Lib.hid (by
            rw [e9]
            exact (@same_sb tgh _ _ _ _ _ A' C' hcx6.sb hcx6.rel.twin (fun e => by
              obtain ⟨kb, qb, A9, C9, ⟨_, _, _, _, h5, _, h7, _⟩⟩ := hcx6.sb
              have := h7 p h5.1
              omega)))
          clear e9 hcx6 hS6 hA6 zz CDO
          go_upto_region 15 with (first
            | ((with_reducible refine wpList_load_liesW 40 (.tmp 12) rfl g1 0 rfl R HLR.out _ Tryz.underlying40 rfl HRI.out ?_ ?_); · rfl)
            | (go_at_call 11; (with_reducible refine (CS6.out).mono ?_); rintro e w7 ⟨rfl, HB7⟩)
            | fail)
          have HLR7 : Hid (Lies w7 g1 0 R) := Lib.hid (HLR.out.below HB7 HLR.out.lt)
          have HLV7 : Hid (Lies w7 b9 0 V) := Lib.hid (HPD.out.box.below HB7 HPD.out.box.lt)
          have HLZ7 : Hid (Lies w7 (w.heap.size + 1) 0 Z) := Lib.hid (HPD.out.z.below HB7 HPD.out.z.lt)
          have HBW7 : Hid (Below w.heap.size w w7) := Lib.hid (HPD.out.bel.trans (HB7.mono HPD.out.bel.size))
          have HCX7 := Lib.hid (HCX6.out.below HB7)
          clear HB7 CS6
          go_wp2_with (first
            | (with_reducible refine wpList_load_lies rfl 40 (.tmp 12) rfl g1 0 rfl R HLR7.out _ Tryz.underlying40 rfl HRI.out ?_)
            | ((with_reducible refine wpList_store_lies rfl 40 (.tmp 9) (.tmp 94) rfl b9 0 rfl R rfl V HLV7.out HRV.out HRI.out HR1.out ?_); intro w8 M1 M2 M3)
            | fail)
          go_roundw
          case rel =>
            refine ⟨i + 1, s', t', A', C', HI.out, by go_num, Lib.hid ⟨⟨S', (HCX7.out.prt M2.out (fun hs => (HS6.out _ hs).2.1 rfl) (fun hq => (HA6.out _ hq).2.1 rfl) (by have := HB9.out; omega)).upto (by omega), fun q hq => ⟨(HS6.out q hq).1, (HS6.out q hq).2.1⟩⟩, fun q hq => ⟨(HA6.out q hq).1, (HA6.out q hq).2.1⟩, ?_, HLZ7.out.keep (M2.out.block _ HLZ7.out.lt (by have := HB9.out; omega)), M2.out.bel HBW7.out HBW7.out.size (by have := HB9.out; omega), HB9.out⟩⟩
            have := M1.out
            rw [HE9.out] at this
            exact this
          case measure => have := HDM.out; simp [intOf] <;> omega
    · have hcs : ¬ (i : Int) < (n : Int) ∨ ((i : Int) < (n : Int) ∧ ¬ (i : Int) < 60) := by omega
      clear hlt hi
      rcases hcs with q1 | ⟨q1, q2⟩
      all_goals
        go_upto_region 16 with fail
        apply wp_one15 (F := fun w' => Hid (Lies w' (w.heap.size + 1) 0 V) ∧ Hid (Below w.heap.size w w'))
        case reg =>
          refine wp_region_noPanic ?_
          refine wp_region_held_drew (S := fun w' => Lies w' b9 0 V) (by kernel_rfl) HLVD.out (fun hHeld => ?_)
          refine taken_at (i := 0) (v := .pointer (some ⟨p, 0, none⟩)) (some 95) rfl rfl (by kernel_rfl) (by kernel_rfl) (by kernel_rfl) (fun _ _ _ h => h) (Or.inl ⟨rfl, fun _ _ => rfl⟩) hHeld ?_
          try simp only [Act.put, List.setIfInBounds_toArray, List.set_cons_zero, List.set_cons_succ]
          refine taken_at (i := 1) (v := .agg V) (some 96) rfl rfl (by kernel_rfl) (by kernel_rfl) (by kernel_rfl) (fun _ _ _ h => h) (yields_loadAt 40 (.tmp 9) (.pointer (some ⟨b9, 0, none⟩)) rfl rfl rfl (fun w' hw => hw.loadAt 40 _ Tryz.underlying40 rfl HVI.out)) hHeld ?_
          try simp only [Act.put, List.setIfInBounds_toArray, List.set_cons_zero, List.set_cons_succ]
          refine taken_at (i := 2) (v := .pointer (some ⟨p, 0, none⟩)) (some 4) rfl rfl (by kernel_rfl) (by kernel_rfl) (by kernel_rfl) (fun _ _ _ h => h) (Or.inl ⟨rfl, fun _ _ => rfl⟩) hHeld ?_
          try simp only [Act.put, List.setIfInBounds_toArray, List.set_cons_zero, List.set_cons_succ]
          refine wpAnyH_ready (rs := [3]) (by kernel_rfl) (by simp) ?_
          refine AllReadyH.cons (o := _) rfl (fun K hK => ?_) AllReadyH.nil
          refine step_store_at rfl rfl 40 (.tmp 5) (.tmp 96) rfl (w.heap.size + 1) 0 rfl V rfl Z HLZD.out HVS.out HVI.out HV1.out ?_
          intro w5 G1 G2 G3
          refine hK.out _ _ (HLVD.out.keep (G2.out.block _ HLVD.out.lt (by have := HB9.out; omega))) (fun hHeld => ?_)
          clear hK K
          refine taken_at (i := 4) (v := .bool true) (some 6) rfl rfl (by kernel_rfl) (by kernel_rfl) (by kernel_rfl) (fun _ _ _ h => h) (Or.inl ⟨rfl, fun _ _ => rfl⟩) hHeld ?_
          try simp only [Act.put, List.setIfInBounds_toArray, List.set_cons_zero, List.set_cons_succ]
          refine wpAnyH_done (by kernel_rfl) ?_ _
          exact NoPanic.normal ⟨rfl, rfl, G1, Lib.hid (G2.out.bel HBD.out HBD.out.size (Nat.le_succ _))⟩
        case post =>
          intro w6 ⟨HL6, HB6⟩
          go_wp2
          refine bodyPost_ret (v := .tuple #[.pointer (some ⟨p, 0, none⟩), .agg V, .bool true]) (results_mid (p := 4) (q := 5) (u := 6) rfl _ w6 (w.heap.size + 1) _ _ _ rfl rfl rfl (Lies.loadVar HL6.out 40 _ Tryz.underlying40 rfl HVI.out)) rfl ?_
          exact ⟨_, V, rfl, Lib.hid ⟨HV167.out, HV1.out⟩, HB6⟩
end Go.Proofs.YtldhlknmabpanaaGreat.Mp
