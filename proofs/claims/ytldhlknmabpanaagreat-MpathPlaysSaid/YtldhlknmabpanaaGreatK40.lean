/-
  Own text: the law's do: Heard, walked. (Written by gen_mrp.py.)
-/
import Derived.Test.YtldhlknmabpanaaGreatK39
namespace Go.Proofs.YtldhlknmabpanaaGreat.Mp
open Go.RowKit

/-- All orders end in one frame, but for a new block's number. -/
theorem wp_two {P : Program} {c : Code} {Q : Exit → Act → World → Prop} {a : Act} {w : World} {G : Nat → World → Prop} {F : Nat → Act} (reg : Code.wp P c (fun e a' w' => e = .normal ∧ ∃ g, a' = F g ∧ G g w') a w) (post : ∀ g w', G g w' → Q .normal (F g) w') : Code.wp P c Q a w :=
  Code.wp_mono (fun e a' w' ⟨h1, g, h2, h3⟩ => by subst h1 h2; exact post g w' h3) reg
/-- A store has no place. -/
theorem step_store_at {w : World} {ops : Array Oper} {op : Oper} {a : Act} {K : Act → World → Prop} {Q : Exit → Act → World → Prop} {E : Prop} (hd : op.dst = none) (hgd : op.guard = none) (ty : TypeId) (x y : Operand) (ho : op.op = .store ty x y)
    (g o : Nat) (hx : a.eval x = .pointer (some ⟨g, o, none⟩)) (cs : Array Value) (hy : a.eval y = .agg cs) (cs0 : Array Value) (hg : Lies w g o cs0) (hs : cs.size = cs0.size)
    (hi : (Tryz.prog.info? ty).map (·.size) = some cs.size) (h1 : cs.all (·.oneCell') = true)
    (h : ∀ w', Hid (Lies w' g o cs) → Hid (Prt g o cs.size w w') → w'.heap.size = w.heap.size → K a w') :
    if Region.wanted op (yielded ops a.tmps) = true then Oper.wp Tryz.prog op a w K Q else E :=
  step_store_lies hgd ty x y ho g o hx cs hy cs0 hg hs hi h1 (fun w' h2 h3 h4 => by rw [hd]; exact h w' h2 h3 h4)
set_option maxRecDepth 100000 in
set_option maxHeartbeats 4000000 in
theorem do15_heard (o : Op15) (hn : o.kind = 3) {S : Nat → Prop} {w : World} {B p : Nat} {s t : Sd} {A : Option Addr} {C k : Nat} (h : Cx S w B p s t A C k) (hk6 : k ≤ 900000) (ho : o.ok w) (hdl : o.d.dl = 0 ∨ ∀ g, o.d.da.map Addr.block = some g → g < B) :
    Calls Tryz.prog 12 #[.pointer (some ⟨p, 0, none⟩), .agg (dsa t A C), .agg o.cells] w (Do15 w S B p A (k + 800)) := by
  obtain ⟨W, hW⟩ : ∃ W, W = ((w.alloc (.cells (dsa t A C) 40)).alloc (.cells o.cells 58)).alloc (.cells (dsa Sdz none 0) 40) := ⟨_, rfl⟩
  have hbo := Bo.start w t A C o hW
  have HBo := Lib.hid hbo
  have HC := Lib.hid (h.below hbo.bel)
  have HX := Lib.hid h.lt
  have HA := Lib.hid (fun g hg => (h.ls g hg).2)
  have HB0 := Lib.hid h.hB
  have HK6 := Lib.hid hk6
  have HO := Lib.hid ho
  have HDL := Lib.hid hdl
  have HZS : Hid (∀ t A C, (dsa t A C).size = (dsa Sdz none 0).size) := Lib.hid (fun t A C => by rw [dsa_size, dsa_size])
  obtain ⟨c0, c1, c13, c14, c15, c2⟩ := hbo.cells
  have zz := zeroD
  obtain ⟨V, hV⟩ : ∃ V, V = dsa t A C := ⟨_, rfl⟩
  have HV := Lib.hid hV
  obtain ⟨Z, hZ⟩ : ∃ Z, Z = dsa Sdz none 0 := ⟨_, rfl⟩
  have HZ := Lib.hid hZ
  obtain ⟨O, hO⟩ : ∃ O, O = o.cells := ⟨_, rfl⟩
  rw [← hZ] at zz hW HZS
  rw [← hV] at hW ⊢
  rw [← hO] at hW ⊢
  have HK := Lib.hid (show k ≤ 1000000 by omega)
  have CT := Lib.hid (@heard2_sb (gw W []) _ _ _ _ _ _ o.way (sb_ghost [] HC.out.sb) HC.out.fs HK.out ho.th)
  have HN : Hid (∀ w1 s', (∃ i : Nat, i < 2 ∧ s' = s.hear i o.th) → After (@SB (gw W [])) W S p s' w1 → ∀ i : Nat, i < 2 → s' = s.hear i o.th → (∃ S', Cx S' w1 B p s' (t.hear i o.th) A C (k + 1) ∧ ∀ j, S' j → S j ∨ W.heap.size ≤ j) ∧ Below B W w1 ∧ Fr S W w1) := Lib.hid (fun w1 s' _ ha i hi hs => by
    subst hs
    exact HC.out.both (Below.refl _ _) ha (fun g hg => .inl hg) HC.out.dl HC.out.cap HC.out.td (HC.out.rel.hear _ _) (Sd.hear_fit HC.out.fs _ _ ho.th) (Sd.hear_fit HC.out.ft _ _ ho.th))
  have HN0 : Hid (∀ w1, After (@SB (gw W [])) W S p s w1 → (∃ S', Cx S' w1 B p s t A C k ∧ ∀ j, S' j → S j ∨ W.heap.size ≤ j) ∧ Below B W w1 ∧ Fr S W w1) := Lib.hid (fun w1 ha => HC.out.both (Below.refl _ _) ha (fun g hg => .inl hg) HC.out.dl HC.out.cap HC.out.td HC.out.rel HC.out.fs HC.out.ft)
  have HWY := Lib.hid HC.out.rel.wy
  have HTH := Lib.hid ho.th
  rw [hn] at c0
  have HC14 := Lib.hid c14
  have HC15 := Lib.hid c15
  obtain ⟨iw, hiw⟩ : ∃ iw, iw = o.way := ⟨_, rfl⟩
  obtain ⟨th, hth⟩ : ∃ th, th = o.th := ⟨_, rfl⟩
  rw [← hiw] at CT HC14 c14
  rw [← hth] at CT HC15 c15 HN HTH
  clear hV hZ hO hk6 ho hdl hbo h hn hiw hth
  by_cases hi : 0 ≤ iw ∧ iw < 2
  · obtain ⟨j, rfl⟩ : ∃ j : Nat, iw = (j : Int) := ⟨iw.toNat, by omega⟩
    obtain ⟨i0, i1⟩ := hi
    have hj : j < 2 := by omega
    rw [if_pos ⟨i0, i1⟩, if_pos ⟨i0, i1⟩, Int.toNat_natCast] at CT
    obtain ⟨cd, hcd⟩ : ∃ cd, cd = ((s.wy j).sn.take th).2 := ⟨_, rfl⟩
    rw [← hcd] at CT
    have HNJ := Lib.hid (fun w1 ha => HN.out w1 (s.hear j th) ⟨j, hj, rfl⟩ ha j hj rfl)
    have CD : Hid (∀ w', Calls Tryz.prog 38 #[.agg (rowOf 78 (t.wy j).dc), .int .u32 (th : Int)] w' fun e w'' => e = .returned (.tuple #[.agg (rowOf 78 ((t.wy j).heard th).dc), .int .i64 cd]) ∧ Below w'.heap.size w' w'') := Lib.hid (fun w' => by
      rw [hcd, ← HWY.out]
      exact rheard_any (t.wy j) th k (HC.out.ft.wy j hj) HK.out HTH.out w')
    have g1 : ¬ (j : Int) < 0 := by omega
    have g2 : ¬ 1 < (j : Int) := by omega
    have HJ := Lib.hid hj
    clear hcd HN HN0 HWY hj
    go_enter Tryz.func12, Tryz.ntmps12
    go_upto_region 1 with fail
    rw [← hW]
    clear hW zz
    have HLV : Hid (Lies W w.heap.size 0 V) := Lib.hid (by rw [HV.out]; exact HBo.out.db.whole)
    have HLZ : Hid (Lies W (w.heap.size + 1 + 1) 0 Z) := Lib.hid (by rw [HZ.out]; exact HBo.out.z)
    have HVI : Hid ((Tryz.prog.info? 40).map (·.size) = some V.size) := Lib.hid (by rw [HV.out]; exact infoD15 _ _ _)
    go_upto_region 20 with (first
      | (go_at_call 37; (with_reducible refine (CT.out).mono ?_); rintro e w1 ⟨rfl, HAF⟩)
      | fail)
    obtain ⟨⟨S', hcx, hS'⟩, hbb, hfr⟩ := HNJ.out w1 HAF.out
    have HCX := Lib.hid hcx
    have HS' := Lib.hid hS'
    have HBB := Lib.hid hbb
    have hk3 : ∀ g, w.heap.size ≤ g → g < w.heap.size + 3 → w1.heap[g]? = W.heap[g]? := fun g h1 h2 => hfr.block g (by have := HBo.out.hs; omega) (fun hs => by have := HX.out g hs; omega)
    have HSZ := Lib.hid hfr.size
    have HFR := Lib.hid hfr
    have HDB1 : Hid (DB w1 w.heap.size t A C) := Lib.hid (HBo.out.db.keep (hk3 _ (Nat.le_refl _) (by omega)))
    have HOP1 : Hid (Lies w1 (w.heap.size + 1) 0 o.cells) := Lib.hid (HBo.out.op.keep (hk3 _ (by omega) (by omega)))
    have HLZ1 : Hid (Lies w1 (w.heap.size + 1 + 1) 0 Z) := Lib.hid (HLZ.out.keep (hk3 _ (by omega) (by omega)))
    clear c0 c1 c13 c14 c15 c2
    have c14 : w1.cell? ⟨w.heap.size + 1, 14, none⟩ = some (.int .i64 (j : Int)) := (World.cell?_of_block (w := W) (a := ⟨w.heap.size + 1, 14, none⟩) (hk3 (w.heap.size + 1) (by omega) (by omega))).trans HC14.out
    have c15 : w1.cell? ⟨w.heap.size + 1, 15, none⟩ = some (.int .u32 (th : Int)) := (World.cell?_of_block (w := W) (a := ⟨w.heap.size + 1, 15, none⟩) (hk3 (w.heap.size + 1) (by omega) (by omega))).trans HC15.out
    clear hcx hS' hbb hfr hk3 HAF CT HNJ HLV HLZ HC14 HC15
    go_upto_region 22 with fail
    have HALL : Hid (∀ w', Below w1.heap.size w1 w' → w'.cell? ⟨w.heap.size + 1, 14, none⟩ = some (.int .i64 (j : Int)) ∧ w'.cell? ⟨w.heap.size + 1, 15, none⟩ = some (.int .u32 (th : Int)) ∧ Lies w' w.heap.size (j * 78) (rowOf 78 (t.wy j).dc)) := Lib.hid (fun w' hb => ⟨(hb.cell (p := ⟨w.heap.size + 1, 14, none⟩) HOP1.out.lt).trans c14, (hb.cell (p := ⟨w.heap.size + 1, 15, none⟩) HOP1.out.lt).trans c15, (HDB1.out.below hb HDB1.out.lt).way HJ.out⟩)
    have IP := Lib.hid (infoP14 (t.wy j))
    have IPH := Lib.hid (infoP14 ((t.wy j).heard th))
    have OPH := Lib.hid (oneP14 ((t.wy j).heard th))
    have zp := zero37
    obtain ⟨PZ, hPZ⟩ : ∃ PZ, PZ = rowOf 78 Pn.zero.dc := ⟨_, rfl⟩
    have HPS : Hid ((rowOf 78 ((t.wy j).heard th).dc).size = PZ.size) := Lib.hid (by rw [hPZ, rowOf_size, rowOf_size])
    rw [← hPZ] at zp
    clear hPZ
    obtain ⟨P0, hP0⟩ : ∃ P0, P0 = rowOf 78 (t.wy j).dc := ⟨_, rfl⟩
    obtain ⟨P1, hP1⟩ : ∃ P1, P1 = rowOf 78 ((t.wy j).heard th).dc := ⟨_, rfl⟩
    have HP1 := Lib.hid hP1
    rw [← hP0] at HALL CD IP
    rw [← hP1] at CD IPH OPH HPS
    clear hP0 hP1
    apply wp_two (G := fun g w' => Hid (w1.heap.size ≤ g ∧ Lies w' g 0 P1) ∧ Hid (Below w1.heap.size w1 w'))
    case reg =>
      refine wp_region_noPanic ?_
      refine wp_region_held_drew (S := fun w' => Below w1.heap.size w1 w') (by kernel_rfl) (Below.refl _ _).drew (fun hHeld => ?_)
      refine taken_at (i := 0) (v := .pointer (some ⟨w.heap.size + 1, 14, none⟩)) (some 102) rfl rfl (by kernel_rfl) (by kernel_rfl) (by kernel_rfl) (fun _ _ _ h => h) (Or.inl ⟨rfl, fun w' hw => by go_simp⟩) hHeld ?_
      try simp only [Act.put, List.setIfInBounds_toArray, List.set_cons_zero, List.set_cons_succ]
      refine taken_at (i := 1) (v := .int .i64 (j : Int)) (some 103) rfl rfl (by kernel_rfl) (by kernel_rfl) (by kernel_rfl) (fun _ _ _ h => h) (Or.inl ⟨rfl, fun w' hw => by obtain ⟨x14, x15, _⟩ := HALL.out w' hw; go_simp⟩) hHeld ?_
      try simp only [Act.put, List.setIfInBounds_toArray, List.set_cons_zero, List.set_cons_succ]
      refine taken_at (i := 2) (v := .pointer (some ⟨w.heap.size, 0, none⟩)) (some 104) rfl rfl (by kernel_rfl) (by kernel_rfl) (by kernel_rfl) (fun _ _ _ h => h) (Or.inl ⟨rfl, fun w' hw => by go_simp⟩) hHeld ?_
      try simp only [Act.put, List.setIfInBounds_toArray, List.set_cons_zero, List.set_cons_succ]
      refine taken_at (i := 3) (v := .pointer (some ⟨w.heap.size, j * 78, none⟩)) (some 105) rfl rfl (by kernel_rfl) (by kernel_rfl) (by kernel_rfl) (fun _ _ _ h => h) (Or.inl ⟨rfl, fun w' hw => by go_simp⟩) hHeld ?_
      try simp only [Act.put, List.setIfInBounds_toArray, List.set_cons_zero, List.set_cons_succ]
      refine taken_at (i := 4) (v := .agg P0) (some 106) rfl rfl (by kernel_rfl) (by kernel_rfl) (by kernel_rfl) (fun _ _ _ h => h) (yields_loadAt 34 (.tmp 105) (.pointer (some ⟨w.heap.size, j * 78, none⟩)) rfl rfl rfl (fun w' hw => (HALL.out w' hw).2.2.loadAt 34 _ Tryz.underlying34 rfl IP.out)) hHeld ?_
      try simp only [Act.put, List.setIfInBounds_toArray, List.set_cons_zero, List.set_cons_succ]
      refine taken_at (i := 5) (v := .pointer (some ⟨w.heap.size + 1, 15, none⟩)) (some 107) rfl rfl (by kernel_rfl) (by kernel_rfl) (by kernel_rfl) (fun _ _ _ h => h) (Or.inl ⟨rfl, fun w' hw => by go_simp⟩) hHeld ?_
      try simp only [Act.put, List.setIfInBounds_toArray, List.set_cons_zero, List.set_cons_succ]
      refine taken_at (i := 6) (v := .int .u32 (th : Int)) (some 108) rfl rfl (by kernel_rfl) (by kernel_rfl) (by kernel_rfl) (fun _ _ _ h => h) (Or.inl ⟨rfl, fun w' hw => by obtain ⟨x14, x15, _⟩ := HALL.out w' hw; go_simp⟩) hHeld ?_
      try simp only [Act.put, List.setIfInBounds_toArray, List.set_cons_zero, List.set_cons_succ]
      refine wpAnyH_ready (rs := [7, 11]) (by kernel_rfl) (by simp) ?_
      refine AllReadyH.cons (o := _) rfl (fun K hK => ?_) (AllReadyH.cons (o := _) rfl (fun K hK => ?_) AllReadyH.nil)
      · go_simp
        go_at_call 38
        refine (CD.out _).mono ?_
        rintro e w2 ⟨rfl, hb2⟩
        go_wp2_with fail
        have HB2 : Below w1.heap.size w1 w2 := ((Below.refl w1.heap.size w1).drew).trans (hb2.mono ((Below.refl w1.heap.size w1).drew).size)
        refine hK.out _ _ HB2 (fun hHeld => ?_)
        clear hK K
        try simp only [Act.put, List.setIfInBounds_toArray, List.set_cons_zero, List.set_cons_succ]
        refine taken_at (i := 8) (v := .tuple #[.agg P1, .int .i64 cd]) (some 101) rfl rfl (by kernel_rfl) (by kernel_rfl) (by kernel_rfl) (fun _ _ _ h => h) (Or.inl ⟨rfl, fun _ _ => rfl⟩) hHeld ?_
        try simp only [Act.put, List.setIfInBounds_toArray, List.set_cons_zero, List.set_cons_succ]
        refine taken_at (i := 9) (v := .agg P1) (some 110) rfl rfl (by kernel_rfl) (by kernel_rfl) (by kernel_rfl) (fun _ _ _ h => h) (Or.inl ⟨rfl, fun _ _ => rfl⟩) hHeld ?_
        try simp only [Act.put, List.setIfInBounds_toArray, List.set_cons_zero, List.set_cons_succ]
        refine taken_at (i := 10) (v := .int .i64 cd) (some 111) rfl rfl (by kernel_rfl) (by kernel_rfl) (by kernel_rfl) (fun _ _ _ h => h) (Or.inl ⟨rfl, fun _ _ => rfl⟩) hHeld ?_
        try simp only [Act.put, List.setIfInBounds_toArray, List.set_cons_zero, List.set_cons_succ]
        have HGN : Lies (w2.alloc (.cells PZ 34)) w2.heap.size 0 PZ := Lies.new w2 PZ _ (Below.refl _ _)
        have HBN : Below w1.heap.size w1 (w2.alloc (.cells PZ 34)) := HB2.alloc HB2.size _
        have hgl : w1.heap.size ≤ w2.heap.size := HB2.size
        refine wpAnyH_ready (rs := [11]) (by kernel_rfl) (by simp) ?_
        refine AllReadyH.cons (o := _) rfl (fun K hK => ?_) AllReadyH.nil
        go_simp
        refine hK.out _ _ (HB2.alloc HB2.size _) (fun hHeld => ?_)
        clear hK K
        try simp only [Act.put, List.setIfInBounds_toArray, List.set_cons_zero, List.set_cons_succ]
        generalize w2.alloc (.cells PZ 34) = w9 at *
        generalize w2.heap.size = g at *
        refine wpAnyH_ready (rs := [12]) (by kernel_rfl) (by simp) ?_
        refine AllReadyH.cons (o := _) rfl (fun K hK => ?_) AllReadyH.nil
        refine step_store_at rfl rfl 34 (.tmp 16) (.tmp 110) rfl (g) 0 rfl P1 rfl PZ HGN HPS.out IPH.out OPH.out ?_
        intro w3 G1 G2 G3
        have HB3 : Below w1.heap.size w1 w3 := G2.out.bel (HBN) (HBN).size (hgl)
        refine hK.out _ _ HB3 (fun hHeld => ?_)
        clear hK K
        refine taken_at (i := 13) (v := .int .i64 cd) (some 17) rfl rfl (by kernel_rfl) (by kernel_rfl) (by kernel_rfl) (fun _ _ _ h => h) (Or.inl ⟨rfl, fun _ _ => rfl⟩) hHeld ?_
        try simp only [Act.put, List.setIfInBounds_toArray, List.set_cons_zero, List.set_cons_succ]
        refine wpAnyH_done (by kernel_rfl) ?_ _
        exact NoPanic.normal ⟨rfl, g, rfl, Lib.hid ⟨hgl, G1.out⟩, Lib.hid HB3⟩
      · have HBd : Below w1.heap.size w1 w1.drew := (Below.refl w1.heap.size w1).drew
        have HGN : Lies (w1.alloc (.cells PZ 34)).drew w1.heap.size 0 PZ := (Lies.new w1 PZ _ (Below.refl _ _)).drew
        have HBN : Below w1.heap.size w1 (w1.alloc (.cells PZ 34)).drew := ((Below.refl w1.heap.size w1).alloc (Nat.le_refl _) _).drew
        go_simp
        refine hK.out _ _ HBN (fun hHeld => ?_)
        clear hK K
        try simp only [Act.put, List.setIfInBounds_toArray, List.set_cons_zero, List.set_cons_succ]
        generalize (w1.alloc (.cells PZ 34)).drew = w9 at *
        refine wpAnyH_ready (rs := [7]) (by kernel_rfl) (by simp) ?_
        refine AllReadyH.cons (o := _) rfl (fun K hK => ?_) AllReadyH.nil
        go_simp
        go_at_call 38
        refine (CD.out _).mono ?_
        rintro e w2 ⟨rfl, hb2⟩
        go_wp2_with fail
        have HB2 : Below w1.heap.size w1 w2 := (HBN).trans (hb2.mono (HBN).size)
        refine hK.out _ _ HB2 (fun hHeld => ?_)
        clear hK K
        try simp only [Act.put, List.setIfInBounds_toArray, List.set_cons_zero, List.set_cons_succ]
        refine taken_at (i := 8) (v := .tuple #[.agg P1, .int .i64 cd]) (some 101) rfl rfl (by kernel_rfl) (by kernel_rfl) (by kernel_rfl) (fun _ _ _ h => h) (Or.inl ⟨rfl, fun _ _ => rfl⟩) hHeld ?_
        try simp only [Act.put, List.setIfInBounds_toArray, List.set_cons_zero, List.set_cons_succ]
        refine taken_at (i := 9) (v := .agg P1) (some 110) rfl rfl (by kernel_rfl) (by kernel_rfl) (by kernel_rfl) (fun _ _ _ h => h) (Or.inl ⟨rfl, fun _ _ => rfl⟩) hHeld ?_
        try simp only [Act.put, List.setIfInBounds_toArray, List.set_cons_zero, List.set_cons_succ]
        refine taken_at (i := 10) (v := .int .i64 cd) (some 111) rfl rfl (by kernel_rfl) (by kernel_rfl) (by kernel_rfl) (fun _ _ _ h => h) (Or.inl ⟨rfl, fun _ _ => rfl⟩) hHeld ?_
        try simp only [Act.put, List.setIfInBounds_toArray, List.set_cons_zero, List.set_cons_succ]
        have HGN2 : Lies w2 w1.heap.size 0 PZ := HGN.below hb2 HGN.lt
        refine wpAnyH_ready (rs := [12]) (by kernel_rfl) (by simp) ?_
        refine AllReadyH.cons (o := _) rfl (fun K hK => ?_) AllReadyH.nil
        refine step_store_at rfl rfl 34 (.tmp 16) (.tmp 110) rfl (w1.heap.size) 0 rfl P1 rfl PZ HGN2 HPS.out IPH.out OPH.out ?_
        intro w3 G1 G2 G3
        have HB3 : Below w1.heap.size w1 w3 := G2.out.bel (HB2) (HB2).size (Nat.le_refl _)
        refine hK.out _ _ HB3 (fun hHeld => ?_)
        clear hK K
        refine taken_at (i := 13) (v := .int .i64 cd) (some 17) rfl rfl (by kernel_rfl) (by kernel_rfl) (by kernel_rfl) (fun _ _ _ h => h) (Or.inl ⟨rfl, fun _ _ => rfl⟩) hHeld ?_
        try simp only [Act.put, List.setIfInBounds_toArray, List.set_cons_zero, List.set_cons_succ]
        refine wpAnyH_done (by kernel_rfl) ?_ _
        exact NoPanic.normal ⟨rfl, w1.heap.size, rfl, Lib.hid ⟨Nat.le_refl _, G1.out⟩, Lib.hid HB3⟩
    case post =>
      intro g w6 ⟨HG6, HB6⟩
      have hdb6 : DB w6 w.heap.size t A C := HDB1.out.below HB6.out HDB1.out.lt
      have hb1s : w.heap.size + 3 ≤ w1.heap.size := Nat.le_trans HBo.out.hs HSZ.out
      have HB1S := Lib.hid hb1s
      have HCX6 := Lib.hid (HCX.out.below HB6.out)
      have HDB6 := Lib.hid hdb6
      have HW6 : Hid (Lies w6 w.heap.size (j * 78) P0) := Lib.hid ((HALL.out w6 HB6.out).2.2)
      have HPP : Hid (P1.size = P0.size) := Lib.hid (by have h1 := IPH.out; have h2 := IP.out; rw [h1] at h2; exact Option.some.inj h2)
      have HP78 : Hid (P1.size = 78) := Lib.hid (by rw [HP1.out, rowOf_size])
      clear c14 c15 hdb6 hb1s
      obtain ⟨c14, _⟩ := HALL.out w6 HB6.out
      go_upto_region 24 with (first
        | (with_reducible refine wpList_load_lies rfl 34 (.tmp 16) rfl g 0 rfl P1 HG6.out.2 _ Tryz.underlying34 rfl IPH.out ?_)
        | ((with_reducible refine wpList_store_lies rfl 34 (.tmp 116) (.tmp 114) rfl w.heap.size (j * 78) rfl P1 rfl P0 HW6.out HPP.out IPH.out OPH.out ?_); intro w7 N1 N2 N3)
        | fail)
      have HD7 : Hid (DB w7 w.heap.size (t.hear j th) A C) := Lib.hid (HDB6.out.setWay HJ.out (HP1.out ▸ N1.out) (by have := N2.out; rw [HP78.out] at this; exact this))
      have HCX7 := Lib.hid (HCX6.out.prt N2.out (fun hs => by
        rcases HS'.out _ hs with h2 | h2
        · have := HX.out _ h2; omega
        · have := HBo.out.hs; omega) (fun e => by have := HA.out _ e; omega) HB0.out)
      have HLZ7 : Hid (Lies w7 (w.heap.size + 1 + 1) 0 Z) := Lib.hid ((HLZ1.out.below HB6.out HLZ1.out.lt).keep (N2.out.block _ (HLZ1.out.below HB6.out HLZ1.out.lt).lt (by omega)))
      have HBB7 : Hid (Fr S w w7) := Lib.hid ((((Fr.of_below HBo.out.bel).next HFR.out).next (Fr.of_below HB6.out)).prt (Nat.le_refl _) N2.out)
      obtain ⟨R, hR⟩ : ∃ R, R = dsa (t.hear j th) A C := ⟨_, rfl⟩
      have HR := Lib.hid hR
      have HRS : Hid (R.size = Z.size) := Lib.hid (by rw [hR]; exact HZS.out _ _ _)
      have HRI : Hid ((Tryz.prog.info? 40).map (·.size) = some R.size) := Lib.hid (by rw [hR]; exact infoD15 _ _ _)
      have HR1 : Hid (R.all (·.oneCell') = true) := Lib.hid (by rw [hR]; exact dsa_one _ _ _)
      have HLR : Hid (Lies w7 w.heap.size 0 R) := Lib.hid (by rw [hR]; exact HD7.out.whole)
      have ee : (cd == cd) = true := by simp
      clear hR c14
      go_wp2_with (first
        | (with_reducible refine wpList_load_lies rfl 40 (.tmp 4) rfl w.heap.size 0 rfl R HLR.out _ Tryz.underlying40 rfl HRI.out ?_)
        | ((with_reducible refine wpList_store_lies rfl 40 (.tmp 6) (.tmp 117) rfl (w.heap.size + 1 + 1) 0 rfl R rfl Z HLZ7.out HRS.out HRI.out HR1.out ?_); intro w8 M1 M2 M3)
        | fail)
      refine bodyPost_ret (v := .tuple #[.agg R, .bool true]) (Mq.results_cell1 (p := 6) (u := 7) rfl _ w8 (w.heap.size + 1 + 1) _ _ rfl rfl (Lies.loadVar M1.out 40 _ Tryz.underlying40 rfl HRI.out)) rfl ?_
      have hd := do15_end (w := w) HCX7.out (show k + 1 ≤ k + 800 by omega) M2.out (fun hs => by
        have h1 := HBo.out.hs
        rcases HS'.out _ hs with h2 | h2
        · have := HX.out _ h2; omega
        · omega) (fun e => by have := HA.out _ e; omega) HB0.out (fun j hj => (HS'.out j hj).imp id (fun h2 => by have := HBo.out.hs; omega)) HBB7.out
      exact ⟨_, _, A, C, by rw [HR.out], Lib.hid hd.1, Lib.hid (fun g hg => .inl hg), Lib.hid hd.2⟩
  · rw [if_neg hi, if_neg hi] at CT
    have HN0' := Lib.hid (fun w1 ha => HN0.out w1 ha)
    have ee : ((62 : Int) == 62) = true := by decide
    have hcs : iw < 0 ∨ (¬ iw < 0 ∧ 1 < iw) := by omega
    clear HN HN0 hi
    rcases hcs with g1 | ⟨g1, g2⟩
    all_goals
      go_enter Tryz.func12, Tryz.ntmps12
      go_upto_region 1 with fail
      rw [← hW]
      clear hW zz
      have HLV : Hid (Lies W w.heap.size 0 V) := Lib.hid (by rw [HV.out]; exact HBo.out.db.whole)
      have HLZ : Hid (Lies W (w.heap.size + 1 + 1) 0 Z) := Lib.hid (by rw [HZ.out]; exact HBo.out.z)
      have HVI : Hid ((Tryz.prog.info? 40).map (·.size) = some V.size) := Lib.hid (by rw [HV.out]; exact infoD15 _ _ _)
      go_upto_region 20 with (first
        | (go_at_call 37; (with_reducible refine (CT.out).mono ?_); rintro e w1 ⟨rfl, HAF⟩)
        | fail)
      obtain ⟨⟨S', hcx, hS'⟩, hbb, hfr⟩ := HN0'.out w1 HAF.out
      have HCX := Lib.hid hcx
      have HS' := Lib.hid hS'
      have HBB := Lib.hid hbb
      have hk3 : ∀ g, w.heap.size ≤ g → g < w.heap.size + 3 → w1.heap[g]? = W.heap[g]? := fun g h1 h2 => hfr.block g (by have := HBo.out.hs; omega) (fun hs => by have := HX.out g hs; omega)
      have HSZ := Lib.hid hfr.size
      have HFR := Lib.hid hfr
      have HLV1 : Hid (Lies w1 w.heap.size 0 V) := Lib.hid (HLV.out.keep (hk3 _ (Nat.le_refl _) (by omega)))
      have HLZ1 : Hid (Lies w1 (w.heap.size + 1 + 1) 0 Z) := Lib.hid (HLZ.out.keep (hk3 _ (by omega) (by omega)))
      have HVS : Hid (V.size = Z.size) := Lib.hid (by rw [HV.out]; exact HZS.out _ _ _)
      have HV1 : Hid (V.all (·.oneCell') = true) := Lib.hid (by rw [HV.out]; exact dsa_one _ _ _)
      clear c0 c1 c13 c14 c15 c2
      have c14 : w1.cell? ⟨w.heap.size + 1, 14, none⟩ = some (.int .i64 iw) := (World.cell?_of_block (w := W) (a := ⟨w.heap.size + 1, 14, none⟩) (hk3 (w.heap.size + 1) (by omega) (by omega))).trans HC14.out
      clear hcx hS' hbb hfr hk3 HAF CT HN0' HLV HLZ HC14 HC15
      go_wp2_with (first
        | (with_reducible refine wpList_load_lies rfl 40 (.tmp 4) rfl w.heap.size 0 rfl V HLV1.out _ Tryz.underlying40 rfl HVI.out ?_)
        | ((with_reducible refine wpList_store_lies rfl 40 (.tmp 6) (.tmp 98) rfl (w.heap.size + 1 + 1) 0 rfl V rfl Z HLZ1.out HVS.out HVI.out HV1.out ?_); intro w3 N1 N2 N3)
        | fail)
      refine bodyPost_ret (v := .tuple #[.agg V, .bool true]) (Mq.results_cell1 (p := 6) (u := 7) rfl _ w3 (w.heap.size + 1 + 1) _ _ rfl rfl (Lies.loadVar N1.out 40 _ Tryz.underlying40 rfl HVI.out)) rfl ?_
      have hd := do15_end (w := w) HCX.out (show k ≤ k + 800 by omega) N2.out (fun hs => by
        have h1 := HBo.out.hs
        rcases HS'.out _ hs with h2 | h2
        · have := HX.out _ h2; omega
        · omega) (fun e => by have := HA.out _ e; omega) HB0.out (fun j hj => (HS'.out j hj).imp id (fun h2 => by have := HBo.out.hs; omega)) ((Fr.of_below HBo.out.bel).next HFR.out)
      exact ⟨_, _, A, C, by rw [HV.out], Lib.hid hd.1, Lib.hid (fun g hg => .inl hg), Lib.hid hd.2⟩
end Go.Proofs.YtldhlknmabpanaaGreat.Mp
