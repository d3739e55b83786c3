/-
  Own text: Push at a queue whose items bear a datagram, walked. (Written by gen_mqg.py.)
-/
import Derived.Test.YtldhlknmabpanaaGreatK10
namespace Go.Proofs.YtldhlknmabpanaaGreat.Mq
open Go.RowKit

theorem item_field (x : It) (w : World) : (Instr.field 113 (.agg x.cells) 2).run Tryz.prog w = .ok x.v.val w := by kernel_rfl
theorem last_split (L : List It) (n : Nat) (h : L.length = n + 1) : L = L.dropLast ++ L.getLastD ⟨0, 0, nil⟩ :: [] ∧ L.dropLast.length = n := by
  have hne : L ≠ [] := by intro e; rw [e] at h; simp at h
  refine ⟨?_, by rw [List.length_dropLast]; omega⟩
  rw [List.getLastD_eq_getLast?, List.getLast?_eq_some_getLast hne]
  exact (List.dropLast_concat_getLast hne).symm
/-- What a call leaves that moves the items on. -/
theorem QB.prt {W8 w9 : World} {b c o n C : Nat} {Q : Qn} {A : Option Addr} (h : QB W8 b Q A C) (hp : Prt c o n W8 w9) (hb : b ≠ c) (hA : ∀ g, A.map Addr.block = some g → g ≠ c) : QB w9 b Q A C := h.keep (hp.block b h.blk.lt hb) (fun g hg => hp.block g (h.lt g hg) (hA g hg))
theorem bel_frm {b : Nat} {s : Option Nat} {w w1 w2 : World} {B : Nat} (h : Frm b s w w1) (hb : Below B w1 w2) (hB : w.heap.size ≤ B) : Frm b s w w2 :=
  ⟨hb.os.trans h.os, hb.tape.trans h.tape, hb.output.trans h.output, Nat.le_trans h.size hb.size, fun k hk h1 h2 => (hb.block k (by omega)).trans (h.block k hk h1 h2)⟩
set_option maxRecDepth 100000 in
set_option maxHeartbeats 2000000 in
theorem push_any (r : Int) (v : Dg) (b k : Nat) (Q : Qn) (A : Option Addr) (C : Nat) (hf : Q.fit k) (hk : k ≤ 1000000) (w : World) (h : QB w b Q A C) :
    Calls Tryz.prog 16 #[.pointer (some ⟨b, 0, none⟩), .int .i64 r, v.val] w fun e w' => e = .returned (.tuple #[(Q.gone r v).val, .bool (decide (Q.room ≤ Q.l.length))]) ∧ Hid (QTo w b A (Q.push r v) w') := by
  obtain ⟨P, hP⟩ : ∃ P, P = pos r Q.l := ⟨_, rfl⟩
  obtain ⟨n, hn⟩ : ∃ n, n = Q.l.length := ⟨_, rfl⟩
  obtain ⟨p, hp⟩ : ∃ p, p = Q.pushed := ⟨_, rfl⟩
  have hpl := hf.place r v
  rw [← hP, ← hp] at hpl
  have hp1 : (p : Int) ≤ 1000000 := by have := hf.pushed; omega
  have hn1 : n ≤ 256 := by have := hf.len; have := hf.hi; omega
  have hPn : P ≤ n := by have := hpl.le; omega
  obtain ⟨X, hX⟩ : ∃ X, X = It.cells ⟨r, (p : Int), v⟩ := ⟨_, rfl⟩
  have HXS : Hid (X.size = zc.size) := Lib.hid (by rw [hX]; rfl)
  have HXI : Hid ((Tryz.prog.info? 113).map (·.size) = some X.size) := Lib.hid (by rw [hX]; exact infoX _)
  have HX1 : Hid (X.all (·.oneCell') = true) := Lib.hid (by rw [hX]; exact cells_one _)
  -- the argument's box and the answer's
  obtain ⟨W0, hW0⟩ : ∃ W0, W0 = (w.alloc (.cells (dcells v) 50)).alloc (.cells (dcells nil) 50) := ⟨_, rfl⟩
  have hb0 : Below w.heap.size w W0 := by rw [hW0]; exact ((Below.refl _ _).alloc (Nat.le_refl _) _).alloc (by simp) _
  have hs0 : W0.heap.size = w.heap.size + 1 + 1 := by rw [hW0]; simp
  have hv0 : Lies W0 w.heap.size 0 (dcells v) := by rw [hW0]; exact Lies.new w (dcells v) _ ((Below.refl _ _).alloc (Nat.le_refl _) _)
  have hr0 : Lies W0 (w.heap.size + 1) 0 (dcells nil) := by
    have := Lies.new (w.alloc (.cells (dcells v) 50)) (dcells nil) 50 (Below.refl _ _)
    rw [hW0]
    simpa using this
  have hq0 : QB W0 b Q A C := h.below hb0 (Nat.le_refl _)
  have hbw := h.blk.lt
  have hgb : ∀ g, A.map Addr.block = some g → g ≠ b := h.apart
  have hglt : ∀ g, A.map Addr.block = some g → g < w.heap.size := h.lt
  have HV : Hid (∀ w', Below W0.heap.size W0 w' → Lies w' w.heap.size 0 (dcells v)) := Lib.hid (fun w' hb => hv0.below hb hv0.lt)
  have H1 : Hid (∀ w', Below W0.heap.size W0 w' → w'.cell? ⟨b, 0, none⟩ = some (.int .i64 (Q.room : Int)) ∧ w'.cell? ⟨b, 1, none⟩ = some (.int .i64 (p : Int)) ∧ w'.cell? ⟨b, 2, none⟩ = some (.slice A n C)) := Lib.hid (fun w' hb => by
    rw [hp, hn]
    exact (hq0.blk.below hb hq0.blk.lt).cells)
  -- behind the new item, and behind the number
  have H2 : Hid (∀ w1, Below W0.heap.size W0 w1 → Lies w1 W0.heap.size 0 X → ∃ W2, W2 = w1.setCell ⟨b, 1, none⟩ (.int .i64 ((p : Int) + 1)) ∧ W0.heap.size < W2.heap.size ∧ QBlk W2 b Q.room (p + 1) (.slice A n C) ∧ OwnT W2 0 (.slice A n C) n Q.l ∧ Lies W2 W0.heap.size 0 X ∧ Lies W2 (w.heap.size + 1) 0 (dcells nil) ∧ Frm b (A.map Addr.block) w W2) := Lib.hid (fun w1 hb1 hx => by
    have hq1 := hq0.below hb1 (Nat.le_refl _)
    refine ⟨_, rfl, by simpa using hx.lt, ?_, ?_, ?_, ?_, ?_⟩
    · rw [hn]; exact hq1.blk.setPushed (p + 1)
    · rw [hn]
      exact hq1.own.keep (fun g hg => Below.heap_setCell _ _ _ g (hgb g (by rw [own_block] at hg; exact hg)))
    · exact hx.other (by show W0.heap.size ≠ b; omega) _
    · exact (hr0.below hb1 (by omega)).other (by show w.heap.size + 1 ≠ b; omega) _
    · exact (Frm.of_below (hb0.trans (hb1.mono (by omega)))).trans (Frm.setIn _ _ _ _ _))
  have HPL := Lib.hid hpl
  have HX := Lib.hid hX
  have HW0 := Lib.hid hW0
  have HS0 := Lib.hid hs0
  have HN : Hid (n = Q.l.length ∧ p = Q.pushed ∧ P = pos r Q.l ∧ P ≤ n) := Lib.hid ⟨hn, hp, hP, hPn⟩
  have HGB := Lib.hid hgb
  have HGL := Lib.hid hglt
  have HBW := Lib.hid hbw
  have HFT := Lib.hid hf
  have HN1 := Lib.hid hn1
  obtain ⟨c0, c1, c2⟩ := H1.out W0 (Below.refl _ _)
  clear hn hp hP h hf hk hPn hb0 hs0 hv0 hr0 hq0 hW0 hgb hglt hpl hbw hn1 hX
  go_enter Tryz.func16, Tryz.ntmps16
  go_upto_region 1 with fail
  rw [← HW0.out]
  refine wp_region_held_drew (S := fun w' => Below W0.heap.size W0 w') (by kernel_rfl) (Below.refl _ _).drew (fun hHeld => ?_)
  refine taken_at (i := 0) (v := .int .i64 r) (some 12) rfl rfl (by kernel_rfl) (by kernel_rfl) (by kernel_rfl) (fun _ _ _ h => h) (Or.inl ⟨rfl, fun _ _ => rfl⟩) hHeld ?_
  try simp only [Act.put, List.setIfInBounds_toArray, List.set_cons_zero, List.set_cons_succ]
  refine taken_at (i := 1) (v := .pointer (some ⟨b, 0, none⟩)) (some 13) rfl rfl (by kernel_rfl) (by kernel_rfl) (by kernel_rfl) (fun _ _ _ h => h) (Or.inl ⟨rfl, fun _ _ => rfl⟩) hHeld ?_
  try simp only [Act.put, List.setIfInBounds_toArray, List.set_cons_zero, List.set_cons_succ]
  refine taken_at (i := 2) (v := .pointer (some ⟨b, 0, none⟩)) (some 14) rfl rfl (by kernel_rfl) (by kernel_rfl) (by kernel_rfl) (fun _ _ _ h => h) (Or.inl ⟨rfl, fun _ _ => rfl⟩) hHeld ?_
  try simp only [Act.put, List.setIfInBounds_toArray, List.set_cons_zero, List.set_cons_succ]
  refine taken_at (i := 3) (v := .pointer (some ⟨b, 1, none⟩)) (some 15) rfl rfl (by kernel_rfl) (by kernel_rfl) (by kernel_rfl) (fun _ _ _ h => h) (Or.inl ⟨rfl, fun w' hw => by obtain ⟨k0, k1, k2⟩ := H1.out w' hw; go_simp⟩) hHeld ?_
  try simp only [Act.put, List.setIfInBounds_toArray, List.set_cons_zero, List.set_cons_succ]
  refine taken_at (i := 4) (v := .int .i64 (p : Int)) (some 16) rfl rfl (by kernel_rfl) (by kernel_rfl) (by kernel_rfl) (fun _ _ _ h => h) (Or.inl ⟨rfl, fun w' hw => by obtain ⟨k0, k1, k2⟩ := H1.out w' hw; go_simp⟩) hHeld ?_
  try simp only [Act.put, List.setIfInBounds_toArray, List.set_cons_zero, List.set_cons_succ]
  refine taken_at (i := 5) (v := v.val) (some 17) rfl rfl (by kernel_rfl) (by kernel_rfl) (by kernel_rfl) (fun _ _ _ h => h) (yields_loadAt 50 (.tmp 5) (.pointer (some ⟨w.heap.size, 0, none⟩)) rfl rfl rfl (fun w' hw => load_dg (HV.out w' hw))) hHeld ?_
  try simp only [Act.put, List.setIfInBounds_toArray, List.set_cons_zero, List.set_cons_succ]
  refine taken_at (i := 6) (v := .agg X) (some 18) rfl rfl (by kernel_rfl) (by kernel_rfl) (by kernel_rfl) (fun _ _ _ h => h) (Or.inl ⟨rfl, fun w' hw => by rw [HX.out]; kernel_rfl⟩) hHeld ?_
  try simp only [Act.put, List.setIfInBounds_toArray, List.set_cons_zero, List.set_cons_succ]
  refine wpAnyH_ready (rs := [7]) (by kernel_rfl) (by simp) ?_
  refine AllReadyH.cons rfl (fun K hK => ?_) AllReadyH.nil
  go_simp
  refine hK.out _ _ ((Below.refl _ _).drew.alloc (Nat.le_refl _) _) (fun hHeld => ?_)
  clear hK K
  try simp only [Act.put, List.setIfInBounds_toArray, List.set_cons_zero, List.set_cons_succ]
  refine wpAnyH_ready (rs := [8]) (by kernel_rfl) (by simp) ?_
  refine AllReadyH.cons rfl (fun K hK => ?_) AllReadyH.nil
  refine step_store_lies rfl 113 (.tmp 8) (.tmp 18) rfl W0.heap.size 0 rfl X rfl zc (Lies.new W0.drew zc _ (Below.refl _ _)) HXS.out HXI.out HX1.out ?_
  intro w1 J1 J2 J3
  have HB1 : Hid (Below W0.heap.size W0 w1) := Lib.hid (J2.out.bel ((Below.refl _ _).drew.alloc (Nat.le_refl _) _) (by simp) (Nat.le_refl _))
  refine hK.out _ _ HB1.out (fun hHeld => ?_)
  clear hK K
  try simp only [Act.put]
  refine wpAnyH_done (by kernel_rfl) ?_ _
  clear hHeld
  obtain ⟨W2, hW2, hs2, hq2, ho2, hx2, hr2, hf2⟩ := H2.out w1 HB1.out J1.out
  obtain ⟨d0, d1, d2⟩ := H1.out w1 HB1.out
  have df : w1.frozen? ⟨b, 1, none⟩ = false := by
    have := hq2.frozen 1
    rw [hW2] at this
    simpa using this
  have HW2 := Lib.hid hW2
  clear hW2
  go_upto_region 3 with fail
  rw [← HW2.out]
  clear d0 d1 d2 df c0 c1 c2 J1 J2 J3
  rw [HS0.out] at hs2 hx2
  have HALL : Hid (∀ w', Below W2.heap.size W2 w' → w'.cell? ⟨b, 2, none⟩ = some (.slice A n C) ∧ Lies w' (w.heap.size + 1 + 1) 0 X ∧ Lies w' (w.heap.size + 1) 0 (dcells nil)) := Lib.hid (fun w' hb => by
    have hq := hq2.below hb hq2.lt
    exact ⟨hq.cells.2.2, hx2.below hb hx2.lt, hr2.below hb hr2.lt⟩)
  have CS : Hid (Calls Tryz.prog 46 #[.slice A n C, .agg X, .func (.func 47) #[] #[]] W2.drew fun e w' => FoundAt P e ∧ Below W2.drew.heap.size W2.drew w') := Lib.hid (by rw [HX.out]; exact search_any ⟨r, (p : Int), v⟩ P A n C Q.l HPL.out (by have := HN1.out; omega) W2.drew (ho2.keep (fun _ _ => rfl)))
  have HS2 := Lib.hid hs2
  have HQ2 := Lib.hid hq2
  have HO2 := Lib.hid ho2
  have HF2 := Lib.hid hf2
  clear hs2 hq2 ho2 hx2 hr2 hf2
  rw [HS0.out]
  refine wp_region_held_drew (S := fun w' => Below W2.heap.size W2 w') (by kernel_rfl) (Below.refl _ _).drew (fun hHeld => ?_)
  refine taken_at (i := 0) (v := .pointer (some ⟨b, 0, none⟩)) (some 27) rfl rfl (by kernel_rfl) (by kernel_rfl) (by kernel_rfl) (fun _ _ _ h => h) (Or.inl ⟨rfl, fun _ _ => rfl⟩) hHeld ?_
  try simp only [Act.put, List.setIfInBounds_toArray, List.set_cons_zero, List.set_cons_succ]
  refine taken_at (i := 1) (v := .pointer (some ⟨b, 0, none⟩)) (some 28) rfl rfl (by kernel_rfl) (by kernel_rfl) (by kernel_rfl) (fun _ _ _ h => h) (Or.inl ⟨rfl, fun _ _ => rfl⟩) hHeld ?_
  try simp only [Act.put, List.setIfInBounds_toArray, List.set_cons_zero, List.set_cons_succ]
  refine taken_at (i := 2) (v := .pointer (some ⟨b, 2, none⟩)) (some 29) rfl rfl (by kernel_rfl) (by kernel_rfl) (by kernel_rfl) (fun _ _ _ h => h) (Or.inl ⟨rfl, fun w' hw => by obtain ⟨k0, k1, k2⟩ := HALL.out w' hw; go_simp⟩) hHeld ?_
  try simp only [Act.put, List.setIfInBounds_toArray, List.set_cons_zero, List.set_cons_succ]
  refine taken_at (i := 3) (v := .slice A n C) (some 30) rfl rfl (by kernel_rfl) (by kernel_rfl) (by kernel_rfl) (fun _ _ _ h => h) (Or.inl ⟨rfl, fun w' hw => by obtain ⟨k0, k1, k2⟩ := HALL.out w' hw; go_simp⟩) hHeld ?_
  try simp only [Act.put, List.setIfInBounds_toArray, List.set_cons_zero, List.set_cons_succ]
  refine taken_at (i := 4) (v := .agg X) (some 31) rfl rfl (by kernel_rfl) (by kernel_rfl) (by kernel_rfl) (fun _ _ _ h => h) (yields_loadAt 113 (.tmp 8) (.pointer (some ⟨w.heap.size + 1 + 1, 0, none⟩)) rfl rfl rfl (fun w' hw => ((HALL.out w' hw).2.1).loadAt 113 _ Tryz.underlying113 rfl HXI.out)) hHeld ?_
  try simp only [Act.put, List.setIfInBounds_toArray, List.set_cons_zero, List.set_cons_succ]
  refine wpAnyH_ready (rs := [5]) (by kernel_rfl) (by simp) ?_
  refine AllReadyH.cons rfl (fun K hK => ?_) AllReadyH.nil
  go_simp
  go_at_call 46
  refine (CS.out).mono ?_
  rintro e w3 ⟨⟨b2, rfl⟩, hb⟩
  have HB3 : Hid (Below W2.heap.size W2 w3) := Lib.hid ((Below.refl _ _).drew.trans hb)
  clear hb
  go_wp2_with fail
  refine hK.out _ _ HB3.out (fun hHeld => ?_)
  clear hK K
  try simp only [Act.put, List.setIfInBounds_toArray, List.set_cons_zero, List.set_cons_succ]
  refine taken_at (i := 6) (v := .tuple #[.int .i64 (P : Int), .bool b2]) (some 26) rfl rfl (by kernel_rfl) (by kernel_rfl) (by kernel_rfl) (fun _ _ _ h => h) (Or.inl ⟨rfl, fun _ _ => rfl⟩) hHeld ?_
  try simp only [Act.put, List.setIfInBounds_toArray, List.set_cons_zero, List.set_cons_succ]
  refine taken_at (i := 7) (v := .int .i64 (P : Int)) (some 33) rfl rfl (by kernel_rfl) (by kernel_rfl) (by kernel_rfl) (fun _ _ _ h => h) (Or.inl ⟨rfl, fun _ _ => rfl⟩) hHeld ?_
  try simp only [Act.put, List.setIfInBounds_toArray, List.set_cons_zero, List.set_cons_succ]
  refine taken_at (i := 8) (v := .bool b2) (some 34) rfl rfl (by kernel_rfl) (by kernel_rfl) (by kernel_rfl) (fun _ _ _ h => h) (Or.inl ⟨rfl, fun _ _ => rfl⟩) hHeld ?_
  try simp only [Act.put, List.setIfInBounds_toArray, List.set_cons_zero, List.set_cons_succ]
  refine taken_at (i := 9) (v := .int .i64 (P : Int)) (some 9) rfl rfl (by kernel_rfl) (by kernel_rfl) (by kernel_rfl) (fun _ _ _ h => h) (Or.inl ⟨rfl, fun _ _ => rfl⟩) hHeld ?_
  try simp only [Act.put, List.setIfInBounds_toArray, List.set_cons_zero, List.set_cons_succ]
  refine taken_at (i := 10) (v := .bool b2) (some 10) rfl rfl (by kernel_rfl) (by kernel_rfl) (by kernel_rfl) (fun _ _ _ h => h) (Or.inl ⟨rfl, fun _ _ => rfl⟩) hHeld ?_
  try simp only [Act.put, List.setIfInBounds_toArray, List.set_cons_zero, List.set_cons_succ]
  refine wpAnyH_done (by kernel_rfl) ?_ _
  clear hHeld
  go_upto_region 4 with fail
  obtain ⟨W4, hW4⟩ : ∃ W4, W4 = (w3.alloc (.cells (It.cells ⟨r, (p : Int), v⟩) 113)).drew := ⟨_, rfl⟩
  have hb4 : Below W2.heap.size W2 W4 := by rw [hW4]; exact (HB3.out.alloc HB3.out.size _).drew
  have HX4 : Hid (Lies (w3.drew.alloc (.cells (It.cells ⟨r, (p : Int), v⟩) 113)) (w.heap.size + 1 + 1) 0 X) := Lib.hid (HALL.out _ (HB3.out.drew.alloc HB3.out.size _)).2.1
  have HA2 : Hid (w3.drew.cell? ⟨b, 2, none⟩ = some (.slice A n C)) := Lib.hid (HALL.out _ HB3.out).1
  have HA4 : Hid (∀ o, (w3.alloc o).cell? ⟨b, 2, none⟩ = some (.slice A n C)) := Lib.hid (fun o => (HALL.out _ (HB3.out.alloc HB3.out.size o)).1)
  have CI : Hid (Calls Tryz.prog 48 #[.slice A n C, .int .i64 (P : Int), .slice (some ⟨w3.heap.size, 0, none⟩) 1 1] W4 (PutIn W4 A (Q.ins r v))) := Lib.hid (by
    have hbig : w.heap.size + 1 ≤ w3.heap.size := by have := HB3.out.size; have := HS2.out; omega
    have := insert_any ⟨r, (p : Int), v⟩ A n C w3.heap.size P Q.l (by have := HN.out; omega) (by have := HN1.out; omega) W4 (HO2.out.below hb4 (Nat.le_refl _)) (by rw [hW4]; exact one_new w3 ⟨r, (p : Int), v⟩ _ rfl) (by rw [hW4]; simp) (fun e => by have := HGL.out _ e.symm; omega)
    rw [HN.out.2.2.1, HN.out.2.1] at this
    rw [HN.out.2.2.1]
    exact this)
  have HQ5 : Hid (∀ w5 s', MovedTo W4 (A.map Addr.block) w5 s' → QBlk w5 b Q.room (p + 1) (.slice A n C) ∧ Lies w5 (w.heap.size + 1 + 1) 0 X ∧ Lies w5 (w.heap.size + 1) 0 (dcells nil)) := Lib.hid (fun w5 s' hm => by
    have l2 : b < W2.heap.size := HQ2.out.lt
    obtain ⟨_, h2, h3⟩ := HALL.out W4 hb4
    refine ⟨(HQ2.out.below hb4 l2).keep (hm.grown.block b (Nat.lt_of_lt_of_le l2 hb4.size) (fun e => HGB.out b e.symm rfl)), h2.keep (hm.grown.block _ h2.lt (fun e => by have := HGL.out _ e.symm; omega)), h3.keep (hm.grown.block _ h3.lt (fun e => by have := HGL.out _ e.symm; omega))⟩)
  have HB4 := Lib.hid hb4
  have HW4 := Lib.hid hW4
  clear hW4 hb4
  have HL3 : Hid (Lies w3 (w.heap.size + 1 + 1) 0 X) := Lib.hid (HALL.out _ HB3.out).2.1
  refine wp_region_held_drew (S := fun w' => Lies w' (w.heap.size + 1 + 1) 0 X) (by kernel_rfl) HL3.out.drew (fun hHeld => ?_)
  refine taken_at (i := 0) (v := .pointer (some ⟨b, 0, none⟩)) (some 35) rfl rfl (by kernel_rfl) (by kernel_rfl) (by kernel_rfl) (fun _ _ _ h => h) (Or.inl ⟨rfl, fun _ _ => rfl⟩) hHeld ?_
  try simp only [Act.put, List.setIfInBounds_toArray, List.set_cons_zero, List.set_cons_succ]
  refine taken_at (i := 1) (v := .pointer (some ⟨b, 0, none⟩)) (some 36) rfl rfl (by kernel_rfl) (by kernel_rfl) (by kernel_rfl) (fun _ _ _ h => h) (Or.inl ⟨rfl, fun _ _ => rfl⟩) hHeld ?_
  try simp only [Act.put, List.setIfInBounds_toArray, List.set_cons_zero, List.set_cons_succ]
  refine taken_at (i := 2) (v := .pointer (some ⟨b, 0, none⟩)) (some 37) rfl rfl (by kernel_rfl) (by kernel_rfl) (by kernel_rfl) (fun _ _ _ h => h) (Or.inl ⟨rfl, fun _ _ => rfl⟩) hHeld ?_
  try simp only [Act.put, List.setIfInBounds_toArray, List.set_cons_zero, List.set_cons_succ]
  refine taken_at (i := 3) (v := .pointer (some ⟨b, 2, none⟩)) (some 38) rfl rfl (by kernel_rfl) (by kernel_rfl) (by kernel_rfl) (fun _ _ _ h => h) (Or.inl ⟨rfl, fun w' hw => by go_simp⟩) hHeld ?_
  try simp only [Act.put, List.setIfInBounds_toArray, List.set_cons_zero, List.set_cons_succ]
  refine taken_at (i := 5) (v := .int .i64 (P : Int)) (some 40) rfl rfl (by kernel_rfl) (by kernel_rfl) (by kernel_rfl) (fun _ _ _ h => h) (Or.inl ⟨rfl, fun _ _ => rfl⟩) hHeld ?_
  try simp only [Act.put, List.setIfInBounds_toArray, List.set_cons_zero, List.set_cons_succ]
  refine taken_at (i := 6) (v := .agg X) (some 41) rfl rfl (by kernel_rfl) (by kernel_rfl) (by kernel_rfl) (fun _ _ _ h => h) (yields_loadAt 113 (.tmp 8) (.pointer (some ⟨w.heap.size + 1 + 1, 0, none⟩)) rfl rfl rfl (fun w' hw => (hw).loadAt 113 _ Tryz.underlying113 rfl HXI.out)) hHeld ?_
  try simp only [Act.put, List.setIfInBounds_toArray, List.set_cons_zero, List.set_cons_succ]
  refine wpAnyH_ready (rs := [4, 7]) (by kernel_rfl) (by simp) ?_
  refine AllReadyH.cons rfl (fun K hK => ?_) (AllReadyH.cons rfl (fun K hK => ?_) AllReadyH.nil)
  · have a2 := HA2.out
    go_simp
    refine hK.out _ _ HL3.out.drew (fun hHeld => ?_)
    clear hK K a2
    try simp only [Act.put, List.setIfInBounds_toArray, List.set_cons_zero, List.set_cons_succ]
    refine wpAnyH_ready (rs := [7]) (by kernel_rfl) (by simp) ?_
    refine AllReadyH.cons rfl (fun K hK => ?_) AllReadyH.nil
    rw [HX.out]
    go_simp
    refine hK.out _ _ (HX4.out) (fun hHeld => ?_)
    clear hK K
    try simp only [Act.put, List.setIfInBounds_toArray, List.set_cons_zero, List.set_cons_succ]
    refine wpAnyH_ready (rs := [8]) (by kernel_rfl) (by simp) ?_
    refine AllReadyH.cons rfl (fun K hK => ?_) AllReadyH.nil
    go_simp
    rw [← HW4.out]
    go_at_call 48
    refine (CI.out).mono ?_
    rintro e w5 ⟨A5, C5, rfl, HO5, HM5⟩
    have HQ6 := Lib.hid (HQ5.out w5 _ HM5.out)
    go_wp2_with fail
    refine hK.out _ _ HQ6.out.2.1 (fun hHeld => ?_)
    clear hK K
    try simp only [Act.put, List.setIfInBounds_toArray, List.set_cons_zero, List.set_cons_succ]
    refine taken_at (i := 9) (v := .pointer (some ⟨b, 0, none⟩)) (some 44) rfl rfl (by kernel_rfl) (by kernel_rfl) (by kernel_rfl) (fun _ _ _ h => h) (Or.inl ⟨rfl, fun _ _ => rfl⟩) hHeld ?_
    try simp only [Act.put, List.setIfInBounds_toArray, List.set_cons_zero, List.set_cons_succ]
    refine taken_at (i := 10) (v := .pointer (some ⟨b, 2, none⟩)) (some 45) rfl rfl (by kernel_rfl) (by kernel_rfl) (by kernel_rfl) (fun _ _ _ h => h) (Or.inl ⟨rfl, fun w' hw => by go_simp⟩) hHeld ?_
    try simp only [Act.put, List.setIfInBounds_toArray, List.set_cons_zero, List.set_cons_succ]
    refine wpAnyH_ready (rs := [11]) (by kernel_rfl) (by simp) ?_
    refine AllReadyH.cons rfl (fun K hK => ?_) AllReadyH.nil
    obtain ⟨f0, f1, f2⟩ := HQ6.out.1.cells
    have ff := HQ6.out.1.frozen 2
    go_simp
    refine hK.out _ _ (HQ6.out.2.1.other (by have := HBW.out; show w.heap.size + 1 + 1 ≠ b; omega) _) (fun hHeld => ?_)
    clear hK K f0 f1 f2 ff
    try simp only [Act.put]
    refine wpAnyH_done (by kernel_rfl) ?_ _
    clear hHeld
    have HLN : Hid ((Q.ins r v).length = n + 1) := Lib.hid (by rw [Q.ins_length, HN.out.1])
    have HA5 : Hid (∀ g, A5.map Addr.block = some g → g ≠ b ∧ g ≠ w.heap.size + 1) := Lib.hid (fun g hg => by
      have h2 := HB4.out.size
      have h3 := HQ2.out.lt
      have h4 := HS2.out
      rcases HM5.out.place with e | e
      · have hg2 : A.map Addr.block = some g := by rw [← e]; exact hg
        have hx1 := HGB.out g hg2
        have hx2 := HGL.out g hg2
        exact ⟨hx1, by omega⟩
      · have h1 := e g hg
        exact ⟨by omega, by omega⟩)
    have HQ6 : Hid (QB (w5.setCell ⟨b, 2, none⟩ (.slice A5 (Q.ins r v).length C5)) b ⟨Q.room, p + 1, Q.ins r v⟩ A5 C5 ∧ Lies (w5.setCell ⟨b, 2, none⟩ (.slice A5 (Q.ins r v).length C5)) (w.heap.size + 1) 0 (dcells nil)) := Lib.hid ⟨⟨HQ6.out.1.setItems _, HO5.out.keep (fun g hg => Below.heap_setCell _ _ _ g (by
      rw [own_block] at hg
      exact (HA5.out g hg).1))⟩, HQ6.out.2.2.other (by have := HBW.out; show w.heap.size + 1 ≠ b; omega) _⟩
    have HF6 : Hid (Frm b (A.map Addr.block) w (w5.setCell ⟨b, 2, none⟩ (.slice A5 (Q.ins r v).length C5)) ∧ Moved w (A.map Addr.block) (A5.map Addr.block)) := Lib.hid ⟨((bel_frm HF2.out HB4.out (by have := HS2.out; omega)).trans (Frm.grown HM5.out.grown)).trans (Frm.setIn _ _ _ _ _), by
      refine Moved.trans (.inl rfl) ?_ HM5.out.place
      have h2 := HB4.out.size
      have h3 := HS2.out
      omega⟩
    rw [HLN.out] at HQ6 HF6 ⊢
    generalize w5.setCell ⟨b, 2, none⟩ (.slice A5 (n + 1) C5) = W6 at *
    obtain ⟨g0, g1, g2⟩ := HQ6.out.1.blk.cells
    have g2' : W6.cell? ⟨b, 2, none⟩ = some (.slice A5 (n + 1) C5) := by rw [g2]; show some (Value.slice A5 (Q.ins r v).length C5) = _; rw [HLN.out]
    clear g1 g2 HM5 HO5
    go_upto_region 5 with fail
    go_quiet (fail)
    have HQ7 : Hid (QB (W6.drewN nq) b ⟨Q.room, p + 1, Q.ins r v⟩ A5 C5 ∧ Lies (W6.drewN nq) (w.heap.size + 1) 0 (dcells nil) ∧ Frm b (A.map Addr.block) w (W6.drewN nq)) := Lib.hid ⟨HQ6.out.1.drewN nq, HQ6.out.2.drewN nq, HF6.out.1.drewN nq⟩
    have g0' : (W6.drewN nq).cell? ⟨b, 0, none⟩ = some (.int .i64 (Q.room : Int)) := g0
    have g2'' : (W6.drewN nq).cell? ⟨b, 2, none⟩ = some (.slice A5 (n + 1) C5) := g2'
    have HMV := Lib.hid HF6.out.2
    clear g0 g2' HQ6 HF6
    generalize W6.drewN nq = W7 at *
    by_cases hroom : n < Q.room
    · have hr1 : (n : Int) + 1 ≤ (Q.room : Int) := by omega
      have HZ8 : Hid (Lies (W7.alloc (.cells (dcells nil) 50)) W7.heap.size 0 (dcells nil)) := Lib.hid (Lies.new W7 (dcells nil) _ (Below.refl _ _))
      have HB8 : Hid (Below W7.heap.size W7 (W7.alloc (.cells (dcells nil) 50))) := Lib.hid ((Below.refl _ _).alloc (Nat.le_refl _) _)
      have HR8 : Hid (Lies (W7.alloc (.cells (dcells nil) 50)) (w.heap.size + 1) 0 (dcells nil)) := Lib.hid (HQ7.out.2.1.below HB8.out HQ7.out.2.1.lt)
      go_wp2_with (first
        | (with_reducible refine wpList_load_lies rfl 50 (.tmp 11) rfl W7.heap.size 0 rfl (dcells nil) HZ8.out _ Tryz.underlying50 rfl (infoC nil) ?_)
        | ((with_reducible refine wpList_store_lies rfl 50 (.tmp 6) (.tmp 56) rfl (w.heap.size + 1) 0 rfl (dcells nil) rfl (dcells nil) HR8.out rfl (infoC nil) (dcells_one nil) ?_); intro w9 N1 N2 N3)
        | fail)
      refine bodyPost_ret (v := .tuple #[nil.val, .bool false]) (results_cell1 (p := 6) (u := 7) rfl _ w9 (w.heap.size + 1) _ _ rfl rfl (loadv_dg N1.out)) rfl ?_
      refine ⟨?_, Lib.hid ?_⟩
      · have e1 : Q.gone r v = nil := by unfold Qn.gone; rw [if_pos (by rw [← HN.out.1]; exact hroom)]
        have e2 : decide (Q.room ≤ Q.l.length) = false := by rw [decide_eq_false_iff_not, ← HN.out.1]; omega
        rw [e1, e2]
      · refine ⟨A5, C5, ?_, HMV.out, Frm.prt (bel_frm HQ7.out.2.2 HB8.out HQ7.out.2.2.size) (Nat.le_succ _) N2.out⟩
        have e1 : Q.push r v = ⟨Q.room, p + 1, Q.ins r v⟩ := by unfold Qn.push; rw [if_pos (by rw [← HN.out.1]; exact hroom), HN.out.2.1]
        rw [e1]
        exact (HQ7.out.1.below HB8.out (Nat.le_refl _)).prt N2.out (by have := HBW.out; omega) (fun g hg => (HA5.out g hg).2)
    · have hr1 : ¬ (n : Int) + 1 ≤ (Q.room : Int) := by omega
      have hr2 : (n : Int) ≤ 256 := by have := HN1.out; omega
      have HLL := Lib.hid (last_split (Q.ins r v) n HLN.out)
      have CT : Hid (Calls Tryz.prog 49 #[.pointer (some ⟨b, 0, none⟩), .int .i64 (n : Int)] W7 fun e w' => e = .returned ((Q.ins r v).getLastD ⟨0, 0, nil⟩).val ∧ Hid (QB w' b ⟨Q.room, p + 1, (Q.ins r v).dropLast⟩ A5 C5) ∧ Hid (Frm b (A5.map Addr.block) W7 w')) := Lib.hid (by
        have := take_any ((Q.ins r v).getLastD ⟨0, 0, nil⟩) b n 0 ⟨Q.room, p + 1, Q.ins r v⟩ (Q.ins r v).dropLast [] A5 C5 HLL.out.1 HLL.out.2 rfl (by show (Q.ins r v).length ≤ 1000; have := HN1.out; rw [HLN.out]; omega) W7 HQ7.out.1
        rwa [List.append_nil] at this)
      have HR := Lib.hid hroom
      have HG : Hid (Q.gone r v = ((Q.ins r v).getLastD ⟨0, 0, nil⟩).v) := Lib.hid (by unfold Qn.gone; rw [if_neg (by rw [← HN.out.1]; exact hroom)])
      generalize (Q.ins r v).getLastD ⟨0, 0, nil⟩ = y at *
      have hfl : ∀ w, (Instr.field 113 (.agg y.cells) 2).run Tryz.prog w = .ok y.v.val w := fun w => item_field y w
      unfold It.val at CT
      clear hroom HLL
      go_wp2_with (first
        | (go_at_call 49; (with_reducible refine (CT.out).mono ?_); rintro e w8 ⟨rfl, HQ8, HF8⟩; have HR8 : Hid (Lies w8 (w.heap.size + 1) 0 (dcells nil)) := Lib.hid (HQ7.out.2.1.keep (HF8.out.block _ HQ7.out.2.1.lt (by have := HBW.out; omega) (fun e => (HA5.out _ e.symm).2 rfl))))
        | ((with_reducible refine wpList_store_lies rfl 50 (.tmp 6) (.tmp 65) rfl (w.heap.size + 1) 0 rfl (dcells y.v) rfl (dcells nil) HR8.out rfl (infoC y.v) (dcells_one y.v) ?_); intro w9 N1 N2 N3)
        | fail)
      refine bodyPost_ret (v := .tuple #[y.v.val, .bool true]) (results_cell1 (p := 6) (u := 7) rfl _ w9 (w.heap.size + 1) _ _ rfl rfl (loadv_dg N1.out)) rfl ?_
      refine ⟨?_, Lib.hid ?_⟩
      · have e2 : decide (Q.room ≤ Q.l.length) = true := by rw [decide_eq_true_iff, ← HN.out.1]; have := HR.out; omega
        rw [HG.out, e2]
      · refine ⟨A5, C5, ?_, HMV.out, Frm.prt (HQ7.out.2.2.then_ HMV.out HF8.out) (Nat.le_succ _) N2.out⟩
        have e1 : Q.push r v = ⟨Q.room, p + 1, (Q.ins r v).dropLast⟩ := by unfold Qn.push; rw [if_neg (by rw [← HN.out.1]; exact HR.out), HN.out.2.1]
        rw [e1]
        exact HQ8.out.prt N2.out (by have := HBW.out; omega) (fun g hg => (HA5.out g hg).2)
  · rw [HX.out]
    go_simp
    refine hK.out _ _ (HX4.out) (fun hHeld => ?_)
    clear hK K
    try simp only [Act.put, List.setIfInBounds_toArray, List.set_cons_zero, List.set_cons_succ]
    refine wpAnyH_ready (rs := [4]) (by kernel_rfl) (by simp) ?_
    refine AllReadyH.cons rfl (fun K hK => ?_) AllReadyH.nil
    have a2 := HA4.out
    go_simp
    refine hK.out _ _ (HX4.out) (fun hHeld => ?_)
    clear hK K a2
    try simp only [Act.put, List.setIfInBounds_toArray, List.set_cons_zero, List.set_cons_succ]
    refine wpAnyH_ready (rs := [8]) (by kernel_rfl) (by simp) ?_
    refine AllReadyH.cons rfl (fun K hK => ?_) AllReadyH.nil
    go_simp
    rw [← HW4.out]
    go_at_call 48
    refine (CI.out).mono ?_
    rintro e w5 ⟨A5, C5, rfl, HO5, HM5⟩
    have HQ6 := Lib.hid (HQ5.out w5 _ HM5.out)
    go_wp2_with fail
    refine hK.out _ _ HQ6.out.2.1 (fun hHeld => ?_)
    clear hK K
    try simp only [Act.put, List.setIfInBounds_toArray, List.set_cons_zero, List.set_cons_succ]
    refine taken_at (i := 9) (v := .pointer (some ⟨b, 0, none⟩)) (some 44) rfl rfl (by kernel_rfl) (by kernel_rfl) (by kernel_rfl) (fun _ _ _ h => h) (Or.inl ⟨rfl, fun _ _ => rfl⟩) hHeld ?_
    try simp only [Act.put, List.setIfInBounds_toArray, List.set_cons_zero, List.set_cons_succ]
    refine taken_at (i := 10) (v := .pointer (some ⟨b, 2, none⟩)) (some 45) rfl rfl (by kernel_rfl) (by kernel_rfl) (by kernel_rfl) (fun _ _ _ h => h) (Or.inl ⟨rfl, fun w' hw => by go_simp⟩) hHeld ?_
    try simp only [Act.put, List.setIfInBounds_toArray, List.set_cons_zero, List.set_cons_succ]
    refine wpAnyH_ready (rs := [11]) (by kernel_rfl) (by simp) ?_
    refine AllReadyH.cons rfl (fun K hK => ?_) AllReadyH.nil
    obtain ⟨f0, f1, f2⟩ := HQ6.out.1.cells
    have ff := HQ6.out.1.frozen 2
    go_simp
    refine hK.out _ _ (HQ6.out.2.1.other (by have := HBW.out; show w.heap.size + 1 + 1 ≠ b; omega) _) (fun hHeld => ?_)
    clear hK K f0 f1 f2 ff
    try simp only [Act.put]
    refine wpAnyH_done (by kernel_rfl) ?_ _
    clear hHeld
    have HLN : Hid ((Q.ins r v).length = n + 1) := Lib.hid (by rw [Q.ins_length, HN.out.1])
    have HA5 : Hid (∀ g, A5.map Addr.block = some g → g ≠ b ∧ g ≠ w.heap.size + 1) := Lib.hid (fun g hg => by
      have h2 := HB4.out.size
      have h3 := HQ2.out.lt
      have h4 := HS2.out
      rcases HM5.out.place with e | e
      · have hg2 : A.map Addr.block = some g := by rw [← e]; exact hg
        have hx1 := HGB.out g hg2
        have hx2 := HGL.out g hg2
        exact ⟨hx1, by omega⟩
      · have h1 := e g hg
        exact ⟨by omega, by omega⟩)
    have HQ6 : Hid (QB (w5.setCell ⟨b, 2, none⟩ (.slice A5 (Q.ins r v).length C5)) b ⟨Q.room, p + 1, Q.ins r v⟩ A5 C5 ∧ Lies (w5.setCell ⟨b, 2, none⟩ (.slice A5 (Q.ins r v).length C5)) (w.heap.size + 1) 0 (dcells nil)) := Lib.hid ⟨⟨HQ6.out.1.setItems _, HO5.out.keep (fun g hg => Below.heap_setCell _ _ _ g (by
      rw [own_block] at hg
      exact (HA5.out g hg).1))⟩, HQ6.out.2.2.other (by have := HBW.out; show w.heap.size + 1 ≠ b; omega) _⟩
    have HF6 : Hid (Frm b (A.map Addr.block) w (w5.setCell ⟨b, 2, none⟩ (.slice A5 (Q.ins r v).length C5)) ∧ Moved w (A.map Addr.block) (A5.map Addr.block)) := Lib.hid ⟨((bel_frm HF2.out HB4.out (by have := HS2.out; omega)).trans (Frm.grown HM5.out.grown)).trans (Frm.setIn _ _ _ _ _), by
      refine Moved.trans (.inl rfl) ?_ HM5.out.place
      have h2 := HB4.out.size
      have h3 := HS2.out
      omega⟩
    rw [HLN.out] at HQ6 HF6 ⊢
    generalize w5.setCell ⟨b, 2, none⟩ (.slice A5 (n + 1) C5) = W6 at *
    obtain ⟨g0, g1, g2⟩ := HQ6.out.1.blk.cells
    have g2' : W6.cell? ⟨b, 2, none⟩ = some (.slice A5 (n + 1) C5) := by rw [g2]; show some (Value.slice A5 (Q.ins r v).length C5) = _; rw [HLN.out]
    clear g1 g2 HM5 HO5
    go_upto_region 5 with fail
    go_quiet (fail)
    have HQ7 : Hid (QB (W6.drewN nq) b ⟨Q.room, p + 1, Q.ins r v⟩ A5 C5 ∧ Lies (W6.drewN nq) (w.heap.size + 1) 0 (dcells nil) ∧ Frm b (A.map Addr.block) w (W6.drewN nq)) := Lib.hid ⟨HQ6.out.1.drewN nq, HQ6.out.2.drewN nq, HF6.out.1.drewN nq⟩
    have g0' : (W6.drewN nq).cell? ⟨b, 0, none⟩ = some (.int .i64 (Q.room : Int)) := g0
    have g2'' : (W6.drewN nq).cell? ⟨b, 2, none⟩ = some (.slice A5 (n + 1) C5) := g2'
    have HMV := Lib.hid HF6.out.2
    clear g0 g2' HQ6 HF6
    generalize W6.drewN nq = W7 at *
    by_cases hroom : n < Q.room
    · have hr1 : (n : Int) + 1 ≤ (Q.room : Int) := by omega
      have HZ8 : Hid (Lies (W7.alloc (.cells (dcells nil) 50)) W7.heap.size 0 (dcells nil)) := Lib.hid (Lies.new W7 (dcells nil) _ (Below.refl _ _))
      have HB8 : Hid (Below W7.heap.size W7 (W7.alloc (.cells (dcells nil) 50))) := Lib.hid ((Below.refl _ _).alloc (Nat.le_refl _) _)
      have HR8 : Hid (Lies (W7.alloc (.cells (dcells nil) 50)) (w.heap.size + 1) 0 (dcells nil)) := Lib.hid (HQ7.out.2.1.below HB8.out HQ7.out.2.1.lt)
      go_wp2_with (first
        | (with_reducible refine wpList_load_lies rfl 50 (.tmp 11) rfl W7.heap.size 0 rfl (dcells nil) HZ8.out _ Tryz.underlying50 rfl (infoC nil) ?_)
        | ((with_reducible refine wpList_store_lies rfl 50 (.tmp 6) (.tmp 56) rfl (w.heap.size + 1) 0 rfl (dcells nil) rfl (dcells nil) HR8.out rfl (infoC nil) (dcells_one nil) ?_); intro w9 N1 N2 N3)
        | fail)
      refine bodyPost_ret (v := .tuple #[nil.val, .bool false]) (results_cell1 (p := 6) (u := 7) rfl _ w9 (w.heap.size + 1) _ _ rfl rfl (loadv_dg N1.out)) rfl ?_
      refine ⟨?_, Lib.hid ?_⟩
      · have e1 : Q.gone r v = nil := by unfold Qn.gone; rw [if_pos (by rw [← HN.out.1]; exact hroom)]
        have e2 : decide (Q.room ≤ Q.l.length) = false := by rw [decide_eq_false_iff_not, ← HN.out.1]; omega
        rw [e1, e2]
      · refine ⟨A5, C5, ?_, HMV.out, Frm.prt (bel_frm HQ7.out.2.2 HB8.out HQ7.out.2.2.size) (Nat.le_succ _) N2.out⟩
        have e1 : Q.push r v = ⟨Q.room, p + 1, Q.ins r v⟩ := by unfold Qn.push; rw [if_pos (by rw [← HN.out.1]; exact hroom), HN.out.2.1]
        rw [e1]
        exact (HQ7.out.1.below HB8.out (Nat.le_refl _)).prt N2.out (by have := HBW.out; omega) (fun g hg => (HA5.out g hg).2)
    · have hr1 : ¬ (n : Int) + 1 ≤ (Q.room : Int) := by omega
      have hr2 : (n : Int) ≤ 256 := by have := HN1.out; omega
      have HLL := Lib.hid (last_split (Q.ins r v) n HLN.out)
      have CT : Hid (Calls Tryz.prog 49 #[.pointer (some ⟨b, 0, none⟩), .int .i64 (n : Int)] W7 fun e w' => e = .returned ((Q.ins r v).getLastD ⟨0, 0, nil⟩).val ∧ Hid (QB w' b ⟨Q.room, p + 1, (Q.ins r v).dropLast⟩ A5 C5) ∧ Hid (Frm b (A5.map Addr.block) W7 w')) := Lib.hid (by
        have := take_any ((Q.ins r v).getLastD ⟨0, 0, nil⟩) b n 0 ⟨Q.room, p + 1, Q.ins r v⟩ (Q.ins r v).dropLast [] A5 C5 HLL.out.1 HLL.out.2 rfl (by show (Q.ins r v).length ≤ 1000; have := HN1.out; rw [HLN.out]; omega) W7 HQ7.out.1
        rwa [List.append_nil] at this)
      have HR := Lib.hid hroom
      have HG : Hid (Q.gone r v = ((Q.ins r v).getLastD ⟨0, 0, nil⟩).v) := Lib.hid (by unfold Qn.gone; rw [if_neg (by rw [← HN.out.1]; exact hroom)])
      generalize (Q.ins r v).getLastD ⟨0, 0, nil⟩ = y at *
      have hfl : ∀ w, (Instr.field 113 (.agg y.cells) 2).run Tryz.prog w = .ok y.v.val w := fun w => item_field y w
      unfold It.val at CT
      clear hroom HLL
      go_wp2_with (first
        | (go_at_call 49; (with_reducible refine (CT.out).mono ?_); rintro e w8 ⟨rfl, HQ8, HF8⟩; have HR8 : Hid (Lies w8 (w.heap.size + 1) 0 (dcells nil)) := Lib.hid (HQ7.out.2.1.keep (HF8.out.block _ HQ7.out.2.1.lt (by have := HBW.out; omega) (fun e => (HA5.out _ e.symm).2 rfl))))
        | ((with_reducible refine wpList_store_lies rfl 50 (.tmp 6) (.tmp 65) rfl (w.heap.size + 1) 0 rfl (dcells y.v) rfl (dcells nil) HR8.out rfl (infoC y.v) (dcells_one y.v) ?_); intro w9 N1 N2 N3)
        | fail)
      refine bodyPost_ret (v := .tuple #[y.v.val, .bool true]) (results_cell1 (p := 6) (u := 7) rfl _ w9 (w.heap.size + 1) _ _ rfl rfl (loadv_dg N1.out)) rfl ?_
      refine ⟨?_, Lib.hid ?_⟩
      · have e2 : decide (Q.room ≤ Q.l.length) = true := by rw [decide_eq_true_iff, ← HN.out.1]; have := HR.out; omega
        rw [HG.out, e2]
      · refine ⟨A5, C5, ?_, HMV.out, Frm.prt (HQ7.out.2.2.then_ HMV.out HF8.out) (Nat.le_succ _) N2.out⟩
        have e1 : Q.push r v = ⟨Q.room, p + 1, (Q.ins r v).dropLast⟩ := by unfold Qn.push; rw [if_neg (by rw [← HN.out.1]; exact HR.out), HN.out.2.1]
        rw [e1]
        exact HQ8.out.prt N2.out (by have := HBW.out; omega) (fun g hg => (HA5.out g hg).2)

end Go.Proofs.YtldhlknmabpanaaGreat.Mq
