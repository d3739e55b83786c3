/-
  Own text: Forget, walked: what the law asks of a datagram, the question that it hands on. (Written by gen_mpi.py.)
-/
import Derived.Test.YtldhlknmabpanaaGreatK31
import Derived.Test.YtldhlknmabpanaaGreatK32
import Derived.Recover
namespace Go.Proofs.YtldhlknmabpanaaGreat.Mp
open Go.RowKit
variable [Ghost]

omit [Ghost] in
theorem do1_any (d : Dg) (kd : Int) (c : Nat) (w : World) (h : w.cell? ⟨c, 0, none⟩ = some (.int .i64 kd)) :
    Calls Tryz.prog 42 #[d.val, .pointer (some ⟨c, 0, none⟩)] w fun e w' => e = .returned (.bool (decide (d.kind = kd))) ∧ Below w.heap.size w w' := by
  obtain ⟨W1, hW1⟩ : ∃ W1, W1 = w.alloc (.cells (Mq.dcells d) 50) := ⟨_, rfl⟩
  have HB1 : Hid (Below w.heap.size w W1) := Lib.hid (by rw [hW1]; exact (Below.refl _ _).alloc (Nat.le_refl _) _)
  have HL1 : Lies W1 w.heap.size 0 (Mq.dcells d) := by rw [hW1]; exact Lies.new w _ _ (Below.refl _ _)
  obtain ⟨dk, hdk⟩ : ∃ dk, dk = d.kind := ⟨_, rfl⟩
  have c0 : W1.cell? ⟨w.heap.size, 0, none⟩ = some (.int .i64 dk) := by rw [hdk]; exact HL1.cell 0 (by decide : 0 < 11)
  have c1 : W1.cell? ⟨c, 0, none⟩ = some (.int .i64 kd) := (HB1.out.cell (p := ⟨c, 0, none⟩) (World.block_lt_of_cell? w _ h)).trans h
  have HW1 := Lib.hid hW1
  rw [← hdk]
  clear hW1 HL1 h hdk
  go_enter Tryz.func42, Tryz.ntmps42
  go_upto_region 1 with fail
  rw [← HW1.out]
  go_wp2
  go_ret
  exact ⟨ret_bool (by by_cases e : dk = kd <;> simp [e]), HB1.out⟩
omit [Ghost] in
set_option maxRecDepth 100000 in
theorem forget1_any (d : Dg) (kd : Int) (c x : Nat) (w : World) (hd : Rd w d) (hx : w.cell? ⟨x, 0, none⟩ = some (.func (.func 42) #[] #[.pointer (some ⟨c, 0, none⟩)])) (hc : w.cell? ⟨c, 0, none⟩ = some (.int .i64 kd)) :
    Calls Tryz.prog 78 #[d.val, .pointer (some ⟨x, 0, none⟩)] w fun e w' => e = .returned (.bool (!decide (d.kind = kd))) ∧ Below w.heap.size w w' := by
  obtain ⟨W1, hW1⟩ : ∃ W1, W1 = w.alloc (.cells (Mq.dcells d) 50) := ⟨_, rfl⟩
  have HBW : Hid (Below w.heap.size w W1) := Lib.hid (by rw [hW1]; exact (Below.refl _ _).alloc (Nat.le_refl _) _)
  have hL1 : Lies W1 w.heap.size 0 (Mq.dcells d) := by rw [hW1]; exact Lies.new w _ _ (Below.refl _ _)
  have hS1 : W1.cell? ⟨x, 0, none⟩ = some (.func (.func 42) #[] #[.pointer (some ⟨c, 0, none⟩)]) ∧ Lies W1 w.heap.size 0 (Mq.dcells d) ∧ W1.cell? ⟨c, 0, none⟩ = some (.int .i64 kd) := ⟨(HBW.out.cell (p := ⟨x, 0, none⟩) (World.block_lt_of_cell? w _ hx)).trans hx, hL1, (HBW.out.cell (p := ⟨c, 0, none⟩) (World.block_lt_of_cell? w _ hc)).trans hc⟩
  have HST : Hid (∀ w', Below W1.heap.size W1.drew w' → w'.cell? ⟨x, 0, none⟩ = some (.func (.func 42) #[] #[.pointer (some ⟨c, 0, none⟩)]) ∧ Lies w' w.heap.size 0 (Mq.dcells d) ∧ w'.cell? ⟨c, 0, none⟩ = some (.int .i64 kd)) := Lib.hid (fun w' hb => ⟨(hb.cell (p := ⟨x, 0, none⟩) (World.block_lt_of_cell? W1 _ hS1.1)).trans hS1.1, Lies.below (w := W1.drew) hS1.2.1 hb hS1.2.1.lt, (hb.cell (p := ⟨c, 0, none⟩) (World.block_lt_of_cell? W1 _ hS1.2.2)).trans hS1.2.2⟩)
  obtain ⟨⟨hsz, hle, hnil⟩, l, hby, _⟩ := hd
  have HAP : Hid (Calls Tryz.prog 17 #[d.val] W1.drew (Apart d l W1.drew)) := Lib.hid (apart_any d l W1.drew (hby.below HBW.out (Nat.le_refl _)).drew hle hnil (Nat.le_trans hsz (by decide)))
  unfold Apart at HAP
  have HS1 := Lib.hid hS1
  have HW1 := Lib.hid hW1
  clear hW1 hL1 hS1 hx hc hsz hle hnil hby
  go_enter Tryz.func78, Tryz.ntmps78
  go_upto_region 1 with fail
  rw [← HW1.out]
  refine wp_region_held_drew (S := fun w' => w'.cell? ⟨x, 0, none⟩ = some (.func (.func 42) #[] #[.pointer (some ⟨c, 0, none⟩)]) ∧ Lies w' w.heap.size 0 (Mq.dcells d)) (by kernel_rfl) ⟨HS1.out.1, HS1.out.2.1⟩ (fun hHeld => ?_)
  refine taken_at (i := 0) (v := .func (.func 42) #[] #[.pointer (some ⟨c, 0, none⟩)]) (some 4) rfl rfl (by kernel_rfl) (by kernel_rfl) (by kernel_rfl) (fun _ _ _ h => h) (Or.inl ⟨rfl, fun w' hw => by have k0 := hw.1; go_simp⟩) hHeld ?_
  try simp only [Act.put, List.setIfInBounds_toArray, List.set_cons_zero, List.set_cons_succ]
  refine taken_at (i := 1) (v := d.val) (some 5) rfl rfl (by kernel_rfl) (by kernel_rfl) (by kernel_rfl) (fun _ _ _ h => h) (yields_loadAt 50 (.tmp 2) (.pointer (some ⟨w.heap.size, 0, none⟩)) rfl rfl rfl (fun w' hw => hw.2.loadAt 50 _ Tryz.underlying50 rfl (Mq.infoC d))) hHeld ?_
  try simp only [Act.put, List.setIfInBounds_toArray, List.set_cons_zero, List.set_cons_succ]
  refine wpAnyH_ready (rs := [2]) (by kernel_rfl) (by simp) ?_
  refine AllReadyH.cons rfl (fun K hK => ?_) AllReadyH.nil
  go_simp
  go_at_call 17
  refine (HAP.out).mono ?_
  rintro e w2 ⟨A2, C2, rfl, HO2, HB2⟩
  have HS2 := Lib.hid (HST.out w2 HB2.out)
  have CD := Lib.hid (do1_any (Dg.moved d A2 C2) kd c w2 (HS2.out.2.2))
  rw [show (Dg.moved d A2 C2).kind = d.kind from rfl] at CD
  go_wp2_with fail
  refine hK.out _ _ ⟨HS2.out.1, HS2.out.2.1⟩ (fun hHeld => ?_)
  clear hK K
  try simp only [Act.put, List.setIfInBounds_toArray, List.set_cons_zero, List.set_cons_succ]
  refine wpAnyH_ready (rs := [3]) (by kernel_rfl) (by simp) ?_
  refine AllReadyH.cons rfl (fun K hK => ?_) AllReadyH.nil
  go_simp
  go_at_call 42
  refine (CD.out).mono ?_
  rintro e w3 ⟨rfl, hb3⟩
  have HB3 := Lib.hid hb3
  clear hb3
  have HS3 := Lib.hid (HST.out w3 (HB2.out.trans (HB3.out.mono HB2.out.size)))
  go_wp2_with fail
  refine hK.out _ _ ⟨HS3.out.1, HS3.out.2.1⟩ (fun hHeld => ?_)
  clear hK K
  try simp only [Act.put, List.setIfInBounds_toArray, List.set_cons_zero, List.set_cons_succ]
  refine taken_at (i := 4) (v := .bool (!decide (d.kind = kd))) (some 8) rfl rfl (by kernel_rfl) (by kernel_rfl) (by kernel_rfl) (fun _ _ _ h => h) (Or.inl ⟨rfl, fun w' hw => by go_simp⟩) hHeld ?_
  try simp only [Act.put, List.setIfInBounds_toArray, List.set_cons_zero, List.set_cons_succ]
  refine taken_at (i := 5) (v := .bool (!decide (d.kind = kd))) (some 3) rfl rfl (by kernel_rfl) (by kernel_rfl) (by kernel_rfl) (fun _ _ _ h => h) (Or.inl ⟨rfl, fun _ _ => rfl⟩) hHeld ?_
  try simp only [Act.put, List.setIfInBounds_toArray]
  refine wpAnyH_done (by kernel_rfl) ?_ _
  clear hHeld
  go_wp2
  go_ret
  have hb13 : Below W1.heap.size W1 w3 := (Below.refl W1.heap.size W1).drew.trans (HB2.out.trans (HB3.out.mono HB2.out.size))
  exact ⟨rfl, HBW.out.trans (hb13.mono HBW.out.size)⟩
omit [Ghost] in
theorem idle15_any (w : World) :
    CallsD Tryz.prog 126 #[] .returning w fun e u' w' => e = .returned (.tuple #[]) ∧ u' = .returning ∧ w' = w := by
  refine callsD_of_wpS Tryz.func126 rfl fun c₀ cs hu => ?_
  apply wpS_region
  simp [wpOpsS, go_sem, recoverD, hu, Tryz.ntmps126]
  cases c₀
  simp_all [bodyPostS, results, Tryz.results126]
omit [Ghost] in
theorem refused15_any (d : Dg) (kd : Int) (c x : Nat) (w : World) (hd : Rd w d) (hx : w.cell? ⟨x, 0, none⟩ = some (.func (.func 42) #[] #[.pointer (some ⟨c, 0, none⟩)])) (hc : w.cell? ⟨c, 0, none⟩ = some (.int .i64 kd)) :
    Calls Tryz.prog 107 #[(.func (.func 78) #[] #[.pointer (some ⟨x, 0, none⟩)]), d.val] w fun e w' => e = .returned (.bool (decide (d.kind = kd))) ∧ Below w.heap.size w w' := by
  obtain ⟨W1, hW1⟩ : ∃ W1, W1 = w.alloc (.cells (Mq.dcells d) 50) := ⟨_, rfl⟩
  have HBW : Hid (Below w.heap.size w W1) := Lib.hid (by rw [hW1]; exact (Below.refl _ _).alloc (Nat.le_refl _) _)
  have HL1 : Hid (Lies W1 w.heap.size 0 (Mq.dcells d)) := Lib.hid (by rw [hW1]; exact Lies.new w _ _ (Below.refl _ _))
  have CA := Lib.hid (forget1_any d kd c x W1 (rd_keep2 hd (fun _ _ hl => HBW.out.block _ hl) HBW.out.size) ((HBW.out.cell (p := ⟨x, 0, none⟩) (World.block_lt_of_cell? w _ hx)).trans hx) ((HBW.out.cell (p := ⟨c, 0, none⟩) (World.block_lt_of_cell? w _ hc)).trans hc))
  have HW1 := Lib.hid hW1
  clear hW1 hd hx hc
  go_enter_defers Tryz.func107, Tryz.ntmps107
  go_upto_region 1 with fail
  rw [← HW1.out]
  go_wp2_with (first
    | (with_reducible refine wpList_load_lies rfl 50 (.tmp 3) rfl w.heap.size 0 rfl (Mq.dcells d) HL1.out _ Tryz.underlying50 rfl (Mq.infoC d) ?_)
    | (go_at_call 78; (with_reducible refine (CA.out).mono ?_); rintro e w1 ⟨rfl, hb⟩; have HB1 := Lib.hid hb; clear hb)
    | fail)
  refine leaves_cons (f := 126) (args := #[]) (by simp) (by simp [go_sem]) ?_
  refine (idle15_any _).mono ?_
  rintro e u' w'' ⟨rfl, rfl, rfl⟩
  exact ⟨_, results_tmp rfl _ _ _, rfl, HBW.out.trans (HB1.out.mono HBW.out.size)⟩
/-- Those of a kind wait no more. -/
def Sd.forget (s : Sd) (kd : Int) : Sd := { s with q := s.q.filter (fun d => !decide (d.kind = kd)) }
omit [Ghost] in
theorem Sd.forget_fit {s : Sd} {k : Nat} (h : s.fit k) (kd : Int) : (s.forget kd).fit k := ⟨h.wy, h.ses, h.now, h.bk, Mq.Qn.filter_fit h.q (fun d => !decide (d.kind = kd)), h.dr, h.he⟩
set_option maxRecDepth 100000 in
theorem forget_sb {w : World} {S : Nat → Prop} {p k : Nat} {s : Sd} (kd : Int) (c : Nat) (h : SB w S p s) (hf : s.fit k) (hk : k ≤ 1000000) (hc : w.cell? ⟨c, 0, none⟩ = some (.int .i64 kd)) :
    Calls Tryz.prog 41 #[.pointer (some ⟨p, 0, none⟩), (.func (.func 42) #[] #[.pointer (some ⟨c, 0, none⟩)])] w fun e w' => e = .returned (.int .i64 ((s.q.l.length : Int) - ((s.forget kd).q.l.length : Int))) ∧ Hid (After SB w S p (s.forget kd) w') := by
  obtain ⟨kb, qb, A, C, h⟩ := h
  obtain ⟨W1, hW1⟩ : ∃ W1, W1 = w.alloc (.cells #[(.func (.func 42) #[] #[.pointer (some ⟨c, 0, none⟩)])] 105) := ⟨_, rfl⟩
  have HBW : Hid (Below w.heap.size w W1) := Lib.hid (by rw [hW1]; exact (Below.refl _ _).alloc (Nat.le_refl _) _)
  have hL1 : Lies W1 w.heap.size 0 #[(.func (.func 42) #[] #[.pointer (some ⟨c, 0, none⟩)])] := by rw [hW1]; exact Lies.new w _ _ (Below.refl _ _)
  have h1 : SBd W1 S p s kb qb A C := h.keep (fun k hk => HBW.out.block k (h.lt k hk)) HBW.out.size
  have hx1 : W1.cell? ⟨w.heap.size, 0, none⟩ = some (.func (.func 42) #[] #[.pointer (some ⟨c, 0, none⟩)]) := hL1.cell 0 (by decide : 0 < 1)
  have hc1 : W1.cell? ⟨c, 0, none⟩ = some (.int .i64 kd) := (HBW.out.cell (p := ⟨c, 0, none⟩) (World.block_lt_of_cell? w _ hc)).trans hc
  have CF := Lib.hid (Mq.filter_any (fun d => !decide (d.kind = kd)) (.func (.func 78) #[] #[.pointer (some ⟨w.heap.size, 0, none⟩)]) qb k s.q A C hf.q hk W1 h1.qblk (fun y hy w' hb => (refused15_any y.v kd c w.heap.size w' (rd_keep2 (h1.dat y hy).1 (fun _ _ hl => hb.block _ hl) hb.size) ((hb.cell (p := ⟨w.heap.size, 0, none⟩) hL1.lt).trans hx1) ((hb.cell (p := ⟨c, 0, none⟩) (World.block_lt_of_cell? W1 _ hc1)).trans hc1)).mono (fun e w2 hh => ⟨by rw [hh.1, Bool.not_not], hh.2⟩)))
  have c32 := h1.blk.q
  have HS1 := Lib.hid h1
  have HW1 := Lib.hid hW1
  have HFO : Hid ((s.forget kd).q = s.q.filter (fun d => !decide (d.kind = kd))) := Lib.hid rfl
  rw [← HFO.out] at CF
  have HFE : Hid (s.forget kd = { s with q := (s.forget kd).q }) := Lib.hid rfl
  have HFM : Hid (∀ y ∈ (s.forget kd).q.l, y ∈ s.q.l) := Lib.hid (fun y hy => (List.mem_filter.1 hy).1)
  generalize s.forget kd = sf at *
  clear hW1 hL1 h h1 hx1 hc1 hc hf hk HFO
  go_enter Tryz.func41, Tryz.ntmps41
  go_upto_region 1 with fail
  rw [← HW1.out]
  go_wp2_with (first
    | (go_at_call 77; (with_reducible refine (CF.out).mono ?_); rintro e w2 ⟨rfl, HQ2⟩)
    | fail)
  go_ret
  obtain ⟨S', A', C', g1, g2, g3⟩ := HS1.out.queue HQ2.out (fun y hy => .inl (HFM.out y hy)) (fun y hy => .inl (HFM.out y hy))
  refine ⟨rfl, Lib.hid ⟨⟨S', ⟨kb, qb, A', C', ?_⟩, fun q hq => (g2 q hq).imp id (fun h => Nat.le_trans HBW.out.size h)⟩, (Fr.of_below HBW.out).next g3⟩⟩
  rw [HFE.out]
  exact g1
end Go.Proofs.YtldhlknmabpanaaGreat.Mp
