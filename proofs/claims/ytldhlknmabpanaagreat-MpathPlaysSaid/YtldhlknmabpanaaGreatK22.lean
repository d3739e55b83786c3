/-
  Own text: send, walked. (Written by gen_mpp.py.)
-/
import Derived.Test.YtldhlknmabpanaaGreatK18
namespace Go.Proofs.YtldhlknmabpanaaGreat.Mp
open Go.RowKit
variable [Ghost]

omit [Ghost] in
theorem infoS (o : On) : (Tryz.prog.info? 87).map (·.size) = some (Mo.ocells o).size := by kernel_rfl
omit [Ghost] in
theorem ocells_one (o : On) : (Mo.ocells o).all (·.oneCell') = true := by simp [Value.oneCell']
omit [Ghost] in
theorem Fr.of_below {S : Nat → Prop} {w w' : World} (h : Below w.heap.size w w') : Fr S w w' := ⟨h.os, h.tape, h.output, h.size, fun k hk _ => h.block k hk⟩
omit [Ghost] in
theorem Fr.then_ {S S' : Nat → Prop} {w w1 w2 : World} (h : Fr S w w1) (g : Fr S' w1 w2) (hS : ∀ k, S' k → S k ∨ w.heap.size ≤ k) : Fr S w w2 :=
  ⟨g.os.trans h.os, g.tape.trans h.tape, g.output.trans h.output, Nat.le_trans h.size g.size, fun k hk hs => (g.block k (Nat.lt_of_lt_of_le hk h.size) (fun hs' => (hS k hs').elim hs (fun h => by omega))).trans (h.block k hk hs)⟩
omit [Ghost] in
theorem Fr.set {S : Nat → Prop} {w w' : World} {c : Nat} (h : Fr S w w') (hc : w.heap.size ≤ c) (i : Nat) (v : Value) : Fr S w (w'.setCell ⟨c, i, none⟩ v) :=
  ⟨h.os, h.tape, h.output, by simpa using h.size, fun k hk hs => (Below.heap_setCell w' ⟨c, i, none⟩ v k (by show k ≠ c; omega)).trans (h.block k hk hs)⟩
omit [Ghost] in
theorem Fr.prt {S : Nat → Prop} {w w' w'' : World} {c o n : Nat} (h : Fr S w w') (hc : w.heap.size ≤ c) (g : Prt c o n w' w'') : Fr S w w'' :=
  ⟨g.os.trans h.os, g.tape.trans h.tape, g.output.trans h.output, Nat.le_trans h.size g.size, fun k hk hs => (g.block k (Nat.lt_of_lt_of_le hk h.size) (by omega)).trans (h.block k hk hs)⟩
/-- What goes by a way: that one, its bytes in a block of their own. -/
def Sends (w : World) (S : Nat → Prop) (p : Nat) (s : Sd) (kb qb : Nat) (A : Option Addr) (C j : Nat) (d : Dg) (e : Ending) (w' : World) : Prop :=
  ∃ o, e = .returned (.agg (Mo.ocells o)) ∧ Hid (Like w w' (s.one j d) o ∧ Rd w' o.d ∧ ∀ g, o.d.da.map Addr.block = some g → w.heap.size ≤ g ∧ g < w'.heap.size) ∧ Hid (SBd w' S p (s.sent j) kb qb A C) ∧ Hid (Fr (fun k => k = p) w w')
omit [Ghost] in
theorem chk_mark (d : Dg) (n j t : Nat) (A : Option Addr) (C : Nat) (l : List Int) (hj : j < 2) (h : chk d l = 0) : chk (Dg.moved (mark d n j t) A C) l = 0 := by
  obtain ⟨h1, h2, _, _, h5⟩ := chk_ok h
  unfold chk
  have e : (Dg.moved (mark d n j t) A C).kind = d.kind := rfl
  have e2 : (Dg.moved (mark d n j t) A C).path = (j : Int) := rfl
  rw [if_neg (by rw [e]; omega), if_neg (not_not_intro ⟨by rw [e2]; omega, by rw [e2]; omega, h5⟩)]
omit [Ghost] in
theorem bytes_keep {w w' : World} {A : Option Addr} {n : Nat} {l : List Int} (h : Bytes w A n l) (e : ∀ g, A.map Addr.block = some g → g < w.heap.size → w'.heap[g]? = w.heap[g]?) (hs : w.heap.size ≤ w'.heap.size) : Bytes w' A n l :=
  ⟨h.size, h.max, h.byte, h.cell.imp id fun ⟨h0, b, off, ea, hl, hcl⟩ => ⟨h0, b, off, ea, Nat.lt_of_lt_of_le hl hs, fun i hi => (World.cell?_of_block (w := w) (a := ⟨b, off + i, none⟩) (e b (by rw [ea]; rfl) hl)).trans (hcl i hi)⟩⟩
omit [Ghost] in
theorem bytes_only {w : World} {A : Option Addr} {n : Nat} {l l' : List Int} (h : Bytes w A n l) (g : Bytes w A n l') : l = l' := by
  refine same_getD (by rw [h.size, g.size]) (fun i hi => ?_)
  rw [h.size] at hi
  obtain ⟨_, b, off, ea, _, hc⟩ := h.cell.resolve_left (by omega)
  obtain ⟨_, b', off', ea', _, hc'⟩ := g.cell.resolve_left (by omega)
  rw [ea] at ea'
  simp only [Option.some.injEq, Addr.mk.injEq, and_true] at ea'
  obtain ⟨rfl, rfl⟩ := ea'
  have h1 := hc i hi
  rw [hc' i hi] at h1
  simpa using h1.symm
set_option maxRecDepth 100000 in
set_option maxHeartbeats 1000000 in
theorem send_sb {w : World} {S : Nat → Prop} {p j kb qb C : Nat} {A : Option Addr} {s : Sd} (d : Dg) (hj : j < 2) (hnx : (s.wy j).nx < 4294967296) (h : SBd w S p s kb qb A C) (hd : Rd w d) (hne : ∀ g, d.da.map Addr.block = some g → g ≠ p) :
    Calls Tryz.prog 24 #[.pointer (some ⟨p, 0, none⟩), .int .i64 (j : Int), d.val] w (Sends w S p s kb qb A C j d) := by
  obtain ⟨⟨hsz, hle, hnil⟩, lb, hby, hck⟩ := hd
  obtain ⟨W0, hW0⟩ : ∃ W0, W0 = (w.alloc (.cells (Mq.dcells d) 50)).alloc (.cells Mo.zc 87) := ⟨_, rfl⟩
  have hb0 : Below w.heap.size w W0 := by rw [hW0]; exact ((Below.refl _ _).alloc (Nat.le_refl _) _).alloc (by simp) _
  have hd0 : Lies W0 w.heap.size 0 (Mq.dcells d) := by rw [hW0]; exact Lies.new w (Mq.dcells d) _ ((Below.refl _ _).alloc (Nat.le_refl _) _)
  have hr0 : Lies W0 (w.heap.size + 1) 0 Mo.zc := by
    have := Lies.new (w.alloc (.cells (Mq.dcells d) 50)) Mo.zc 87 (Below.refl _ _)
    rw [hW0]
    simpa using this
  have h0 : SBd W0 S p s kb qb A C := h.keep (fun k hk => hb0.block k (h.lt k hk)) hb0.size
  have hpl := h.lt p h.inS.1
  have hw : PLie W0 p (j * 15) (s.wy j) := by
    rcases (by omega : j = 0 ∨ j = 1) with rfl | rfl
    · exact h0.blk.w0
    · exact h0.blk.w1
  have CN := Lib.hid (number_any p (j * 15) (s.wy j) hnx W0.drew hw)
  obtain ⟨tn, htn⟩ : ∃ tn, tn = s.now := ⟨_, rfl⟩
  have c31 : W0.cell? ⟨p, 33, none⟩ = some (.int .u32 (tn : Int)) := by rw [htn]; exact h0.blk.now
  have HR : Hid (∀ w1, PLie w1 p (j * 15) (s.wy j).number → Prt p (j * 15) 15 W0.drew w1 → w1.cell? ⟨p, 33, none⟩ = some (.int .u32 (tn : Int)) ∧ SBd w1 S p (s.sent j) kb qb A C ∧ Fr (fun k => k = p) W0 w1 ∧ Lies w1 w.heap.size 0 (Mq.dcells d) ∧ Lies w1 (w.heap.size + 1) 0 Mo.zc) := Lib.hid (fun w1 hp hr => by
    have hs := h0.way (w' := w1) (q := (s.wy j).number) hj (Nat.mul_comm j 15 ▸ hp) (Nat.mul_comm j 15 ▸ ⟨hr.os, hr.tape, hr.output, hr.size, hr.block, hr.part⟩)
    exact ⟨by rw [htn]; exact hs.1.blk.now, hs.1, ⟨hr.os, hr.tape, hr.output, hr.size, fun k hk hne => hr.block k hk hne⟩, Lies.keep hd0 (hr.block _ hd0.lt (by omega)), Lies.keep hr0 (hr.block _ hr0.lt (by omega))⟩)
  have HC31 := Lib.hid c31
  have HTN := Lib.hid htn
  have HLT := Lib.hid h.lt
  have HJ := Lib.hid hj
  have HCK := Lib.hid hck
  have HSZ := Lib.hid hsz
  have HLE := Lib.hid hle
  have HNIL := Lib.hid hnil
  have HBY0 := Lib.hid hby
  have HRG := Lib.hid hby.range
  have HBY : Hid (∀ w', Fr (fun k => k = p) w w' → Bytes w' d.da d.dl lb) := Lib.hid (fun w' hf => bytes_keep hby (fun g hg hl => hf.block g hl (hne g hg)) hf.size)
  have H31 : Hid (∀ w' : World, w'.cell? ⟨p, 33, none⟩ = some (.int .u32 (tn : Int)) → w'.cell? ⟨p, 33, none⟩ = some (.int .u32 (tn : Int))) := Lib.hid (fun _ h => h)
  have H31b : Hid (∀ (w' : World) (i : Nat) (v : Value), w'.cell? ⟨p, 33, none⟩ = some (.int .u32 (tn : Int)) → (w'.setCell ⟨w.heap.size, i, none⟩ v).cell? ⟨p, 33, none⟩ = some (.int .u32 (tn : Int))) := Lib.hid (fun w' i v h => (World.cell?_of_block (w := w') (a := ⟨p, 33, none⟩) (Below.heap_setCell w' ⟨w.heap.size, i, none⟩ v p (by show p ≠ w.heap.size; omega))).trans h)
  have HW0 := Lib.hid hW0
  have HB0 := Lib.hid hb0
  have hj2 : (j : Int) < 2 := by omega
  have hj0 : (0 : Int) ≤ (j : Int) := by omega
  clear h hd0 hr0 h0 hw hb0 hW0 c31 htn hnx hck hsz hle hnil hby hne
  go_enter Tryz.func24, Tryz.ntmps24
  go_upto_region 1 with fail
  rw [← HW0.out]
  refine wp_region_held_drew (S := fun w' => w'.cell? ⟨p, 33, none⟩ = some (.int .u32 (tn : Int))) (by kernel_rfl) HC31.out (fun hHeld => ?_)
  refine taken_at (i := 0) (v := .int .i64 (j : Int)) (some 7) rfl rfl (by kernel_rfl) (by kernel_rfl) (by kernel_rfl) (fun _ _ _ h => h) (Or.inl ⟨rfl, fun _ _ => rfl⟩) hHeld ?_
  try simp only [Act.put, List.setIfInBounds_toArray, List.set_cons_zero, List.set_cons_succ]
  refine taken_at (i := 1) (v := .pointer (some ⟨p, 0, none⟩)) (some 8) rfl rfl (by kernel_rfl) (by kernel_rfl) (by kernel_rfl) (fun _ _ _ h => h) (Or.inl ⟨rfl, fun _ _ => rfl⟩) hHeld ?_
  try simp only [Act.put, List.setIfInBounds_toArray, List.set_cons_zero, List.set_cons_succ]
  refine taken_at (i := 2) (v := .pointer (some ⟨p, 0, none⟩)) (some 9) rfl rfl (by kernel_rfl) (by kernel_rfl) (by kernel_rfl) (fun _ _ _ h => h) (Or.inl ⟨rfl, fun _ _ => rfl⟩) hHeld ?_
  try simp only [Act.put, List.setIfInBounds_toArray, List.set_cons_zero, List.set_cons_succ]
  refine taken_at (i := 3) (v := .pointer (some ⟨p, 33, none⟩)) (some 10) rfl rfl (by kernel_rfl) (by kernel_rfl) (by kernel_rfl) (fun _ _ _ h => h) (Or.inl ⟨rfl, fun w' hw => by have k0 := hw; go_simp⟩) hHeld ?_
  try simp only [Act.put, List.setIfInBounds_toArray, List.set_cons_zero, List.set_cons_succ]
  refine taken_at (i := 4) (v := .int .u32 (tn : Int)) (some 11) rfl rfl (by kernel_rfl) (by kernel_rfl) (by kernel_rfl) (fun _ _ _ h => h) (Or.inl ⟨rfl, fun w' hw => by have k0 := hw; go_simp⟩) hHeld ?_
  try simp only [Act.put, List.setIfInBounds_toArray, List.set_cons_zero, List.set_cons_succ]
  refine taken_at (i := 5) (v := .pointer (some ⟨p, 0, none⟩)) (some 12) rfl rfl (by kernel_rfl) (by kernel_rfl) (by kernel_rfl) (fun _ _ _ h => h) (Or.inl ⟨rfl, fun _ _ => rfl⟩) hHeld ?_
  try simp only [Act.put, List.setIfInBounds_toArray, List.set_cons_zero, List.set_cons_succ]
  refine taken_at (i := 6) (v := .int .i64 (j : Int)) (some 13) rfl rfl (by kernel_rfl) (by kernel_rfl) (by kernel_rfl) (fun _ _ _ h => h) (Or.inl ⟨rfl, fun _ _ => rfl⟩) hHeld ?_
  try simp only [Act.put, List.setIfInBounds_toArray, List.set_cons_zero, List.set_cons_succ]
  refine taken_at (i := 7) (v := .pointer (some ⟨p, 0, none⟩)) (some 14) rfl rfl (by kernel_rfl) (by kernel_rfl) (by kernel_rfl) (fun _ _ _ h => h) (Or.inl ⟨rfl, fun _ _ => rfl⟩) hHeld ?_
  try simp only [Act.put, List.setIfInBounds_toArray, List.set_cons_zero, List.set_cons_succ]
  refine taken_at (i := 8) (v := .pointer (some ⟨p, 0, none⟩)) (some 15) rfl rfl (by kernel_rfl) (by kernel_rfl) (by kernel_rfl) (fun _ _ _ h => h) (Or.inl ⟨rfl, fun w' hw => by have k0 := hw; go_simp⟩) hHeld ?_
  try simp only [Act.put, List.setIfInBounds_toArray, List.set_cons_zero, List.set_cons_succ]
  refine taken_at (i := 9) (v := .pointer (some ⟨p, j * 15, none⟩)) (some 16) rfl rfl (by kernel_rfl) (by kernel_rfl) (by kernel_rfl) (fun _ _ _ h => h) (Or.inl ⟨rfl, fun w' hw => by have k0 := hw; go_simp⟩) hHeld ?_
  try simp only [Act.put, List.setIfInBounds_toArray, List.set_cons_zero, List.set_cons_succ]
  refine taken_at (i := 11) (v := .pointer (some ⟨w.heap.size, 3, none⟩)) (some 18) rfl rfl (by kernel_rfl) (by kernel_rfl) (by kernel_rfl) (fun _ _ _ h => h) (Or.inl ⟨rfl, fun w' hw => by have k0 := hw; go_simp⟩) hHeld ?_
  try simp only [Act.put, List.setIfInBounds_toArray, List.set_cons_zero, List.set_cons_succ]
  refine wpAnyH_ready (rs := [10]) (by kernel_rfl) (by simp) ?_
  refine AllReadyH.cons rfl (fun K hK => ?_) AllReadyH.nil
  go_simp
  go_at_call 57
  refine (CN.out).mono ?_
  rintro e w1 ⟨rfl, HP, HW⟩
  have H1 := Lib.hid (HR.out w1 HP.out HW.out)
  go_wp2_with fail
  refine hK.out _ _ H1.out.1 (fun hHeld => ?_)
  clear hK K
  try simp only [Act.put, List.setIfInBounds_toArray, List.set_cons_zero, List.set_cons_succ]
  refine wpAnyH_ready (rs := [12]) (by kernel_rfl) (by simp) ?_
  refine AllReadyH.cons rfl (fun K hK => ?_) AllReadyH.nil
  have cc := (H1.out.2.2.2.1).cell 3 (by decide : 3 < 11)
  have cf := (H1.out.2.2.2.1).frozen 3
  go_simp
  refine hK.out _ _ (H31.out _ (H31b.out w1 3 _ hHeld)) (fun hHeld => ?_)
  clear hK K cc cf
  try simp only [Act.put, List.setIfInBounds_toArray, List.set_cons_zero, List.set_cons_succ]
  refine taken_at (i := 13) (v := .pointer (some ⟨w.heap.size, 4, none⟩)) (some 19) rfl rfl (by kernel_rfl) (by kernel_rfl) (by kernel_rfl) (fun _ _ _ h => h) (Or.inl ⟨rfl, fun w' hw => by have k0 := hw; go_simp⟩) hHeld ?_
  try simp only [Act.put, List.setIfInBounds_toArray, List.set_cons_zero, List.set_cons_succ]
  refine wpAnyH_ready (rs := [14]) (by kernel_rfl) (by simp) ?_
  refine AllReadyH.cons rfl (fun K hK => ?_) AllReadyH.nil
  have cc := ((H1.out.2.2.2.1.set 3 (.int .i64 (j : Int)))).cell 4 (by decide : 4 < 11)
  have cf := ((H1.out.2.2.2.1.set 3 (.int .i64 (j : Int)))).frozen 4
  go_simp
  refine hK.out _ _ (H31.out _ (H31b.out (w1.setCell ⟨w.heap.size, 3, none⟩ (.int .i64 (j : Int))) 4 _ hHeld)) (fun hHeld => ?_)
  clear hK K cc cf
  try simp only [Act.put, List.setIfInBounds_toArray, List.set_cons_zero, List.set_cons_succ]
  refine taken_at (i := 15) (v := .pointer (some ⟨w.heap.size, 2, none⟩)) (some 20) rfl rfl (by kernel_rfl) (by kernel_rfl) (by kernel_rfl) (fun _ _ _ h => h) (Or.inl ⟨rfl, fun w' hw => by have k0 := hw; go_simp⟩) hHeld ?_
  try simp only [Act.put, List.setIfInBounds_toArray, List.set_cons_zero, List.set_cons_succ]
  refine wpAnyH_ready (rs := [16]) (by kernel_rfl) (by simp) ?_
  refine AllReadyH.cons rfl (fun K hK => ?_) AllReadyH.nil
  have cc := (((H1.out.2.2.2.1.set 3 (.int .i64 (j : Int))).set 4 (.int .u32 (tn : Int)))).cell 2 (by decide : 2 < 11)
  have cf := (((H1.out.2.2.2.1.set 3 (.int .i64 (j : Int))).set 4 (.int .u32 (tn : Int)))).frozen 2
  go_simp
  refine hK.out _ _ (H31.out _ (H31b.out ((w1.setCell ⟨w.heap.size, 3, none⟩ (.int .i64 (j : Int))).setCell ⟨w.heap.size, 4, none⟩ (.int .u32 (tn : Int))) 2 _ hHeld)) (fun hHeld => ?_)
  clear hK K cc cf
  try simp only [Act.put, List.setIfInBounds_toArray, List.set_cons_zero, List.set_cons_succ]
  refine wpAnyH_done (by kernel_rfl) ?_ _
  clear hHeld
  have HD : Hid (Lies (((w1.setCell ⟨w.heap.size, 3, none⟩ (.int .i64 (j : Int))).setCell ⟨w.heap.size, 4, none⟩ (.int .u32 (tn : Int))).setCell ⟨w.heap.size, 2, none⟩ (.int .u32 ((s.wy j).nx : Int))) w.heap.size 0 (Mq.dcells (mark d (s.wy j).nx j tn))) := Lib.hid (((H1.out.2.2.2.1.set 3 (.int .i64 (j : Int))).set 4 (.int .u32 (tn : Int))).set 2 (.int .u32 ((s.wy j).nx : Int)))
  have HX : Hid (Lies (((w1.setCell ⟨w.heap.size, 3, none⟩ (.int .i64 (j : Int))).setCell ⟨w.heap.size, 4, none⟩ (.int .u32 (tn : Int))).setCell ⟨w.heap.size, 2, none⟩ (.int .u32 ((s.wy j).nx : Int))) (w.heap.size + 1) 0 Mo.zc) := Lib.hid (((H1.out.2.2.2.2.other (by show w.heap.size + 1 ≠ w.heap.size; omega) _).other (by show w.heap.size + 1 ≠ w.heap.size; omega) _).other (by show w.heap.size + 1 ≠ w.heap.size; omega) _)
  have HS : Hid (SBd (((w1.setCell ⟨w.heap.size, 3, none⟩ (.int .i64 (j : Int))).setCell ⟨w.heap.size, 4, none⟩ (.int .u32 (tn : Int))).setCell ⟨w.heap.size, 2, none⟩ (.int .u32 ((s.wy j).nx : Int))) S p (s.sent j) kb qb A C ∧ Fr (fun k => k = p) w (((w1.setCell ⟨w.heap.size, 3, none⟩ (.int .i64 (j : Int))).setCell ⟨w.heap.size, 4, none⟩ (.int .u32 (tn : Int))).setCell ⟨w.heap.size, 2, none⟩ (.int .u32 ((s.wy j).nx : Int)))) := Lib.hid ⟨H1.out.2.1.keep (fun k hk => by
    have hk2 : k ≠ w.heap.size := by have := HLT.out k hk; omega
    rw [Below.heap_setCell _ ⟨w.heap.size, 2, none⟩ _ k hk2, Below.heap_setCell _ ⟨w.heap.size, 4, none⟩ _ k hk2, Below.heap_setCell _ ⟨w.heap.size, 3, none⟩ _ k hk2]) (by simp),
    ((((Fr.of_below HB0.out).then_ H1.out.2.2.1 (fun k hk => .inl hk)).set (Nat.le_refl _) 3 _).set (Nat.le_refl _) 4 _).set (Nat.le_refl _) 2 _⟩
  generalize (((w1.setCell ⟨w.heap.size, 3, none⟩ (.int .i64 (j : Int))).setCell ⟨w.heap.size, 4, none⟩ (.int .u32 (tn : Int))).setCell ⟨w.heap.size, 2, none⟩ (.int .u32 ((s.wy j).nx : Int))) = w5 at *
  have HSW : Hid (w.heap.size + 2 ≤ w5.heap.size) := Lib.hid (by have := HS.out.2.size; have := HX.out.lt; omega)
  have CA := Lib.hid (apart_any (mark d (s.wy j).nx j tn) lb w5 (HBY.out w5 HS.out.2) HLE.out HNIL.out (Nat.le_trans HSZ.out (by decide)))
  go_wp2_with (first
    | (with_reducible refine wpList_load_lies rfl 50 (.tmp 5) rfl w.heap.size 0 rfl (Mq.dcells (mark d (s.wy j).nx j tn)) HD.out _ Tryz.underlying50 rfl (Mq.infoC (mark d (s.wy j).nx j tn)) ?_)
    | (go_at_call 17; (with_reducible refine (CA.out).mono ?_); rintro e w6 ⟨A6, C6, rfl, HO6, HB6⟩; have HX6 : Hid (Lies w6 (w.heap.size + 1) 0 Mo.zc) := Lib.hid (HX.out.below HB6.out HX.out.lt))
    | ((with_reducible refine wpList_store_lies rfl 87 (.tmp 6) (.tmp 24) rfl (w.heap.size + 1) 0 rfl (Mo.ocells ⟨j, Dg.moved (mark d (s.wy j).nx j tn) A6 C6⟩) rfl Mo.zc HX6.out rfl (infoS ⟨j, Dg.moved (mark d (s.wy j).nx j tn) A6 C6⟩) (ocells_one ⟨j, Dg.moved (mark d (s.wy j).nx j tn) A6 C6⟩) ?_); intro w7 N1 N2 N3)
    | fail)
  refine bodyPost_ret (v := .agg (Mo.ocells ⟨j, Dg.moved (mark d (s.wy j).nx j tn) A6 C6⟩)) (Mq.results_cell0 (p := 6) rfl _ w7 (w.heap.size + 1) _ rfl (Lies.loadVar N1.out 87 _ Tryz.underlying87 rfl (infoS ⟨j, Dg.moved (mark d (s.wy j).nx j tn) A6 C6⟩))) rfl ?_
  have hblk : ∀ g, A6.map Addr.block = some g → w5.heap.size ≤ g ∧ g < w6.heap.size := own8_block HO6.out
  have hO7 : Own8 w7 w5.heap.size (.slice A6 d.dl C6) d.dl lb := own8_keep HO6.out (fun g hg => N2.out.block g (hblk g hg).2 (by have := (hblk g hg).1; have := HSW.out; omega))
  have hb7 : Bytes w7 A6 d.dl lb := hO7.bytes HRG.out
  refine ⟨⟨j, Dg.moved (mark d (s.wy j).nx j tn) A6 C6⟩, rfl, Lib.hid ⟨⟨rfl, by rw [HTN.out]; rfl, fun l hl => ?_⟩, ⟨⟨HSZ.out, own8_nil hO7⟩, lb, hb7, chk_mark d _ j tn A6 C6 lb HJ.out HCK.out⟩, fun g hg => ?_⟩, Lib.hid ((HS.out.1.keep (fun k hk => HB6.out.block k (HS.out.1.lt k hk)) HB6.out.size).keep (fun k hk => N2.out.block k (Nat.lt_of_lt_of_le (HS.out.1.lt k hk) HB6.out.size) (by have := HLT.out k hk; omega)) N2.out.size), Lib.hid ?_⟩
  · rw [bytes_only hl HBY0.out]
    exact hb7
  · have h1 := hblk g hg
    have h2 := HSW.out
    exact ⟨by omega, Nat.lt_of_lt_of_le h1.2 N2.out.size⟩
  · exact (HS.out.2.then_ (Fr.of_below HB6.out) (fun k hk => .inl hk)).prt (Nat.le_succ _) N2.out
end Go.Proofs.YtldhlknmabpanaaGreat.Mp
