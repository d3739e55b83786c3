/-
  Own text: the law's Same, walked. (Written by gen_ptg.py.)
-/
import Derived.Test.YtopnceniihgkpaaPtC
import Derived.Test.YtopnceniihgkpaaPtF
import Derived.Test.YtopnceniihgkpaaSqK
import Derived.Test.YtopnceniihgkpaaStH
namespace Go.Proofs.Ytopnceniihgkpaa
open Go.RowKit

theorem PLie.four0 {w : World} {b : Nat} {p : Pn} (h : PLie w b 0 p) : w.cell? ⟨b, 11, none⟩ = some (.int .i64 p.q) ∧ w.cell? ⟨b, 12, none⟩ = some (.int .i64 p.pr) ∧ w.cell? ⟨b, 13, none⟩ = some (.int .i64 p.ga) ∧ w.cell? ⟨b, 14, none⟩ = some (.int .u32 p.nx) := h.four
theorem PLie.five0 {w : World} {b : Nat} {p : Pn} (h : PLie w b 0 p) : w.cell? ⟨b, 0, none⟩ = some (.int .i64 p.st.lo) ∧ w.cell? ⟨b, 1, none⟩ = some (.int .i64 p.st.rt) ∧ w.cell? ⟨b, 2, none⟩ = some (.int .i64 p.st.va) ∧ w.cell? ⟨b, 3, none⟩ = some (.int .i64 p.st.ma) ∧ w.cell? ⟨b, 4, none⟩ = some (.int .i64 p.st.tr) := h.st.cells
theorem PLie.six0 {w : World} {b : Nat} {p : Pn} (h : PLie w b 0 p) : w.cell? ⟨b, 5, none⟩ = some (.bool p.sn.any) ∧ w.cell? ⟨b, 6, none⟩ = some (.int .u32 p.sn.top) ∧ w.cell? ⟨b, 7, none⟩ = some (.int .u64 p.sn.bts.toNat) ∧ w.cell? ⟨b, 8, none⟩ = some (.int .i64 p.sn.came) ∧ w.cell? ⟨b, 9, none⟩ = some (.int .i64 p.sn.twice) ∧ w.cell? ⟨b, 10, none⟩ = some (.int .i64 p.sn.lost) :=
  ⟨h.cell 5, h.cell 6, h.cell 7, h.cell 8, h.cell 9, h.cell 10⟩
theorem RB.load_seen {w : World} {b : Nat} {p : Pn} (h : RB w b p) : (Instr.loadAt 35 (.pointer (some ⟨b, 5, none⟩))).run Try.prog w = .ok (.agg (rowOf 69 p.sn.dc)) w :=
  run_loadAt_mid w b 5 _ ((List.range 69).map p.sn.dc) _ h.mid Try.underlying35 rfl (by rw [info30]; simp)
theorem RB.load {w : World} {b : Nat} {p : Pn} (h : RB w b p) : (Instr.loadAt 37 (.pointer (some ⟨b, 0, none⟩))).run Try.prog w = .ok (.agg (rowOf 78 p.dc)) w := by
  have hl := run_loadVar_row w b 37 37 (rowOf 78 p.dc) (0, 0) _ (rowIs_heap h) Try.underlying37 rfl (by rw [rowOf_size]; exact info37)
  simp only [Instr.loadAt, Instr.sureAddr, Sem.run_bind, Sem.run_pure, Result.andThen_ok, hl]
/-- Both in their boxes. -/
theorem two14 (w : World) (p : Pn) {W : World} (hW : W = (w.alloc (.cells p.cells 31)).alloc (.cells (rowOf 78 p.dc) 37)) :
    Below w.heap.size w W ∧ ∀ w', Below W.heap.size W w' → PLie w' w.heap.size 0 p ∧ RB w' (w.heap.size + 1) p := by
  subst hW
  refine ⟨((Below.refl _ _).alloc (Nat.le_refl _) _).alloc (by simp) _, fun w' hb => ⟨?_, ?_⟩⟩
  · have h : PLie ((w.alloc (.cells p.cells 31)).alloc (.cells (rowOf 78 p.dc) 37)) w.heap.size 0 p := Lies.new w p.cells _ ((Below.refl _ _).alloc (Nat.le_refl _) _)
    exact h.below hb h.lt
  · have h := RB.new (w.alloc (.cells p.cells 31)) p
    rw [show (w.alloc (.cells p.cells 31)).heap.size = w.heap.size + 1 by simp] at h
    exact h.below hb h.lt
set_option maxRecDepth 100000 in
set_option maxHeartbeats 4000000 in
theorem same14_any (p : Pn) (w : World) :
    Calls Try.prog 18 #[.agg p.cells, .agg (rowOf 78 p.dc)] w fun e w' => e = .returned (.bool true) ∧ Below w.heap.size w w' := by
  obtain ⟨W, hW⟩ : ∃ W, W = (w.alloc (.cells p.cells 31)).alloc (.cells (rowOf 78 p.dc) 37) := ⟨_, rfl⟩
  obtain ⟨hb, hx⟩ := two14 w p hW
  have HB := Lib.hid hb
  have HC := Lib.hid hx
  have CA : Hid (∀ w', Below W.heap.size W w' → Calls Try.prog 33 #[SV p.st, SV p.st] w' fun e w1 => e = .returned (.bool true) ∧ Below W.heap.size W w1) := Lib.hid (fun w' h => (same13_any p.st w').mono fun _ _ hh => ⟨hh.1, h.trans (hh.2.mono h.size)⟩)
  have CB : Hid (∀ w', Below W.heap.size W w' → Calls Try.prog 34 #[.agg p.sn.cells, .agg (rowOf 69 p.sn.dc)] w' fun e w1 => e = .returned (.bool true) ∧ Below W.heap.size W w1) := Lib.hid (fun w' h => (same8_any p.sn w').mono fun _ _ hh => ⟨hh.1, h.trans (hh.2.mono h.size)⟩)
  have CC : Hid (∀ w', Below W.heap.size W w' → Calls Try.prog 12 #[.pointer (some ⟨w.heap.size, 0, none⟩)] w' fun e w1 => e = .returned (.int .i64 p.state) ∧ Below W.heap.size W w1) := Lib.hid (fun w' h => (state_any w.heap.size 0 p w' (hx w' h).1).mono fun _ _ hh => ⟨hh.1, by rw [← hh.2]; exact h⟩)
  have CD : Hid (∀ w', Below W.heap.size W w' → Calls Try.prog 26 #[.agg (rowOf 78 p.dc)] w' fun e w1 => e = .returned (.int .i64 p.state) ∧ Below W.heap.size W w1) := Lib.hid (fun w' h => (rstate_any p w').mono fun _ _ hh => ⟨hh.1, h.trans (hh.2.mono h.size)⟩)
  simp only [SV_is] at CA
  generalize p.state = st at *
  have n1 : (p.q == p.q) = true := by simp
  have n2 : (p.pr == p.pr) = true := by simp
  have n3 : (p.ga == p.ga) = true := by simp
  have n4 : ((p.nx : Int) == (p.nx : Int)) = true := by simp
  have n5 : (st == st) = true := by simp
  unfold Pn.cells at hW ⊢
  clear hb hx
  obtain ⟨R, hR⟩ : ∃ R, R = rowOf 78 p.dc := ⟨_, rfl⟩
  have HR := Lib.hid hR
  rw [← hR] at hW ⊢
  clear hR
  go_enter Try.func18, Try.ntmps18
  go_upto_region 1 with fail
  rw [← hW]
  clear hW
  refine (wpIn_wide (n := 3)).1 ?_
  refine wpIn_class (fun w' => Below W.heap.size W w') (Below.refl _ _).drew rfl (by kernel_rfl) (by kernel_rfl) ?_
  (refine wpQuietIn_step (fun _ _ _ _ => trivial) (fun K hK => ?_); go_simp; refine ⟨_, fun _ _ => rfl, hK _ ?_⟩; clear hK K)
  refine wpQ_readw (.agg #[.int .i64 p.st.lo, .int .i64 p.st.rt, .int .i64 p.st.va, .int .i64 p.st.ma, .int .i64 p.st.tr]) (fun _ _ _ _ => trivial) rfl (fun w' hw => ?_) ?_
  · obtain ⟨c0, c1, c2, c3, c4⟩ := (HC.out w' hw).1.five0
    unfold Oper.quietAtIn
    go_simp
  simp only [Act.put, List.setIfInBounds_toArray, List.set_cons_zero, List.set_cons_succ]
  (refine wpQuietIn_step (fun _ _ _ _ => trivial) (fun K hK => ?_); go_simp; refine ⟨_, fun _ _ => rfl, hK _ ?_⟩; clear hK K)
  refine wpQ_readw (.agg #[.int .i64 p.st.lo, .int .i64 p.st.rt, .int .i64 p.st.va, .int .i64 p.st.ma, .int .i64 p.st.tr]) (fun _ _ _ _ => trivial) rfl (fun w' hw => ?_) ?_
  · obtain ⟨c0, c1, c2, c3, c4⟩ := (HC.out w' hw).2.five
    unfold Oper.quietAtIn
    go_simp
  simp only [Act.put, List.setIfInBounds_toArray, List.set_cons_zero, List.set_cons_succ]
  refine wpQuietIn_step (fun _ _ _ _ => trivial) (fun K hK => ?_)
  go_simp
  refine ⟨.bool true, fun w' hw => callsIn_wide.2 (CA.out w' hw), hK _ ?_⟩
  clear hK K
  iterate 2 (refine wpQuietIn_step (fun _ _ _ _ => trivial) (fun K hK => ?_); go_simp; refine ⟨_, fun _ _ => rfl, hK _ ?_⟩; clear hK K)
  refine wpQ_readw (.agg #[.bool p.sn.any, .int .u32 p.sn.top, .int .u64 p.sn.bts.toNat, .int .i64 p.sn.came, .int .i64 p.sn.twice, .int .i64 p.sn.lost]) (fun _ _ _ _ => trivial) rfl (fun w' hw => ?_) ?_
  · obtain ⟨c0, c1, c2, c3, c4, c5⟩ := (HC.out w' hw).1.six0
    unfold Oper.quietAtIn
    go_simp
  simp only [Act.put, List.setIfInBounds_toArray, List.set_cons_zero, List.set_cons_succ]
  (refine wpQuietIn_step (fun _ _ _ _ => trivial) (fun K hK => ?_); go_simp; refine ⟨_, fun _ _ => rfl, hK _ ?_⟩; clear hK K)
  refine wpQ_readw (.agg (rowOf 69 p.sn.dc)) (fun _ _ _ _ => trivial) rfl (fun w' hw => ?_) ?_
  · exact quiet_load 35 _ (.pointer (some ⟨w.heap.size + 1, 5, none⟩)) rfl rfl (HC.out w' hw).2.load_seen
  simp only [Act.put, List.setIfInBounds_toArray, List.set_cons_zero, List.set_cons_succ]
  refine wpQuietIn_step (fun _ _ _ _ => trivial) (fun K hK => ?_)
  go_simp
  refine ⟨.bool true, fun w' hw => callsIn_wide.2 (CB.out w' hw), hK _ ?_⟩
  clear hK K
  iterate 3 (refine wpQuietIn_step (fun _ _ _ _ => trivial) (fun K hK => ?_); go_simp; refine ⟨_, fun _ _ => rfl, hK _ ?_⟩; clear hK K)
  refine wpQ_readw (.int .i64 p.q) (fun _ _ _ _ => trivial) rfl (fun w' hw => ?_) ?_
  · obtain ⟨c0, c1, c2, c3⟩ := (HC.out w' hw).1.four0
    unfold Oper.quietAtIn
    go_simp
  simp only [Act.put, List.setIfInBounds_toArray, List.set_cons_zero, List.set_cons_succ]
  (refine wpQuietIn_step (fun _ _ _ _ => trivial) (fun K hK => ?_); go_simp; refine ⟨_, fun _ _ => rfl, hK _ ?_⟩; clear hK K)
  refine wpQ_readw (.int .i64 p.q) (fun _ _ _ _ => trivial) rfl (fun w' hw => ?_) ?_
  · obtain ⟨c0, c1, c2, c3⟩ := (HC.out w' hw).2.four
    unfold Oper.quietAtIn
    go_simp
  simp only [Act.put, List.setIfInBounds_toArray, List.set_cons_zero, List.set_cons_succ]
  iterate 3 (refine wpQuietIn_step (fun _ _ _ _ => trivial) (fun K hK => ?_); go_simp; refine ⟨_, fun _ _ => rfl, hK _ ?_⟩; clear hK K)
  (refine wpQuietIn_step (fun _ _ _ _ => trivial) (fun K hK => ?_); go_simp; refine ⟨_, fun _ _ => rfl, hK _ ?_⟩; clear hK K)
  refine wpQ_readw (.int .i64 p.pr) (fun _ _ _ _ => trivial) rfl (fun w' hw => ?_) ?_
  · obtain ⟨c0, c1, c2, c3⟩ := (HC.out w' hw).1.four0
    unfold Oper.quietAtIn
    go_simp
  simp only [Act.put, List.setIfInBounds_toArray, List.set_cons_zero, List.set_cons_succ]
  (refine wpQuietIn_step (fun _ _ _ _ => trivial) (fun K hK => ?_); go_simp; refine ⟨_, fun _ _ => rfl, hK _ ?_⟩; clear hK K)
  refine wpQ_readw (.int .i64 p.pr) (fun _ _ _ _ => trivial) rfl (fun w' hw => ?_) ?_
  · obtain ⟨c0, c1, c2, c3⟩ := (HC.out w' hw).2.four
    unfold Oper.quietAtIn
    go_simp
  simp only [Act.put, List.setIfInBounds_toArray, List.set_cons_zero, List.set_cons_succ]
  iterate 3 (refine wpQuietIn_step (fun _ _ _ _ => trivial) (fun K hK => ?_); go_simp; refine ⟨_, fun _ _ => rfl, hK _ ?_⟩; clear hK K)
  (refine wpQuietIn_step (fun _ _ _ _ => trivial) (fun K hK => ?_); go_simp; refine ⟨_, fun _ _ => rfl, hK _ ?_⟩; clear hK K)
  refine wpQ_readw (.int .i64 p.ga) (fun _ _ _ _ => trivial) rfl (fun w' hw => ?_) ?_
  · obtain ⟨c0, c1, c2, c3⟩ := (HC.out w' hw).1.four0
    unfold Oper.quietAtIn
    go_simp
  simp only [Act.put, List.setIfInBounds_toArray, List.set_cons_zero, List.set_cons_succ]
  (refine wpQuietIn_step (fun _ _ _ _ => trivial) (fun K hK => ?_); go_simp; refine ⟨_, fun _ _ => rfl, hK _ ?_⟩; clear hK K)
  refine wpQ_readw (.int .i64 p.ga) (fun _ _ _ _ => trivial) rfl (fun w' hw => ?_) ?_
  · obtain ⟨c0, c1, c2, c3⟩ := (HC.out w' hw).2.four
    unfold Oper.quietAtIn
    go_simp
  simp only [Act.put, List.setIfInBounds_toArray, List.set_cons_zero, List.set_cons_succ]
  iterate 3 (refine wpQuietIn_step (fun _ _ _ _ => trivial) (fun K hK => ?_); go_simp; refine ⟨_, fun _ _ => rfl, hK _ ?_⟩; clear hK K)
  (refine wpQuietIn_step (fun _ _ _ _ => trivial) (fun K hK => ?_); go_simp; refine ⟨_, fun _ _ => rfl, hK _ ?_⟩; clear hK K)
  refine wpQ_readw (.int .u32 p.nx) (fun _ _ _ _ => trivial) rfl (fun w' hw => ?_) ?_
  · obtain ⟨c0, c1, c2, c3⟩ := (HC.out w' hw).1.four0
    unfold Oper.quietAtIn
    go_simp
  simp only [Act.put, List.setIfInBounds_toArray, List.set_cons_zero, List.set_cons_succ]
  (refine wpQuietIn_step (fun _ _ _ _ => trivial) (fun K hK => ?_); go_simp; refine ⟨_, fun _ _ => rfl, hK _ ?_⟩; clear hK K)
  refine wpQ_readw (.int .u32 p.nx) (fun _ _ _ _ => trivial) rfl (fun w' hw => ?_) ?_
  · obtain ⟨c0, c1, c2, c3⟩ := (HC.out w' hw).2.four
    unfold Oper.quietAtIn
    go_simp
  simp only [Act.put, List.setIfInBounds_toArray, List.set_cons_zero, List.set_cons_succ]
  iterate 3 (refine wpQuietIn_step (fun _ _ _ _ => trivial) (fun K hK => ?_); go_simp; refine ⟨_, fun _ _ => rfl, hK _ ?_⟩; clear hK K)
  refine wpQuietIn_step (fun _ _ _ _ => trivial) (fun K hK => ?_)
  go_simp
  refine ⟨.int .i64 st, fun w' hw => callsIn_wide.2 (CC.out w' hw), hK _ ?_⟩
  clear hK K
  refine wpQ_readw (.agg (rowOf 78 p.dc)) (fun _ _ _ _ => trivial) rfl (fun w' hw => ?_) ?_
  · exact quiet_load 37 _ (.pointer (some ⟨w.heap.size + 1, 0, none⟩)) rfl rfl (HC.out w' hw).2.load
  simp only [Act.put, List.setIfInBounds_toArray, List.set_cons_zero, List.set_cons_succ]
  refine wpQuietIn_step (fun _ _ _ _ => trivial) (fun K hK => ?_)
  go_simp
  refine ⟨.int .i64 st, fun w' hw => callsIn_wide.2 (CD.out w' hw), hK _ ?_⟩
  clear hK K
  iterate 3 (refine wpQuietIn_step (fun _ _ _ _ => trivial) (fun K hK => ?_); go_simp; refine ⟨_, fun _ _ => rfl, hK _ ?_⟩; clear hK K)
  refine wpQuietIn_nil ?_
  rintro w' hw
  have HW := Lib.hid (HB.out.trans (hw.mono HB.out.size))
  clear hw
  go_wp2
  go_ret
  exact ⟨rfl, HW.out⟩
end Go.Proofs.Ytopnceniihgkpaa
