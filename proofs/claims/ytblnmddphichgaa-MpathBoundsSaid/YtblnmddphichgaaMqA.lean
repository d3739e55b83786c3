/-
  Own text: which of two items that bear a datagram comes first, walked.
-/
import Derived.Test.YtblnmddphichgaaMqM
import Derived.Test.YtblnmddphichgaaCmpO
import Derived.Test.YtblnmddphichgaaGrow
import Derived.BigQuiet
namespace Go.Proofs.Ytblnmddphichgaa.Mq
open Go.RowKit

def cmpT (a b : It) : Int := orI (cmpI a.rank b.rank) (cmpI a.num b.num)
/-- As a value. -/
abbrev It.val (x : It) : Value := .agg x.cells
theorem two_items (w : World) (a b : It) {W : World} (hW : W = (w.alloc (.cells a.cells 84)).alloc (.cells b.cells 84)) : Below w.heap.size w W ∧ ∀ w', Below W.heap.size W w' → Lies w' w.heap.size 0 a.cells ∧ Lies w' (w.heap.size + 1) 0 b.cells := by
  subst hW
  refine ⟨((Below.refl _ _).alloc (Nat.le_refl _) _).alloc (by simp) _, fun w' hb => ⟨?_, ?_⟩⟩
  · have h : Lies ((w.alloc (.cells a.cells 84)).alloc (.cells b.cells 84)) w.heap.size 0 a.cells := Lies.new w a.cells _ ((Below.refl _ _).alloc (Nat.le_refl _) _)
    exact h.below hb h.lt
  · have h := Lies.new (w.alloc (.cells a.cells 84)) b.cells 84 (Below.refl _ _)
    rw [show (w.alloc (.cells a.cells 84)).heap.size = w.heap.size + 1 by simp] at h
    exact h.below hb h.lt
set_option maxRecDepth 100000 in
set_option maxHeartbeats 1000000 in
theorem compare_any (a b : It) (w : World) :
    Calls Try.prog 32 #[a.val, b.val] w fun e w' => e = .returned (.int .i64 (cmpT a b)) ∧ Below w.heap.size w w' := by
  obtain ⟨W, hW⟩ : ∃ W, W = (w.alloc (.cells a.cells 84)).alloc (.cells b.cells 84) := ⟨_, rfl⟩
  obtain ⟨hb, hx⟩ := two_items w a b hW
  have HB := Lib.hid hb
  have HC : Hid (∀ w', Below W.heap.size W w' → w'.cell? ⟨w.heap.size, 0, none⟩ = some (.int .i64 a.rank) ∧ w'.cell? ⟨w.heap.size, 1, none⟩ = some (.int .i64 a.num) ∧ w'.cell? ⟨w.heap.size + 1, 0, none⟩ = some (.int .i64 b.rank) ∧ w'.cell? ⟨w.heap.size + 1, 1, none⟩ = some (.int .i64 b.num)) := Lib.hid (fun w' h => ⟨(hx w' h).1.cell 0 (by decide : 0 < 13), (hx w' h).1.cell 1 (by decide : 1 < 13), (hx w' h).2.cell 0 (by decide : 0 < 13), (hx w' h).2.cell 1 (by decide : 1 < 13)⟩)
  have C1 : Hid (∀ w', Below W.heap.size W w' → Calls Try.prog 52 #[.int .i64 a.rank, .int .i64 b.rank] w' fun e w1 => e = .returned (.int .i64 (cmpI a.rank b.rank)) ∧ Below W.heap.size W w1) := Lib.hid (fun w' h => (cmpI_any _ _ w').mono fun _ _ hh => ⟨hh.1, by rw [hh.2]; exact h⟩)
  have C2 : Hid (∀ w', Below W.heap.size W w' → Calls Try.prog 52 #[.int .i64 a.num, .int .i64 b.num] w' fun e w1 => e = .returned (.int .i64 (cmpI a.num b.num)) ∧ Below W.heap.size W w1) := Lib.hid (fun w' h => (cmpI_any _ _ w').mono fun _ _ hh => ⟨hh.1, by rw [hh.2]; exact h⟩)
  unfold It.val cmpT
  generalize cmpI a.rank b.rank = x at *
  generalize cmpI a.num b.num = y at *
  obtain ⟨R1, hR1⟩ : ∃ R1, R1 = a.cells := ⟨_, rfl⟩
  obtain ⟨R2, hR2⟩ : ∃ R2, R2 = b.cells := ⟨_, rfl⟩
  rw [← hR1, ← hR2] at hW ⊢
  clear hb hx hR1 hR2
  generalize a.rank = ar at *
  generalize b.rank = br at *
  generalize a.num = an at *
  generalize b.num = bn at *
  go_enter Try.func32, Try.ntmps32
  go_upto_region 1 with fail
  rw [← hW]
  clear hW
  refine (wpIn_wide (n := 3)).1 ?_
  refine wpIn_grow_tail (fun w' => Below W.heap.size W w') (Below.refl _ _).drew 10 (by kernel_rfl) (by kernel_rfl) (by kernel_rfl) ?_
  simp only [List.take_succ_cons, List.take_zero, List.drop_succ_cons, List.drop_zero]
  (refine wpQuietIn_step (fun _ _ _ _ => trivial) (fun K hK => ?_); go_simp; refine ⟨_, fun _ _ => rfl, hK _ ?_⟩; clear hK K)
  refine wpQ_readw (.int .i64 ar) (fun _ _ _ _ => trivial) rfl (fun w' hw => ?_) ?_
  · obtain ⟨c0, c1, c2, c3⟩ := HC.out w' hw
    unfold Oper.quietAtIn
    go_simp
  simp only [Act.put, List.setIfInBounds_toArray, List.set_cons_zero, List.set_cons_succ]
  (refine wpQuietIn_step (fun _ _ _ _ => trivial) (fun K hK => ?_); go_simp; refine ⟨_, fun _ _ => rfl, hK _ ?_⟩; clear hK K)
  refine wpQ_readw (.int .i64 br) (fun _ _ _ _ => trivial) rfl (fun w' hw => ?_) ?_
  · obtain ⟨c0, c1, c2, c3⟩ := HC.out w' hw
    unfold Oper.quietAtIn
    go_simp
  simp only [Act.put, List.setIfInBounds_toArray, List.set_cons_zero, List.set_cons_succ]
  refine wpQuietIn_step (fun _ _ _ _ => trivial) (fun K hK => ?_)
  go_simp
  refine ⟨.int .i64 x, fun w' hw => callsIn_wide.2 (C1.out w' hw), hK _ ?_⟩
  clear hK K
  (refine wpQuietIn_step (fun _ _ _ _ => trivial) (fun K hK => ?_); go_simp; refine ⟨_, fun _ _ => rfl, hK _ ?_⟩; clear hK K)
  refine wpQ_readw (.int .i64 an) (fun _ _ _ _ => trivial) rfl (fun w' hw => ?_) ?_
  · obtain ⟨c0, c1, c2, c3⟩ := HC.out w' hw
    unfold Oper.quietAtIn
    go_simp
  simp only [Act.put, List.setIfInBounds_toArray, List.set_cons_zero, List.set_cons_succ]
  (refine wpQuietIn_step (fun _ _ _ _ => trivial) (fun K hK => ?_); go_simp; refine ⟨_, fun _ _ => rfl, hK _ ?_⟩; clear hK K)
  refine wpQ_readw (.int .i64 bn) (fun _ _ _ _ => trivial) rfl (fun w' hw => ?_) ?_
  · obtain ⟨c0, c1, c2, c3⟩ := HC.out w' hw
    unfold Oper.quietAtIn
    go_simp
  simp only [Act.put, List.setIfInBounds_toArray, List.set_cons_zero, List.set_cons_succ]
  refine wpQuietIn_step (fun _ _ _ _ => trivial) (fun K hK => ?_)
  go_simp
  refine ⟨.int .i64 y, fun w' hw => callsIn_wide.2 (C2.out w' hw), hK _ ?_⟩
  clear hK K
  refine wpQuietIn_nil ?_
  rintro w' hw
  have HN : Hid (Lies (w'.alloc (.cells #[.int .i64 x, .int .i64 y] 3)) w'.heap.size 0 #[.int .i64 x, .int .i64 y]) := Lib.hid (Lies.new w' _ _ (Below.refl _ _))
  have CO := Lib.hid (or2_any x y w'.heap.size _ (HN.out.cell 0 (by decide : 0 < 2)) (HN.out.cell 1 (by decide : 1 < 2)))
  have HBX := Lib.hid (HB.out.trans ((hw.alloc hw.size (.cells #[.int .i64 x, .int .i64 y] 3)).mono HB.out.size))
  clear hw HN
  gi_wp2
  refine ⟨trivial, callsIn_wide.2 ((CO.out).mono ?_)⟩
  rintro e w2 ⟨rfl, rfl⟩
  gi_wp2
  go_wp2
  go_ret
  exact ⟨rfl, HBX.out⟩
end Go.Proofs.Ytblnmddphichgaa.Mq
