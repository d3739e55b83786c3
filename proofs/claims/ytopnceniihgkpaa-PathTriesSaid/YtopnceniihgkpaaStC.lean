/-
  Own text: Wait, Score, Better, walked.
-/
import Derived.Test.YtopnceniihgkpaaStB
import Derived.Test.YtopnceniihgkpaaRegC
namespace Go.Proofs.Ytopnceniihgkpaa
open Go.RowKit

/-- A box that is new. -/
theorem Blk13.box (w : World) (s : Sk) (t : TypeId) {W : World} (hW : W = w.alloc (.cells #[.int .i64 s.lo, .int .i64 s.rt, .int .i64 s.va, .int .i64 s.ma, .int .i64 s.tr] t)) :
    Below w.heap.size w W ∧ ∀ w', Below W.heap.size W w' → Blk13 t w' w.heap.size s := by
  have hk : Blk13 t W w.heap.size s := by rw [hW]; exact Blk13.new w s t
  exact ⟨by rw [hW]; exact (Below.refl _ _).alloc (Nat.le_refl _) _, fun w' h => hk.below h hk.lt⟩
theorem Sk.wait_lo (s : Sk) : 2 ≤ s.wait ∧ s.wait ≤ 200 := by
  unfold Sk.wait
  split
  · omega
  · split
    · omega
    · split <;> omega
theorem clamp_wait (q : Int) : clampZ q 2 200 = (if q < 2 then 2 else if 200 < q then 200 else q) := by
  unfold clampZ
  split <;> split <;> (try split) <;> omega
theorem comes_any (s : Sk) (i : Nat) (hf : s.fit i) (w : World) :
    Calls Try.prog 51 #[SV s] w fun e w' => e = .returned (.int .i64 (65536 - s.lo)) ∧ Below w.heap.size w w' := by
  obtain ⟨W, hW⟩ : ∃ W, W = w.alloc (.cells #[.int .i64 s.lo, .int .i64 s.rt, .int .i64 s.va, .int .i64 s.ma, .int .i64 s.tr] 25) := ⟨_, rfl⟩
  obtain ⟨hb, hx⟩ := Blk13.box w s _ hW
  obtain ⟨c0, c1, c2, c3, c4⟩ := (hx W (Below.refl _ _)).cells
  have HB := Lib.hid hb
  have l0 := hf.l0
  have l1 := hf.l1
  unfold SV
  clear hb hx hf
  go_enter Try.func51, Try.ntmps51
  go_upto_region 1 with fail
  rw [← hW]
  clear hW
  go_wp2
  go_ret
  exact ⟨rfl, HB.out⟩
theorem Sk.score_lo {s : Sk} {i : Nat} (h : s.fit i) : 0 ≤ s.score ∧ s.score ≤ 65536 := by
  have l0 := h.l0
  have l1 := h.l1
  have r0 := h.r0
  unfold Sk.score
  refine ⟨Int.ediv_nonneg (by omega) (by omega), ?_⟩
  exact Int.ediv_le_of_le_mul (by omega) (by omega)
set_option maxRecDepth 100000 in
theorem score13_any (s : Sk) (i : Nat) (hf : s.fit i) (w : World) :
    Calls Try.prog 38 #[SV s] w fun e w' => e = .returned (.int .i64 s.score) ∧ Below w.heap.size w w' := by
  obtain ⟨W, hW⟩ : ∃ W, W = w.alloc (.cells #[.int .i64 s.lo, .int .i64 s.rt, .int .i64 s.va, .int .i64 s.ma, .int .i64 s.tr] 25) := ⟨_, rfl⟩
  obtain ⟨hb, hx⟩ := Blk13.box w s _ hW
  have HB := Lib.hid hb
  have HX := Lib.hid hx
  have l0 := hf.l0
  have l1 := hf.l1
  have r0 := hf.r0
  have r1 := hf.r1
  have CC : Hid (∀ w', Below W.heap.size W w' → Calls Try.prog 51 #[SV s] w' fun e w1 => e = .returned (.int .i64 (65536 - s.lo)) ∧ Below W.heap.size W w1) := Lib.hid (fun w' h => (comes_any s i hf w').mono fun _ _ hh => ⟨hh.1, h.trans (hh.2.mono h.size)⟩)
  have hq : floorZ (64 * (65536 - s.lo)) (64 + s.rt) = s.score := by
    rw [floor_div _ _ (by omega) (by omega) (by omega) (by omega), Int.mul_comm]
    rfl
  have CF : Hid (∀ w', Below W.heap.size W w' → Calls Try.prog 44 #[.int .i64 (64 * (65536 - s.lo)), .int .i64 (64 + s.rt)] w' fun e w1 => e = .returned (.int .i64 s.score) ∧ Below W.heap.size W w1) := Lib.hid (fun w' h => (floor_any _ _ w').mono fun _ _ hh => ⟨by rw [hh.1, hq], by rw [← hh.2]; exact h⟩)
  have w1 : IntKind.i64.wrap (64 * (65536 - s.lo)) = 64 * (65536 - s.lo) := by rw [IntKind.wrap_i64]; omega
  have w2 : IntKind.i64.wrap (64 + s.rt) = 64 + s.rt := by rw [IntKind.wrap_i64]; omega
  unfold SV at CC ⊢
  clear hb hx hq hf
  generalize s.score = sc at *
  go_enter Try.func38, Try.ntmps38
  go_upto_region 1 with fail
  rw [← hW]
  clear hW
  refine (wpIn_wide (n := 3)).1 ?_
  refine wpIn_class (fun w' => Below W.heap.size W w') (Below.refl _ _).drew rfl (by kernel_rfl) (by kernel_rfl) ?_
  refine wpQ_readw (.agg #[.int .i64 s.lo, .int .i64 s.rt, .int .i64 s.va, .int .i64 s.ma, .int .i64 s.tr]) (fun _ _ _ _ => trivial) rfl (fun w' hw => ?_) ?_
  · obtain ⟨c0, c1, c2, c3, c4⟩ := (HX.out w' hw).cells
    unfold Oper.quietAtIn
    go_simp
  simp only [Act.put, List.setIfInBounds_toArray, List.set_cons_zero, List.set_cons_succ]
  refine wpQuietIn_step (fun _ _ _ _ => trivial) (fun K hK => ?_)
  go_simp
  refine ⟨.int .i64 (65536 - s.lo), fun w' hw => callsIn_wide.2 (CC.out w' hw), hK _ ?_⟩
  clear hK K
  iterate 2 (refine wpQuietIn_step (fun _ _ _ _ => trivial) (fun K hK => ?_); go_simp; refine ⟨_, fun _ _ => rfl, hK _ ?_⟩; clear hK K)
  refine wpQ_readw (.int .i64 s.rt) (fun _ _ _ _ => trivial) rfl (fun w' hw => ?_) ?_
  · obtain ⟨c0, c1, c2, c3, c4⟩ := (HX.out w' hw).cells
    unfold Oper.quietAtIn
    go_simp
  simp only [Act.put, List.setIfInBounds_toArray, List.set_cons_zero, List.set_cons_succ]
  refine wpQuietIn_step (fun _ _ _ _ => trivial) (fun K hK => ?_)
  go_simp
  refine ⟨_, fun _ _ => rfl, hK _ ?_⟩
  clear hK K
  refine wpQuietIn_step (fun _ _ _ _ => trivial) (fun K hK => ?_)
  go_simp
  refine ⟨.int .i64 sc, fun w' hw => callsIn_wide.2 (CF.out w' hw), hK _ ?_⟩
  clear hK K
  refine wpQuietIn_step (fun _ _ _ _ => trivial) (fun K hK => ?_)
  go_simp
  refine ⟨_, fun _ _ => rfl, hK _ ?_⟩
  clear hK K
  refine wpQuietIn_nil ?_
  rintro w' hw
  have HW := Lib.hid (HB.out.trans (hw.mono HB.out.size))
  clear hw
  go_wp2
  go_ret
  exact ⟨rfl, HW.out⟩
end Go.Proofs.Ytopnceniihgkpaa
