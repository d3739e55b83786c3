/-
  Own text: Wait, Score, Better, walked.
-/
import Derived.Test.YtglopddibopjmaaStB
import Derived.Test.YtglopddibopjmaaRegC
namespace Go.Proofs.Ytglopddibopjmaa
open Go.RowKit

/-- A box that is new. -/
theorem Blk13.box (w : World) (s : Sk) (t : TypeId) {W : World} (hW : W = w.alloc (.cells #[.int .i64 s.lo, .int .i64 s.rt, .int .i64 s.va, .int .i64 s.ma, .int .i64 s.tr] t)) :
    Below w.heap.size w W ∧ ∀ w', Below W.heap.size W w' → Blk13 t w' w.heap.size s := by
  have hk : Blk13 t W w.heap.size s := by rw [hW]; exact Blk13.new w s t
  exact ⟨by rw [hW]; exact (Below.refl _ _).alloc (Nat.le_refl _) _, fun w' h => hk.below h hk.lt⟩
theorem Sk.wait_lo (s : Sk) : 2 ≤ s.wait ∧ s.wait ≤ 200 := by
  unfold Sk.wait
  split
  · omega
  · split
    · omega
    · split <;> omega
theorem clamp_wait (q : Int) : clampZ q 2 200 = (if q < 2 then 2 else if 200 < q then 200 else q) := by
  unfold clampZ
  split <;> split <;> (try split) <;> omega
set_option maxRecDepth 100000 in
theorem wait13_any (s : Sk) (i : Nat) (hf : s.fit i) (w : World) :
    Calls Try.prog 9 #[SV s] w fun e w' => e = .returned (.int .i64 s.wait) ∧ Below w.heap.size w w' := by
  obtain ⟨W, hW⟩ : ∃ W, W = w.alloc (.cells #[.int .i64 s.lo, .int .i64 s.rt, .int .i64 s.va, .int .i64 s.ma, .int .i64 s.tr] 25) := ⟨_, rfl⟩
  obtain ⟨hb, hx⟩ := Blk13.box w s _ hW
  obtain ⟨c0, c1, c2, c3, c4⟩ := (hx W (Below.refl _ _)).cells
  have HB := Lib.hid hb
  have r0 := hf.r0
  have r1 := hf.r1
  have v0 := hf.v0
  have v1 := hf.v1
  have hT : s.wait = if s.tr = 0 then 50 else (if (s.rt + 4 * s.va + 7) / 8 < 2 then 2 else if 200 < (s.rt + 4 * s.va + 7) / 8 then 200 else (s.rt + 4 * s.va + 7) / 8) := rfl
  have CF := Lib.hid (floor_any (s.rt + 4 * s.va + 8 - 1) 8)
  have e0 : s.rt + 4 * s.va + 8 - 1 = s.rt + 4 * s.va + 7 := by omega
  rw [floor_div (s.rt + 4 * s.va + 8 - 1) 8 (by omega) (by omega) (by omega) (by omega), e0, ← e0] at CF
  have CC := Lib.hid (clamp_any ((s.rt + 4 * s.va + 8 - 1) / 8) 2 200)
  rw [clamp_wait] at CC
  rw [← e0] at hT
  rw [hT]
  unfold SV
  clear hT e0 hb hx hf
  generalize (if (s.rt + 4 * s.va + 8 - 1) / 8 < 2 then (2 : Int) else if 200 < (s.rt + 4 * s.va + 8 - 1) / 8 then 200 else (s.rt + 4 * s.va + 8 - 1) / 8) = wt at *
  generalize s.rt = rt at *
  generalize s.va = va at *
  generalize s.tr = tr at *
  generalize s.ma = ma at *
  generalize s.lo = lo at *
  by_cases h0 : tr = 0
  · rw [if_pos h0]
    subst h0
    go_enter Try.func9, Try.ntmps9
    go_upto_region 1 with fail
    rw [← hW]
    clear hW
    go_wp2
    go_ret
    exact ⟨rfl, HB.out⟩
  · rw [if_neg h0]
    go_enter Try.func9, Try.ntmps9
    go_upto_region 1 with fail
    rw [← hW]
    clear hW
    go_wp2_with (first
      | (go_at_call 21; (with_reducible refine (CF.out _).mono ?_); rintro e w1 ⟨rfl, rfl⟩)
      | (go_at_call 22; (with_reducible refine (CC.out _).mono ?_); rintro e w1 ⟨rfl, rfl⟩)
      | fail)
    go_ret
    exact ⟨rfl, HB.out⟩
theorem comes_any (s : Sk) (i : Nat) (hf : s.fit i) (w : World) :
    Calls Try.prog 23 #[SV s] w fun e w' => e = .returned (.int .i64 (65536 - s.lo)) ∧ Below w.heap.size w w' := by
  obtain ⟨W, hW⟩ : ∃ W, W = w.alloc (.cells #[.int .i64 s.lo, .int .i64 s.rt, .int .i64 s.va, .int .i64 s.ma, .int .i64 s.tr] 25) := ⟨_, rfl⟩
  obtain ⟨hb, hx⟩ := Blk13.box w s _ hW
  obtain ⟨c0, c1, c2, c3, c4⟩ := (hx W (Below.refl _ _)).cells
  have HB := Lib.hid hb
  have l0 := hf.l0
  have l1 := hf.l1
  unfold SV
  clear hb hx hf
  go_enter Try.func23, Try.ntmps23
  go_upto_region 1 with fail
  rw [← hW]
  clear hW
  go_wp2
  go_ret
  exact ⟨rfl, HB.out⟩
theorem Sk.score_lo {s : Sk} {i : Nat} (h : s.fit i) : 0 ≤ s.score ∧ s.score ≤ 65536 := by
  have l0 := h.l0
  have l1 := h.l1
  have r0 := h.r0
  unfold Sk.score
  refine ⟨Int.ediv_nonneg (by omega) (by omega), ?_⟩
  exact Int.ediv_le_of_le_mul (by omega) (by omega)
set_option maxRecDepth 100000 in
theorem score13_any (s : Sk) (i : Nat) (hf : s.fit i) (w : World) :
    Calls Try.prog 11 #[SV s] w fun e w' => e = .returned (.int .i64 s.score) ∧ Below w.heap.size w w' := by
  obtain ⟨W, hW⟩ : ∃ W, W = w.alloc (.cells #[.int .i64 s.lo, .int .i64 s.rt, .int .i64 s.va, .int .i64 s.ma, .int .i64 s.tr] 25) := ⟨_, rfl⟩
  obtain ⟨hb, hx⟩ := Blk13.box w s _ hW
  have HB := Lib.hid hb
  have HX := Lib.hid hx
  have l0 := hf.l0
  have l1 := hf.l1
  have r0 := hf.r0
  have r1 := hf.r1
  have CC : Hid (∀ w', Below W.heap.size W w' → Calls Try.prog 23 #[SV s] w' fun e w1 => e = .returned (.int .i64 (65536 - s.lo)) ∧ Below W.heap.size W w1) := Lib.hid (fun w' h => (comes_any s i hf w').mono fun _ _ hh => ⟨hh.1, h.trans (hh.2.mono h.size)⟩)
  have hq : floorZ (64 * (65536 - s.lo)) (64 + s.rt) = s.score := by
    rw [floor_div _ _ (by omega) (by omega) (by omega) (by omega), Int.mul_comm]
    rfl
  have CF : Hid (∀ w', Below W.heap.size W w' → Calls Try.prog 21 #[.int .i64 (64 * (65536 - s.lo)), .int .i64 (64 + s.rt)] w' fun e w1 => e = .returned (.int .i64 s.score) ∧ Below W.heap.size W w1) := Lib.hid (fun w' h => (floor_any _ _ w').mono fun _ _ hh => ⟨by rw [hh.1, hq], by rw [← hh.2]; exact h⟩)
  have w1 : IntKind.i64.wrap (64 * (65536 - s.lo)) = 64 * (65536 - s.lo) := by rw [IntKind.wrap_i64]; omega
  have w2 : IntKind.i64.wrap (64 + s.rt) = 64 + s.rt := by rw [IntKind.wrap_i64]; omega
  unfold SV at CC ⊢
  clear hb hx hq hf
  generalize s.score = sc at *
  go_enter Try.func11, Try.ntmps11
  go_upto_region 1 with fail
  rw [← hW]
  clear hW
  refine (wpIn_wide (n := 3)).1 ?_
  refine wpIn_class (fun w' => Below W.heap.size W w') (Below.refl _ _).drew rfl (by kernel_rfl) (by kernel_rfl) ?_
  refine wpQ_readw (.agg #[.int .i64 s.lo, .int .i64 s.rt, .int .i64 s.va, .int .i64 s.ma, .int .i64 s.tr]) (fun _ _ _ _ => trivial) rfl (fun w' hw => ?_) ?_
  · obtain ⟨c0, c1, c2, c3, c4⟩ := (HX.out w' hw).cells
    unfold Oper.quietAtIn
    go_simp
  simp only [Act.put, List.setIfInBounds_toArray, List.set_cons_zero, List.set_cons_succ]
  refine wpQuietIn_step (fun _ _ _ _ => trivial) (fun K hK => ?_)
  go_simp
  refine ⟨.int .i64 (65536 - s.lo), fun w' hw => callsIn_wide.2 (CC.out w' hw), hK _ ?_⟩
  clear hK K
  iterate 2 (refine wpQuietIn_step (fun _ _ _ _ => trivial) (fun K hK => ?_); go_simp; refine ⟨_, fun _ _ => rfl, hK _ ?_⟩; clear hK K)
  refine wpQ_readw (.int .i64 s.rt) (fun _ _ _ _ => trivial) rfl (fun w' hw => ?_) ?_
  · obtain ⟨c0, c1, c2, c3, c4⟩ := (HX.out w' hw).cells
    unfold Oper.quietAtIn
    go_simp
  simp only [Act.put, List.setIfInBounds_toArray, List.set_cons_zero, List.set_cons_succ]
  refine wpQuietIn_step (fun _ _ _ _ => trivial) (fun K hK => ?_)
  go_simp
  refine ⟨_, fun _ _ => rfl, hK _ ?_⟩
  clear hK K
  refine wpQuietIn_step (fun _ _ _ _ => trivial) (fun K hK => ?_)
  go_simp
  refine ⟨.int .i64 sc, fun w' hw => callsIn_wide.2 (CF.out w' hw), hK _ ?_⟩
  clear hK K
  refine wpQuietIn_step (fun _ _ _ _ => trivial) (fun K hK => ?_)
  go_simp
  refine ⟨_, fun _ _ => rfl, hK _ ?_⟩
  clear hK K
  refine wpQuietIn_nil ?_
  rintro w' hw
  have HW := Lib.hid (HB.out.trans (hw.mono HB.out.size))
  clear hw
  go_wp2
  go_ret
  exact ⟨rfl, HW.out⟩
end Go.Proofs.Ytglopddibopjmaa
