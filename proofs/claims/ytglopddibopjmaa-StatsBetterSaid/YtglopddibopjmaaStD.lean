/-
  Own text: Better, Need, walked.
-/
import Derived.Test.YtglopddibopjmaaStC
import Derived.Test.YtglopddibopjmaaMulC
namespace Go.Proofs.Ytglopddibopjmaa
open Go.RowKit

/-- Two boxes that are new. -/
theorem Blk13.two (w : World) (s s' : Sk) (t t' : TypeId) {W : World} (hW : W = (w.alloc (.cells #[.int .i64 s.lo, .int .i64 s.rt, .int .i64 s.va, .int .i64 s.ma, .int .i64 s.tr] t)).alloc (.cells #[.int .i64 s'.lo, .int .i64 s'.rt, .int .i64 s'.va, .int .i64 s'.ma, .int .i64 s'.tr] t')) :
    Below w.heap.size w W ∧ ∀ w', Below W.heap.size W w' → Blk13 t w' w.heap.size s ∧ Blk13 t' w' (w.heap.size + 1) s' := by
  obtain ⟨hb, hx⟩ := Blk13.box w s t rfl
  obtain ⟨hb', hx'⟩ := Blk13.box _ s' t' hW
  have hz : w.heap.size + 1 = (w.alloc (.cells #[.int .i64 s.lo, .int .i64 s.rt, .int .i64 s.va, .int .i64 s.ma, .int .i64 s.tr] t)).heap.size := by simp
  have h0 := hx _ hb'
  rw [hz]
  exact ⟨hb.trans (hb'.mono hb.size), fun w' h => ⟨h0.below h (Nat.lt_of_lt_of_le (by omega) hb'.size), hx' w' h⟩⟩
set_option maxRecDepth 100000 in
theorem better13_any (s s' : Sk) (i i' : Nat) (hf : s.fit i) (hf' : s'.fit i') (w : World) :
    Calls Try.prog 16 #[SV s, SV s'] w fun e w' => e = .returned (.bool (decide (s'.score < s.score))) ∧ Below w.heap.size w w' := by
  obtain ⟨W, hW⟩ : ∃ W, W = (w.alloc (.cells #[.int .i64 s.lo, .int .i64 s.rt, .int .i64 s.va, .int .i64 s.ma, .int .i64 s.tr] 25)).alloc (.cells #[.int .i64 s'.lo, .int .i64 s'.rt, .int .i64 s'.va, .int .i64 s'.ma, .int .i64 s'.tr] 25) := ⟨_, rfl⟩
  obtain ⟨hb, hx⟩ := Blk13.two w s s' _ _ hW
  have HB := Lib.hid hb
  have HX := Lib.hid hx
  have CC : Hid (∀ w', Below W.heap.size W w' → Calls Try.prog 11 #[SV s] w' fun e w1 => e = .returned (.int .i64 s.score) ∧ Below W.heap.size W w1) := Lib.hid (fun w' h => (score13_any s i hf w').mono fun _ _ hh => ⟨hh.1, h.trans (hh.2.mono h.size)⟩)
  have CD : Hid (∀ w', Below W.heap.size W w' → Calls Try.prog 11 #[SV s'] w' fun e w1 => e = .returned (.int .i64 s'.score) ∧ Below W.heap.size W w1) := Lib.hid (fun w' h => (score13_any s' i' hf' w').mono fun _ _ hh => ⟨hh.1, h.trans (hh.2.mono h.size)⟩)
  unfold SV at CC CD ⊢
  clear hb hx hf hf'
  generalize s.score = x at *
  generalize s'.score = y at *
  go_enter Try.func16, Try.ntmps16
  go_upto_region 1 with fail
  rw [← hW]
  clear hW
  refine (wpIn_wide (n := 3)).1 ?_
  refine wpIn_class (fun w' => Below W.heap.size W w') (Below.refl _ _).drew rfl (by kernel_rfl) (by kernel_rfl) ?_
  refine wpQ_readw (.agg #[.int .i64 s.lo, .int .i64 s.rt, .int .i64 s.va, .int .i64 s.ma, .int .i64 s.tr]) (fun _ _ _ _ => trivial) rfl (fun w' hw => ?_) ?_
  · obtain ⟨c0, c1, c2, c3, c4⟩ := (HX.out w' hw).1.cells
    unfold Oper.quietAtIn
    go_simp
  simp only [Act.put, List.setIfInBounds_toArray, List.set_cons_zero, List.set_cons_succ]
  refine wpQuietIn_step (fun _ _ _ _ => trivial) (fun K hK => ?_)
  go_simp
  refine ⟨.int .i64 x, fun w' hw => callsIn_wide.2 (CC.out w' hw), hK _ ?_⟩
  clear hK K
  refine wpQ_readw (.agg #[.int .i64 s'.lo, .int .i64 s'.rt, .int .i64 s'.va, .int .i64 s'.ma, .int .i64 s'.tr]) (fun _ _ _ _ => trivial) rfl (fun w' hw => ?_) ?_
  · obtain ⟨c0, c1, c2, c3, c4⟩ := (HX.out w' hw).2.cells
    unfold Oper.quietAtIn
    go_simp
  simp only [Act.put, List.setIfInBounds_toArray, List.set_cons_zero, List.set_cons_succ]
  refine wpQuietIn_step (fun _ _ _ _ => trivial) (fun K hK => ?_)
  go_simp
  refine ⟨.int .i64 y, fun w' hw => callsIn_wide.2 (CD.out w' hw), hK _ ?_⟩
  clear hK K
  iterate 2 (refine wpQuietIn_step (fun _ _ _ _ => trivial) (fun K hK => ?_); go_simp; refine ⟨_, fun _ _ => rfl, hK _ ?_⟩; clear hK K)
  refine wpQuietIn_nil ?_
  rintro w' hw
  have HW := Lib.hid (HB.out.trans (hw.mono HB.out.size))
  clear hw
  go_wp2
  go_ret
  exact ⟨rfl, HW.out⟩
/-- Whole parts and the rest, apart. -/
theorem Sk.many_parts {s : Sk} {i : Nat} (h : s.fit i) (n : Int) : n / (65536 - s.lo) * 65536 + -(-(n % (65536 - s.lo)) * 65536 / (65536 - s.lo)) = s.many n := by
  have l0 := h.l0
  have l1 := h.l1
  unfold Sk.many
  generalize hk : 65536 - s.lo = k
  have k0 : 0 < k := by omega
  have e := Int.mul_ediv_add_emod n k
  have r0 := Int.emod_nonneg n (show k ≠ 0 by omega)
  generalize n / k = q at *
  generalize n % k = r at *
  have e2 : n * 65536 + k - 1 = (r * 65536 + k - 1) + k * (q * 65536) := by
    rw [← e, Int.add_mul, Int.mul_assoc]; omega
  rw [e2, Int.add_mul_ediv_left _ _ (by omega : k ≠ 0)]
  have a1 := Int.mul_ediv_self_le (x := r * 65536 + k - 1) (k := k) (by omega)
  have a2 := Int.lt_mul_ediv_self_add (x := r * 65536 + k - 1) (k := k) k0
  have b1 := Int.mul_ediv_self_le (x := -r * 65536) (k := k) (by omega)
  have b2 := Int.lt_mul_ediv_self_add (x := -r * 65536) (k := k) k0
  generalize (r * 65536 + k - 1) / k = u at *
  generalize -r * 65536 / k = v at *
  have c1 : k * (u + v) < k * 1 := by rw [Int.mul_add]; omega
  have c2 : k * (-1) < k * (u + v) := by rw [Int.mul_add]; omega
  have d1 := Int.lt_of_mul_lt_mul_left c1 (by omega)
  have d2 := Int.lt_of_mul_lt_mul_left c2 (by omega)
  omega
theorem clamp_need (m l : Int) (hm : 0 ≤ m) (hl : 0 ≤ l) : clampZ m 0 l = (if m < l then m else l) := by
  unfold clampZ
  split <;> split <;> (try split) <;> omega
end Go.Proofs.Ytglopddibopjmaa
