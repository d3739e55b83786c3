/-
  Own text: Wait, Score, Better, walked.
  Better, Need, walked.
  Need, walked.
  the document's Mark and Trip, walked.
-/
import Derived.Test.YtblnmddphichgaaStB
import Derived.Test.YtblnmddphichgaaGrow
import Derived.Test.YtblnmddphichgaaMulC
namespace Go.Proofs.Ytblnmddphichgaa
open Go.RowKit

/-- A box that is new. -/
theorem Blk13.box (w : World) (s : Sk) (t : TypeId) {W : World} (hW : W = w.alloc (.cells #[.int .i64 s.lo, .int .i64 s.rt, .int .i64 s.va, .int .i64 s.ma, .int .i64 s.tr] t)) :
    Below w.heap.size w W ∧ ∀ w', Below W.heap.size W w' → Blk13 t w' w.heap.size s := by
  have hk : Blk13 t W w.heap.size s := by rw [hW]; exact Blk13.new w s t
  exact ⟨by rw [hW]; exact (Below.refl _ _).alloc (Nat.le_refl _) _, fun w' h => hk.below h hk.lt⟩
theorem Sk.wait_lo (s : Sk) : 2 ≤ s.wait ∧ s.wait ≤ 200 := by
  unfold Sk.wait
  split
  · omega
  · split
    · omega
    · split <;> omega
theorem clamp_wait (q : Int) : clampZ q 2 200 = (if q < 2 then 2 else if 200 < q then 200 else q) := by
  unfold clampZ
  split <;> split <;> (try split) <;> omega
theorem comes_any (s : Sk) (i : Nat) (hf : s.fit i) (w : World) :
    Calls Try.prog 76 #[SV s] w fun e w' => e = .returned (.int .i64 (65536 - s.lo)) ∧ Below w.heap.size w w' := by
  obtain ⟨W, hW⟩ : ∃ W, W = w.alloc (.cells #[.int .i64 s.lo, .int .i64 s.rt, .int .i64 s.va, .int .i64 s.ma, .int .i64 s.tr] 56) := ⟨_, rfl⟩
  obtain ⟨hb, hx⟩ := Blk13.box w s _ hW
  obtain ⟨c0, c1, c2, c3, c4⟩ := (hx W (Below.refl _ _)).cells
  have HB := Lib.hid hb
  have l0 := hf.l0
  have l1 := hf.l1
  unfold SV
  clear hb hx hf
  go_enter Try.func76, Try.ntmps76
  go_upto_region 1 with fail
  rw [← hW]
  clear hW
  go_wp2
  go_ret
  exact ⟨rfl, HB.out⟩
theorem Sk.score_lo {s : Sk} {i : Nat} (h : s.fit i) : 0 ≤ s.score ∧ s.score ≤ 65536 := by
  have l0 := h.l0
  have l1 := h.l1
  have r0 := h.r0
  unfold Sk.score
  refine ⟨Int.ediv_nonneg (by omega) (by omega), ?_⟩
  exact Int.ediv_le_of_le_mul (by omega) (by omega)
set_option maxRecDepth 100000 in
theorem score13_any (s : Sk) (i : Nat) (hf : s.fit i) (w : World) :
    Calls Try.prog 69 #[SV s] w fun e w' => e = .returned (.int .i64 s.score) ∧ Below w.heap.size w w' := by
  obtain ⟨W, hW⟩ : ∃ W, W = w.alloc (.cells #[.int .i64 s.lo, .int .i64 s.rt, .int .i64 s.va, .int .i64 s.ma, .int .i64 s.tr] 56) := ⟨_, rfl⟩
  obtain ⟨hb, hx⟩ := Blk13.box w s _ hW
  have HB := Lib.hid hb
  have HX := Lib.hid hx
  have l0 := hf.l0
  have l1 := hf.l1
  have r0 := hf.r0
  have r1 := hf.r1
  have CC : Hid (∀ w', Below W.heap.size W w' → Calls Try.prog 76 #[SV s] w' fun e w1 => e = .returned (.int .i64 (65536 - s.lo)) ∧ Below W.heap.size W w1) := Lib.hid (fun w' h => (comes_any s i hf w').mono fun _ _ hh => ⟨hh.1, h.trans (hh.2.mono h.size)⟩)
  have hq : floorZ (64 * (65536 - s.lo)) (64 + s.rt) = s.score := by
    rw [floor_div _ _ (by omega) (by omega) (by omega) (by omega), Int.mul_comm]
    rfl
  have CF : Hid (∀ w', Below W.heap.size W w' → Calls Try.prog 72 #[.int .i64 (64 * (65536 - s.lo)), .int .i64 (64 + s.rt)] w' fun e w1 => e = .returned (.int .i64 s.score) ∧ Below W.heap.size W w1) := Lib.hid (fun w' h => (floor_any _ _ w').mono fun _ _ hh => ⟨by rw [hh.1, hq], by rw [← hh.2]; exact h⟩)
  have w1 : IntKind.i64.wrap (64 * (65536 - s.lo)) = 64 * (65536 - s.lo) := by rw [IntKind.wrap_i64]; omega
  have w2 : IntKind.i64.wrap (64 + s.rt) = 64 + s.rt := by rw [IntKind.wrap_i64]; omega
  unfold SV at CC ⊢
  clear hb hx hq hf
  generalize s.score = sc at *
  go_enter Try.func69, Try.ntmps69
  go_upto_region 1 with fail
  rw [← hW]
  clear hW
  refine (wpIn_wide (n := 3)).1 ?_
  refine wpIn_class (fun w' => Below W.heap.size W w') (Below.refl _ _).drew rfl (by kernel_rfl) (by kernel_rfl) ?_
  refine wpQ_readw (.agg #[.int .i64 s.lo, .int .i64 s.rt, .int .i64 s.va, .int .i64 s.ma, .int .i64 s.tr]) (fun _ _ _ _ => trivial) rfl (fun w' hw => ?_) ?_
  · obtain ⟨c0, c1, c2, c3, c4⟩ := (HX.out w' hw).cells
    unfold Oper.quietAtIn
    go_simp
  simp only [Act.put, List.setIfInBounds_toArray, List.set_cons_zero, List.set_cons_succ]
  refine wpQuietIn_step (fun _ _ _ _ => trivial) (fun K hK => ?_)
  go_simp
  refine ⟨.int .i64 (65536 - s.lo), fun w' hw => callsIn_wide.2 (CC.out w' hw), hK _ ?_⟩
  clear hK K
  iterate 2 (refine wpQuietIn_step (fun _ _ _ _ => trivial) (fun K hK => ?_); go_simp; refine ⟨_, fun _ _ => rfl, hK _ ?_⟩; clear hK K)
  refine wpQ_readw (.int .i64 s.rt) (fun _ _ _ _ => trivial) rfl (fun w' hw => ?_) ?_
  · obtain ⟨c0, c1, c2, c3, c4⟩ := (HX.out w' hw).cells
    unfold Oper.quietAtIn
    go_simp
  simp only [Act.put, List.setIfInBounds_toArray, List.set_cons_zero, List.set_cons_succ]
  refine wpQuietIn_step (fun _ _ _ _ => trivial) (fun K hK => ?_)
  go_simp
  refine ⟨_, fun _ _ => rfl, hK _ ?_⟩
  clear hK K
  refine wpQuietIn_step (fun _ _ _ _ => trivial) (fun K hK => ?_)
  go_simp
  refine ⟨.int .i64 sc, fun w' hw => callsIn_wide.2 (CF.out w' hw), hK _ ?_⟩
  clear hK K
  refine wpQuietIn_step (fun _ _ _ _ => trivial) (fun K hK => ?_)
  go_simp
  refine ⟨_, fun _ _ => rfl, hK _ ?_⟩
  clear hK K
  refine wpQuietIn_nil ?_
  rintro w' hw
  have HW := Lib.hid (HB.out.trans (hw.mono HB.out.size))
  clear hw
  go_wp2
  go_ret
  exact ⟨rfl, HW.out⟩
end Go.Proofs.Ytblnmddphichgaa
namespace Go.Proofs.Ytblnmddphichgaa
open Go.RowKit

/-- Two boxes that are new. -/
theorem Blk13.two (w : World) (s s' : Sk) (t t' : TypeId) {W : World} (hW : W = (w.alloc (.cells #[.int .i64 s.lo, .int .i64 s.rt, .int .i64 s.va, .int .i64 s.ma, .int .i64 s.tr] t)).alloc (.cells #[.int .i64 s'.lo, .int .i64 s'.rt, .int .i64 s'.va, .int .i64 s'.ma, .int .i64 s'.tr] t')) :
    Below w.heap.size w W ∧ ∀ w', Below W.heap.size W w' → Blk13 t w' w.heap.size s ∧ Blk13 t' w' (w.heap.size + 1) s' := by
  obtain ⟨hb, hx⟩ := Blk13.box w s t rfl
  obtain ⟨hb', hx'⟩ := Blk13.box _ s' t' hW
  have hz : w.heap.size + 1 = (w.alloc (.cells #[.int .i64 s.lo, .int .i64 s.rt, .int .i64 s.va, .int .i64 s.ma, .int .i64 s.tr] t)).heap.size := by simp
  have h0 := hx _ hb'
  rw [hz]
  exact ⟨hb.trans (hb'.mono hb.size), fun w' h => ⟨h0.below h (Nat.lt_of_lt_of_le (by omega) hb'.size), hx' w' h⟩⟩
/-- Whole parts and the rest, apart. -/
theorem Sk.many_parts {s : Sk} {i : Nat} (h : s.fit i) (n : Int) : n / (65536 - s.lo) * 65536 + -(-(n % (65536 - s.lo)) * 65536 / (65536 - s.lo)) = s.many n := by
  have l0 := h.l0
  have l1 := h.l1
  unfold Sk.many
  generalize hk : 65536 - s.lo = k
  have k0 : 0 < k := by omega
  have e := Int.mul_ediv_add_emod n k
  have r0 := Int.emod_nonneg n (show k ≠ 0 by omega)
  generalize n / k = q at *
  generalize n % k = r at *
  have e2 : n * 65536 + k - 1 = (r * 65536 + k - 1) + k * (q * 65536) := by
    rw [← e, Int.add_mul, Int.mul_assoc]; omega
  rw [e2, Int.add_mul_ediv_left _ _ (by omega : k ≠ 0)]
  have a1 := Int.mul_ediv_self_le (x := r * 65536 + k - 1) (k := k) (by omega)
  have a2 := Int.lt_mul_ediv_self_add (x := r * 65536 + k - 1) (k := k) k0
  have b1 := Int.mul_ediv_self_le (x := -r * 65536) (k := k) (by omega)
  have b2 := Int.lt_mul_ediv_self_add (x := -r * 65536) (k := k) k0
  generalize (r * 65536 + k - 1) / k = u at *
  generalize -r * 65536 / k = v at *
  have c1 : k * (u + v) < k * 1 := by rw [Int.mul_add]; omega
  have c2 : k * (-1) < k * (u + v) := by rw [Int.mul_add]; omega
  have d1 := Int.lt_of_mul_lt_mul_left c1 (by omega)
  have d2 := Int.lt_of_mul_lt_mul_left c2 (by omega)
  omega
theorem clamp_need (m l : Int) (hm : 0 ≤ m) (hl : 0 ≤ l) : clampZ m 0 l = (if m < l then m else l) := by
  unfold clampZ
  split <;> split <;> (try split) <;> omega
end Go.Proofs.Ytblnmddphichgaa
namespace Go.Proofs.Ytblnmddphichgaa
open Go.RowKit

/-- What a quotient by a number above 0 leaves. -/
theorem rest_mod (a b : Int) (ha : -9223372036854775808 ≤ a) (ha' : a ≤ 9223372036854775807) (hb : 0 < b) (hb' : b ≤ 9223372036854775807) : restZ a b = a % b := by
  have h1 := (floor_rest a b ha ha' (by omega) hb' (by omega) (by omega)).1
  rw [floor_div a b ha ha' hb hb'] at h1
  have h2 := Int.mul_ediv_add_emod a b
  rw [Int.mul_comm] at h2
  omega
theorem Sk.need_is (s : Sk) (n l : Int) : s.need n l = if s.many (if n < 0 then 0 else n) < (if l < 0 then 0 else l) then s.many (if n < 0 then 0 else n) else (if l < 0 then 0 else l) := rfl
end Go.Proofs.Ytblnmddphichgaa
namespace Go.Proofs.Ytblnmddphichgaa
open Go.RowKit

theorem set5_13 {B c : Nat} {a w : World} (h : Below B a w) (hc : B ≤ c) (v0 v1 v2 v3 v4 : Value) : Below B a (((((w.setCell ⟨c, 0, none⟩ v0).setCell ⟨c, 1, none⟩ v1).setCell ⟨c, 2, none⟩ v2).setCell ⟨c, 3, none⟩ v3).setCell ⟨c, 4, none⟩ v4) :=
  ((((h.setCell (p := ⟨c, 0, none⟩) hc _).setCell (p := ⟨c, 1, none⟩) hc _).setCell (p := ⟨c, 2, none⟩) hc _).setCell (p := ⟨c, 3, none⟩) hc _).setCell (p := ⟨c, 4, none⟩) hc _
end Go.Proofs.Ytblnmddphichgaa
