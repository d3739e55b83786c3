/-
  Own text: Better, Need, walked.
-/
import Derived.Test.YtopnceniihgkpaaStC
import Derived.Test.YtopnceniihgkpaaMulC
namespace Go.Proofs.Ytopnceniihgkpaa
open Go.RowKit

/-- Two boxes that are new. -/
theorem Blk13.two (w : World) (s s' : Sk) (t t' : TypeId) {W : World} (hW : W = (w.alloc (.cells #[.int .i64 s.lo, .int .i64 s.rt, .int .i64 s.va, .int .i64 s.ma, .int .i64 s.tr] t)).alloc (.cells #[.int .i64 s'.lo, .int .i64 s'.rt, .int .i64 s'.va, .int .i64 s'.ma, .int .i64 s'.tr] t')) :
    Below w.heap.size w W ∧ ∀ w', Below W.heap.size W w' → Blk13 t w' w.heap.size s ∧ Blk13 t' w' (w.heap.size + 1) s' := by
  obtain ⟨hb, hx⟩ := Blk13.box w s t rfl
  obtain ⟨hb', hx'⟩ := Blk13.box _ s' t' hW
  have hz : w.heap.size + 1 = (w.alloc (.cells #[.int .i64 s.lo, .int .i64 s.rt, .int .i64 s.va, .int .i64 s.ma, .int .i64 s.tr] t)).heap.size := by simp
  have h0 := hx _ hb'
  rw [hz]
  exact ⟨hb.trans (hb'.mono hb.size), fun w' h => ⟨h0.below h (Nat.lt_of_lt_of_le (by omega) hb'.size), hx' w' h⟩⟩
/-- Whole parts and the rest, apart. -/
theorem Sk.many_parts {s : Sk} {i : Nat} (h : s.fit i) (n : Int) : n / (65536 - s.lo) * 65536 + -(-(n % (65536 - s.lo)) * 65536 / (65536 - s.lo)) = s.many n := by
  have l0 := h.l0
  have l1 := h.l1
  unfold Sk.many
  generalize hk : 65536 - s.lo = k
  have k0 : 0 < k := by omega
  have e := Int.mul_ediv_add_emod n k
  have r0 := Int.emod_nonneg n (show k ≠ 0 by omega)
  generalize n / k = q at *
  generalize n % k = r at *
  have e2 : n * 65536 + k - 1 = (r * 65536 + k - 1) + k * (q * 65536) := by
    rw [← e, Int.add_mul, Int.mul_assoc]; omega
  rw [e2, Int.add_mul_ediv_left _ _ (by omega : k ≠ 0)]
  have a1 := Int.mul_ediv_self_le (x := r * 65536 + k - 1) (k := k) (by omega)
  have a2 := Int.lt_mul_ediv_self_add (x := r * 65536 + k - 1) (k := k) k0
  have b1 := Int.mul_ediv_self_le (x := -r * 65536) (k := k) (by omega)
  have b2 := Int.lt_mul_ediv_self_add (x := -r * 65536) (k := k) k0
  generalize (r * 65536 + k - 1) / k = u at *
  generalize -r * 65536 / k = v at *
  have c1 : k * (u + v) < k * 1 := by rw [Int.mul_add]; omega
  have c2 : k * (-1) < k * (u + v) := by rw [Int.mul_add]; omega
  have d1 := Int.lt_of_mul_lt_mul_left c1 (by omega)
  have d2 := Int.lt_of_mul_lt_mul_left c2 (by omega)
  omega
theorem clamp_need (m l : Int) (hm : 0 ≤ m) (hl : 0 ≤ l) : clampZ m 0 l = (if m < l then m else l) := by
  unfold clampZ
  split <;> split <;> (try split) <;> omega
end Go.Proofs.Ytopnceniihgkpaa
