/-
  Own text: Wait, Score, Better, walked.
  Better, Need, walked.
  Need, walked.
  the document's Mark and Trip, walked.
-/
import Derived.Test.YtjcbcdjfhcnhcaaStB
import Derived.Test.YtjcbcdjfhcnhcaaGrow
import Derived.Test.YtjcbcdjfhcnhcaaMulC
namespace Go.Proofs.Ytjcbcdjfhcnhcaa
open Go.RowKit

/-- A box that is new. -/
theorem Blk13.box (w : World) (s : Sk) (t : TypeId) {W : World} (hW : W = w.alloc (.cells #[.int .i64 s.lo, .int .i64 s.rt, .int .i64 s.va, .int .i64 s.ma, .int .i64 s.tr] t)) :
    Below w.heap.size w W ∧ ∀ w', Below W.heap.size W w' → Blk13 t w' w.heap.size s := by
  have hk : Blk13 t W w.heap.size s := by rw [hW]; exact Blk13.new w s t
  exact ⟨by rw [hW]; exact (Below.refl _ _).alloc (Nat.le_refl _) _, fun w' h => hk.below h hk.lt⟩
theorem Sk.wait_lo (s : Sk) : 2 ≤ s.wait ∧ s.wait ≤ 200 := by
  unfold Sk.wait
  split
  · omega
  · split
    · omega
    · split <;> omega
theorem clamp_wait (q : Int) : clampZ q 2 200 = (if q < 2 then 2 else if 200 < q then 200 else q) := by
  unfold clampZ
  split <;> split <;> (try split) <;> omega
theorem comes_any (s : Sk) (i : Nat) (hf : s.fit i) (w : World) :
    Calls Try.prog 121 #[SV s] w fun e w' => e = .returned (.int .i64 (65536 - s.lo)) ∧ Below w.heap.size w w' := by
  obtain ⟨W, hW⟩ : ∃ W, W = w.alloc (.cells #[.int .i64 s.lo, .int .i64 s.rt, .int .i64 s.va, .int .i64 s.ma, .int .i64 s.tr] 190) := ⟨_, rfl⟩
  obtain ⟨hb, hx⟩ := Blk13.box w s _ hW
  obtain ⟨c0, c1, c2, c3, c4⟩ := (hx W (Below.refl _ _)).cells
  have HB := Lib.hid hb
  have l0 := hf.l0
  have l1 := hf.l1
  unfold SV
  clear hb hx hf
  go_enter Try.func121, Try.ntmps121
  go_upto_region 1 with fail
  rw [← hW]
  clear hW
  go_wp2
  go_ret
  exact ⟨rfl, HB.out⟩
theorem Sk.score_lo {s : Sk} {i : Nat} (h : s.fit i) : 0 ≤ s.score ∧ s.score ≤ 65536 := by
  have l0 := h.l0
  have l1 := h.l1
  have r0 := h.r0
  unfold Sk.score
  refine ⟨Int.ediv_nonneg (by omega) (by omega), ?_⟩
  exact Int.ediv_le_of_le_mul (by omega) (by omega)
end Go.Proofs.Ytjcbcdjfhcnhcaa
namespace Go.Proofs.Ytjcbcdjfhcnhcaa
open Go.RowKit

/-- Two boxes that are new. -/
theorem Blk13.two (w : World) (s s' : Sk) (t t' : TypeId) {W : World} (hW : W = (w.alloc (.cells #[.int .i64 s.lo, .int .i64 s.rt, .int .i64 s.va, .int .i64 s.ma, .int .i64 s.tr] t)).alloc (.cells #[.int .i64 s'.lo, .int .i64 s'.rt, .int .i64 s'.va, .int .i64 s'.ma, .int .i64 s'.tr] t')) :
    Below w.heap.size w W ∧ ∀ w', Below W.heap.size W w' → Blk13 t w' w.heap.size s ∧ Blk13 t' w' (w.heap.size + 1) s' := by
  obtain ⟨hb, hx⟩ := Blk13.box w s t rfl
  obtain ⟨hb', hx'⟩ := Blk13.box _ s' t' hW
  have hz : w.heap.size + 1 = (w.alloc (.cells #[.int .i64 s.lo, .int .i64 s.rt, .int .i64 s.va, .int .i64 s.ma, .int .i64 s.tr] t)).heap.size := by simp
  have h0 := hx _ hb'
  rw [hz]
  exact ⟨hb.trans (hb'.mono hb.size), fun w' h => ⟨h0.below h (Nat.lt_of_lt_of_le (by omega) hb'.size), hx' w' h⟩⟩
/-- Whole parts and the rest, apart. -/
theorem Sk.many_parts {s : Sk} {i : Nat} (h : s.fit i) (n : Int) : n / (65536 - s.lo) * 65536 + -(-(n % (65536 - s.lo)) * 65536 / (65536 - s.lo)) = s.many n := by
  have l0 := h.l0
  have l1 := h.l1
  unfold Sk.many
  generalize hk : 65536 - s.lo = k
  have k0 : 0 < k := by omega
  have e := Int.mul_ediv_add_emod n k
  have r0 := Int.emod_nonneg n (show k ≠ 0 by omega)
  generalize n / k = q at *
  generalize n % k = r at *
  have e2 : n * 65536 + k - 1 = (r * 65536 + k - 1) + k * (q * 65536) := by
    rw [← e, Int.add_mul, Int.mul_assoc]; omega
  rw [e2, Int.add_mul_ediv_left _ _ (by omega : k ≠ 0)]
  have a1 := Int.mul_ediv_self_le (x := r * 65536 + k - 1) (k := k) (by omega)
  have a2 := Int.lt_mul_ediv_self_add (x := r * 65536 + k - 1) (k := k) k0
  have b1 := Int.mul_ediv_self_le (x := -r * 65536) (k := k) (by omega)
  have b2 := Int.lt_mul_ediv_self_add (x := -r * 65536) (k := k) k0
  generalize (r * 65536 + k - 1) / k = u at *
  generalize -r * 65536 / k = v at *
  have c1 : k * (u + v) < k * 1 := by rw [Int.mul_add]; omega
  have c2 : k * (-1) < k * (u + v) := by rw [Int.mul_add]; omega
  have d1 := Int.lt_of_mul_lt_mul_left c1 (by omega)
  have d2 := Int.lt_of_mul_lt_mul_left c2 (by omega)
  omega
theorem clamp_need (m l : Int) (hm : 0 ≤ m) (hl : 0 ≤ l) : clampZ m 0 l = (if m < l then m else l) := by
  unfold clampZ
  split <;> split <;> (try split) <;> omega
end Go.Proofs.Ytjcbcdjfhcnhcaa
namespace Go.Proofs.Ytjcbcdjfhcnhcaa
open Go.RowKit

/-- What a quotient by a number above 0 leaves. -/
theorem rest_mod (a b : Int) (ha : -9223372036854775808 ≤ a) (ha' : a ≤ 9223372036854775807) (hb : 0 < b) (hb' : b ≤ 9223372036854775807) : restZ a b = a % b := by
  have h1 := (floor_rest a b ha ha' (by omega) hb' (by omega) (by omega)).1
  rw [floor_div a b ha ha' hb hb'] at h1
  have h2 := Int.mul_ediv_add_emod a b
  rw [Int.mul_comm] at h2
  omega
theorem Sk.need_is (s : Sk) (n l : Int) : s.need n l = if s.many (if n < 0 then 0 else n) < (if l < 0 then 0 else l) then s.many (if n < 0 then 0 else n) else (if l < 0 then 0 else l) := rfl
set_option maxRecDepth 100000 in
set_option maxHeartbeats 1000000 in
theorem need13_any (s : Sk) (i : Nat) (hf : s.fit i) (n l : Int) (hn' : n ≤ 1000) (hl' : l ≤ 9223372036854775807) (w : World) :
    Calls Try.prog 114 #[SV s, .int .i64 n, .int .i64 l] w fun e w' => e = .returned (.int .i64 (s.need n l)) ∧ Below w.heap.size w w' := by
  obtain ⟨W, hW⟩ : ∃ W, W = w.alloc (.cells #[.int .i64 s.lo, .int .i64 s.rt, .int .i64 s.va, .int .i64 s.ma, .int .i64 s.tr] 190) := ⟨_, rfl⟩
  obtain ⟨hb, hx⟩ := Blk13.box w s _ hW
  obtain ⟨c0, c1, c2, c3, c4⟩ := (hx W (Below.refl _ _)).cells
  have HB := Lib.hid hb
  have l0 := hf.l0
  have l1 := hf.l1
  have CK := Lib.hid (comes_any s i hf)
  obtain ⟨N, hN⟩ : ∃ N, N = (if n < 0 then 0 else n) := ⟨_, rfl⟩
  obtain ⟨L, hL⟩ : ∃ L, L = (if l < 0 then 0 else l) := ⟨_, rfl⟩
  have N0 : 0 ≤ N := by rw [hN]; split <;> omega
  have N1 : N ≤ 1000 := by rw [hN]; split <;> omega
  have L0 : 0 ≤ L := by rw [hL]; split <;> omega
  have hT := s.need_is n l
  rw [← hN, ← hL] at hT
  have hm := s.many_parts hf N
  have hm0 := (s.many_is hf N N0).1
  have hm1 := s.many_le hf N N0
  unfold SV at CK ⊢
  clear hb hx
  obtain ⟨k, hk⟩ : ∃ k, k = 65536 - s.lo := ⟨_, rfl⟩
  rw [← hk] at CK hm
  have k0 : 0 < k := by omega
  have k1 : k ≤ 65536 := by omega
  have q0 : 0 ≤ N / k := Int.ediv_nonneg N0 (by omega)
  have q1 : N / k ≤ N := Int.ediv_le_self _ N0
  have r0 := Int.emod_nonneg N (show k ≠ 0 by omega)
  have r1 := Int.emod_lt_of_pos N k0
  have CF := Lib.hid (floor_any N k)
  rw [floor_div N k (by omega) (by omega) k0 (by omega)] at CF
  have CM := Lib.hid (fun w => mul_any (N / k) 65536 w (by omega) (by omega) (by omega) (by omega))
  rw [held_eq (n := N / k * 65536) (by omega) (by omega)] at CM
  have CR := Lib.hid (rest_any N k)
  rw [rest_mod N k (by omega) (by omega) k0 (by omega)] at CR
  have CV := Lib.hid (floor_any (-(N % k) * 65536) k)
  rw [floor_div (-(N % k) * 65536) k (by omega) (by omega) k0 (by omega)] at CV
  have v0 : -(N % k) * 65536 / k ≤ 0 := Int.ediv_le_of_le_mul k0 (by omega)
  have v1 : -65536 ≤ -(N % k) * 65536 / k := Int.le_ediv_of_mul_le k0 (by omega)
  generalize -(N % k) * 65536 / k = v at *
  generalize N % k = r at *
  generalize N / k = q at *
  have CA := Lib.hid (fun w => add_any (q * 65536) (-v) w (by omega) (by omega) (by omega) (by omega))
  rw [hm, held_eq (n := s.many N) (by omega) (by omega)] at CA
  have CC := Lib.hid (clamp_any (s.many N) 0 L)
  rw [clamp_need _ _ hm0 L0, ← hT] at CC
  generalize s.need n l = nd at *
  generalize s.many N = m at *
  clear hT hm hm0 hm1 hk hf
  by_cases hn : n < 0
  all_goals
    first | rw [if_pos hn] at hN | rw [if_neg hn] at hN
    by_cases hl : l < 0
    all_goals
      first | rw [if_pos hl] at hL | rw [if_neg hl] at hL
      subst hN hL
      go_enter Try.func114, Try.ntmps114
      go_upto_region 1 with fail
      rw [← hW]
      clear hW
      go_wp2_with (first
        | (go_at_call 121; (with_reducible refine (CK.out _).mono ?_); rintro e w1 ⟨rfl, hb1⟩; have HB1 := Lib.hid (HB.out.trans (hb1.mono HB.out.size)); clear hb1)
        | (go_at_call 123; (with_reducible refine (CF.out _).mono ?_); rintro e w2 ⟨rfl, rfl⟩)
        | (go_at_call 123; (with_reducible refine (CV.out _).mono ?_); rintro e w2 ⟨rfl, rfl⟩)
        | (go_at_call 122; (with_reducible refine (CM.out _).mono ?_); rintro e w2 ⟨rfl, rfl⟩)
        | (go_at_call 124; (with_reducible refine (CR.out _).mono ?_); rintro e w2 ⟨rfl, rfl⟩)
        | (go_at_call 125; (with_reducible refine (CA.out _).mono ?_); rintro e w2 ⟨rfl, rfl⟩)
        | (go_at_call 120; (with_reducible refine (CC.out _).mono ?_); rintro e w2 ⟨rfl, rfl⟩)
        | fail)
      go_ret
      exact ⟨rfl, HB1.out⟩
end Go.Proofs.Ytjcbcdjfhcnhcaa
namespace Go.Proofs.Ytjcbcdjfhcnhcaa
open Go.RowKit

theorem set5_13 {B c : Nat} {a w : World} (h : Below B a w) (hc : B ≤ c) (v0 v1 v2 v3 v4 : Value) : Below B a (((((w.setCell ⟨c, 0, none⟩ v0).setCell ⟨c, 1, none⟩ v1).setCell ⟨c, 2, none⟩ v2).setCell ⟨c, 3, none⟩ v3).setCell ⟨c, 4, none⟩ v4) :=
  ((((h.setCell (p := ⟨c, 0, none⟩) hc _).setCell (p := ⟨c, 1, none⟩) hc _).setCell (p := ⟨c, 2, none⟩) hc _).setCell (p := ⟨c, 3, none⟩) hc _).setCell (p := ⟨c, 4, none⟩) hc _
end Go.Proofs.Ytjcbcdjfhcnhcaa
