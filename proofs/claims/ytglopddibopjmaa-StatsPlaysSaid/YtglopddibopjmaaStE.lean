/-
  Own text: Need, walked.
-/
import Derived.Test.YtglopddibopjmaaStD
namespace Go.Proofs.Ytglopddibopjmaa
open Go.RowKit

/-- What a quotient by a number above 0 leaves. -/
theorem rest_mod (a b : Int) (ha : -9223372036854775808 ≤ a) (ha' : a ≤ 9223372036854775807) (hb : 0 < b) (hb' : b ≤ 9223372036854775807) : restZ a b = a % b := by
  have h1 := (floor_rest a b ha ha' (by omega) hb' (by omega) (by omega)).1
  rw [floor_div a b ha ha' hb hb'] at h1
  have h2 := Int.mul_ediv_add_emod a b
  rw [Int.mul_comm] at h2
  omega
theorem Sk.need_is (s : Sk) (n l : Int) : s.need n l = if s.many (if n < 0 then 0 else n) < (if l < 0 then 0 else l) then s.many (if n < 0 then 0 else n) else (if l < 0 then 0 else l) := rfl
set_option maxRecDepth 100000 in
set_option maxHeartbeats 1000000 in
theorem need13_any (s : Sk) (i : Nat) (hf : s.fit i) (n l : Int) (hn' : n ≤ 1000) (hl' : l ≤ 9223372036854775807) (w : World) :
    Calls Try.prog 13 #[SV s, .int .i64 n, .int .i64 l] w fun e w' => e = .returned (.int .i64 (s.need n l)) ∧ Below w.heap.size w w' := by
  obtain ⟨W, hW⟩ : ∃ W, W = w.alloc (.cells #[.int .i64 s.lo, .int .i64 s.rt, .int .i64 s.va, .int .i64 s.ma, .int .i64 s.tr] 25) := ⟨_, rfl⟩
  obtain ⟨hb, hx⟩ := Blk13.box w s _ hW
  obtain ⟨c0, c1, c2, c3, c4⟩ := (hx W (Below.refl _ _)).cells
  have HB := Lib.hid hb
  have l0 := hf.l0
  have l1 := hf.l1
  have CK := Lib.hid (comes_any s i hf)
  obtain ⟨N, hN⟩ : ∃ N, N = (if n < 0 then 0 else n) := ⟨_, rfl⟩
  obtain ⟨L, hL⟩ : ∃ L, L = (if l < 0 then 0 else l) := ⟨_, rfl⟩
  have N0 : 0 ≤ N := by rw [hN]; split <;> omega
  have N1 : N ≤ 1000 := by rw [hN]; split <;> omega
  have L0 : 0 ≤ L := by rw [hL]; split <;> omega
  have hT := s.need_is n l
  rw [← hN, ← hL] at hT
  have hm := s.many_parts hf N
  have hm0 := (s.many_is hf N N0).1
  have hm1 := s.many_le hf N N0
  unfold SV at CK ⊢
  clear hb hx
  obtain ⟨k, hk⟩ : ∃ k, k = 65536 - s.lo := ⟨_, rfl⟩
  rw [← hk] at CK hm
  have k0 : 0 < k := by omega
  have k1 : k ≤ 65536 := by omega
  have q0 : 0 ≤ N / k := Int.ediv_nonneg N0 (by omega)
  have q1 : N / k ≤ N := Int.ediv_le_self _ N0
  have r0 := Int.emod_nonneg N (show k ≠ 0 by omega)
  have r1 := Int.emod_lt_of_pos N k0
  have CF := Lib.hid (floor_any N k)
  rw [floor_div N k (by omega) (by omega) k0 (by omega)] at CF
  have CM := Lib.hid (fun w => mul_any (N / k) 65536 w (by omega) (by omega) (by omega) (by omega))
  rw [held_eq (n := N / k * 65536) (by omega) (by omega)] at CM
  have CR := Lib.hid (rest_any N k)
  rw [rest_mod N k (by omega) (by omega) k0 (by omega)] at CR
  have CV := Lib.hid (floor_any (-(N % k) * 65536) k)
  rw [floor_div (-(N % k) * 65536) k (by omega) (by omega) k0 (by omega)] at CV
  have v0 : -(N % k) * 65536 / k ≤ 0 := Int.ediv_le_of_le_mul k0 (by omega)
  have v1 : -65536 ≤ -(N % k) * 65536 / k := Int.le_ediv_of_mul_le k0 (by omega)
  generalize -(N % k) * 65536 / k = v at *
  generalize N % k = r at *
  generalize N / k = q at *
  have CA := Lib.hid (fun w => add_any (q * 65536) (-v) w (by omega) (by omega) (by omega) (by omega))
  rw [hm, held_eq (n := s.many N) (by omega) (by omega)] at CA
  have CC := Lib.hid (clamp_any (s.many N) 0 L)
  rw [clamp_need _ _ hm0 L0, ← hT] at CC
  generalize s.need n l = nd at *
  generalize s.many N = m at *
  clear hT hm hm0 hm1 hk hf
  by_cases hn : n < 0
  all_goals
    first | rw [if_pos hn] at hN | rw [if_neg hn] at hN
    by_cases hl : l < 0
    all_goals
      first | rw [if_pos hl] at hL | rw [if_neg hl] at hL
      subst hN hL
      go_enter Try.func13, Try.ntmps13
      go_upto_region 1 with fail
      rw [← hW]
      clear hW
      go_wp2_with (first
        | (go_at_call 23; (with_reducible refine (CK.out _).mono ?_); rintro e w1 ⟨rfl, hb1⟩; have HB1 := Lib.hid (HB.out.trans (hb1.mono HB.out.size)); clear hb1)
        | (go_at_call 21; (with_reducible refine (CF.out _).mono ?_); rintro e w2 ⟨rfl, rfl⟩)
        | (go_at_call 21; (with_reducible refine (CV.out _).mono ?_); rintro e w2 ⟨rfl, rfl⟩)
        | (go_at_call 24; (with_reducible refine (CM.out _).mono ?_); rintro e w2 ⟨rfl, rfl⟩)
        | (go_at_call 25; (with_reducible refine (CR.out _).mono ?_); rintro e w2 ⟨rfl, rfl⟩)
        | (go_at_call 26; (with_reducible refine (CA.out _).mono ?_); rintro e w2 ⟨rfl, rfl⟩)
        | (go_at_call 22; (with_reducible refine (CC.out _).mono ?_); rintro e w2 ⟨rfl, rfl⟩)
        | fail)
      go_ret
      exact ⟨rfl, HB1.out⟩
end Go.Proofs.Ytglopddibopjmaa
