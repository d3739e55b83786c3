/-
  Own text: the document's Wait, Score, Need; the law's Same, walked.
-/
import Derived.Test.YtglopddibopjmaaStG
import Derived.Test.YtglopddibopjmaaStE
namespace Go.Proofs.Ytglopddibopjmaa
open Go.RowKit

set_option maxRecDepth 100000 in
theorem rwait13_any (s : Sk) (i : Nat) (hf : s.fit i) (w : World) :
    Calls Try.prog 10 #[SV s] w fun e w' => e = .returned (.int .i64 s.wait) ∧ Below w.heap.size w w' := by
  obtain ⟨W, hW⟩ : ∃ W, W = w.alloc (.cells #[.int .i64 s.lo, .int .i64 s.rt, .int .i64 s.va, .int .i64 s.ma, .int .i64 s.tr] 26) := ⟨_, rfl⟩
  obtain ⟨hb, hx⟩ := Blk13.box w s _ hW
  obtain ⟨c0, c1, c2, c3, c4⟩ := (hx W (Below.refl _ _)).cells
  have HB := Lib.hid hb
  have r0 := hf.r0
  have r1 := hf.r1
  have v0 := hf.v0
  have v1 := hf.v1
  have hT : s.wait = if s.tr = 0 then 50 else (if (s.rt + 4 * s.va + 7) / 8 < 2 then 2 else if 200 < (s.rt + 4 * s.va + 7) / 8 then 200 else (s.rt + 4 * s.va + 7) / 8) := rfl
  have d0 : (s.rt + 4 * s.va + 7).tdiv 8 = (s.rt + 4 * s.va + 7) / 8 := Int.tdiv_eq_ediv_of_nonneg (by omega)
  obtain ⟨X, hX⟩ : ∃ X, (s.rt + 4 * s.va + 7) / 8 = X := ⟨_, rfl⟩
  rw [hX] at hT d0
  have x0 : 0 ≤ X := by omega
  have x1 : X ≤ 80007 := by omega
  unfold SV
  clear hb hx hf
  generalize s.wait = wt at *
  generalize s.rt = rt at *
  generalize s.va = va at *
  generalize s.tr = tr at *
  generalize s.ma = ma at *
  generalize s.lo = lo at *
  by_cases h0 : tr = 0
  · rw [if_pos h0] at hT
    subst h0 hT
    go_enter Try.func10, Try.ntmps10
    go_upto_region 1 with fail
    rw [← hW]
    clear hW
    go_wp2
    go_ret
    exact ⟨rfl, HB.out⟩
  · rw [if_neg h0] at hT
    by_cases h1 : X < 2
    · rw [if_pos h1] at hT
      subst hT
      go_enter Try.func10, Try.ntmps10
      go_upto_region 1 with fail
      rw [← hW]
      clear hW
      go_wp2
      go_ret
      exact ⟨rfl, HB.out⟩
    · rw [if_neg h1] at hT
      by_cases h2 : 200 < X
      all_goals
        first | rw [if_pos h2] at hT | rw [if_neg h2] at hT
        subst hT
        go_enter Try.func10, Try.ntmps10
        go_upto_region 1 with fail
        rw [← hW]
        clear hW
        go_wp2
        go_ret
        exact ⟨rfl, HB.out⟩
set_option maxRecDepth 100000 in
theorem rscore13_any (s : Sk) (i : Nat) (hf : s.fit i) (w : World) :
    Calls Try.prog 12 #[SV s] w fun e w' => e = .returned (.int .i64 s.score) ∧ Below w.heap.size w w' := by
  obtain ⟨W, hW⟩ : ∃ W, W = w.alloc (.cells #[.int .i64 s.lo, .int .i64 s.rt, .int .i64 s.va, .int .i64 s.ma, .int .i64 s.tr] 26) := ⟨_, rfl⟩
  obtain ⟨hb, hx⟩ := Blk13.box w s _ hW
  obtain ⟨c0, c1, c2, c3, c4⟩ := (hx W (Below.refl _ _)).cells
  have HB := Lib.hid hb
  have l0 := hf.l0
  have l1 := hf.l1
  have r0 := hf.r0
  have r1 := hf.r1
  have sl := Sk.score_lo hf
  have hT : s.score = (65536 - s.lo) * 64 / (64 + s.rt) := rfl
  have d0 : ((65536 - s.lo) * 64).tdiv (64 + s.rt) = s.score := by rw [hT]; exact Int.tdiv_eq_ediv_of_nonneg (by omega)
  have d1 : ((65536 - s.lo) * 64) / (64 + s.rt) = s.score := rfl
  have hz : ¬ 64 + s.rt = 0 := by omega
  unfold SV
  clear hb hx hf hT
  generalize s.score = sc at *
  generalize s.rt = rt at *
  generalize s.va = va at *
  generalize s.tr = tr at *
  generalize s.ma = ma at *
  generalize s.lo = lo at *
  go_enter Try.func12, Try.ntmps12
  go_upto_region 1 with fail
  rw [← hW]
  clear hW
  go_wp2
  go_ret
  exact ⟨ret_int (by omega), HB.out⟩
set_option maxRecDepth 100000 in
theorem rneed13_any (s : Sk) (i : Nat) (hf : s.fit i) (n l : Int) (n0 : 0 ≤ n) (n1 : n ≤ 1000) (l1 : l ≤ 1000) (w : World) :
    Calls Try.prog 14 #[SV s, .int .i64 n, .int .i64 l] w fun e w' => e = .returned (.int .i64 (s.need n l)) ∧ Below w.heap.size w w' := by
  obtain ⟨W, hW⟩ : ∃ W, W = w.alloc (.cells #[.int .i64 s.lo, .int .i64 s.rt, .int .i64 s.va, .int .i64 s.ma, .int .i64 s.tr] 26) := ⟨_, rfl⟩
  obtain ⟨hb, hx⟩ := Blk13.box w s _ hW
  obtain ⟨c0, c1, c2, c3, c4⟩ := (hx W (Below.refl _ _)).cells
  have HB := Lib.hid hb
  have lo0 := hf.l0
  have lo1 := hf.l1
  have HT := Lib.hid (fun m (hm : (0 : Int) ≤ m) => Sk.need_try hf n l m n0 hm)
  obtain ⟨d0, d1⟩ := Sk.need_lo hf n l
  have d2 : s.need n l ≤ 1000 := by
    have : (if l < 0 then (0 : Int) else l) ≤ 1000 := by split <;> omega
    omega
  unfold SV
  clear hb hx hf d1
  generalize s.need n l = nd at *
  generalize s.rt = rt at *
  generalize s.va = va at *
  generalize s.tr = tr at *
  generalize s.ma = ma at *
  generalize s.lo = lo at *
  go_enter Try.func14, Try.ntmps14
  go_upto_region 1 with fail
  rw [← hW]
  clear hW
  go_wp2
  go_loopw [7] (fun i wr => ∃ (m : Nat), i = .int .i64 (m : Int) ∧ Hid ((m : Int) ≤ nd) ∧ Hid (wr = W)) (fun i _ => nd.toNat - (intOf i).toNat)
  case atStart => exact ⟨0, rfl, Lib.hid (by omega), Lib.hid rfl⟩
  case round =>
    obtain ⟨m, rfl, HM, HW⟩ := hrel
    obtain rfl := HW.out
    have hm := HM.out
    obtain ⟨ht, he⟩ := HT.out (m : Int) (by omega)
    have b0 : (0 : Int) ≤ (m : Int) := by omega
    have b1 : (m : Int) ≤ 1000 := by omega
    have p0 : 0 ≤ (m : Int) * (65536 - lo) := Int.mul_nonneg b0 (by omega)
    have p1 : (m : Int) * (65536 - lo) ≤ 1000 * 65536 := Int.mul_le_mul b1 (by omega) (by omega) (by omega)
    have wr1 : IntKind.i64.wrap ((m : Int) * (65536 - lo)) = (m : Int) * (65536 - lo) := by rw [IntKind.wrap_i64]; omega
    by_cases hlt : (m : Int) < nd
    · obtain ⟨h1, h2⟩ := ht hlt
      have HN : Hid (((m + 1 : Nat) : Int) ≤ nd) := Lib.hid (by push_cast; omega)
      have HD : Hid (nd.toNat - (m + 1) < nd.toNat - m) := Lib.hid (by omega)
      clear ht he hlt hm d0 d2
      go_wp2
      go_roundw
      case rel => exact ⟨m + 1, by go_num, HN, Lib.hid True.intro⟩
      case measure => have := HD.out; simp [intOf] <;> omega
    · have hnd : (m : Int) = nd := by omega
      have hn := he hnd
      have hcs : ¬ (m : Int) < l ∨ ((m : Int) < l ∧ ¬ (m : Int) * (65536 - lo) < n * 65536) := by omega
      have HE := Lib.hid hnd
      clear ht he hn hlt hm d0 d2 hnd
      rcases hcs with h1 | ⟨h1, h2⟩
      all_goals
        go_wp2
        go_ret
        exact ⟨ret_int HE.out, HB.out⟩
set_option maxRecDepth 100000 in
set_option maxHeartbeats 1000000 in
theorem same13_any (s : Sk) (w : World) :
    Calls Try.prog 20 #[SV s, SV s] w fun e w' => e = .returned (.bool true) ∧ Below w.heap.size w w' := by
  obtain ⟨W, hW⟩ : ∃ W, W = (w.alloc (.cells #[.int .i64 s.lo, .int .i64 s.rt, .int .i64 s.va, .int .i64 s.ma, .int .i64 s.tr] 25)).alloc (.cells #[.int .i64 s.lo, .int .i64 s.rt, .int .i64 s.va, .int .i64 s.ma, .int .i64 s.tr] 26) := ⟨_, rfl⟩
  obtain ⟨hb, hx⟩ := Blk13.two w s s _ _ hW
  obtain ⟨hx0, hz0⟩ := hx W (Below.refl _ _)
  have HB := Lib.hid hb
  obtain ⟨c0, c1, c2, c3, c4⟩ := hx0.cells
  obtain ⟨d0, d1, d2, d3, d4⟩ := hz0.cells
  have k0 : (s.lo == s.lo) = true := by simp
  have k1 : (s.rt == s.rt) = true := by simp
  have k2 : (s.va == s.va) = true := by simp
  have k3 : (s.ma == s.ma) = true := by simp
  have k4 : (s.tr == s.tr) = true := by simp
  unfold SV
  clear hb hx hx0 hz0
  generalize s.lo = lo at *
  generalize s.rt = rt at *
  generalize s.va = va at *
  generalize s.ma = ma at *
  generalize s.tr = tr at *
  go_enter Try.func20, Try.ntmps20
  go_upto_region 1 with fail
  rw [← hW]
  clear hW
  go_wp2
  go_ret
  exact ⟨rfl, HB.out⟩
end Go.Proofs.Ytglopddibopjmaa
