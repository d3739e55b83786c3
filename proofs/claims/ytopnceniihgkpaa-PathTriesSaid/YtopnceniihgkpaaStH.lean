/-
  Own text: the document's Wait, Score, Need; the law's Same, walked.
-/
import Derived.Test.YtopnceniihgkpaaStG
import Derived.Test.YtopnceniihgkpaaStE
namespace Go.Proofs.Ytopnceniihgkpaa
open Go.RowKit

set_option maxRecDepth 100000 in
theorem rscore13_any (s : Sk) (i : Nat) (hf : s.fit i) (w : World) :
    Calls Try.prog 39 #[SV s] w fun e w' => e = .returned (.int .i64 s.score) ∧ Below w.heap.size w w' := by
  obtain ⟨W, hW⟩ : ∃ W, W = w.alloc (.cells #[.int .i64 s.lo, .int .i64 s.rt, .int .i64 s.va, .int .i64 s.ma, .int .i64 s.tr] 32) := ⟨_, rfl⟩
  obtain ⟨hb, hx⟩ := Blk13.box w s _ hW
  obtain ⟨c0, c1, c2, c3, c4⟩ := (hx W (Below.refl _ _)).cells
  have HB := Lib.hid hb
  have l0 := hf.l0
  have l1 := hf.l1
  have r0 := hf.r0
  have r1 := hf.r1
  have sl := Sk.score_lo hf
  have hT : s.score = (65536 - s.lo) * 64 / (64 + s.rt) := rfl
  have d0 : ((65536 - s.lo) * 64).tdiv (64 + s.rt) = s.score := by rw [hT]; exact Int.tdiv_eq_ediv_of_nonneg (by omega)
  have d1 : ((65536 - s.lo) * 64) / (64 + s.rt) = s.score := rfl
  have hz : ¬ 64 + s.rt = 0 := by omega
  unfold SV
  clear hb hx hf hT
  generalize s.score = sc at *
  generalize s.rt = rt at *
  generalize s.va = va at *
  generalize s.tr = tr at *
  generalize s.ma = ma at *
  generalize s.lo = lo at *
  go_enter Try.func39, Try.ntmps39
  go_upto_region 1 with fail
  rw [← hW]
  clear hW
  go_wp2
  go_ret
  exact ⟨ret_int (by omega), HB.out⟩
set_option maxRecDepth 100000 in
set_option maxHeartbeats 1000000 in
theorem same13_any (s : Sk) (w : World) :
    Calls Try.prog 33 #[SV s, SV s] w fun e w' => e = .returned (.bool true) ∧ Below w.heap.size w w' := by
  obtain ⟨W, hW⟩ : ∃ W, W = (w.alloc (.cells #[.int .i64 s.lo, .int .i64 s.rt, .int .i64 s.va, .int .i64 s.ma, .int .i64 s.tr] 25)).alloc (.cells #[.int .i64 s.lo, .int .i64 s.rt, .int .i64 s.va, .int .i64 s.ma, .int .i64 s.tr] 32) := ⟨_, rfl⟩
  obtain ⟨hb, hx⟩ := Blk13.two w s s _ _ hW
  obtain ⟨hx0, hz0⟩ := hx W (Below.refl _ _)
  have HB := Lib.hid hb
  obtain ⟨c0, c1, c2, c3, c4⟩ := hx0.cells
  obtain ⟨d0, d1, d2, d3, d4⟩ := hz0.cells
  have k0 : (s.lo == s.lo) = true := by simp
  have k1 : (s.rt == s.rt) = true := by simp
  have k2 : (s.va == s.va) = true := by simp
  have k3 : (s.ma == s.ma) = true := by simp
  have k4 : (s.tr == s.tr) = true := by simp
  unfold SV
  clear hb hx hx0 hz0
  generalize s.lo = lo at *
  generalize s.rt = rt at *
  generalize s.va = va at *
  generalize s.ma = ma at *
  generalize s.tr = tr at *
  go_enter Try.func33, Try.ntmps33
  go_upto_region 1 with fail
  rw [← hW]
  clear hW
  go_wp2
  go_ret
  exact ⟨rfl, HB.out⟩
end Go.Proofs.Ytopnceniihgkpaa
