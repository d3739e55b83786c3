/-
  Own text: the law's same, walked.
-/
import Derived.Test.YtbbdkkjbcpkplaaPcD
namespace Go.Proofs.Ytbbdkkjbcpkplaa
open Go.RowKit

set_option maxRecDepth 100000 in
set_option maxHeartbeats 1000000 in
theorem same12_any (b : Nat) (k : Bk) (w : World) (h : KBlk 33 w b k) :
    Calls Try.prog 19 #[.pointer (some ⟨b, 0, none⟩), KV k] w fun e w' => e = .returned (.bool true) ∧ Below w.heap.size w w' := by
  obtain ⟨W, hW⟩ : ∃ W, W = w.alloc (.cells #[.int .i64 k.ra, .int .i64 k.bu, .int .i64 k.he, .int .i64 k.sp, .int .i64 k.fu] 26) := ⟨_, rfl⟩
  have hb : Below w.heap.size w W := by rw [hW]; exact (Below.refl w.heap.size w).alloc (Nat.le_refl _) _
  have hx : KBlk 26 W w.heap.size k := by rw [hW]; exact KBlk.new w k _
  have hk := h.below hb h.lt
  have HB := Lib.hid hb
  obtain ⟨c0, c1, c2, c3, c4⟩ := hx.cells
  obtain ⟨d0, d1, d2, d3, d4⟩ := hk.cells
  have k0 : (k.ra == k.ra) = true := by simp
  have k1 : (k.bu == k.bu) = true := by simp
  have k2 : (k.he == k.he) = true := by simp
  have k3 : (k.sp == k.sp) = true := by simp
  have k4 : (k.fu == k.fu) = true := by simp
  unfold KV
  clear hb hx hk h
  generalize k.he = he at *
  generalize k.ra = ra at *
  generalize k.bu = bu at *
  generalize k.sp = sp at *
  generalize k.fu = fu at *
  go_enter Try.func19, Try.ntmps19
  go_upto_region 1 with fail
  rw [← hW]
  clear hW
  go_quiet (fail)
  go_wp2
  go_ret
  exact ⟨rfl, below_drewN HB.out _⟩
end Go.Proofs.Ytbbdkkjbcpkplaa
