/-
  Own text: the document's Same on datagrams; Size, the document's Encode ahead; walked.
-/
import Derived.Test.YtjcbcdjfhcnhcaaByteA
import Derived.Test.YtjcbcdjfhcnhcaaByteC
namespace Go.Proofs.Ytjcbcdjfhcnhcaa
open Go.RowKit

set_option maxRecDepth 100000 in
set_option maxHeartbeats 4000000 in
theorem rsame7_true (kind ses seq path tick A B K M ix : Int) (da da' : Option Addr) (dl dc dc' : Nat) (l : List Int) (w : World) (hl : Bytes w da dl l) (hl' : Bytes w da' dl l) :
    Calls Try.prog 15 #[.agg #[.int .i64 kind, .int .u32 ses, .int .u32 seq, .int .i64 path, .int .u32 tick, .int .u32 A, .int .u32 B, .int .i64 K, .int .i64 M, .int .i64 ix, .slice da dl dc], .agg #[.int .i64 kind, .int .u32 ses, .int .u32 seq, .int .i64 path, .int .u32 tick, .int .u32 A, .int .u32 B, .int .i64 K, .int .i64 M, .int .i64 ix, .slice da' dl dc']] w fun e w' => e = .returned (.bool true) ∧ Below w.heap.size w w' := by
  have HS : Hid (∀ w', Below w.heap.size w w' → Calls Try.prog 39 #[.slice da dl dc, .slice da' dl dc'] w' fun e w'' => e = .returned (.bool true) ∧ Below w'.heap.size w' w'') :=
    Lib.hid (fun w' h => same_true da da' dl dl dc dc' l w' (hl.below h (Nat.le_refl _)) (hl'.below h (Nat.le_refl _)))
  clear hl hl'
  go_enter Try.func15, Try.ntmps15
  go_wp2_with first
    | (go_at_call 39; refine (HS.out _ (((Below.refl w.heap.size w).alloc (Nat.le_refl _) _).alloc (by simp) _)).mono ?_; rintro e w1 ⟨rfl, hb⟩)
  go_ret
  exact ⟨rfl, (((Below.refl w.heap.size w).alloc (Nat.le_refl _) _).alloc (by simp) _).trans (hb.mono (by simp; omega))⟩
end Go.Proofs.Ytjcbcdjfhcnhcaa
