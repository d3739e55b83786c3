/-
  Own text: the law WordClamps, walked.
-/
import Derived.Test.YtgihngmfplfgaaaWideD
import Derived.Test.YtgihngmfplfgaaaWordB
namespace Go.Proofs.Ytgihngmfplfgaaa
open Go.RowKit

theorem clamps_walk (n l h : Int) (w : World) (hn : -9223372036854775808 ≤ n) (hn' : n ≤ 9223372036854775807) :
    Calls Try.prog 6 #[.int .i64 n, .int .i64 l, .int .i64 h] w fun e w' => e = .returned (.bool true) ∧ Below w.heap.size w w' := by
  have c0 := fun w => rabs_any n w hn hn'
  have c1 := fun w => abs_any n w hn hn'
  have c2 := fun w => abs64_any n w hn hn'
  generalize absZ n = Z at *
  generalize clampZ n l h = C at *
  by_cases h0 : n < 0
  · have e : abs64Z n = -n := by unfold abs64Z; rw [if_pos h0]
    rw [e] at c2
    clear e
    have s : IntKind.u64.wrap (-n + IntKind.u64.wrap n) = 0 := by rw [IntKind.wrap_u64, IntKind.wrap_u64]; omega
    go_enter Try.func6, Try.ntmps6
    go_wp2_with (first
      | (go_at_call 12; refine (awake_any _).mono ?_; rintro e w' ⟨rfl, rfl⟩)
      | (go_at_call 24; refine (clamp_any _ _ _ _).mono ?_; rintro e w' ⟨rfl, rfl⟩)
      | (go_at_call 25; refine (rclamp_any _ _ _ _).mono ?_; rintro e w' ⟨rfl, rfl⟩)
      | (go_at_call 26; refine (c1 _).mono ?_; clear c1; rintro e w' ⟨rfl, rfl⟩)
      | (go_at_call 27; refine (c0 _).mono ?_; clear c0; rintro e w' ⟨rfl, hb⟩; have HB := Lib.hid hb; clear hb)
      | (go_at_call 28; refine (c2 _).mono ?_; clear c2; rintro e w' ⟨rfl, rfl⟩))
    go_ret
    exact ⟨rfl, HB.out⟩
  · have e : abs64Z n = n := by unfold abs64Z; rw [if_neg h0]
    rw [e] at c2
    clear e
    have s : IntKind.u64.wrap n = n := by rw [IntKind.wrap_u64]; omega
    go_enter Try.func6, Try.ntmps6
    go_wp2_with (first
      | (go_at_call 12; refine (awake_any _).mono ?_; rintro e w' ⟨rfl, rfl⟩)
      | (go_at_call 24; refine (clamp_any _ _ _ _).mono ?_; rintro e w' ⟨rfl, rfl⟩)
      | (go_at_call 25; refine (rclamp_any _ _ _ _).mono ?_; rintro e w' ⟨rfl, rfl⟩)
      | (go_at_call 26; refine (c1 _).mono ?_; clear c1; rintro e w' ⟨rfl, rfl⟩)
      | (go_at_call 27; refine (c0 _).mono ?_; clear c0; rintro e w' ⟨rfl, hb⟩; have HB := Lib.hid hb; clear hb)
      | (go_at_call 28; refine (c2 _).mono ?_; clear c2; rintro e w' ⟨rfl, rfl⟩))
    go_ret
    exact ⟨rfl, HB.out⟩
end Go.Proofs.Ytgihngmfplfgaaa
