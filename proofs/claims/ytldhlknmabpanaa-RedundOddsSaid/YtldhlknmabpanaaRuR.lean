/-
  Own text: law RedundOdds, walked.
-/
import Derived.Test.YtldhlknmabpanaaRuP
import Derived.Test.YtldhlknmabpanaaRuT
namespace Go.Proofs.Ytldhlknmabpanaa
open Go.RowKit

set_option maxRecDepth 100000 in
theorem odds16_walk (s n l : Int) (w : World) :
    Calls Try.prog 6 #[.int .i64 s, .int .i64 n, .int .i64 l] w (Yes16 w) := by
  have C1 := Lib.hid (fun w => odds_any s n l w)
  have C2 := Lib.hid (fun w => rodds_any s n l w)
  have C3 := Lib.hid (fun w => odds_any s (n + 1) l w)
  have C0 := Lib.hid (fun w => awake16_any w)
  obtain ⟨t0, t1⟩ := odds16_lo s n l
  have HM := odds16_mono s n l
  generalize odds16 s n l = T at *
  generalize odds16 s (n + 1) l = T' at *
  have n1 : (T != T) = false := by simp
  have n2 : ¬ T < 0 := by omega
  have n3 : ¬ 65536 < T := by omega
  go_enter Try.func6, Try.ntmps6
  go_upto_region 6 with (first
    | (go_at_call 7; (with_reducible refine (C0.out _).mono ?_); rintro e w1 ⟨rfl, HB1⟩)
    | (go_at_call 13; (with_reducible refine (C1.out _).mono ?_); rintro e w2 ⟨rfl, HB2⟩)
    | (go_at_call 14; (with_reducible refine (C2.out _).mono ?_); rintro e w3 ⟨rfl, HB3⟩)
    | fail)
  have HB := Lib.hid (below_16 (below_16 HB1 HB1.size HB2) (below_16 HB1 HB1.size HB2).size HB3)
  clear HB1 HB2 HB3
  by_cases h1 : n < 0
  · go_wp2
    go_ret
    exact ⟨rfl, HB.out⟩
  · by_cases h2 : 40 < n
    · go_wp2
      go_ret
      exact ⟨rfl, HB.out⟩
    · go_wp2_with (first
        | (go_at_call 13; (with_reducible refine (C3.out _).mono ?_); rintro e w4 ⟨rfl, HB4⟩)
        | fail)
      go_ret
      exact ⟨rfl, below_16 HB.out HB.out.size HB4⟩
end Go.Proofs.Ytldhlknmabpanaa
