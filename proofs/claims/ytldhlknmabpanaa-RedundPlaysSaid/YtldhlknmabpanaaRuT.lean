/-
  Own text: law RedundTargets, walked.
-/
import Derived.Test.YtldhlknmabpanaaRuB
namespace Go.Proofs.Ytldhlknmabpanaa
open Go.RowKit

/-- The law answers true; only new blocks were made. -/
def Yes16 (w : World) (e : Ending) (w' : World) : Prop := e = .returned (.bool true) ∧ Below w.heap.size w w'
theorem below_16 {B : Nat} {w W w' : World} (h : Below B w W) (hB : B ≤ W.heap.size) (k : Below W.heap.size W w') : Below B w w' := h.trans (k.mono hB)
set_option maxRecDepth 100000 in
theorem targets16_walk (k l m : Int) (w : World) :
    Calls Try.prog 4 #[.int .i64 k, .int .i64 l, .int .i64 m] w (Yes16 w) := by
  have C1 := Lib.hid (fun w => target_any k l m w)
  have C2 := Lib.hid (fun w => rtarget_any k l m w)
  have C3 := Lib.hid (fun w => target_any k (l + 1) m w)
  have C0 := Lib.hid (fun w => awake16_any w)
  have ht := tgt_lo k l m
  have HM := Lib.hid (tgt_mono k l m)
  generalize tgt k l m = T at *
  generalize tgt k (l + 1) m = T' at *
  have t0 : (0 : Int) ≤ T := ht.1
  have n1 : (T != T) = false := by simp
  have n2 : ¬ T < 0 := by omega
  go_enter Try.func4, Try.ntmps4
  go_upto_region 4 with (first
    | (go_at_call 7; (with_reducible refine (C0.out _).mono ?_); rintro e w1 ⟨rfl, HB1⟩)
    | (go_at_call 11; (with_reducible refine (C1.out _).mono ?_); rintro e w2 ⟨rfl, HB2⟩)
    | fail)
  have HB := Lib.hid (below_16 HB1 HB1.size HB2)
  clear HB1 HB2
  have part : (m < 0 ∧ T = 0) ∨ (¬ m < 0 ∧ T ≤ m) := by
    by_cases h : m < 0
    · exact .inl ⟨h, by omega⟩
    · exact .inr ⟨h, by omega⟩
  rcases part with ⟨hm, rfl⟩ | ⟨hm, ht2⟩
  all_goals
    go_upto_region 6 with (first
      | (go_at_call 12; (with_reducible refine (C2.out _).mono ?_); rintro e w3 ⟨rfl, HB3⟩)
      | fail)
    by_cases h1 : l < 0
    · go_wp2
      go_ret
      exact ⟨rfl, below_16 HB.out HB.out.size HB3⟩
    · by_cases h2 : 65534 < l
      · go_wp2
        go_ret
        exact ⟨rfl, below_16 HB.out HB.out.size HB3⟩
      · have h3 := HM.out (by omega) (by omega)
        go_wp2_with (first
          | (go_at_call 11; (with_reducible refine (C3.out _).mono ?_); rintro e w4 ⟨rfl, HB4⟩)
          | fail)
        go_ret
        exact ⟨rfl, below_16 (below_16 HB.out HB.out.size HB3) (below_16 HB.out HB.out.size HB3).size HB4⟩
end Go.Proofs.Ytldhlknmabpanaa
