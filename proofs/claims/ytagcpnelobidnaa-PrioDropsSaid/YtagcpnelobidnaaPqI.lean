/-
  Own text: a question that may panic, walked.
-/
import Derived.Test.YtagcpnelobidnaaPqH
import Derived.Recover
namespace Go.Proofs.Ytagcpnelobidnaa
open Go.RowKit

/-- What the law asks of a number. -/
def keeps (d : Int) (v : Int) : Bool := !(v.tmod d == 0)
theorem asks_any (v d : Int) (c : Nat) (hd : 1 ≤ d) (hdm : d ≤ 9223372036854775807) (w : World) (h : w.cell? ⟨c, 0, none⟩ = some (.int .i64 d)) :
    Calls Try.prog 28 #[.int .i64 v, .pointer (some ⟨c, 0, none⟩)] w fun e w' => e = .returned (.bool (keeps d v)) ∧ w' = w := by
  unfold keeps
  have h0 : ¬ d = 0 := by omega
  have h1 : ¬ d = -1 := by omega
  go_enter Try.func28, Try.ntmps28
  go_wp2
  go_ret
  exact ⟨rfl, rfl⟩
theorem idle_any (w : World) :
    CallsD Try.prog 42 #[] .returning w fun e u' w' => e = .returned (.tuple #[]) ∧ u' = .returning ∧ w' = w := by
  refine callsD_of_wpS Try.func42 rfl fun c₀ cs hu => ?_
  apply wpS_region
  simp [wpOpsS, go_sem, recoverD, hu, Try.ntmps42]
  cases c₀
  simp_all [bodyPostS, results, Try.results42]
theorem refused_any (v d : Int) (c : Nat) (hd : 1 ≤ d) (hdm : d ≤ 9223372036854775807) (w : World) (h : w.cell? ⟨c, 0, none⟩ = some (.int .i64 d)) :
    Calls Try.prog 37 #[.func (.func 28) #[] #[.pointer (some ⟨c, 0, none⟩)], .int .i64 v] w fun e w' => e = .returned (.bool (!keeps d v)) ∧ w' = w := by
  have CA := Lib.hid (asks_any v d c hd hdm w h)
  clear h hd hdm
  go_enter_defers Try.func37, Try.ntmps37
  go_wp2_with (first
    | (go_at_call 28; (with_reducible refine (CA.out).mono ?_); rintro e w1 ⟨rfl, rfl⟩)
    | fail)
  refine leaves_cons (f := 42) (args := #[]) (by simp) (by simp [go_sem]) ?_
  refine (idle_any _).mono ?_
  rintro e u' w'' ⟨rfl, rfl, rfl⟩
  exact ⟨_, results_tmp rfl _ _ _, rfl, rfl⟩
end Go.Proofs.Ytagcpnelobidnaa
