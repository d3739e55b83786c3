/-
  Own text: layer 17 (group): New, Add, Tick, walked.
-/
import Derived.Test.YtjcbcdjfhcnhcaaGrF
namespace Go.Proofs.Ytjcbcdjfhcnhcaa
open Go.RowKit

theorem gnew_no (p : Value) (size age most : Int) (h : ¬ (1 ≤ size ∧ size ≤ 16 ∧ 1 ≤ age ∧ age ≤ 4096 ∧ 0 ≤ most ∧ most ≤ 16)) (w : World) :
    Calls Try.prog 27 #[p, .int .i64 size, .int .i64 age, .int .i64 most] w fun e w' => e = .returned (.tuple #[.pointer none, .int .i64 1]) ∧ w = w' := by
  have hc : size < 1 ∨ ¬ size < 1 ∧ 16 < size ∨ ¬ size < 1 ∧ ¬ 16 < size ∧ age < 1 ∨ ¬ size < 1 ∧ ¬ 16 < size ∧ ¬ age < 1 ∧ 4096 < age ∨ ¬ size < 1 ∧ ¬ 16 < size ∧ ¬ age < 1 ∧ ¬ 4096 < age ∧ (most < 0 ∨ 16 < most) := by omega
  clear h
  rcases hc with h1 | ⟨h1, h2⟩ | ⟨h1, h2, h3⟩ | ⟨h1, h2, h3, h4⟩ | ⟨h1, h2, h3, h4, h5⟩
  case inr.inr.inr.inr =>
    have CN := Lib.hid (new16_no most h5 w)
    clear h5
    go_enter Try.func27, Try.ntmps27
    go_wp2_with (first
      | (go_at_call 61; (with_reducible refine CN.out.mono ?_); rintro e w1 ⟨rfl, rfl⟩)
      | fail)
    go_ret2
    exact ⟨rfl, rfl⟩
  all_goals
    go_enter Try.func27, Try.ntmps27
    go_wp2
    go_ret2
    exact ⟨rfl, rfl⟩
/-- A builder that is new. -/
def Bd.new (size age : Nat) (most : Int) : Bd := ⟨size, age, ⟨0, most, 0⟩, 0, 0, 0, []⟩
theorem Bd.new_ok {size age : Nat} {most : Int} (h1 : 1 ≤ size) (h2 : size ≤ 16) (h3 : 1 ≤ age) (h4 : age ≤ 4096) (h5 : 0 ≤ most) (h6 : most ≤ 16) : (Bd.new size age most).ok 0 :=
  ⟨h1, h2, h4, ⟨Int.le_refl _, h5, h6, Int.le_refl _, by show (0 : Int) ≤ 7; omega⟩, by show 0 < age; omega, by show 0 < size; omega, Nat.le_refl _, Nat.le_refl _, Nat.le_refl _, fun z hz => by cases hz⟩
theorem gnew_yes (t size age : Nat) (most : Int) (h1 : 1 ≤ size) (h2 : size ≤ 16) (h3 : 1 ≤ age) (h4 : age ≤ 4096) (h5 : 0 ≤ most) (h6 : most ≤ 16) (B : Nat) (w : World) (hB : B ≤ w.heap.size) (ht : IsTab w t) :
    Calls Try.prog 27 #[.pointer (some ⟨t, 0, none⟩), .int .i64 size, .int .i64 age, .int .i64 most] w fun e w' => ∃ b c, e = .returned (.tuple #[.pointer (some ⟨b, 0, none⟩), .int .i64 0]) ∧ Hid (BSt w' B b c t none 0 (Bd.new size age most)) ∧ Hid (Below w.heap.size w w') := by
  have CN := Lib.hid (new16_yes most h5 h6 w)
  have HT := Lib.hid ht
  have HBB := Lib.hid hB
  have k1 : ¬ (size : Int) < 1 := by omega
  have k2 : ¬ (16 : Int) < size := by omega
  have k3 : ¬ (age : Int) < 1 := by omega
  have k4 : ¬ (4096 : Int) < age := by omega
  clear ht hB h1 h2 h3 h4 h5 h6
  go_enter Try.func27, Try.ntmps27
  go_wp2_with (first
    | (go_at_call 61; (with_reducible refine CN.out.mono ?_); rintro e w1 ⟨c, rfl, HC, HB1⟩)
    | fail)
  go_ret2
  have hp := below_put w1 (.cells #[.pointer (some ⟨t, 0, none⟩), .int .i64 size, .int .i64 age, .pointer (some ⟨c, 0, none⟩), .slice none 0 0, .int .i64 0, .int .i64 0, .int .i64 0] 133)
  exact ⟨w1.heap.size, c, rfl, Lib.hid ⟨Nat.le_trans HBB.out HB1.out.size, Nat.le_trans HBB.out HC.out.1, Go.Deep.blk_alloc_new w1 _, HC.out.2.below hp HC.out.2.lt, (HT.out.below HB1.out HT.out.lt).below hp (HT.out.below HB1.out HT.out.lt).lt, OwnU.none _ _⟩, Lib.hid (b_on HB1.out hp)⟩
end Go.Proofs.Ytjcbcdjfhcnhcaa
