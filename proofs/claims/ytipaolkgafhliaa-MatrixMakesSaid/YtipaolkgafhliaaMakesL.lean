/-
  Own text: the law MatrixMakes, walked, whatever comes in.
-/
import Derived.Test.YtipaolkgafhliaaMakesA
import Derived.Test.YtipaolkgafhliaaMakesB
import Derived.Test.YtipaolkgafhliaaMakesC
import Derived.Test.YtipaolkgafhliaaMakesD
namespace Go.Proofs.Ytipaolkgafhliaa
open Go.RowKit

theorem makes_walk (rows cols r c : Int) (a : Option Addr) (n cap : Nat) (zs : List Int) (w : World) (hz : IsRow .u8 w a n cap zs) :
    Calls Try.prog 3 #[.int .i64 rows, .int .i64 cols, .agg #[.int .i64 r, .int .i64 c, .slice a n cap]] w fun e w' => e = .returned (.bool true) ∧ Below w.heap.size w w' := by
  by_cases h : n ≤ 70000
  case neg => exact makes_great rows cols r c a n cap w (by omega)
  have hrows : (rows < 0 ∨ 255 < rows) ∨ (0 ≤ rows ∧ rows ≤ 255) := by omega
  have hcols : (cols < 0 ∨ 255 < cols) ∨ (0 ≤ cols ∧ cols ≤ 255) := by omega
  by_cases hr : RightM r c n
  case neg =>
    rcases hrows with h1 | h1
    · exact makes_a1 rows cols r c a n cap w h hr h1
    · rcases hcols with h2 | h2
      · exact makes_a2 rows cols r c a n cap w h hr h1 h2
      · exact makes_a3 rows cols r c a n cap w h hr h1 h2
  by_cases hc : cols < 0
  · rcases hrows with h1 | h1
    · exact makes_b1 rows cols r c a n cap w h hr hc h1
    · exact makes_b2 rows cols r c a n cap w h hr hc h1 (.inl hc)
  by_cases hk : r ≤ cols
  · rcases hrows with h1 | h1
    · exact makes_c1 rows cols r c a n cap w h hr hk h1
    · rcases hcols with h2 | h2
      · exact makes_c2 rows cols r c a n cap w h hr hk h1 h2
      · exact makes_c3 rows cols r c a n cap w h hr hk h1 h2
  have ha := hz.sl
  generalize zs.take n = l at ha
  obtain ⟨R, rfl⟩ : ∃ m : Nat, r = m := ⟨r.toNat, by have := hr.1; omega⟩
  obtain ⟨Cn, rfl⟩ : ∃ m : Nat, c = m := ⟨c.toNat, by have := hr.2.1; omega⟩
  obtain rfl : n = R * Cn := by have := hr.2.2; rw [← Int.natCast_mul] at this; omega
  obtain ⟨K, rfl⟩ : ∃ m : Nat, cols = m := ⟨cols.toNat, by omega⟩
  have hR : R ≤ 255 := by have := hr.1; omega
  have hC : Cn ≤ 255 := by have := hr.2.1; omega
  have hi : K < R := by omega
  cases a with
  | none =>
    rcases hrows with h1 | h1
    · exact makes_n1 rows R Cn K hR hC hi cap l w ha h1
    · exact makes_n3 rows R Cn K hR hC hi cap l w ha h1
  | some x =>
    rcases hrows with h1 | h1
    · exact makes_d1 rows R Cn K hR hC hi x cap l w ha h1
    · exact makes_d3 rows R Cn K hR hC hi x cap l w ha h1
end Go.Proofs.Ytipaolkgafhliaa
