/-
  Own text: law GroupMakes.
-/
import Derived.Test.YtjcbcdjfhcnhcaaGmH
namespace Go.Proofs.Ytjcbcdjfhcnhcaa
open Go.RowKit
theorem row_ins17 {w : World} {a : Option Addr} {n cap : Nat} {zs : List Int} (h : IsRow .u16 w a n cap zs) : Ins w a n (zs.take n) ∧ ∀ z ∈ zs.take n, 0 ≤ z ∧ z ≤ 65535 := by
  rcases h.at_ with h0 | ⟨h0, b, off, e, g⟩
  · subst h0
    exact ⟨⟨by simp, .inl rfl⟩, by simp⟩
  · have hs := g.size
    have hl := g.le
    have hlen : (zs.take n).length = n := by rw [List.length_take]; omega
    refine ⟨⟨hlen, .inr ⟨b, off, e, World.block_lt_of_cell? w _ (g.cell 0 h0), fun i hi => ?_⟩⟩, fun z hz => ?_⟩
    · rw [g.cell i hi]
      simp only [List.getD_eq_getElem?_getD, List.getElem?_take_of_lt hi]
    · obtain ⟨i, hi⟩ := List.mem_iff_getElem?.1 hz
      have hin : i < n := by have := (List.getElem?_eq_some_iff.1 hi).1; omega
      rw [List.getElem?_take_of_lt hin] at hi
      have hw := g.wf i hin
      rw [List.getD_eq_getElem?_getD, hi] at hw
      simp [Lit.wf, IntKind.min, IntKind.max, IntKind.signed, IntKind.bits] at hw
      omega
theorem makes17_walk (x y m : Int) (a : Option Addr) (n cap : Nat) (zs : List Int) (w : World) (h : IsRow .u16 w a n cap zs) :
    Calls Try.prog 3 #[.agg #[.int .u32 x, .int .u32 y], .int .i64 m, .slice a n cap] w fun e w' => e = .returned (.bool true) ∧ Below w.heap.size w w' := by
  by_cases hc : 1 ≤ n ∧ n ≤ 16 ∧ 0 ≤ m ∧ m ≤ 16
  · obtain ⟨k, rfl⟩ : ∃ k : Nat, m = k := ⟨m.toNat, by omega⟩
    obtain ⟨h1, h2⟩ := row_ins17 h
    exact makes17_good x y k n (n + k) cap a (zs.take n) w hc.1 hc.2.1 (by omega) h1 h2 rfl
  · exact makes17_bad x y m a n cap w hc
end Go.Proofs.Ytjcbcdjfhcnhcaa
