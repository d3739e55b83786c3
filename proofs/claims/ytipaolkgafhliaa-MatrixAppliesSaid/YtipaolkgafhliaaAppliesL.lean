/-
  Own text: the law MatrixApplies, walked, whatever comes in.
-/
import Derived.Test.YtipaolkgafhliaaApplA
import Derived.Test.YtipaolkgafhliaaApplB
import Derived.Test.YtipaolkgafhliaaApplC
import Derived.Test.YtipaolkgafhliaaApplD
import Derived.Test.YtipaolkgafhliaaApplE
namespace Go.Proofs.Ytipaolkgafhliaa
open Go.RowKit

theorem applies_walk (r c : Int) (a aC : Option Addr) (n cap N capC : Nat) (zs : List Int) (A : Nat → Option Addr) (L C : Nat → Nat) (X : Nat → List Int) (w : World) (hz : IsRow .u8 w a n cap zs) (hc : ColsIn w aC N capC A L C X) :
    Calls Try.prog 9 #[.agg #[.int .i64 r, .int .i64 c, .slice a n cap], .slice aC N capC] w fun e w' => e = .returned (.bool true) ∧ Below w.heap.size w w' := by
  by_cases hs : SmallM r c n
  case neg => exact appl_great r c a aC n cap N capC w (.inl hs)
  by_cases hN : N ≤ 30
  case neg => exact appl_great r c a aC n cap N capC w (.inr (by omega))
  by_cases hl : ∃ k, k < N ∧ 60 < L k
  · exact appl_long r c a aC n cap N capC A L C X w hs hN hc hl
  have h60 : ∀ k, k < N → L k ≤ 60 := fun k hk => by
    refine Classical.byContradiction fun g => hl ⟨k, hk, by omega⟩
  by_cases hf : RightM r c n ∧ (N : Int) = c
  case neg => exact appl_size r c a aC n cap N capC A L C X w hs hN hc hf
  obtain ⟨h1, rfl⟩ := hf
  obtain ⟨R, rfl⟩ : ∃ m : Nat, r = m := ⟨r.toNat, by have := h1.1; omega⟩
  have hm : n = R * N := by have := h1.2.2; rw [← Int.natCast_mul] at this; omega
  have hR : R ≤ 255 := by have := h1.1; omega
  by_cases he : ∃ k, k < N ∧ L k ≠ L 0
  · exact appl_len R N n cap capC hR (by omega) hm a aC A L C X w hs hN hc he
  have he2 : ∀ k, k < N → L k = L 0 := fun k hk => Classical.byContradiction fun g => he ⟨k, hk, g⟩
  by_cases h0 : N = 0
  · exact appl_nil R N n cap capC hR (by omega) hm a aC _ A L C X w hs hN hz.sl hc he2 h60 h0
  · exact appl_fit R N n cap capC hR (by omega) hm a aC _ A L C X w hs hN hz.sl hc he2 h60 (by omega)
end Go.Proofs.Ytipaolkgafhliaa
