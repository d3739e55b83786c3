/-
  Own text: the document's Trip, walked.
  the document's Wait, Score, Need; the law's Same, walked.
-/
import Derived.Test.YtjcbcdjfhcnhcaaRuF
import Derived.Deep.DeepCutAuto
namespace Go.Proofs.Ytjcbcdjfhcnhcaa
open Go.RowKit

theorem trip8_is (t : Int) : (t < 0 → trip8 t = 0) ∧ (¬ t < 0 → 2000 < t → trip8 t = 16000) ∧ (¬ t < 0 → ¬ 2000 < t → trip8 t = 8 * t) := by
  unfold trip8
  refine ⟨fun h => by rw [if_pos h]; rfl, fun h k => by rw [if_neg h, if_pos k]; rfl, fun h k => by rw [if_neg h, if_neg k]⟩
end Go.Proofs.Ytjcbcdjfhcnhcaa
namespace Go.Proofs.Ytjcbcdjfhcnhcaa
open Go.RowKit

end Go.Proofs.Ytjcbcdjfhcnhcaa
