/-
  Own text: a region that draws its order, at a class of worlds: guarded operations, loads and calls that make memory, one walk in the written order.
-/
import Derived.Test.YtopnceniihgkpaaGrow
namespace Go.Proofs.Ytopnceniihgkpaa
open Go

theorem wpIn_class {F : Fence} {n : Nat} {P : Program} {id : Nat} {Q : Exit → Act → World → Prop} {a : Act} {w : World} {l : List Oper} (C : World → Prop) (hC : C w.drew) (hro : F.round = none) (hm : P.follows .mixedOrders = true) (hB : Region.lexB .any l.toArray = true)
    (h : wpQuietIn F n P l.toArray C (fun a' => ∀ w', C w' → Q .normal a' w') l a) : (Code.region id l.toArray true).wpIn F n P Q a w :=
  wpIn_region_quiet (C := C) hro hm hB hC (by simpa using h)
/-- A guarded operation, whose guard is decided, that yields this value in every world of the class. -/
theorem wpQ_readw {F : Fence} {n : Nat} {P : Program} {ops : Array Oper} {C : World → Prop} {Q : Act → Prop} {a : Act} {o : Oper} {rest : List Oper} (v : Value) (ha : o.askedIn F P a C) (hg : Region.wanted o (yielded ops a.tmps) = true) (hv : ∀ w, C w → o.quietAtIn F n P a C w v) (h : wpQuietIn F n P ops C Q rest (a.put o.dst v)) : wpQuietIn F n P ops C Q (o :: rest) a :=
  ⟨ha, by rw [if_pos hg]; exact ⟨v, hv, h⟩⟩
/-- A guarded operation whose guard isn't met. -/
theorem wpQ_skip {F : Fence} {n : Nat} {P : Program} {ops : Array Oper} {C : World → Prop} {Q : Act → Prop} {a : Act} {o : Oper} {rest : List Oper} (ha : o.askedIn F P a C) (hg : Region.wanted o (yielded ops a.tmps) = false) (h : wpQuietIn F n P ops C Q rest (a.put o.dst undef)) : wpQuietIn F n P ops C Q (o :: rest) a :=
  ⟨ha, by rw [if_neg (by rw [hg]; decide)]; exact h⟩
end Go.Proofs.Ytopnceniihgkpaa
