/-
  Own text: layer 18 (reasm): the law ReasmPrefix, walked.
-/
import Derived.Test.YtjcbcdjfhcnhcaaK24
import Derived.Test.YtjcbcdjfhcnhcaaK25
namespace Go.Proofs.Ytjcbcdjfhcnhcaa
open Go.RowKit
theorem Ins.take18 {w : World} {a : Option Addr} {n m : Nat} {l : List Int} (h : Ins w a n l) (hm : m ≤ n) : Ins w a m (l.take m) := by
  refine ⟨by rw [List.length_take, h.1]; omega, ?_⟩
  rcases h.2 with h0 | ⟨g, off, e, hg, hc⟩
  · exact .inl (by omega)
  · refine .inr ⟨g, off, e, hg, fun i hi => ?_⟩
    rw [hc i (by omega), List.getD_eq_getElem?_getD, List.getD_eq_getElem?_getD, List.getElem?_take_of_lt hi]
theorem dg_take18 {g : Gs} {G : Nat} {e : El} {w : World} {b t base n : Nat} {O : Nat → Prop} {S : Wn} (hg : g.ok) (he : e.ok g G w) (hG : G ≤ 30) (h : CW w b t base O none S) (hS : S.ok n) (hn : n ≤ 299) (hst : S.next = none) (hi : g.st e.i < 4294967296) :
    Calls Try.prog 20 #[.pointer (some ⟨b, 0, none⟩), .agg (El.cells g e)] w (TakeTo b t base O S (e.cd g) w) :=
  take18 b t base n O S (e.kd g) 0 0 0 0 (g.kk e.i : Nat) (g.M : Nat) (e.x : Nat) e.i (g.st e.i) (some ⟨e.a, e.o, none⟩) 2 e.c (g.by_ e.i e.x 0) (g.by_ e.i e.x 1) w h hS hn hst (by have := he.1; omega) hi (g.by_le _ _ _) (g.by_le _ _ _) (fun _ => ⟨e.a, e.o, rfl, he.2.2.1, by rw [Int.toNat_natCast]; exact he.2.2.2.2⟩)
end Go.Proofs.Ytjcbcdjfhcnhcaa
