/-
  Own text: sums of many; that it is a field, walked.
-/
import Derived.Test.YtipaolkgafhliaaGfE
import Derived.Test.YtipaolkgafhliaaByteA
import Derived.Deep.Cut
namespace Go.Proofs.Ytipaolkgafhliaa
open Go.RowKit

/-- The sum of many. -/
def xorL (l : List Int) : Nat := l.foldl (fun s z => s ^^^ z.toNat) 0
theorem xorL_snoc (l : List Int) (k : Nat) (h : k < l.length) : xorL (l.take (k + 1)) = xorL (l.take k) ^^^ (l.getD k 0).toNat := by
  unfold xorL
  rw [List.take_succ_eq_append_getElem h, List.foldl_append, List.getD_eq_getElem?_getD, List.getElem?_eq_getElem h]
  rfl
theorem xorL_lt (l : List Int) (h : ∀ z ∈ l, 0 ≤ z ∧ z ≤ 255) : xorL l < 256 := by
  have aux : ∀ (l : List Int) (s : Nat), s < 2 ^ 8 → (∀ z ∈ l, 0 ≤ z ∧ z ≤ 255) → l.foldl (fun s z => s ^^^ z.toNat) s < 2 ^ 8 := by
    intro l
    induction l with
    | nil => intro s hs _; exact hs
    | cons z l ih =>
      intro s hs hl
      have hz := hl z (by simp)
      exact ih _ (Nat.xor_lt_two_pow hs (by omega)) (fun y hy => hl y (by simp [hy]))
  exact aux l 0 (by omega) h
/-- The tables are there, and what was there is as it was. -/
def Kept (t : Nat) (w0 w : World) : Prop := IsTab w t ∧ Below w0.heap.size w0 w
theorem Kept.drewN {t : Nat} {w0 w : World} (h : Kept t w0 w) (n : Nat) : Kept t w0 (w.drewN n) := ⟨h.1, below_drewN h.2 n⟩
theorem Kept.alloc {t : Nat} {w0 w : World} (h : Kept t w0 w) (o : Obj) : Kept t w0 (w.alloc o) :=
  ⟨h.1.below ((Below.refl w.heap.size w).alloc (Nat.le_refl _) _) h.1.lt, h.2.alloc h.2.size _⟩
theorem kmul_any (t a b : Nat) (ha : a < 256) (hb : b < 256) (w0 w : World) (hk : Kept t w0 w) :
    Calls Try.prog 59 #[.pointer (some ⟨t, 0, none⟩), .int .u8 a, .int .u8 b] w fun e w' => e = .returned (.int .u8 (gm a b)) ∧ Kept t w0 w' :=
  (mul_any t a b ha hb w hk.1).mono fun _ _ ⟨h, n, e⟩ => ⟨h, by rw [e]; exact hk.drewN n⟩
end Go.Proofs.Ytipaolkgafhliaa
