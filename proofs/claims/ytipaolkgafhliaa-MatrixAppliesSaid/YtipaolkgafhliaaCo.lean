/-
  Own text: lists of bytes by their elements. Plain lists.
-/
import Derived.Test.YtipaolkgafhliaaPolM
import Derived.Test.YtipaolkgafhliaaGfR3
namespace Go.Proofs.Ytipaolkgafhliaa
open Go.RowKit

/-- A coefficient. -/
def co (l : List Int) (i : Nat) : Nat := (l.getD i 0).toNat
/-- Bytes. -/
def By (l : List Int) : Prop := ∀ z ∈ l, 0 ≤ z ∧ z ≤ 255
theorem By.at_ {l : List Int} (h : By l) (i : Nat) : 0 ≤ l.getD i 0 ∧ l.getD i 0 ≤ 255 := by
  by_cases g : i < l.length
  · rw [List.getD_eq_getElem?_getD, List.getElem?_eq_getElem g]; exact h _ (List.getElem_mem _)
  · rw [List.getD_eq_getElem?_getD, List.getElem?_eq_none (by omega)]; simp
theorem By.get {l : List Int} (h : By l) (i : Nat) : l.getD i 0 = (co l i : Int) := by have := h.at_ i; unfold co; omega
theorem By.lt {l : List Int} (h : By l) (i : Nat) : co l i < 256 := by have := h.at_ i; unfold co; omega
theorem By.zero {l : List Int} (h : By l) (i : Nat) : l.getD i 0 = 0 ↔ co l i = 0 := by have := h.at_ i; unfold co; omega
theorem By.take {l : List Int} (h : By l) (k : Nat) : By (l.take k) := fun z hz => h z (List.mem_of_mem_take hz)
theorem By.nil : By [] := fun _ h => by simp at h
theorem co_nil (i : Nat) : co [] i = 0 := by simp [co]
theorem co_out {l : List Int} {i : Nat} (h : l.length ≤ i) : co l i = 0 := by unfold co; rw [List.getD_eq_getElem?_getD, List.getElem?_eq_none h]; rfl
theorem co_sup (l : List Int) : Sup (co l) l.length := fun _ h => co_out h
theorem co_take (l : List Int) (k i : Nat) (h : i < k) : co (l.take k) i = co l i := by
  unfold co; simp [List.getD_eq_getElem?_getD, List.getElem?_take, h]
theorem list_co {x y : List Int} (hx : By x) (hy : By y) (hn : x.length = y.length) (h : ∀ i, i < x.length → co x i = co y i) : x = y :=
  same_getD hn (fun i hi => by rw [hx.get, hy.get, h i hi])
/-- A list by its coefficients. -/
def ofF (f : Nat → Nat) (n : Nat) : List Int := (List.range n).map (fun i => (f i : Int))
theorem ofF_length (f : Nat → Nat) (n : Nat) : (ofF f n).length = n := by simp [ofF]
theorem ofF_get (f : Nat → Nat) (n i : Nat) (h : i < n) : (ofF f n).getD i 0 = (f i : Int) := by simp [ofF, List.getD_eq_getElem?_getD, h]
theorem ofF_co (f : Nat → Nat) (n i : Nat) (h : i < n) : co (ofF f n) i = f i := by unfold co; rw [ofF_get f n i h]; simp
theorem ofF_by {f : Nat → Nat} (h : ∀ i, f i < 256) (n : Nat) : By (ofF f n) := fun z hz => by
  obtain ⟨i, _, rfl⟩ := List.mem_map.1 hz
  have := h i
  show (0 : Int) ≤ (f i : Int) ∧ (f i : Int) ≤ 255
  omega
theorem ofF_all {f : Nat → Nat} {n : Nat} (h : Sup f n) (i : Nat) : co (ofF f n) i = f i := by
  by_cases g : i < n
  · exact ofF_co f n i g
  · rw [co_out (by rw [ofF_length]; omega), h i (by omega)]
theorem ofF_succ (f : Nat → Nat) (n : Nat) : ofF f (n + 1) = ofF f n ++ [(f n : Int)] := by simp [ofF, List.range_succ]
theorem ofF_zero (f : Nat → Nat) : ofF f 0 = [] := rfl
theorem of_list {l : List Int} (h : By l) : ofF (co l) l.length = l :=
  list_co (ofF_by h.lt _) h (ofF_length _ _) (fun i hi => by rw [ofF_co _ _ _ (by rwa [ofF_length] at hi)])
end Go.Proofs.Ytipaolkgafhliaa
