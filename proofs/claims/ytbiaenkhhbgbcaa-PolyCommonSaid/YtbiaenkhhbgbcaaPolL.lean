/-
  Own text: lists of bytes as polynomials. Plain lists.
-/
import Derived.Test.YtbiaenkhhbgbcaaPolM
import Derived.Test.YtbiaenkhhbgbcaaCut
namespace Go.Proofs.Ytbiaenkhhbgbcaa
open Go.RowKit

/-- A coefficient. -/
def co (l : List Int) (i : Nat) : Nat := (l.getD i 0).toNat
/-- Bytes. -/
def By (l : List Int) : Prop := ∀ z ∈ l, 0 ≤ z ∧ z ≤ 255
/-- Without the noughts at its end. -/
def tr (l : List Int) : List Int := l.take (dn l)
theorem By.at_ {l : List Int} (h : By l) (i : Nat) : 0 ≤ l.getD i 0 ∧ l.getD i 0 ≤ 255 := by
  by_cases g : i < l.length
  · rw [List.getD_eq_getElem?_getD, List.getElem?_eq_getElem g]; exact h _ (List.getElem_mem _)
  · rw [List.getD_eq_getElem?_getD, List.getElem?_eq_none (by omega)]; simp
theorem By.get {l : List Int} (h : By l) (i : Nat) : l.getD i 0 = (co l i : Int) := by have := h.at_ i; unfold co; omega
theorem By.lt {l : List Int} (h : By l) (i : Nat) : co l i < 256 := by have := h.at_ i; unfold co; omega
theorem By.zero {l : List Int} (h : By l) (i : Nat) : l.getD i 0 = 0 ↔ co l i = 0 := by have := h.at_ i; unfold co; omega
theorem By.take {l : List Int} (h : By l) (k : Nat) : By (l.take k) := fun z hz => h z (List.mem_of_mem_take hz)
theorem By.nil : By [] := fun _ h => by simp at h
theorem co_nil (i : Nat) : co [] i = 0 := by simp [co]
theorem co_out {l : List Int} {i : Nat} (h : l.length ≤ i) : co l i = 0 := by unfold co; rw [List.getD_eq_getElem?_getD, List.getElem?_eq_none h]; rfl
theorem co_sup (l : List Int) : Sup (co l) l.length := fun _ h => co_out h
theorem co_dn (l : List Int) : Sup (co l) (dn l) := fun i h => by unfold co; rw [dn_above l i h]; rfl
theorem co_take (l : List Int) (k i : Nat) (h : i < k) : co (l.take k) i = co l i := by
  unfold co; simp [List.getD_eq_getElem?_getD, List.getElem?_take, h]
theorem co_last {l : List Int} (hl : By l) (h : dn l ≠ 0) : co l (dn l - 1) ≠ 0 := fun e => dn_last l h ((hl.zero _).2 e)
theorem tr_length (l : List Int) : (tr l).length = dn l := by unfold tr; rw [List.length_take]; have := dn_le l; omega
theorem tr_by {l : List Int} (h : By l) : By (tr l) := h.take _
theorem co_tr (l : List Int) (i : Nat) : co (tr l) i = co l i := by
  by_cases h : i < dn l
  · exact co_take l _ i h
  · rw [co_out (by rw [tr_length]; omega), co_dn l i (by omega)]
theorem dn_of {l : List Int} (hl : By l) {n : Nat} (h : Sup (co l) n) (ht : n ≠ 0 → co l (n - 1) ≠ 0) : dn l = n := by
  rcases Nat.lt_trichotomy (dn l) n with g | g | g
  · exact absurd (co_dn l (n - 1) (by omega)) (ht (by omega))
  · exact g
  · exact absurd (h (dn l - 1) (by omega)) (co_last hl (by omega))
theorem dn_eq {x y : List Int} (hx : By x) (hy : By y) (h : ∀ i, co x i = co y i) : dn x = dn y :=
  dn_of hx (fun i hi => by rw [h]; exact co_dn y i hi) (fun e => by rw [h]; exact co_last hy e)
theorem dn_tr {l : List Int} (hl : By l) : dn (tr l) = dn l := dn_eq (tr_by hl) hl (co_tr l)
theorem list_co {x y : List Int} (hx : By x) (hy : By y) (hn : x.length = y.length) (h : ∀ i, i < x.length → co x i = co y i) : x = y :=
  same_getD hn (fun i hi => by rw [hx.get, hy.get, h i hi])
theorem tr_eq {x y : List Int} (hx : By x) (hy : By y) (h : ∀ i, co x i = co y i) : tr x = tr y :=
  list_co (tr_by hx) (tr_by hy) (by rw [tr_length, tr_length, dn_eq hx hy h]) (fun i _ => by rw [co_tr, co_tr, h])
/-- Nothing to take away. -/
def Neat (l : List Int) : Prop := dn l = l.length
theorem tr_neat {l : List Int} (hl : By l) : Neat (tr l) := by unfold Neat; rw [dn_tr hl, tr_length]
theorem Neat.tr_self {l : List Int} (h : Neat l) : tr l = l := by unfold tr; rw [h]; exact List.take_length
theorem Neat.ext {x y : List Int} (nx : Neat x) (hx : By x) (hy : By y) (h : ∀ i, co x i = co y i) : x = tr y := by rw [← nx.tr_self]; exact tr_eq hx hy h
theorem neat_nil : Neat [] := rfl
theorem neat_of {l : List Int} (hl : By l) (h : l.length ≠ 0 → co l (l.length - 1) ≠ 0) : Neat l := dn_of hl (co_sup l) h
theorem Neat.last {l : List Int} (h : Neat l) (hl : By l) (h0 : l.length ≠ 0) : co l (l.length - 1) ≠ 0 := by
  unfold Neat at h
  have := co_last hl (by omega)
  rwa [h] at this
/-- A list by its coefficients. -/
def ofF (f : Nat → Nat) (n : Nat) : List Int := (List.range n).map (fun i => (f i : Int))
theorem ofF_length (f : Nat → Nat) (n : Nat) : (ofF f n).length = n := by simp [ofF]
theorem ofF_get (f : Nat → Nat) (n i : Nat) (h : i < n) : (ofF f n).getD i 0 = (f i : Int) := by simp [ofF, List.getD_eq_getElem?_getD, h]
theorem ofF_co (f : Nat → Nat) (n i : Nat) (h : i < n) : co (ofF f n) i = f i := by unfold co; rw [ofF_get f n i h]; simp
theorem ofF_by {f : Nat → Nat} (h : ∀ i, f i < 256) (n : Nat) : By (ofF f n) := fun z hz => by
  obtain ⟨i, _, rfl⟩ := List.mem_map.1 hz
  have := h i
  show (0 : Int) ≤ (f i : Int) ∧ (f i : Int) ≤ 255
  omega
theorem ofF_all {f : Nat → Nat} {n : Nat} (h : Sup f n) (i : Nat) : co (ofF f n) i = f i := by
  by_cases g : i < n
  · exact ofF_co f n i g
  · rw [co_out (by rw [ofF_length]; omega), h i (by omega)]
theorem ofF_succ (f : Nat → Nat) (n : Nat) : ofF f (n + 1) = ofF f n ++ [(f n : Int)] := by simp [ofF, List.range_succ]
theorem ofF_zero (f : Nat → Nat) : ofF f 0 = [] := rfl
theorem of_list {l : List Int} (h : By l) : ofF (co l) l.length = l :=
  list_co (ofF_by h.lt _) h (ofF_length _ _) (fun i hi => by rw [ofF_co _ _ _ (by rwa [ofF_length] at hi)])
end Go.Proofs.Ytbiaenkhhbgbcaa
