/-
  Own text: lists whose first places take sums (Mix), and rows of the call's own that are stored into. Plain lists.
-/
import Derived.Test.YtipaolkgafhliaaGfR1
namespace Go.Proofs.Ytipaolkgafhliaa
open Go.RowKit

/-- The first k places, each with what the other list has there. -/
def mixL (l s : List Int) (k : Nat) : List Int := l.mapIdx (fun i z => if i < k then ((z.toNat ^^^ (s.getD i 0).toNat : Nat) : Int) else z)
theorem mixL_length (l s : List Int) (k : Nat) : (mixL l s k).length = l.length := by simp [mixL]
theorem mixL_get (l s : List Int) (k i : Nat) (h : i < l.length) : (mixL l s k).getD i 0 = if i < k then (((l.getD i 0).toNat ^^^ (s.getD i 0).toNat : Nat) : Int) else l.getD i 0 := by
  unfold mixL
  simp [List.getD_eq_getElem?_getD, List.getElem?_eq_getElem h]
theorem mixL_zero (l s : List Int) : mixL l s 0 = l := by
  refine same_getD (mixL_length _ _ _) (fun i hi => ?_)
  rw [mixL_get _ _ _ _ (by rwa [mixL_length] at hi), if_neg (by omega)]
theorem set_get (l : List Int) (k i : Nat) (z : Int) (h : i < l.length) : (l.set k z).getD i 0 = if i = k then z else l.getD i 0 := by
  rw [List.getD_eq_getElem?_getD, List.getElem?_set, List.getD_eq_getElem?_getD]
  by_cases e : i = k
  · subst e; simp [h]
  · rw [if_neg (fun h => e h.symm), if_neg e]
theorem mixL_step (l s : List Int) (k : Nat) (h : k < l.length) : (mixL l s k).set k (((l.getD k 0).toNat ^^^ (s.getD k 0).toNat : Nat) : Int) = mixL l s (k + 1) := by
  refine same_getD (by rw [List.length_set, mixL_length, mixL_length]) (fun i hi => ?_)
  rw [List.length_set, mixL_length] at hi
  rw [set_get _ _ _ _ (by rw [mixL_length]; exact hi), mixL_get _ _ _ _ hi, mixL_get _ _ _ _ hi]
  by_cases e : i = k
  · subst e; rw [if_pos rfl, if_pos (by omega)]
  · rw [if_neg e]
    by_cases g : i < k
    · rw [if_pos g, if_pos (by omega)]
    · rw [if_neg g, if_neg (by omega)]
theorem mixL_beyond (l s : List Int) (k : Nat) (h : l.length ≤ k) : mixL l s (k + 1) = mixL l s k := by
  refine same_getD (by rw [mixL_length, mixL_length]) (fun i hi => ?_)
  rw [mixL_length] at hi
  rw [mixL_get _ _ _ _ hi, mixL_get _ _ _ _ hi, if_pos (by omega), if_pos (by omega)]
theorem sc_get (a : Nat) (l : List Int) (i : Nat) (h : i < l.length) : (sc a l).getD i 0 = ((gm a (l.getD i 0).toNat : Nat) : Int) := by
  unfold sc
  simp [List.getD_eq_getElem?_getD, List.getElem?_eq_getElem h]
theorem mix_same (a : Nat) (l x : List Int) (K : Nat) (hK : K = min l.length x.length) : mixL l (sc a (x.take K)) K = mixL l (sc a x) x.length := by
  refine same_getD (by rw [mixL_length, mixL_length]) (fun i hi => ?_)
  rw [mixL_length] at hi
  rw [mixL_get _ _ _ _ hi, mixL_get _ _ _ _ hi]
  by_cases g : i < K
  · rw [if_pos g, if_pos (by omega), sc_get _ _ _ (by rw [List.length_take]; omega), sc_get _ _ _ (by omega)]
    simp [List.getD_eq_getElem?_getD, g]
  · rw [if_neg g, if_neg (by omega)]
theorem mixL_range (l s : List Int) (k : Nat) (hl : ∀ z ∈ l, 0 ≤ z ∧ z ≤ 255) (hs : ∀ z ∈ s, 0 ≤ z ∧ z ≤ 255) : ∀ z ∈ mixL l s k, 0 ≤ z ∧ z ≤ 255 := by
  intro z hz
  obtain ⟨i, hi, rfl⟩ := List.mem_iff_getElem.1 hz
  have hi' : i < l.length := by rwa [mixL_length] at hi
  have e := mixL_get l s k i hi'
  rw [List.getD_eq_getElem?_getD, List.getElem?_eq_getElem hi] at e
  have e' : (mixL l s k)[i] = if i < k then (((l.getD i 0).toNat ^^^ (s.getD i 0).toNat : Nat) : Int) else l.getD i 0 := e
  have h1 : 0 ≤ l.getD i 0 ∧ l.getD i 0 ≤ 255 := by
    rw [List.getD_eq_getElem?_getD, List.getElem?_eq_getElem hi']; exact hl _ (List.getElem_mem _)
  have h2 : 0 ≤ s.getD i 0 ∧ s.getD i 0 ≤ 255 := by
    by_cases g : i < s.length
    · rw [List.getD_eq_getElem?_getD, List.getElem?_eq_getElem g]; exact hs _ (List.getElem_mem _)
    · rw [List.getD_eq_getElem?_getD, List.getElem?_eq_none (by omega)]; simp
  rw [e']
  split
  · have := Nat.xor_lt_two_pow (n := 8) (show (l.getD i 0).toNat < 2 ^ 8 by omega) (show (s.getD i 0).toNat < 2 ^ 8 by omega)
    omega
  · exact h1
/-- Where a row of the call's own has an element: its block, and the element there. -/
theorem Own8.at_ {w : World} {base : Nat} {A : Option Addr} {n C : Nat} {l : List Int} (h : Own8 w base (.slice A n C) n l) (hn : 0 < n) :
    ∃ g, A = some ⟨g, 0, none⟩ ∧ base ≤ g ∧ g < w.heap.size ∧ (∀ i, i < n → w.cell? ⟨g, i, none⟩ = some (.int .u8 (l.getD i 0))) ∧ (∀ i, w.frozen? ⟨g, i, none⟩ = false) ∧
      ∀ i z, Own8 (w.setCell ⟨g, i, none⟩ (.int .u8 z)) base (.slice A n C) n (l.set i z) := by
  have hl := h.length
  rcases h.2 with ⟨e, rfl⟩ | ⟨g, cap, cur, e, h1, hg, _⟩
  · omega
  · simp only [Value.slice.injEq, true_and] at e
    obtain ⟨rfl, rfl⟩ := e
    obtain ⟨h2, _⟩ := Array.getElem?_eq_some_iff.1 hg
    refine ⟨g, rfl, h1, h2, fun i hi => ?_, fun i => World.ownsRow.frozenAt h i, fun i z => ?_⟩
    · rw [World.ownsRow.cellAt h i (by omega), List.getElem?_map, List.getD_eq_getElem?_getD, List.getElem?_eq_getElem (by omega)]; rfl
    · have := (World.ownsRow.stored h i (.int .u8 z)).1
      unfold Own8
      rw [List.map_set]
      exact this
theorem Own8.drewN {w : World} {base : Nat} {v : Value} {n : Nat} {l : List Int} (h : Own8 w base v n l) (k : Nat) : Own8 (w.drewN k) base v n l := h
end Go.Proofs.Ytipaolkgafhliaa
