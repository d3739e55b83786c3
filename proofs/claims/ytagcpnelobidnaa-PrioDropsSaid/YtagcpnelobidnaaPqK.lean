/-
  Own text: the items that a set names go: slices.IndexFunc, slices.DeleteFunc, walked.
-/
import Derived.Test.YtagcpnelobidnaaPqJ
namespace Go.Proofs.Ytagcpnelobidnaa
open Go.RowKit

/-- Where the first item stands that a set names. -/
def Hits (S : Int → Bool) (l : List It) (i : Nat) : Prop := (∀ (t : Nat) (y : It), t < i → l[t]? = some y → S y.num = false) ∧ ∃ y, l[i]? = some y ∧ S y.num = true
def NoHits (S : Int → Bool) (l : List It) : Prop := ∀ (t : Nat) (y : It), l[t]? = some y → S y.num = false
theorem hits_or (S : Int → Bool) (l : List It) : NoHits S l ∨ ∃ i, Hits S l i := by
  induction l with
  | nil => left; intro t y h; simp at h
  | cons x l ih =>
    cases hx : S x.num with
    | true => exact .inr ⟨0, fun t y ht _ => absurd ht (Nat.not_lt_zero _), x, rfl, hx⟩
    | false =>
      rcases ih with h | ⟨i, h1, y, h2, h3⟩
      · left
        intro t y hy
        cases t with
        | zero => simp at hy; subst hy; exact hx
        | succ t => exact h t y (by simpa using hy)
      · refine .inr ⟨i + 1, fun t z ht hz => ?_, y, by simpa using h2, h3⟩
        cases t with
        | zero => simp at hz; subst hz; exact hx
        | succ t => exact h1 t z (by omega) (by simpa using hz)
theorem index_none (S : Int → Bool) (A : Option Addr) (n C c m N : Nat) (l : List It) (hn : n ≤ 1000) (hw : ∀ y ∈ l, (Lit.int .i64 y.num).wf = true) (hno : NoHits S l) (w : World) (h : OwnT w 0 (.slice A n C) n l) (ha : Ask w c m N S) :
    Calls Try.prog 43 #[.slice A n C, .func (.func 39) #[] #[.pointer (some ⟨c, 0, none⟩)]] w fun e w' => e = .returned (.int .i64 (-1)) ∧ Below w.heap.size w w' := by
  have HO := Lib.hid h
  have HA := Lib.hid ha
  have HL := Lib.hid h.length
  have HW := Lib.hid hw
  have HNO := Lib.hid hno
  clear h ha hw hno
  go_enter Try.func43, Try.ntmps43
  go_wp2
  go_loopw [8] (fun i wr => ∃ k : Nat, k ≤ n ∧ i = .int .i64 (k : Int) ∧ Hid (Below w.heap.size w wr)) (fun i _ => n - (intOf i).toNat)
  case atStart => exact ⟨0, Nat.zero_le _, rfl, Lib.hid (Below.refl _ _)⟩
  case round =>
    obtain ⟨k, hk, rfl, HB⟩ := hrel
    by_cases hlt : k < n
    · obtain ⟨y, hy⟩ : ∃ y, l[k]? = some y := ⟨_, List.getElem?_eq_getElem (by rw [HL.out]; exact hlt)⟩
      obtain ⟨g, rfl, _, hgl, c0, c1, c2⟩ := (HO.out.below HB.out (Nat.le_refl _)).at_ k y hy
      have CG := Lib.hid (gone_any y (HW.out y (List.mem_of_getElem? hy)) c m N S wr (HA.out.below HB.out))
      rw [HNO.out k y hy] at CG
      have i1 : (k : Int) < n := by omega
      unfold It.val at CG
      clear hy hgl
      generalize y.rank = yr at *
      generalize y.num = yn at *
      generalize y.v = yv at *
      go_wp2_with (first
        | (go_at_call 39; (with_reducible refine (CG.out).mono ?_); rintro e w1 ⟨rfl, hb⟩; have HB1 := Lib.hid hb; clear hb)
        | fail)
      go_roundw
      case rel => exact ⟨k + 1, by omega, by go_num, Lib.hid (HB.out.trans (HB1.out.mono HB.out.size))⟩
      case measure => simp [intOf] <;> omega
    · obtain rfl : k = n := by omega
      go_wp2
      go_ret
      exact ⟨rfl, HB.out⟩
theorem index_some (S : Int → Bool) (A : Option Addr) (n C c m N i : Nat) (l : List It) (hn : n ≤ 1000) (hw : ∀ y ∈ l, (Lit.int .i64 y.num).wf = true) (hit : Hits S l i) (w : World) (h : OwnT w 0 (.slice A n C) n l) (ha : Ask w c m N S) :
    Calls Try.prog 43 #[.slice A n C, .func (.func 39) #[] #[.pointer (some ⟨c, 0, none⟩)]] w fun e w' => e = .returned (.int .i64 (i : Int)) ∧ Below w.heap.size w w' := by
  have HO := Lib.hid h
  have HA := Lib.hid ha
  have HL := Lib.hid h.length
  have HW := Lib.hid hw
  have HH := Lib.hid hit
  have hin : i < n := by obtain ⟨_, y, h1, _⟩ := hit; have := (List.getElem?_eq_some_iff.1 h1).1; have := h.length; omega
  clear h ha hw hit
  go_enter Try.func43, Try.ntmps43
  go_wp2
  go_loopw [8] (fun j wr => ∃ k : Nat, k ≤ i ∧ j = .int .i64 (k : Int) ∧ Hid (Below w.heap.size w wr)) (fun j _ => n - (intOf j).toNat)
  case atStart => exact ⟨0, Nat.zero_le _, rfl, Lib.hid (Below.refl _ _)⟩
  case round =>
    obtain ⟨k, hk, rfl, HB⟩ := hrel
    have hkn : k < n := by omega
    obtain ⟨y, hy⟩ : ∃ y, l[k]? = some y := ⟨_, List.getElem?_eq_getElem (by rw [HL.out]; exact hkn)⟩
    obtain ⟨g, rfl, _, hgl, c0, c1, c2⟩ := (HO.out.below HB.out (Nat.le_refl _)).at_ k y hy
    have CG := Lib.hid (gone_any y (HW.out y (List.mem_of_getElem? hy)) c m N S wr (HA.out.below HB.out))
    have i1 : (k : Int) < n := by omega
    by_cases hlt : k < i
    · rw [HH.out.1 k y hlt hy] at CG
      unfold It.val at CG
      clear hy hgl
      generalize y.rank = yr at *
      generalize y.num = yn at *
      generalize y.v = yv at *
      go_wp2_with (first
        | (go_at_call 39; (with_reducible refine (CG.out).mono ?_); rintro e w1 ⟨rfl, hb⟩; have HB1 := Lib.hid hb; clear hb)
        | fail)
      go_roundw
      case rel => exact ⟨k + 1, by omega, by go_num, Lib.hid (HB.out.trans (HB1.out.mono HB.out.size))⟩
      case measure => simp [intOf] <;> omega
    · obtain rfl : k = i := by omega
      have e : S y.num = true := by
        obtain ⟨_, y', h1, h2⟩ := HH.out
        rw [hy] at h1
        cases h1
        exact h2
      rw [e] at CG
      unfold It.val at CG
      clear hy hgl e
      generalize y.rank = yr at *
      generalize y.num = yn at *
      generalize y.v = yv at *
      go_wp2_with (first
        | (go_at_call 39; (with_reducible refine (CG.out).mono ?_); rintro e w1 ⟨rfl, hb⟩; have HB1 := Lib.hid hb; clear hb)
        | fail)
      go_ret
      exact ⟨rfl, HB.out.trans (HB1.out.mono HB.out.size)⟩
end Go.Proofs.Ytagcpnelobidnaa
