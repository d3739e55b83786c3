/-
  Own text: an item goes: slices.Delete, take, walked.
-/
import Derived.Test.YtblnmddphichgaaMqC
namespace Go.Proofs.Ytblnmddphichgaa.Mq
open Go.RowKit

theorem cut_shift {α : Type} (A Y B R Z : List α) (p k : Nat) (hA : A.length = p) (hB : B.length = k) : splice (splice (A ++ (Y ++ (B ++ R))) p B) (p + k) Z = A ++ (B ++ (Z ++ ((Y ++ (B ++ R)).drop k).drop Z.length)) := by
  rw [splice_at _ _ _ _ hA, ← List.append_assoc, splice_at _ _ _ _ (by rw [List.length_append]; omega), List.append_assoc, hB]
set_option maxRecDepth 100000 in
theorem delete_any (y : It) (g n C i k : Nat) (a b : List It) (R : List Value) (ha : a.length = i) (hb : b.length = k) (hnk : n = i + 1 + k) (hn : n ≤ 1000) (hC : n ≤ C) (hCm : C ≤ maxLen) (hR : n * 13 + R.length = C * 13) (w : World) (hg : TBlk w g (icells (a ++ y :: b) ++ R)) :
    Calls Try.prog 55 #[.slice (some ⟨g, 0, none⟩) n C, .int .i64 (i : Int), .int .i64 ((i : Int) + 1)] w fun e w' => e = .returned (.slice (some ⟨g, 0, none⟩) (i + k) C) ∧ Hid (OwnT w' 0 (.slice (some ⟨g, 0, none⟩) (i + k) C) (i + k) (a ++ b)) ∧ Hid (w.grownBy w' (some g)) := by
  have ly : (icells [y]).length = 13 := rfl
  have la : (icells a).length = i * 13 := by rw [icells_length, ha]
  have lb : (icells b).length = k * 13 := by rw [icells_length, hb]
  have hg' : TBlk w g (icells a ++ (icells [y] ++ (icells b ++ R))) := by
    rw [icells_append, show y :: b = [y] ++ b from rfl, icells_append, List.append_assoc, List.append_assoc] at hg
    exact hg
  have HG : Hid (TBlk w.drew g (icells a ++ (icells [y] ++ (icells b ++ R)))) := Lib.hid hg'
  obtain ⟨ad, had, hsrc⟩ : ∃ ad : Addr, (if C = i + 1 then some (⟨g, 0, none⟩ : Addr) else some ⟨g, (i + 1) * 13, none⟩) = some ad ∧ Hid (∀ j u, (icells b)[j]? = some u → w.drew.cell? (ad.add j) = some u) := by
    by_cases h : C = i + 1
    · refine ⟨⟨g, 0, none⟩, by rw [if_pos h], Lib.hid (fun j u hu => ?_)⟩
      have := (List.getElem?_eq_some_iff.1 hu).1
      omega
    · refine ⟨⟨g, (i + 1) * 13, none⟩, by rw [if_neg h], Lib.hid ?_⟩
      refine TBlk.src (P := icells a ++ icells [y]) (S := R) ?_ _ (by rw [List.length_append]; omega)
      rw [List.append_assoc, List.append_assoc]
      exact hg'
  have HLB : Hid ((icells b).length = k * 13) := Lib.hid lb
  have HR1 : Hid (i + k ≤ C) := Lib.hid (by omega)
  have HF1 : Hid (i * 13 + (icells b).length ≤ (icells a ++ (icells [y] ++ (icells b ++ R))).length) := Lib.hid (by simp only [List.length_append]; omega)
  have HF2 : Hid ((i + k) * 13 + (n - (i + k)) * 13 ≤ (splice (icells a ++ (icells [y] ++ (icells b ++ R))) (i * 13) (icells b)).length) := Lib.hid (by rw [length_splice _ _ _ (by simp only [List.length_append]; omega)]; simp only [List.length_append]; omega)
  have HFIN : Hid (∀ (w2 w3 : World) (Z : List Value), Z.length = (n - (i + k)) * 13 → TBlk w3 g (splice (splice (icells a ++ (icells [y] ++ (icells b ++ R))) (i * 13) (icells b)) ((i + k) * 13) Z) → w.drew.grownBy w2 (some g) → w2.grownBy w3 (some g) → OwnT w3 0 (.slice (some ⟨g, 0, none⟩) (i + k) C) (i + k) (a ++ b) ∧ w.grownBy w3 (some g)) := Lib.hid (fun w2 w3 Z hZ hg3 h1 h2 => by
    refine ⟨?_, grown_trans (B := w2) ⟨h1.os, h1.tape, h1.output, h1.size, h1.block⟩ h2⟩
    rw [show (i + k) * 13 = i * 13 + k * 13 by omega, cut_shift _ _ _ _ _ _ _ la lb] at hg3
    refine OwnT.of (R := Z ++ ((icells [y] ++ (icells b ++ R)).drop (k * 13)).drop Z.length) (by rw [List.length_append]; omega) (Nat.zero_le _) ?_ ?_ hCm
    · rw [icells_append, List.append_assoc]
      exact hg3
    · simp only [List.length_append, List.length_drop]
      omega)
  have i1 : (i : Int) < (n : Int) := by omega
  have i2 : (n : Int) ≤ (C : Int) := by omega
  have i3 : (n : Int) ≤ 1000 := by omega
  have i4 : (i : Int) + 1 ≤ (n : Int) := by omega
  have i8 : n - (i + 1) = k := by omega
  have HNK : Hid (n = i + 1 + k) := Lib.hid hnk
  clear hg hg' ha hb hnk hn la lb ly hR hCm
  go_enter Try.func55, Try.ntmps55
  go_upto_region 5 with fail
  have wr1 : IntKind.i64.wrap ((i : Int) + 1) = (i : Int) + 1 := by rw [IntKind.wrap_i64]; omega
  have tn1 : ((i : Int) + 1).toNat = i + 1 := by omega
  have p1 : (0 : Int) ≤ (i : Int) + 1 := by omega
  have p2 : i ≤ C := by omega
  have p3 : (i : Int) ≤ (C : Int) := by omega
  go_region_law (refine step_append_items rfl (.tmp 22) (.tmp 25) rfl g i C ad k (C - (i + 1)) (by simp [Act.eval, Act.put]) (by simp [Act.eval, Act.put]) _ (icells b) HG.out HLB.out HR1.out hsrc.out HF1.out (icells_one _) ?_; intro w2 HG2 HW2)
  all_goals
    have q1 : ¬ C = i + k := by have := HNK.out; omega
    have Q2 : Hid (0 < n - (i + k)) := Lib.hid (by have := HNK.out; omega)
    have q3 : (i : Int) + (k : Int) ≤ (n : Int) := by have := HNK.out; omega
    have q4 : n ≤ C := by omega
    go_wp2_with (first
      | ((with_reducible refine wpList_clear_items rfl (.tmp 31) rfl g ((i + k) * 13) (n - (i + k)) (C - (i + k)) rfl Q2.out _ HG2.out HF2.out ?_); intro w3 Z HZ HG3 HW3)
      | fail)
    go_ret
    obtain ⟨h1, h2⟩ := HFIN.out w2 w3 Z HZ.out HG3.out HW2.out HW3.out
    exact ⟨rfl, Lib.hid h1, Lib.hid h2⟩
end Go.Proofs.Ytblnmddphichgaa.Mq
