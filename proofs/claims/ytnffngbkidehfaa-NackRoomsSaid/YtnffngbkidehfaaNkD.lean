/-
  Own text: runs go: slices.Delete, walked.
-/
import Derived.Test.YtnffngbkidehfaaNkC
namespace Go.Proofs.Ytnffngbkidehfaa.Nk
open Go.RowKit

theorem cut_shift {α : Type} (A Y B R Z : List α) (p k : Nat) (hA : A.length = p) (hB : B.length = k) : splice (splice (A ++ (Y ++ (B ++ R))) p B) (p + k) Z = A ++ (B ++ (Z ++ ((Y ++ (B ++ R)).drop k).drop Z.length)) := by
  rw [splice_at _ _ _ _ hA, ← List.append_assoc, splice_at _ _ _ _ (by rw [List.length_append]; omega), List.append_assoc, hB]
set_option maxRecDepth 100000 in
theorem delete_some (g n C i m k : Nat) (a c b : List It) (R : List Value) (ha : a.length = i) (hc : c.length = m) (hb : b.length = k) (hm : 0 < m) (hnk : n = i + m + k) (hn : n ≤ 1000) (hC : n ≤ C) (hCm : C ≤ maxLen) (hR : n * 2 + R.length = C * 2) (w : World) (hg : TBlk w g (icells (a ++ (c ++ b)) ++ R)) :
    Calls Try.prog 90 #[.slice (some ⟨g, 0, none⟩) n C, .int .i64 (i : Int), .int .i64 ((i : Int) + (m : Int))] w fun e w' => e = .returned (.slice (some ⟨g, 0, none⟩) (i + k) C) ∧ Hid (OwnT w' 0 (.slice (some ⟨g, 0, none⟩) (i + k) C) (i + k) (a ++ b)) ∧ Hid (w.grownBy w' (some g)) := by
  have ly : (icells c).length = m * 2 := by rw [icells_length, hc]
  have la : (icells a).length = i * 2 := by rw [icells_length, ha]
  have lb : (icells b).length = k * 2 := by rw [icells_length, hb]
  have hg' : TBlk w g (icells a ++ (icells c ++ (icells b ++ R))) := by
    rw [icells_append, icells_append, List.append_assoc, List.append_assoc] at hg
    exact hg
  have HG : Hid (TBlk w.drew g (icells a ++ (icells c ++ (icells b ++ R)))) := Lib.hid hg'
  obtain ⟨ad, had, hsrc⟩ : ∃ ad : Addr, (if C = i + m then some (⟨g, 0, none⟩ : Addr) else some ⟨g, (i + m) * 2, none⟩) = some ad ∧ Hid (∀ j u, (icells b)[j]? = some u → w.drew.cell? (ad.add j) = some u) := by
    by_cases h : C = i + m
    · refine ⟨⟨g, 0, none⟩, by rw [if_pos h], Lib.hid (fun j u hu => ?_)⟩
      have := (List.getElem?_eq_some_iff.1 hu).1
      omega
    · refine ⟨⟨g, (i + m) * 2, none⟩, by rw [if_neg h], Lib.hid ?_⟩
      refine TBlk.src (P := icells a ++ icells c) (S := R) ?_ _ (by rw [List.length_append]; omega)
      rw [List.append_assoc, List.append_assoc]
      exact hg'
  have HLB : Hid ((icells b).length = k * 2) := Lib.hid lb
  have HR1 : Hid (i + k ≤ C) := Lib.hid (by omega)
  have HF1 : Hid (i * 2 + (icells b).length ≤ (icells a ++ (icells c ++ (icells b ++ R))).length) := Lib.hid (by simp only [List.length_append]; omega)
  have HF2 : Hid ((i + k) * 2 + (n - (i + k)) * 2 ≤ (splice (icells a ++ (icells c ++ (icells b ++ R))) (i * 2) (icells b)).length) := Lib.hid (by rw [length_splice _ _ _ (by simp only [List.length_append]; omega)]; simp only [List.length_append]; omega)
  have HFIN : Hid (∀ (w2 w3 : World) (Z : List Value), Z.length = (n - (i + k)) * 2 → TBlk w3 g (splice (splice (icells a ++ (icells c ++ (icells b ++ R))) (i * 2) (icells b)) ((i + k) * 2) Z) → w.drew.grownBy w2 (some g) → w2.grownBy w3 (some g) → OwnT w3 0 (.slice (some ⟨g, 0, none⟩) (i + k) C) (i + k) (a ++ b) ∧ w.grownBy w3 (some g)) := Lib.hid (fun w2 w3 Z hZ hg3 h1 h2 => by
    refine ⟨?_, grown_trans (B := w2) ⟨h1.os, h1.tape, h1.output, h1.size, h1.block⟩ h2⟩
    rw [show (i + k) * 2 = i * 2 + k * 2 by omega, cut_shift _ _ _ _ _ _ _ la lb] at hg3
    refine OwnT.of (R := Z ++ ((icells c ++ (icells b ++ R)).drop (k * 2)).drop Z.length) (by rw [List.length_append]; omega) (Nat.zero_le _) ?_ ?_ hCm
    · rw [icells_append, List.append_assoc]
      exact hg3
    · simp only [List.length_append, List.length_drop]
      omega)
  have i1 : (i : Int) < (n : Int) := by omega
  have i2 : (n : Int) ≤ (C : Int) := by omega
  have i3 : (n : Int) ≤ 1000 := by omega
  have i4 : (i : Int) + (m : Int) ≤ (n : Int) := by omega
  have i8 : n - (i + m) = k := by omega
  have HNK : Hid (0 < m ∧ n = i + m + k) := Lib.hid ⟨hm, hnk⟩
  have i9 : (0 : Int) < (m : Int) := by omega
  have i10 : ¬ (i : Int) = (i : Int) + (m : Int) := by omega
  clear hg hg' ha hb hc hm hnk hn la lb ly hR hCm
  go_enter Try.func90, Try.ntmps90
  go_upto_region 5 with fail
  have wr1 : IntKind.i64.wrap ((i : Int) + (m : Int)) = (i : Int) + (m : Int) := by rw [IntKind.wrap_i64]; omega
  have tn1 : ((i : Int) + (m : Int)).toNat = i + m := by omega
  have p1 : (0 : Int) ≤ (i : Int) + (m : Int) := by omega
  have p2 : i ≤ C := by omega
  have p3 : (i : Int) ≤ (C : Int) := by omega
  go_region_law (refine step_append_items rfl (.tmp 22) (.tmp 25) rfl g i C ad k (C - (i + m)) (by simp [Act.eval, Act.put]) (by simp [Act.eval, Act.put]) _ (icells b) HG.out HLB.out HR1.out hsrc.out HF1.out (icells_one _) ?_; intro w2 HG2 HW2)
  all_goals
    have q1 : ¬ C = i + k := by have := HNK.out; omega
    have Q2 : Hid (0 < n - (i + k)) := Lib.hid (by have := HNK.out; omega)
    have q3 : (i : Int) + (k : Int) ≤ (n : Int) := by have := HNK.out; omega
    have q4 : n ≤ C := by omega
    go_wp2_with (first
      | ((with_reducible refine wpList_clear_items rfl (.tmp 31) rfl g ((i + k) * 2) (n - (i + k)) (C - (i + k)) rfl Q2.out _ HG2.out HF2.out ?_); intro w3 Z HZ HG3 HW3)
      | fail)
    go_ret
    obtain ⟨h1, h2⟩ := HFIN.out w2 w3 Z HZ.out HG3.out HW2.out HW3.out
    exact ⟨rfl, Lib.hid h1, Lib.hid h2⟩
/-- None goes. -/
theorem delete_none (A : Option Addr) (n C : Nat) (hn : n ≤ 1000) (hC : n ≤ C) (w : World) :
    Calls Try.prog 90 #[.slice A n C, .int .i64 0, .int .i64 0] w fun e w' => e = .returned (.slice A n C) ∧ w' = w := by
  have i2 : (n : Int) ≤ (C : Int) := by omega
  have i3 : (n : Int) ≤ 1000 := by omega
  clear hn hC
  go_enter Try.func90, Try.ntmps90
  go_wp2
  go_ret
  exact ⟨rfl, rfl⟩
/-- The first ones go. -/
theorem delete_first (g n C m k : Nat) (c b : List It) (R : List Value) (hc : c.length = m) (hb : b.length = k) (hm : 0 < m) (hnk : n = m + k) (hn : n ≤ 1000) (hC : n ≤ C) (hCm : C ≤ maxLen) (hR : n * 2 + R.length = C * 2) (w : World) (hg : TBlk w g (icells (c ++ b) ++ R)) :
    Calls Try.prog 90 #[.slice (some ⟨g, 0, none⟩) n C, .int .i64 0, .int .i64 (m : Int)] w fun e w' => e = .returned (.slice (some ⟨g, 0, none⟩) k C) ∧ Hid (OwnT w' 0 (.slice (some ⟨g, 0, none⟩) k C) k b) ∧ Hid (w.grownBy w' (some g)) := by
  have := delete_some g n C 0 m k [] c b R rfl hc hb hm (by omega) hn hC hCm hR w hg
  rw [show (((0 : Nat) : Int) + (m : Int)) = (m : Int) by omega, show 0 + k = k by omega] at this
  exact this
end Go.Proofs.Ytnffngbkidehfaa.Nk
