/-
  Own text: bare, coded, asking of a datagram, walked.
-/
import Derived.Test.YtldhlknmabpanaaGreatK07
namespace Go.Proofs.YtldhlknmabpanaaGreat
open Go.RowKit

def bareB (d : Dg) : Bool := decide (d.K = 0 ∧ d.M = 0 ∧ d.ix = 0)
theorem bare_any (d : Dg) (w : World) :
    Calls Tryz.prog 80 #[d.val] w fun e w' => e = .returned (.bool (bareB d)) ∧ Below w.heap.size w w' := by
  go_enter Tryz.func80, Tryz.ntmps80
  go_wp2
  all_goals
    go_ret
    exact ⟨ret_bool (by rw [Bool.eq_iff_iff]; simp [bareB, *]), (Below.refl _ _).alloc (Nat.le_refl _) _⟩
def codedB (d : Dg) : Bool := decide (1 ≤ d.K ∧ d.K ≤ 16 ∧ 0 ≤ d.M ∧ d.M ≤ 16 ∧ 1 ≤ d.dl ∧ d.dl ≤ 1200)
theorem coded_any (d : Dg) (w : World) :
    Calls Tryz.prog 79 #[d.val] w fun e w' => e = .returned (.bool (codedB d)) ∧ Below w.heap.size w w' := by
  go_enter Tryz.func79, Tryz.ntmps79
  go_wp2
  all_goals
    go_ret
    refine ⟨ret_bool ?_, (Below.refl _ _).alloc (Nat.le_refl _) _⟩
    unfold codedB
    first
      | (rw [decide_eq_decide]; omega)
      | (symm; rw [decide_eq_false_iff_not]; omega)
      | (symm; rw [decide_eq_true_iff]; omega)
      | trace_state
/-- Numbers of shards, rising. -/
def AskTo (l : List Int) (n : Nat) : Prop := ∀ i, i < n → l.getD i 0 < 32 ∧ (0 < i → l.getD (i - 1) 0 < l.getD i 0)
instance (l : List Int) (n : Nat) : Decidable (AskTo l n) := by unfold AskTo; infer_instance
theorem AskTo.succ {l : List Int} {n : Nat} (h : AskTo l n) (h1 : l.getD n 0 < 32) (h2 : 0 < n → l.getD (n - 1) 0 < l.getD n 0) : AskTo l (n + 1) := by
  intro i hi
  rcases Nat.lt_or_ge i n with g | g
  · exact h i g
  · obtain rfl : i = n := by omega
    exact ⟨h1, h2⟩
theorem asking_any (a : Option Addr) (n c : Nat) (l : List Int) (w : World) (h : Bytes w a n l) :
    Calls Tryz.prog 81 #[.slice a n c] w fun e w' => e = .returned (.bool (decide (0 < n ∧ AskTo l n))) ∧ w = w' := by
  have hm := h.max
  by_cases h0 : n = 0
  · subst h0
    go_enter Tryz.func81, Tryz.ntmps81
    go_wp2
    refine wp_loop_rounds 1 ?_
    rw [rounds_succ]
    go_wp2
    go_ret
    exact ⟨rfl, rfl⟩
  obtain ⟨h00, b, off, rfl, hbb, hc⟩ := h.cell.resolve_left h0
  clear h00 hbb
  have hy := h.byte
  clear h
  obtain ⟨F, hF⟩ : ∃ F : Nat → Int, ∀ i, l.getD i 0 = F i := ⟨_, fun _ => rfl⟩
  obtain ⟨R, hR⟩ : ∃ R, R = decide (0 < n ∧ AskTo l n) := ⟨_, rfl⟩
  have HR : Hid (∀ b : Bool, (b = true ↔ ∀ i, i < n → F i < 32 ∧ (0 < i → F (i - 1) < F i)) → b = R) := Lib.hid (fun b h => by
    rw [hR, Bool.eq_iff_iff, decide_eq_true_iff, h]
    unfold AskTo
    simp only [hF]
    exact ⟨fun h => ⟨by omega, h⟩, fun h => h.2⟩)
  rw [← hR]
  clear hR
  simp only [hF] at hc hy
  have HY := Lib.hid hy
  have HC := Lib.hid hc
  have H0 := Lib.hid h0
  clear hF hy hc h0
  go_enter Tryz.func81, Tryz.ntmps81
  go_wp2
  go_loop [3, 8] (fun v i => ∃ k : Nat, k ≤ n ∧ i = .int .i64 k ∧ Hid (∀ i, i < k → F i < 32 ∧ (0 < i → F (i - 1) < F i)) ∧ v = .int .i64 (if k = 0 then 0 else F (k - 1) + 1)) (fun _ i => n - (intOf i).toNat)
  case atStart => exact ⟨0, by omega, rfl, Lib.hid (fun i hi => absurd hi (by omega)), rfl⟩
  case round =>
    obtain ⟨k, hk, rfl, HA, rfl⟩ := hrel
    obtain ⟨q, hq⟩ : ∃ q, q = (if k = 0 then 0 else F (k - 1) + 1) := ⟨_, rfl⟩
    have HQ := Lib.hid hq
    rw [← hq]
    have hq0 : 0 ≤ q ∧ q ≤ 256 := by
      rw [hq]
      split
      · omega
      · have := HY.out (k - 1) (by omega)
        omega
    clear hq
    by_cases h1 : k < n
    · have c1 := HC.out k h1
      have y1 := HY.out k h1
      obtain ⟨z, hz⟩ : ∃ z, z = F k := ⟨_, rfl⟩
      rw [← hz] at c1 y1
      have HZ := Lib.hid hz
      clear hz
      by_cases hlt : z < q
      · go_wp2
        go_ret
        refine ⟨ret_bool (HR.out _ (iff_of_false Bool.false_ne_true fun hh => ?_)), rfl⟩
        have h2 := hh k h1
        have h3 := HQ.out
        rw [← HZ.out] at h2
        by_cases hk0 : k = 0
        · rw [if_pos hk0] at h3; omega
        · rw [if_neg hk0] at h3; have := h2.2 (by omega); omega
      · by_cases hge : z < 32
        · go_wp2
          go_round
          case rel =>
            refine ⟨k + 1, by omega, by go_num, Lib.hid ?_, congrArg _ ?_⟩
            · intro i hi
              rcases Nat.lt_or_ge i k with g | g
              · exact HA.out i g
              · obtain rfl : i = k := by omega
                rw [← HZ.out]
                refine ⟨hge, fun h => ?_⟩
                have h3 := HQ.out
                rw [if_neg (by omega)] at h3
                omega
            · rw [if_neg (by omega), Nat.add_sub_cancel, ← HZ.out]
          case measure => simp [intOf]; omega
        · go_wp2
          go_ret
          refine ⟨ret_bool (HR.out _ (iff_of_false Bool.false_ne_true fun hh => ?_)), rfl⟩
          have h2 := hh k h1
          rw [← HZ.out] at h2
          omega
    · obtain rfl : k = n := by omega
      clear hk h1
      go_wp2
      go_ret
      refine ⟨ret_bool (HR.out _ (iff_of_true ?_ HA.out)), rfl⟩
      have := H0.out
      simp
      omega
end Go.Proofs.YtldhlknmabpanaaGreat
