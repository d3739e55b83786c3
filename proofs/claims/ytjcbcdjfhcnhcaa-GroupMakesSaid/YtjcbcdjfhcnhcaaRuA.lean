/-
  Own text: layer 16 (redund): the code's and the document's targets, New, Next, walked.
-/
import Derived.Test.YtjcbcdjfhcnhcaaRuM
import Derived.Test.YtjcbcdjfhcnhcaaRuF
import Derived.Test.YtjcbcdjfhcnhcaaRuH
import Derived.WalkKit
import Derived.ProofKit
import Derived.Below
import Derived.Deep.DeepCutAuto
namespace Go.Proofs.Ytjcbcdjfhcnhcaa
open Go.RowKit

theorem held_any (n l : Int) (w : World) :
    Calls Try.prog 113 #[.int .i64 n, .int .i64 l] w fun e w' => e = .returned (.int .i64 (held16 n l)) ∧ w = w' := by
  have CC := Lib.hid (clamp_any n 0 l w)
  go_enter Try.func113, Try.ntmps113
  go_wp2_with (first
    | (go_at_call 120; (with_reducible refine (CC.out).mono ?_); rintro e w1 ⟨rfl, rfl⟩)
    | fail)
  go_ret
  exact ⟨rfl, rfl⟩
theorem tgt_zero {k l m : Int} (h : held16 k 16 = 0 ∨ held16 l 65535 = 0) : tgt k l m = 0 := by unfold tgt; rw [if_pos h]
theorem tgt_some {k l m : Int} (h : ¬ held16 k 16 = 0) (h' : ¬ held16 l 65535 = 0) : tgt k l m = held16 ((lost16 (held16 l 65535)).need (held16 k 16) 255 - held16 k 16 + 1) m := by unfold tgt; rw [if_neg (by omega)]
set_option maxRecDepth 100000 in
theorem target_any (k l m : Int) (w : World) :
    Calls Try.prog 97 #[.int .i64 k, .int .i64 l, .int .i64 m] w fun e w' => e = .returned (.int .i64 (tgt k l m)) ∧ Below w.heap.size w w' := by
  have hk := held16_lo k (show (0 : Int) ≤ 16 by omega)
  have hl := held16_lo l (show (0 : Int) ≤ 65535 by omega)
  have CK := Lib.hid (fun w => held_any k 16 w)
  have CL := Lib.hid (fun w => held_any l 65535 w)
  have HZ := Lib.hid (fun h => tgt_zero (k := k) (l := l) (m := m) h)
  have HS := Lib.hid (fun h h' => tgt_some (k := k) (l := l) (m := m) h h')
  generalize held16 k 16 = K at *
  generalize held16 l 65535 = L at *
  obtain ⟨k0, k1⟩ := hk
  obtain ⟨l0, l1⟩ := hl
  by_cases hK : K = 0
  · subst hK
    have HZ' := Lib.hid (HZ.out (.inl rfl))
    clear HS HZ k0 k1
    go_enter Try.func97, Try.ntmps97
    go_wp2_with (first
      | (go_at_call 113; (with_reducible refine (CK.out _).mono ?_); rintro e w1 ⟨rfl, rfl⟩)
      | (go_at_call 113; (with_reducible refine (CL.out _).mono ?_); rintro e w1 ⟨rfl, rfl⟩)
      | fail)
    go_ret
    exact ⟨ret_int HZ'.out.symm, Below.refl _ _⟩
  · by_cases hL : L = 0
    · subst hL
      have HZ' := Lib.hid (HZ.out (.inr rfl))
      clear HS HZ l0 l1
      go_enter Try.func97, Try.ntmps97
      go_wp2_with (first
        | (go_at_call 113; (with_reducible refine (CK.out _).mono ?_); rintro e w1 ⟨rfl, rfl⟩)
        | (go_at_call 113; (with_reducible refine (CL.out _).mono ?_); rintro e w1 ⟨rfl, rfl⟩)
        | fail)
      go_ret
      exact ⟨ret_int HZ'.out.symm, Below.refl _ _⟩
    · have hs := HS.out hK hL
      have hn := Sk.need_lo (lost16_fit l0 l1) K 255
      have CN := Lib.hid (fun w => need13_any (lost16 L) 0 (lost16_fit l0 l1) K 255 (by omega) (by omega) w)
      generalize (lost16 L).need K 255 = N at *
      rw [if_neg (show ¬ (255 : Int) < 0 by omega)] at hn
      obtain ⟨n0, n1⟩ := hn
      have CM := Lib.hid (fun w => held_any (N - K + 1) m w)
      rw [← hs] at CM
      generalize tgt k l m = T at *
      unfold SV lost16 at CN
      clear HS HZ hs
      have e1 : (K == 0) = false := by simp [hK]
      have e2 : (L == 0) = false := by simp [hL]
      go_enter Try.func97, Try.ntmps97
      go_wp2_with (first
        | (go_at_call 113; (with_reducible refine (CK.out _).mono ?_); rintro e w1 ⟨rfl, rfl⟩)
        | (go_at_call 113; (with_reducible refine (CL.out _).mono ?_); rintro e w1 ⟨rfl, rfl⟩)
        | (go_at_call 114; (with_reducible refine (CN.out _).mono ?_); rintro e w2 ⟨rfl, HB⟩)
        | (go_at_call 113; (with_reducible refine (CM.out _).mono ?_); rintro e w3 ⟨rfl, rfl⟩)
        | fail)
      go_ret
      exact ⟨rfl, HB⟩
theorem held16_cases (n : Int) (l : Int) (hl : 0 ≤ l) : (n < 0 ∧ held16 n l = 0) ∨ (¬ n < 0 ∧ l < n ∧ held16 n l = l) ∨ (¬ n < 0 ∧ ¬ l < n ∧ held16 n l = n) := by
  unfold held16 clampZ
  split
  · exact .inl (by omega)
  · split <;> omega
end Go.Proofs.Ytjcbcdjfhcnhcaa
