/-
  Own text: the law WordRoots, walked (Log, Root).
-/
import Derived.Test.YtgihngmfplfgaaaWordB
import Derived.Test.YtgihngmfplfgaaaLen
import Derived.Lib.Hide
import Derived.Lib.ItoaNum
namespace Go.Proofs.Ytgihngmfplfgaaa
open Go.RowKit

theorem or_add (R B : Int) (k r : Nat) (hR : R = (r : Int) * 2 ^ (k + 1)) (hB : B = 2 ^ k) (hs : R + B ≤ 4294967295) : bits .or .u64 R B = R + B := by
  have e1 : R = ((r * 2 ^ (k + 1) : Nat) : Int) := by rw [hR]; simp
  have e2 : B = ((2 ^ k : Nat) : Int) := by rw [hB]; simp
  generalize hx : r * 2 ^ (k + 1) = X at *
  generalize hy : 2 ^ k = Y at *
  subst e1 e2
  have m1 : ((X : Int) % ((2 ^ IntKind.u64.bits : Nat) : Int)).toNat = X := by
    show ((X : Int) % 18446744073709551616).toNat = X
    omega
  have m2 : ((Y : Int) % ((2 ^ IntKind.u64.bits : Nat) : Int)).toNat = Y := by
    show ((Y : Int) % 18446744073709551616).toNat = Y
    omega
  have o : X ||| Y = X + Y := by
    rw [← hx, ← hy, ← Nat.shiftLeft_eq, ← Nat.shiftLeft_add_eq_or_of_lt (Nat.pow_lt_pow_right (by omega) (by omega))]
  simp only [bits, BitVec.toNat_or, BitVec.toNat_ofInt, m1, m2, o]
  rw [IntKind.wrap_u64]
  omega

/-- Behind so many rounds: R is a multiple of 2^k, and x lies between its square and that of the next multiple. -/
def RootInv (x : Int) (k : Nat) (R B : Int) : Prop :=
  ∃ r : Nat, R = (r : Int) * 2 ^ k ∧ B = 2 ^ k / 2 ∧ R + 2 ^ k ≤ 4294967296 ∧ R * R ≤ x ∧ x < (R + 2 ^ k) * (R + 2 ^ k)
theorem RootInv.start (x : Int) (h : 0 ≤ x) (h' : x ≤ 18446744073709551615) : RootInv x 32 0 2147483648 := ⟨0, by simp, by decide, by decide, by omega, by
  show x < (0 + 4294967296) * (0 + 4294967296)
  omega⟩
theorem RootInv.stop {x R B : Int} (h : RootInv x 0 R B) : B = 0 ∧ 0 ≤ R ∧ R ≤ 4294967295 ∧ R * R ≤ x ∧ x < (R + 1) * (R + 1) := by
  obtain ⟨r, h1, h2, h3, h4, h5⟩ := h
  simp at h1 h2 h3 h5
  exact ⟨h2, by omega, by omega, h4, h5⟩
theorem square_le {a b : Int} (h : 0 ≤ a) (h' : a ≤ b) : a * a ≤ b * b := Int.mul_le_mul h' h' h (Int.le_trans h h')
theorem RootInv.step {x R B : Int} {k : Nat} (h : RootInv x (k + 1) R B) :
    0 < B ∧ B ≤ 2147483648 ∧ 0 ≤ R ∧ R + B ≤ 4294967295 ∧ bits .or .u64 R B = R + B ∧ 0 ≤ (R + B) * (R + B) ∧ (R + B) * (R + B) ≤ 18446744065119617025 ∧
      ((R + B) * (R + B) ≤ x → RootInv x k (R + B) (B / 2)) ∧ (x < (R + B) * (R + B) → RootInv x k R (B / 2)) := by
  obtain ⟨r, h1, h2, h3, h4, h5⟩ := h
  have p : (0 : Int) < 2 ^ k := Int.pow_pos (by decide)
  have e : (2 : Int) ^ (k + 1) = 2 ^ k + 2 ^ k := by rw [Int.pow_succ]; omega
  have hB : B = 2 ^ k := by rw [h2, e]; omega
  have hR0 : 0 ≤ R := by rw [h1]; exact Int.mul_nonneg (by omega) (Int.le_of_lt (Int.pow_pos (by decide)))
  have hs : R + B ≤ 4294967295 := by rw [e] at h3; omega
  have sq := square_le (a := R + B) (b := 4294967295) (by omega) hs
  refine ⟨by omega, by rw [e] at h3; omega, hR0, hs, or_add R B k r h1 hB hs, Int.mul_nonneg (by omega) (by omega), by simpa using sq, fun g => ?_, fun g => ?_⟩
  · refine ⟨2 * r + 1, ?_, by rw [hB], by rw [e] at h3; omega, g, ?_⟩
    · rw [h1, hB, e]
      have : (((2 * r + 1 : Nat) : Int)) = 2 * (r : Int) + 1 := by omega
      rw [this]; grind
    · have : R + B + 2 ^ k = R + 2 ^ (k + 1) := by rw [e]; omega
      rw [this]; exact h5
  · refine ⟨2 * r, ?_, by rw [hB], by rw [e] at h3; omega, h4, ?_⟩
    · rw [h1, e]
      have : (((2 * r : Nat) : Int)) = 2 * (r : Int) := by omega
      rw [this]; grind
    · rw [← hB]; exact g

theorem square_wrap {R : Int} (r0 : 0 ≤ R) (r1 : R ≤ 4294967295) : IntKind.u64.wrap (R * R) = R * R := by
  have a := square_le r0 r1
  have b : 0 ≤ R * R := Int.mul_nonneg r0 r0
  rw [IntKind.wrap_u64]
  generalize R * R = T at *
  omega
theorem next_wrap {R : Int} (r0 : 0 ≤ R) : R < 4294967295 → IntKind.u64.wrap ((R + 1) * (R + 1)) = (R + 1) * (R + 1) := fun h => square_wrap (by omega) (by omega)
def IsRoot (x : Int) (w : World) (e : Ending) (w' : World) : Prop := ∃ R : Int, e = .returned (.int .u64 R) ∧ 0 ≤ R ∧ R ≤ 4294967295 ∧ R * R ≤ x ∧ x < (R + 1) * (R + 1) ∧ w = w'

theorem root_any (x : Int) (w : World) (hx0 : 0 ≤ x) (hx : x ≤ 18446744073709551615) :
    Calls Try.prog 38 #[.int .u64 x] w (IsRoot x w) := by
  have HI := Lib.hid (RootInv.start x hx0 hx)
  go_enter Try.func38, Try.ntmps38
  go_wp2
  go_loop [3, 4] (fun root bit => ∃ (k : Nat) (R B : Int), root = .int .u64 R ∧ bit = .int .u64 B ∧ Hid (RootInv x k R B)) (fun _ bit => (intOf bit).toNat)
  case atStart => exact ⟨32, 0, 2147483648, rfl, rfl, HI⟩
  case round =>
    obtain ⟨k, R, B, rfl, rfl, H⟩ := hrel
    cases k with
    | zero =>
      obtain ⟨b, r0, r1, r2, r3⟩ := H.out.stop
      subst b
      have H3 := Lib.hid r3
      clear r3 H HI
      go_wp2
      go_ret
      exact ⟨R, rfl, r0, r1, r2, H3.out, rfl⟩
    | succ k =>
      obtain ⟨b0, b1, r0, r1, o, s0, s1, yes, no⟩ := H.out.step
      have HY := Lib.hid yes
      have HN := Lib.hid no
      clear yes no H HI
      have S : IntKind.u64.wrap ((R + B) * (R + B)) = (R + B) * (R + B) := by rw [IntKind.wrap_u64]; omega
      generalize hT : (R + B) * (R + B) = T at *
      have HT := Lib.hid hT
      by_cases g : T ≤ x
      · have HI2 := Lib.hid (HY.out g)
        clear HY HN HT
        go_wp2
        go_round
        case rel => exact ⟨k, R + B, B / 2, rfl, rfl, HI2⟩
        case measure => simp only [intOf]; omega
      · have g' : x < T := by omega
        have HI2 := Lib.hid (HN.out g')
        clear HY HN HT g
        go_wp2
        go_round
        case rel => exact ⟨k, R, B / 2, rfl, rfl, HI2⟩
        case measure => simp only [intOf]; omega

theorem log_any (x : Int) (w : World) (hx0 : 0 ≤ x) (hx : x ≤ 18446744073709551615) :
    Calls Try.prog 39 #[.int .u64 x] w fun e w' => e = .returned (.int .i64 (Lib.bitLen x.toNat)) ∧ w = w' := by
  have c := fun w => len64_any x w hx0 hx
  generalize Lib.bitLen x.toNat = L at *
  go_enter Try.func39, Try.ntmps39
  go_wp2_with (go_at_call 46; refine (c _).mono ?_; clear c; rintro e w' ⟨rfl, rfl⟩)
  go_ret
  exact ⟨rfl, rfl⟩

theorem log_facts (x : Int) (hx0 : 0 ≤ x) (hx : x ≤ 18446744073709551615) :
    (x = 0 → Lib.bitLen x.toNat = 0) ∧ (0 < x → 1 ≤ Lib.bitLen x.toNat ∧ Lib.bitLen x.toNat ≤ 64 ∧ x / 2 ^ (Lib.bitLen x.toNat - 1) = 1) := by
  refine ⟨fun h => by subst h; decide, fun h => ?_⟩
  obtain ⟨a, b, c⟩ := Lib.bitLenAux_bounds 64 x.toNat (by omega) (by omega)
  have hL := Lib.bitLen_le x.toNat 64 (Nat.le_refl _) (by omega)
  unfold Lib.bitLen at *
  generalize Lib.bitLenAux 64 x.toNat = L at *
  refine ⟨a, hL, ?_⟩
  obtain ⟨k, rfl⟩ : ∃ k, L = k + 1 := ⟨L - 1, by omega⟩
  obtain ⟨n, rfl⟩ : ∃ n : Nat, x = n := ⟨x.toNat, by omega⟩
  simp only [Nat.add_sub_cancel, Int.toNat_natCast] at *
  have : n / 2 ^ k = 1 := by
    rw [Nat.pow_succ] at c
    exact Nat.div_eq_of_lt_le (by omega) (by omega)
  have q : ((n : Int) / 2 ^ k) = ((n / 2 ^ k : Nat) : Int) := by simp
  rw [q, this]
  rfl

theorem roots_walk (x : Int) (w : World) (hx0 : 0 ≤ x) (hx : x ≤ 18446744073709551615) :
    Calls Try.prog 11 #[.int .u64 x] w fun e w' => e = .returned (.bool true) ∧ w = w' := by
  have c := fun w => log_any x w hx0 hx
  have cr := fun w => root_any x w hx0 hx
  obtain ⟨z, p⟩ := log_facts x hx0 hx
  by_cases h0 : x = 0
  · have z0 := z h0
    rw [z0] at c
    clear p z z0
    subst h0
    go_enter Try.func11, Try.ntmps11
    go_wp2_with (first
      | (go_at_call 12; refine (awake_any _).mono ?_; rintro e w' ⟨rfl, rfl⟩)
      | (go_at_call 38; refine (cr _).mono ?_; clear cr; rintro e w' ⟨R, rfl, r0, r1, r2, r3, rfl⟩; have S := square_wrap r0 r1; have S2 := next_wrap r0)
      | (go_at_call 39; refine (c _).mono ?_; clear c; rintro e w' ⟨rfl, rfl⟩))
    all_goals go_ret
    all_goals exact ⟨rfl, rfl⟩
  · obtain ⟨l1, l2, D⟩ := p (by omega)
    have h1 : 1 ≤ x := by omega
    clear p z h0
    generalize Lib.bitLen x.toNat = L at *
    go_enter Try.func11, Try.ntmps11
    go_wp2_with (first
      | (go_at_call 12; refine (awake_any _).mono ?_; rintro e w' ⟨rfl, rfl⟩)
      | (go_at_call 38; refine (cr _).mono ?_; clear cr; rintro e w' ⟨R, rfl, r0, r1, r2, r3, rfl⟩; have S := square_wrap r0 r1; have S2 := next_wrap r0)
      | (go_at_call 39; refine (c _).mono ?_; clear c; rintro e w' ⟨rfl, rfl⟩))
    all_goals go_ret
    all_goals exact ⟨rfl, rfl⟩
end Go.Proofs.Ytgihngmfplfgaaa
