/-
  Own text: the document's inverses and powers; the laws on one, two and three elements, walked.
-/
import Derived.Test.YtipaolkgafhliaaGfD
namespace Go.Proofs.Ytipaolkgafhliaa
open Go.RowKit

set_option maxRecDepth 100000 in
theorem rinv_any (a : Nat) (ha : a < 256) (h0 : a ≠ 0) (w : World) :
    Calls Try.prog 56 #[.int .u8 a] w fun e w' => e = .returned (.int .u8 (gi a)) ∧ w = w' := by
  have HO := Lib.hid (fun c hc h => gi_only (c := c) ha h0 hc h)
  have HG := Lib.hid (gm_gi ha h0)
  have HL := Lib.hid (gi_lt a)
  have HN := Lib.hid (gi_ne a)
  have HM := Lib.hid h0
  generalize gi a = g at *
  clear h0
  go_enter Try.func56, Try.ntmps56
  go_wp2
  go_loop [3] (fun i => ∃ k : Nat, 1 ≤ k ∧ k ≤ g ∧ i = .int .i64 k) (fun i => 256 - (intOf i).toNat)
  case atStart => exact ⟨1, by omega, by have := HN.out; omega, rfl⟩
  case round =>
    obtain ⟨k, hk, hkg, rfl⟩ := hrel
    have hl := HL.out
    have k1 : (k : Int) < 256 := by omega
    have k2 : (1 : Int) ≤ k := by omega
    have k3 : k < 256 := by omega
    have HE := Lib.hid (HO.out k k3)
    have hlt : k < g ∨ k = g := by omega
    have HLT := Lib.hid hlt
    have cm := fun w => rmul_any a k ha k3 w
    have HK : Hid (k = g → gm a k = 1) := Lib.hid (fun e => by rw [e]; exact HG.out)
    generalize gm a k = p at *
    have CM := Lib.hid cm
    clear cm hlt
    cases h : ((p : Int) == 1)
    all_goals
      go_wp2_with (go_at_call 34; refine (CM.out _).mono ?_; rintro e w' ⟨rfl, rfl⟩)
    · go_round
      case rel =>
        refine ⟨k + 1, by omega, ?_, by go_num⟩
        rcases HLT.out with g | g
        · omega
        · have := HK.out g; rw [this] at h; simp at h
      case measure => simp [intOf]; omega
    · go_ret
      exact ⟨ret_int (by have e0 : (p : Int) = 1 := (by simpa using h); have e := HE.out (by omega); rw [← e]), rfl⟩
theorem rpow_any (a n : Nat) (ha : a < 256) (h0 : a ≠ 0) (hn : n < 255) (w : World) :
    Calls Try.prog 42 #[.int .u8 a, .int .i64 n] w fun e w' => e = .returned (.int .u8 (pwZ (lg a * n))) ∧ w = w' := by
  have HS : Hid (∀ k : Nat, gm (pwZ (lg a * k)) a = pwZ (lg a * (k + 1 : Nat))) := Lib.hid fun k => by
    have := pwZ_add (lg a * k) (lg a)
    rw [pwZ_lg ha h0] at this
    rw [this, Int.natCast_add, Int.mul_add]; simp
  have HM := Lib.hid h0
  have H1 : Hid (1 = pwZ (lg a * (0 : Nat))) := Lib.hid (by simp; rfl)
  clear h0
  go_enter Try.func42, Try.ntmps42
  go_wp2
  go_loop [5, 6] (fun o i => ∃ k : Nat, k ≤ n ∧ i = .int .i64 k ∧ o = .int .u8 (pwZ (lg a * k))) (fun _ i => n - (intOf i).toNat)
  case atStart => exact ⟨0, by omega, rfl, by rw [← H1.out]; rfl⟩
  case round =>
    obtain ⟨k, hk, rfl, rfl⟩ := hrel
    by_cases hlt : k < n
    · have HE := Lib.hid (HS.out k)
      have hp := pwZ_lt (lg a * k)
      generalize pwZ (lg a * k) = p at *
      have CM := Lib.hid (fun w => rmul_any p a hp ha w)
      go_wp2_with (go_at_call 34; refine (CM.out _).mono ?_; rintro e w' ⟨rfl, rfl⟩)
      go_round
      case rel => exact ⟨k + 1, by omega, by go_num, by rw [HE.out]⟩
      case measure => simp [intOf]; omega
    · obtain rfl : k = n := by omega
      go_wp2
      go_ret
      exact ⟨rfl, rfl⟩
theorem u8_of {n : Int} (h : (Lit.int .u8 n).wf = true) : ∃ a : Nat, n = a ∧ a < 256 := by
  obtain ⟨h0, h1⟩ := u8_lo h
  exact ⟨n.toNat, by omega, by omega⟩
end Go.Proofs.Ytipaolkgafhliaa
