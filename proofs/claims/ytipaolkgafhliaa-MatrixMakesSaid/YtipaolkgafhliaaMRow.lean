/-
  Own text: Row of package matrix, walked.
-/
import Derived.Test.YtipaolkgafhliaaAwakeM
import Derived.Test.YtipaolkgafhliaaInvert
namespace Go.Proofs.Ytipaolkgafhliaa
open Go.RowKit

set_option maxRecDepth 100000 in
theorem mrow_none (r c i : Int) (n cap : Nat) (a : Option Addr) (w : World) (h : ¬ (RightM r c n ∧ 0 ≤ i ∧ i < r)) :
    Calls Try.prog 14 #[.agg #[.int .i64 r, .int .i64 c, .slice a n cap], .int .i64 i] w fun e w' => e = .returned (.slice none 0 0) ∧ Below w.heap.size w w' := by
  have HR := Lib.hid (right_any r c n a cap)
  have HH := Lib.hid (has_any r c i n a cap)
  have hcase : decide (RightM r c n) = false ∨ (decide (RightM r c n) = true ∧ decide (0 ≤ i ∧ i < r) = false) := by
    by_cases h1 : RightM r c n
    · exact .inr ⟨decide_eq_true h1, decide_eq_false (fun h2 => h ⟨h1, h2⟩)⟩
    · exact .inl (decide_eq_false h1)
  clear h
  rcases hcase with h1 | ⟨h1, h2⟩
  all_goals
    rw [h1] at HR
    try rw [h2] at HH
    clear h1
    go_enter Try.func14, Try.ntmps14
    go_wp2_with first
      | (go_at_call 13; refine (HR.out _).mono ?_; rintro e w1 ⟨rfl, hb⟩; have HX := Lib.hid ((alloc_bx w _ _ _).below hb (alloc_lt _ _)); have HB := Lib.hid (later1 hb); clear hb; obtain ⟨k0, k1, k2, kf⟩ := HX.out.cells)
      | (go_at_call 37; refine (HH.out _).mono ?_; rintro e w2 ⟨rfl, hb⟩; have HB2 := Lib.hid (HB.out.trans (hb.mono HB.out.size)); clear hb k0 k1 k2 kf)
    go_ret
    first
      | exact ⟨rfl, HB2.out⟩
      | exact ⟨rfl, HB.out⟩
set_option maxRecDepth 100000 in
set_option maxHeartbeats 1000000 in
theorem mrow_some (R Cn i cap : Nat) (hR : R ≤ 255) (hC : Cn ≤ 255) (hi : i < R) (a : Option Addr) (l : List Int) (w : World) (ha : Sl w a (R * Cn) cap l) :
    Calls Try.prog 14 #[.agg #[.int .i64 R, .int .i64 Cn, .slice a ((R * Cn : Nat)) cap], .int .i64 i] w (Cloned Cn (seg l (i * Cn) Cn) w) := by
  have hm : R * Cn ≤ 65025 := Nat.mul_le_mul hR hC
  have HR := Lib.hid (right_yes R Cn (R * Cn) hR hC rfl a cap)
  have HH := Lib.hid (has_any R Cn i (R * Cn) a cap)
  rw [decide_eq_true (show (0 : Int) ≤ (i : Int) ∧ (i : Int) < R from ⟨by omega, by omega⟩)] at HH
  have HP := Lib.hid (parts_any a (R * Cn) cap R Cn (by omega) ha.cap (Nat.le_refl _) (by omega) ha.nilc)
  have HPART : Hid (∀ w', Below w.heap.size w w' → Sl w' (onA a (i * Cn)) Cn Cn (seg l (i * Cn) Cn)) := Lib.hid (fun w' h => by
    have h1 := ha.below h (Nat.le_refl _)
    exact ⟨h1.bytes.part (i * Cn) Cn ((laid_rows R Cn _ (Nat.le_refl _)).fit i hi), Nat.le_refl _, by omega, fun e => by
      have : a = none := by cases a with | none => rfl | some x => simp [onA] at e
      have h0 := ha.nilc this
      have h3 := ha.cap
      have h4 : R * Cn = 0 := by omega
      rcases Nat.mul_eq_zero.1 h4 with g | g
      · omega
      · exact g⟩)
  have HCL : Hid (∀ w', Below w.heap.size w w' → Calls Try.prog 38 #[.slice (onA a (i * Cn)) Cn Cn] w' (Cloned Cn (seg l (i * Cn) Cn) w')) := Lib.hid (fun w' h => clone_any _ _ _ _ w' (HPART.out w' h) (by omega))
  unfold Cloned at HCL ⊢
  generalize seg l (i * Cn) Cn = L at *
  obtain ⟨m, hmm⟩ : ∃ m, R * Cn = m := ⟨_, rfl⟩
  rw [hmm] at hm HR HH HP ⊢
  clear hmm ha HPART
  go_enter Try.func14, Try.ntmps14
  go_wp2_with first
    | (go_at_call 13; refine (HR.out _).mono ?_; rintro e w1 ⟨rfl, hb⟩; have HX := Lib.hid ((alloc_bx w _ _ _).below hb (alloc_lt _ _)); have HB := Lib.hid (later1 hb); clear hb; obtain ⟨k0, k1, k2, kf⟩ := HX.out.cells)
    | (go_at_call 37; refine (HH.out _).mono ?_; rintro e w2 ⟨rfl, hb⟩; have HX2 := Lib.hid (HX.out.below hb HX.out.lt); have HB2 := Lib.hid (HB.out.trans (hb.mono HB.out.size)); clear hb k0 k1 k2 kf; obtain ⟨k0, k1, k2, kf⟩ := HX2.out.cells)
    | (go_at_call 39; refine (HP.out _).mono ?_; rintro e w3 ⟨h, rfl, hh, hl, hb⟩; have HB3 := Lib.hid (HB2.out.trans (hb.mono HB2.out.size)); have HC := Lib.hid (HCL.out _ HB3.out); have cr := hl.cell i hi; clear hh hl hb)
    | (go_at_call 38; refine HC.out.mono ?_; rintro e w4 ⟨A, C, rfl, ho, hb⟩; have HO := Lib.hid ho; have HB4 := Lib.hid (HB3.out.trans (hb.mono HB3.out.size)); clear ho hb)
  go_ret
  exact ⟨A, C, rfl, HO.out.mono HB3.out.size, HB4.out⟩
end Go.Proofs.Ytipaolkgafhliaa
