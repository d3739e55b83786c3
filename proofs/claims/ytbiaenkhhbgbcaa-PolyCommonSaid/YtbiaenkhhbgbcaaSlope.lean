/-
  Own text: Slope, walked.
-/
import Derived.Test.YtbiaenkhhbgbcaaMulW
namespace Go.Proofs.Ytbiaenkhhbgbcaa
open Go.RowKit

/-- The derivative's coefficients. -/
def slF (l : List Int) (i : Nat) : Nat := if i % 2 = 0 then co l (i + 1) else 0
/-- .. as far as they are laid. -/
def slK (l : List Int) (k i : Nat) : Nat := if i % 2 = 0 ∧ i < 2 * k then co l (i + 1) else 0
theorem slK_lt {l : List Int} (h : By l) (k i : Nat) : slK l k i < 256 := by unfold slK; split; · exact h.lt _
                                                                             · omega
theorem slF_lt {l : List Int} (h : By l) (i : Nat) : slF l i < 256 := by unfold slF; split; · exact h.lt _
                                                                         · omega
theorem slK_none (l : List Int) (N : Nat) : ofF (slK l 0) N = List.replicate N 0 := by
  apply List.ext_getElem
  · simp [ofF]
  · intro i h1 h2; simp [ofF, slK]
theorem slK_step {l : List Int} (h : By l) (N k : Nat) (hk : 2 * k < N) : (ofF (slK l k) N).set (2 * k) (co l (2 * k + 1) : Int) = ofF (slK l (k + 1)) N := by
  refine same_getD (by rw [List.length_set, ofF_length, ofF_length]) (fun i hi => ?_)
  rw [List.length_set, ofF_length] at hi
  rw [set_get _ _ _ _ (by rw [ofF_length]; exact hi), ofF_get _ _ _ hi, ofF_get _ _ _ hi]
  unfold slK
  by_cases e : i = 2 * k
  · subst e; rw [if_pos rfl, if_pos (by omega)]
  · rw [if_neg e]
    by_cases g : i % 2 = 0 ∧ i < 2 * k
    · rw [if_pos g, if_pos (by omega)]
    · rw [if_neg g, if_neg (by omega)]
theorem slK_all (l : List Int) (N k : Nat) (h : N ≤ 2 * k) : ofF (slK l k) N = ofF (slF l) N := by
  refine same_getD (by rw [ofF_length, ofF_length]) (fun i hi => ?_)
  rw [ofF_length] at hi
  rw [ofF_get _ _ _ hi, ofF_get _ _ _ hi]
  unfold slK slF
  by_cases g : i % 2 = 0
  · rw [if_pos ⟨g, by omega⟩, if_pos g]
  · rw [if_neg (fun e => g e.1), if_neg g]
theorem slF_sup {l : List Int} {N : Nat} (h : l.length ≤ N + 1) : Sup (slF l) N := fun i hi => by
  unfold slF; split
  · exact co_out (by omega)
  · rfl
/-- The derivative of a list. -/
def slopeL (l : List Int) : List Int := tr (ofF (slF l) (l.length - 1))
theorem slopeL_by {l : List Int} (h : By l) : By (slopeL l) := tr_by (ofF_by (slF_lt h) _)
theorem slopeL_co (l : List Int) (i : Nat) : co (slopeL l) i = slF l i := by unfold slopeL; rw [co_tr, ofF_all (slF_sup (by omega))]
theorem slopeL_neat {l : List Int} (h : By l) : Neat (slopeL l) := tr_neat (ofF_by (slF_lt h) _)
set_option maxRecDepth 100000 in
set_option maxHeartbeats 1000000 in
theorem slope_any (a : Option Addr) (n c : Nat) (l : List Int) (w : World) (hl : Sl w a n c l) (hn : n ≤ 10000) :
    Calls Try.prog 11 #[.slice a n c] w (Sliced (slopeL l) w) := by
  have bl : By l := hl.bytes.range
  have sl := hl.bytes.size
  obtain ⟨N, hN⟩ : ∃ N, l.length - 1 = N := ⟨_, rfl⟩
  have HSL : Hid (slopeL l = tr (ofF (slF l) N)) := Lib.hid (by unfold slopeL; rw [hN])
  rw [HSL.out]
  have HBL := Lib.hid bl
  have HL := Lib.hid hl
  have hmk : ∀ w : World, (Instr.makeSlice 22 (.int .i64 (N : Int)) (.int .i64 (N : Int))).run Try.prog w = .ok (.slice (some ⟨w.heap.size, 0, none⟩) N N) (w.alloc (.cells (madeCells #[.int .u8 0] N) 5)) := fun w =>
    run_make_row' (P := Try.prog) 22 5 (.int .u8 0) 1 Try.underlying22 (by kernel_rfl) rfl .i64 .i64 N (by omega) (by omega) w
  have HM := Lib.hid (fun w => made_row w N 5)
  generalize madeCells #[Value.int .u8 0] N = M at *
  rw [sl] at hN
  have HSZ := Lib.hid sl
  clear bl hl sl
  have hmk2 : 0 < n → ∀ w : World, (Instr.makeSlice 22 (.int .i64 ((n : Int) - 1)) (.int .i64 ((n : Int) - 1))).run Try.prog w = .ok (.slice (some ⟨w.heap.size, 0, none⟩) N N) (w.alloc (.cells M 5)) := fun h w => by
    rw [show (n : Int) - 1 = (N : Int) by omega]; exact hmk w
  have hor : (n = 0 ∧ N = 0) ∨ (0 < n ∧ N + 1 = n) := by omega
  have H0 : Hid (Own8 (w.alloc (.cells M 5)) w.heap.size (.slice (some ⟨w.heap.size, 0, none⟩) N N) N (ofF (slK l 0) N)) := Lib.hid (by
    rw [slK_none]
    exact Own8.row (HM.out w) (Nat.le_refl _) (by simp) (by unfold maxLen; omega))
  have HB0 : Hid (Below w.heap.size w (w.alloc (.cells M 5))) := Lib.hid ((Below.refl _ _).alloc (Nat.le_refl _) _)
  rcases hor with ⟨h0, h1⟩ | ⟨h0, h1⟩
  case' inl =>
    clear hmk2
    have hr : (n : Int) - 1 < 0 := by omega
    have hr2 : ¬ 0 ≤ (n : Int) - 1 := by omega
    have hmk3 : ∀ w : World, (Instr.makeSlice 22 (.int .i64 0) (.int .i64 0)).run Try.prog w = .ok (.slice (some ⟨w.heap.size, 0, none⟩) N N) (w.alloc (.cells M 5)) := fun w => by
      have := hmk w
      rw [h1] at this ⊢; exact this
    have HQ : Hid (∀ j, j < N → j + 1 < n) := Lib.hid (fun j h => by omega)
    clear h0 h1 hN
  case' inr =>
    have hmk3 := hmk2 h0
    clear hmk2
    have hr : (0 : Int) ≤ (n : Int) - 1 := by omega
    have hr2 : ¬ (n : Int) - 1 < 0 := by omega
    have HQ : Hid (∀ j, j < N → j + 1 < n) := Lib.hid (fun j h => by omega)
    clear h0 h1 hN
  all_goals
    go_enter Try.func11, Try.ntmps11
    go_wp2
    go_loopw [4] (fun i wr => ∃ k : Nat, k ≤ N ∧ 2 * k ≤ N + 1 ∧ i = .int .i64 (((2 * k : Nat) : Int)) ∧ Hid (Own8 wr w.heap.size (.slice (some ⟨w.heap.size, 0, none⟩) N N) N (ofF (slK l k) N)) ∧ Hid (Below w.heap.size w wr)) (fun i _ => N + 1 - (intOf i).toNat)
    case atStart => exact ⟨0, by omega, by omega, rfl, H0, HB0⟩
    case round =>
      obtain ⟨k, hk, hk2, rfl, HO, HB⟩ := hrel
      obtain ⟨wo, ho⟩ : ∃ wo, wo = wr := ⟨_, rfl⟩
      subst ho
      have HSS := fun h => Lib.hid (slK_step HBL.out N k h)
      have HE := fun h => Lib.hid (slK_all l N k h)
      obtain ⟨j, hj⟩ : ∃ j, 2 * k = j := ⟨_, rfl⟩
      rw [hj] at HSS HE
      rw [hj]
      by_cases hlt : j < N
      · have hjn := HQ.out j hlt
        obtain ⟨b', off', rfl, ck⟩ : ∃ b off, a = some ⟨b, off, none⟩ ∧ wo.cell? ⟨b, off + (j + 1), none⟩ = some (.int .u8 (l.getD (j + 1) 0)) := by
          rcases (HL.out.bytes.below HB.out (Nat.le_refl _)).cell with h | ⟨_, b, off, e, _, h⟩
          · omega
          · exact ⟨b, off, e, h (j + 1) (by omega)⟩
        rw [HBL.out.get (j + 1)] at ck
        have HS := HSS hlt
        clear HSS HE
        obtain ⟨g', e0, _, _, hc, hf, hst⟩ := HO.out.at_ (by omega)
        obtain rfl : w.heap.size = g' := by simp at e0; try exact e0
        have c3 := hc j (by omega)
        have f3 := hf j
        have HST := Lib.hid (hst j)
        clear hc hf hst e0
        have l1 := HBL.out.lt (j + 1)
        generalize co l (j + 1) = u at *
        have k0 : (0 : Int) ≤ j := by omega
        have k1 : (j : Int) < N := by omega
        have k2 : (j : Int) + 1 < n := by omega
        first
          | (exfalso; omega)
          | (
            go_wp2
            go_roundw
            case rel =>
              refine ⟨k + 1, by omega, by omega, by go_num, ?_, Lib.hid (HB.out.setCell (p := ⟨w.heap.size, j, none⟩) (Nat.le_refl _) _)⟩
              have h := HST.out (u : Int)
              rw [HS.out] at h
              exact Lib.hid h
            case measure => simp [intOf] <;> omega)
      · have HE2 := HE (by omega)
        rw [HE2.out] at HO
        have HC := Lib.hid (cut_any _ _ _ _ wo (HO.out.sl (ofF_by (slF_lt HBL.out) _)))
        go_wp2_with (go_at_call 28; go_loud (refine HC.out.mono ?_); rintro e w2 ⟨A2, n2, C2, rfl, h3, h4⟩; have H3 := Lib.hid h3; have H4 := Lib.hid h4; clear h3 h4)
        go_ret
        exact ⟨_, _, _, rfl, H3.out, HB.out.trans (H4.out.mono HB.out.size)⟩
end Go.Proofs.Ytbiaenkhhbgbcaa
