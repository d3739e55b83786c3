/-
  Own text: Clamp, Has, Holes, awake, walked.
-/
import Derived.Test.YtfemiflgnadfkaaSqD
namespace Go.Proofs.Ytfemiflgnadfkaa
open Go.RowKit

theorem and_bit_all (b : BitVec 64) (d : Nat) : ((bits .and .u64 (b.toNat : Int) ((1#64 <<< d).toNat : Int)) != 0) = b.getLsbD d := by
  by_cases h : d < 64
  · exact and_bit b d h
  · have e : (1#64 <<< d).toNat = 0 := by
      have := bit_is d
      rw [decide_eq_true (by omega)] at this
      have := beq_iff_eq.1 this
      omega
    rw [e, BitVec.getLsbD_of_ge _ _ (by omega)]
    have := and64 b.toNat 0 b.isLt (by omega)
    rw [Nat.and_zero] at this
    rw [this]
    rfl
theorem has_any (b : Nat) (s : Sn) (n : Nat) (hn : n < 4294967296) (ht : s.top < 4294967296) (w : World) (h : SBlk w b s) :
    Calls Try.prog 9 #[.pointer (some ⟨b, 0, none⟩), .int .u32 n] w fun e w' => e = .returned (.bool (s.bts.getLsbD (dist s.top n))) ∧ ∃ k, w' = w.drewN k := by
  have c2 : w.cell? ⟨b, 2, none⟩ = some (.int .u64 s.bts.toNat) := h.cell 2
  have HN : Hid (∀ n, SBlk (w.drewN n) b s) := Lib.hid (fun _ => h)
  have CI := Lib.hid (bit_any b s n hn ht)
  have ab := and_bit_all s.bts (dist s.top n)
  clear h
  generalize (1#64 <<< dist s.top n).toNat = v at *
  generalize s.bts.getLsbD (dist s.top n) = r at *
  generalize s.bts.toNat = u at *
  clear hn
  go_enter Try.func9, Try.ntmps9
  go_upto_region 1 with fail
  go_quiet ((go_at_call 15; exact Calls.quiet_of_same ((CI.out _ (HN.out _)).mono fun _ _ h => ⟨h.1, h.2.symm⟩)))
  go_wp2
  go_ret
  exact ⟨rfl, _, rfl⟩
/-- Held within 0 and 64. -/
def upto64 (n : Int) : Nat := (min n 64).toNat
theorem clamp8_any (n : Int) (h0 : -9223372036854775808 ≤ n) (h1 : n ≤ 9223372036854775807) (w : World) :
    Calls Try.prog 16 #[.int .i64 n, .int .i64 0, .int .i64 64] w fun e w' => e = .returned (.int .i64 (upto64 n)) ∧ w = w' := by
  have hu : (n < 0 → upto64 n = 0) ∧ (0 ≤ n → n ≤ 64 → (upto64 n : Int) = n) ∧ (64 < n → upto64 n = 64) := by unfold upto64; omega
  have HU := Lib.hid hu
  clear hu
  by_cases h : n < 0
  · rw [HU.out.1 h]
    go_enter Try.func16, Try.ntmps16
    go_wp2
    go_ret
    exact ⟨rfl, rfl⟩
  · by_cases h2 : n ≤ 64
    · rw [HU.out.2.1 (by omega) h2]
      go_enter Try.func16, Try.ntmps16
      go_wp2
      go_ret
      exact ⟨rfl, rfl⟩
    · rw [HU.out.2.2 (by omega)]
      go_enter Try.func16, Try.ntmps16
      go_wp2
      go_ret
      exact ⟨rfl, rfl⟩
theorem holes_pop (g : BitVec 64) (c : Nat) (hc : c ≤ 64) : pop (g <<< (64 - c)).toNat = cnt g.getLsbD c := by
  have hs : ∀ p : Nat → Bool, cnt p 64 = cnt p (64 - c) + cnt (fun i => p (i + (64 - c))) c := fun p => by rw [← cnt_add]; congr 1; omega
  rw [pop_bv, hs]
  have h1 : cnt (g <<< (64 - c)).getLsbD (64 - c) = 0 := cnt_none (fun i hi => by simp [hi])
  rw [h1, Nat.zero_add]
  apply cnt_congr
  intro i hi
  have h2 : i + (64 - c) < 64 := by omega
  have h3 : ¬ i + (64 - c) < 64 - c := by omega
  rw [BitVec.getLsbD_shiftLeft]
  simp [h2]
set_option maxRecDepth 100000 in
theorem holes_any (b : Nat) (s : Sn) (n : Int) (h0 : -9223372036854775808 ≤ n) (h1 : n ≤ 9223372036854775807) (w : World) (h : SBlk w b s) :
    Calls Try.prog 10 #[.pointer (some ⟨b, 0, none⟩), .int .i64 n] w fun e w' => e = .returned (.int .i64 (cnt s.gone.getLsbD (upto64 n))) ∧ w = w' := by
  have CC := Lib.hid (clamp8_any n h0 h1)
  have CM := Lib.hid (missing_any b s w h)
  have hc : upto64 n ≤ 64 := by unfold upto64; omega
  have hp := holes_pop s.gone (upto64 n) hc
  have co := ones_any (s.gone <<< (64 - upto64 n)).toNat (BitVec.isLt _)
  rw [hp] at co
  have CO := Lib.hid co
  obtain ⟨d, hd⟩ : ∃ d, d = 64 - upto64 n := ⟨_, rfl⟩
  have hd2 : (64 : Int) - (upto64 n : Int) = d := by omega
  have sl := shl64 s.gone d .i64 (by omega)
  rw [← hd] at CO
  have hd3 : d ≤ 64 := by omega
  have sw : IntKind.u64.wrap ((s.gone.toNat : Int) * 2 ^ d) = ((s.gone <<< d).toNat : Int) := by
    rw [IntKind.wrap_u64, BitVec.toNat_shiftLeft, Nat.shiftLeft_eq]
    simp
  clear co hp h hd
  generalize cnt s.gone.getLsbD (upto64 n) = r at *
  generalize upto64 n = c at *
  generalize (s.gone <<< d).toNat = v at *
  generalize s.gone.toNat = u at *
  go_enter Try.func10, Try.ntmps10
  go_wp2_with (first
    | (go_at_call 16; refine (CC.out _).mono ?_; rintro e w1 ⟨rfl, rfl⟩)
    | (go_at_call 18; refine (CM.out).mono ?_; rintro e w1 ⟨rfl, rfl⟩)
    | (go_at_call 17; refine (CO.out _).mono ?_; rintro e w1 ⟨rfl, rfl⟩))
  go_ret
  exact ⟨rfl, rfl⟩
end Go.Proofs.Ytfemiflgnadfkaa
