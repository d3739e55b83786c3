/-
  Own text: the law CrcShifts, walked.
-/
import Derived.Test.YtpllflmflfbnpaaJoin
import Derived.Test.YtpllflmflfbnpaaSumsL
namespace Go.Proofs.Ytpllflmflfbnpaa
open Go.RowKit

set_option maxRecDepth 100000 in
theorem shifts_any (p : Int) (a b : BitVec 32) (w : World) (p0 : -9223372036854775808 ≤ p) (p1 : p ≤ 9223372036854775807) :
    Calls Try.prog 7 #[.int .i64 p, .int .u32 a.toNat, .int .u32 b.toNat] w fun e w' => e = .returned (.bool true) ∧ Below w.heap.size w w' := by
  obtain ⟨N, hN, hN2, e1, e2, e3⟩ := clamp_64 p
  have cs := fun w => shift_any p N hN hN2 w
  have CS := Lib.hid cs
  have E1 := Lib.hid e1
  have E2 := Lib.hid e2
  have E3 := Lib.hid e3
  clear cs e1 e2 e3 hN
  go_enter Try.func7, Try.ntmps7
  go_wp2_with (first
    | (go_at_call 9; refine (awake_any _).mono ?_; rintro e w1 ⟨rfl, hb1⟩; have HB1 := Lib.hid hb1; clear hb1)
    | (go_at_call 22; refine (CS.out _).mono ?_; rintro e w2 ⟨rfl, hb2⟩; have HB2 := Lib.hid (HB1.out.trans (hb2.mono HB1.out.size)); clear hb2)
    | (with_reducible refine wpList_store_new rfl (.tmp 7) (.tmp 16) rfl w2 rfl (matOf N) rfl ?_))
  have HB3 := Lib.hid (HB2.out.alloc HB2.out.size (.cells (arr (matOf N)) 40))
  have HM := Lib.hid (Mat.new w2 (matOf N))
  generalize w2.alloc (.cells (arr (matOf N)) 40) = W at *
  go_loop [8, 9, 10] (fun i _ _ => ∃ k : Nat, k ≤ 32 ∧ i = .int .i64 k) (fun i _ _ => 32 - (intOf i).toNat)
  case atStart => exact ⟨0, by omega, rfl⟩
  case round =>
    obtain ⟨k, hk, rfl⟩ := hrel
    by_cases hlt : k < 32
    · have k0 : (0 : Int) ≤ k := by omega
      have k1 : (k : Int) < 32 := by omega
      have os := one_shl k hlt
      have c1 : W.cell? ⟨w2.heap.size, k, none⟩ = some (.int .u32 ((ones N (bitB k)).toNat : Int)) := HM.out.cell k hlt
      go_wp2
      go_loop [9, 10] (fun r j => ∃ q : Nat, q ≤ N ∧ j = .int .i64 q ∧ r = .int .u32 (ones q (bitB k)).toNat) (fun _ j => N - (intOf j).toNat)
      case atStart => exact ⟨0, by omega, rfl, rfl⟩
      case round =>
        obtain ⟨q, hq, rfl, rfl⟩ := hrel
        have q0 : (0 : Int) ≤ q := by omega
        by_cases hqn : q < N
        · have q1 : (q : Int) < p := by have := E1.out; have := E2.out; have := E3.out; omega
          have q2 : (q : Int) < 64 := by omega
          go_wp2_with (go_at_call 23; refine (rone_any _ _).mono ?_; rintro e w' ⟨rfl, rfl⟩)
          go_round
          case rel => exact ⟨q + 1, by omega, by go_num, by rw [ones_succ]⟩
          case measure => simp [intOf]; omega
        · obtain rfl : q = N := by omega
          by_cases h64 : 64 < p
          · have q1 : (q : Int) < p := by have := E3.out h64; omega
            have q2 : ¬ (q : Int) < 64 := by have := E3.out h64; omega
            go_wp2
            go_round
            case rel => exact ⟨k + 1, by omega, by go_num⟩
            case measure => simp [intOf]; omega
          · have q1 : ¬ (q : Int) < p := by have := E1.out; have := E2.out; omega
            go_wp2
            go_round
            case rel => exact ⟨k + 1, by omega, by go_num⟩
            case measure => simp [intOf]; omega
    · obtain rfl : k = 32 := by omega
      by_cases hneg : p < 0
      · go_wp2_with (first
          | (go_at_call 21; ((with_reducible refine (join_none a b 0 W (by decide)).mono ?_); rintro e w4 ⟨rfl, hb4⟩; have HB4 := Lib.hid (HB3.out.trans (hb4.mono HB3.out.size)); clear hb4))
          | (go_at_call 21; ((with_reducible refine (join_none a b (-1) w4 (by decide)).mono ?_); rintro e w5 ⟨rfl, hb5⟩; have HB5 := Lib.hid (HB4.out.trans (hb5.mono HB4.out.size)); clear hb5)))
        go_ret
        exact ⟨rfl, HB5.out⟩
      · by_cases h64 : 64 < p
        · go_wp2_with (first
            | (go_at_call 21; ((with_reducible refine (join_none a b 0 W (by decide)).mono ?_); rintro e w4 ⟨rfl, hb4⟩; have HB4 := Lib.hid (HB3.out.trans (hb4.mono HB3.out.size)); clear hb4))
            | (go_at_call 21; ((with_reducible refine (join_none a b (-1) w4 (by decide)).mono ?_); rintro e w5 ⟨rfl, hb5⟩; have HB5 := Lib.hid (HB4.out.trans (hb5.mono HB4.out.size)); clear hb5)))
          go_ret
          exact ⟨rfl, HB5.out⟩
        · have hp : p = N := E1.out (by omega) (by omega)
          subst hp
          go_wp2
          go_loop [11, 12] (fun r j => ∃ q : Nat, q ≤ 8 * N ∧ j = .int .i64 q ∧ r = .int .u32 (ones q a).toNat) (fun _ j => 8 * N - (intOf j).toNat)
          case atStart => exact ⟨0, by omega, rfl, rfl⟩
          case round =>
            obtain ⟨q, hq, rfl, rfl⟩ := hrel
            by_cases hqn : q < 8 * N
            · have q1 : (q : Int) < 8 * (N : Int) := by omega
              go_wp2_with (go_at_call 23; refine (rone_any _ _).mono ?_; rintro e w' ⟨rfl, rfl⟩)
              go_round
              case rel => exact ⟨q + 1, by omega, by go_num, by rw [ones_succ]⟩
              case measure => simp [intOf]; omega
            · obtain rfl : q = 8 * N := by omega
              have q1 : ¬ ((8 * N : Nat) : Int) < 8 * (N : Int) := by omega
              have bx := bits_xor (ones (8 * N) a) b
              by_cases hz : N = 0
              · subst hz
                go_wp2
                go_ret
                exact ⟨rfl, HB3.out⟩
              · have hz' : ((N : Int) == 0) = false := by simp; omega
                go_wp2_with (go_at_call 21; refine (join_some a b N W (by omega) (by omega)).mono ?_; rintro e w4 ⟨rfl, hb4⟩; have HB4 := Lib.hid (HB3.out.trans (hb4.mono HB3.out.size)); clear hb4)
                go_ret
                exact ⟨rfl, HB4.out⟩
theorem i64_lo {n : Int} (h : (Lit.int .i64 n).wf = true) : -9223372036854775808 ≤ n ∧ n ≤ 9223372036854775807 := by
  simp [Lit.wf, IntKind.min, IntKind.max, IntKind.bits, IntKind.signed] at h; omega
theorem shifts_walk (p q r : Int) (w : World) (hp : (Lit.int .i64 p).wf = true) (hq : (Lit.int .u32 q).wf = true) (hr : (Lit.int .u32 r).wf = true) :
    Calls Try.prog 7 #[.int .i64 p, .int .u32 q, .int .u32 r] w fun e w' => e = .returned (.bool true) ∧ Below w.heap.size w w' := by
  obtain ⟨p0, p1⟩ := i64_lo hp
  obtain ⟨q0, q1⟩ := u32_lo hq
  obtain ⟨r0, r1⟩ := u32_lo hr
  obtain ⟨a, rfl⟩ := bv_of q0 q1
  obtain ⟨b, rfl⟩ := bv_of r0 r1
  exact shifts_any p a b w p0 p1
end Go.Proofs.Ytpllflmflfbnpaa
