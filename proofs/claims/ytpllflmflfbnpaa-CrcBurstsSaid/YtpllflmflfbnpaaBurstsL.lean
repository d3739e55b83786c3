/-
  Own text: the law CrcBursts, walked.
-/
import Derived.Test.YtpllflmflfbnpaaBurstM
import Derived.Test.YtpllflmflfbnpaaSealsL
namespace Go.Proofs.Ytpllflmflfbnpaa
open Go.RowKit

theorem turn_val (z : Int) (h0 : 0 ≤ z) (h1 : z ≤ 255) (j : Nat) (hj : j < 8) :
    0 ≤ bits .xor .u8 z (2 ^ j % 256) ∧ bits .xor .u8 z (2 ^ j % 256) ≤ 255 ∧ byteB (bits .xor .u8 z (2 ^ j % 256)) = byteB z ^^^ bitB j := by
  obtain ⟨x, rfl⟩ : ∃ x : Nat, z = x := ⟨z.toNat, by omega⟩
  have e2 : ((2 : Int) ^ j % 256) = ((2 ^ j : Nat) : Int) := by
    rcases (show j = 0 ∨ j = 1 ∨ j = 2 ∨ j = 3 ∨ j = 4 ∨ j = 5 ∨ j = 6 ∨ j = 7 by omega) with rfl | rfl | rfl | rfl | rfl | rfl | rfl | rfl <;> decide
  have hp : 2 ^ j < 2 ^ 8 := Nat.pow_lt_pow_right (by omega) hj
  have hx : x ^^^ 2 ^ j < 2 ^ 8 := Nat.xor_lt_two_pow (by omega) hp
  rw [e2]
  have hb := bitB_toNat j (by omega)
  generalize 2 ^ j = y at *
  have m1 : ((x : Int) % ((2 ^ IntKind.u8.bits : Nat) : Int)).toNat = x := by
    show ((x : Int) % 256).toNat = x
    omega
  have m2 : ((y : Int) % ((2 ^ IntKind.u8.bits : Nat) : Int)).toNat = y := by
    show ((y : Int) % 256).toNat = y
    omega
  have e : bits .xor .u8 (x : Int) (y : Int) = ((x ^^^ y : Nat) : Int) := by
    simp only [bits, BitVec.toNat_xor, BitVec.toNat_ofInt, m1, m2]
    rw [IntKind.wrap_u8]
    omega
  rw [e]
  refine ⟨by omega, by omega, ?_⟩
  apply BitVec.eq_of_toNat_eq
  rw [BitVec.toNat_xor, hb]
  unfold byteB
  have q : ∀ v : Nat, v < 256 → (BitVec.ofInt 32 (v : Int)).toNat = v := fun v hv => by
    rw [BitVec.toNat_ofInt]
    show ((v : Int) % 4294967296).toNat = v
    omega
  rw [q _ hx, q x (by omega)]
theorem bursts_big (a : Option Addr) (len cap : Nat) (p q : Int) (w : World) (hbig : 1000 < len) (hm : len ≤ 9223372036854775807) :
    Calls Try.prog 8 #[.slice a len cap, .int .u16 p, .int .u32 q] w fun e w' => e = .returned (.bool true) ∧ Below w.heap.size w w' := by
  go_enter Try.func8, Try.ntmps8
  go_wp2_with (go_at_call 9; refine (awake_any _).mono ?_; rintro e w' ⟨rfl, hb⟩)
  go_ret
  exact ⟨rfl, hb⟩
set_option maxRecDepth 100000 in
theorem bursts_small (a : Option Addr) (n cap : Nat) (l : List Int) (p q : Int) (w : World) (hl : Bytes w a n l) (hn : n ≤ 1000) (p0 : 0 ≤ p) (p1 : p ≤ 65535) (q0 : 0 ≤ q) (q1 : q ≤ 4294967295) :
    Calls Try.prog 8 #[.slice a n cap, .int .u16 p, .int .u32 q] w fun e w' => e = .returned (.bool true) ∧ Below w.heap.size w w' := by
  have HL := Lib.hid hl
  have HLL : Hid ((l ++ sealL (sumB l)).length = n + 4) := Lib.hid (by rw [List.length_append, hl.size]; rfl)
  have HTS : ∀ F, Hid (Turned (l ++ sealL (sumB l)) (l ++ sealL (sumB l)) F 0 false) := fun F => Lib.hid (Turned.start _ F (sealed_range hl))
  clear hl
  obtain ⟨F, hF⟩ : ∃ F : Nat, p % (8 * ((n : Int) + 4)) = F := ⟨(p % (8 * ((n : Int) + 4))).toNat, by have := Int.emod_nonneg p (show 8 * ((n : Int) + 4) ≠ 0 by omega); omega⟩
  have hF2 : F < 8 * (n + 4) := by
    have := Int.emod_lt_of_pos p (show 0 < 8 * ((n : Int) + 4) by omega)
    omega
  go_enter Try.func8, Try.ntmps8
  go_wp2_with (first
    | (go_at_call 9; refine (awake_any _).mono ?_; rintro e w1 ⟨rfl, hb1⟩; have HB1 := Lib.hid hb1; clear hb1)
    | (go_at_call 10; refine (new_any _).mono ?_; rintro e w2 ⟨rfl, ht, hb2⟩; have HT := Lib.hid ht; have HB2 := Lib.hid (HB1.out.trans (hb2.mono HB1.out.size)); clear ht hb2; have HL2 := Lib.hid (HL.out.below HB2.out (Nat.le_refl _)))
    | (go_at_call 16; refine (seals_any _ _ _ _ _ _ HT.out HL2.out (by omega)).mono ?_; rintro e w4 ⟨g, rfl, hg, hr, hb4⟩; have HR4 := Lib.hid hr; have HB4 := Lib.hid hb4; have HG := Lib.hid hg; clear hg hr hb4))
  rw [hF]
  clear hF
  go_loopw [10, 11] (fun tb i wr => ∃ (c : Nat) (b : Bool) (Z : List Int), c ≤ 32 ∧ i = .int .i64 c ∧ tb = .bool b ∧ Hid (Row8 wr g 5 Z) ∧ Hid (Turned (l ++ sealL (sumB l)) Z F c b) ∧ Hid (Below g w4 wr)) (fun _ i _ => 32 - (intOf i).toNat)
  case atStart => exact ⟨0, false, _, by omega, rfl, rfl, HR4, HTS F, Lib.hid (Below.refl _ _)⟩
  case round =>
    obtain ⟨c, b, Z, hc, rfl, rfl, HR, HTT, HB⟩ := hrel
    have c0 : (0 : Int) ≤ c := by omega
    by_cases hlt : c < 32 ∧ F + c < 8 * (n + 4)
    · obtain ⟨h1, h2⟩ := hlt
      have h2' : (F : Int) + c < 8 * ((n : Int) + 4) := by omega
      go_wp2
      rotate_left
      · go_roundw
        case rel => exact ⟨c + 1, b, Z, by omega, by go_num, rfl, HR, Lib.hid HTT.out.on, HB⟩
        case measure => simp [intOf]; omega
      obtain ⟨k, hk⟩ : ∃ k : Nat, k = (F + c) / 8 := ⟨_, rfl⟩
      obtain ⟨j, hj⟩ : ∃ j : Nat, j = (F + c) % 8 := ⟨_, rfl⟩
      have e1 : ((F : Int) + c).tdiv 8 = (k : Int) := by rw [Int.tdiv_eq_ediv_of_nonneg (by omega)]; omega
      have e2 : ((F : Int) + c).tmod 8 = (j : Int) := by rw [Int.tmod_eq_emod_of_nonneg (by omega)]; omega
      have e3 : IntKind.i64.wrap (k : Int) = k := IntWalk.i64_in _ (by omega)
      have e4 : IntKind.i64.wrap (j : Int) = j := IntWalk.i64_in _ (by omega)
      have e5 : ((F : Int) + c) / 8 = (k : Int) := by omega
      have e6 : ((F : Int) + c) % 8 = (j : Int) := by omega
      have k0 : (0 : Int) ≤ k := by omega
      have k1 : (k : Int) < (n : Int) + 4 := by omega
      have j0 : (0 : Int) ≤ j := by omega
      have j1 : (j : Int) < 8 := by omega
      have hlen : Z.length = n + 4 := by have := HTT.out.len; have := HLL.out; omega
      have HK := Lib.hid hk
      have HJ := Lib.hid hj
      have cc := HR.out.cell k (by omega)
      have hf := HR.out.frozen k
      obtain ⟨z, hz⟩ : ∃ z, z = Z.getD k 0 := ⟨_, rfl⟩
      rw [← hz] at cc
      have HZ := Lib.hid hz
      have HLN := Lib.hid hlen
      clear hk hj hz hlen
      refine wp_region_still_tail 13 (by kernel_rfl) (by kernel_rfl) ?_
      simp only [List.take_succ_cons, List.take_zero, List.drop_succ_cons, List.drop_zero]
      repeat still_step
      refine wpStill_nil ?_
      change wpList _ _ _ _ _ wr.drew
      go_wp2
      obtain ⟨y0, y1, y2⟩ := turn_val z (by rw [HZ.out]; exact (HTT.out.range _ (by rw [List.getD_eq_getElem?_getD, List.getElem?_eq_getElem (by rw [HLN.out]; omega)]; exact List.getElem_mem _)).1) (by rw [HZ.out]; exact (HTT.out.range _ (by rw [List.getD_eq_getElem?_getD, List.getElem?_eq_getElem (by rw [HLN.out]; omega)]; exact List.getElem_mem _)).2) j (by omega)
      generalize bits .xor .u8 z (2 ^ j % 256) = z' at *
      go_roundw
      case rel =>
        refine ⟨c + 1, true, Z.set k z', by omega, by go_num, rfl, Lib.hid (HR.out.set k z'), ?_, Lib.hid ((HB.out.setCell (p := ⟨g, k, none⟩) (Nat.le_refl _) _).drew)⟩
        have := HTT.out.turn z' h1 (by rw [HLL.out]; omega) y0 y1 (by rw [← HK.out, ← HJ.out, ← HZ.out]; exact y2)
        rw [← HK.out] at this
        exact Lib.hid this
      case measure => simp [intOf]; omega
    · have hx : Below w2.heap.size w2 wr := HB4.out.trans (HB.out.mono HG.out)
      have HX := Lib.hid hx
      have HT5 : Hid (IsTab wr w1.heap.size) := Lib.hid (HT.out.below hx HT.out.lt)
      have HY : Hid (Bytes wr (some ⟨g, 0, none⟩) (n + 4) Z) := Lib.hid (HR.out.whole HTT.out.range (n + 4) (by rw [HTT.out.len, HLL.out]) (by omega))
      have HL5 : Hid (Bytes wr a n l) := Lib.hid (HL2.out.below hx (Nat.le_refl _))
      clear hx
      have hx2 : c < 32 → ¬ ((F : Int) + c < 8 * ((n : Int) + 4)) := fun h g => hlt ⟨h, by omega⟩
      have HX2 := Lib.hid hx2
      clear hx2 hlt
      by_cases h32 : c < 32
      all_goals
        have hx3 := HX2.out
        first | (have hx4 := hx3 h32; clear hx3) | clear hx3
        cases b
        · have ho : Hid (opensB n Z = true) := Lib.hid (by
            obtain ⟨M, _, _, m3, _⟩ := HTT.out.said
            rw [(m3 rfl).2]
            exact opensB_sealed n l HL.out.size)
          have HE : Hid (Z.take n = l) := Lib.hid (by
            obtain ⟨M, _, _, m3, _⟩ := HTT.out.said
            rw [(m3 rfl).2, List.take_append_of_le_length (by rw [HL.out.size]; exact Nat.le_refl _), List.take_of_length_le (by rw [HL.out.size]; exact Nat.le_refl _)])
          go_wp2_with (first
            | (go_at_call 17; refine (open_good _ _ _ _ _ _ HT5.out HY.out (by omega) (Nat.le_refl _) ho.out).mono ?_; rintro e w5 ⟨g5, rfl, hg5, hr5, hb5⟩; have HR5 := Lib.hid hr5; have HB5 := Lib.hid hb5; have HL6 := Lib.hid (HL5.out.below hb5 (Nat.le_refl _)); clear hg5 hr5 hb5; have HX5 : Hid (Bytes w5 (some ⟨g5, 0, none⟩) n l) := Lib.hid (by have h := HR5.out; rw [HE.out] at h; exact h.whole HL.out.range n HL.out.size.symm (by omega)))
            | (go_at_call 18; refine (same_true _ _ _ _ _ _ _ _ HX5.out HL6.out).mono ?_; rintro e w6 ⟨rfl, hb6⟩; have HB6 := Lib.hid (HB5.out.trans (hb6.mono HB5.out.size)); clear hb6))
          go_ret
          exact ⟨rfl, HB2.out.trans ((HX.out.trans (HB6.out.mono HX.out.size)).mono HB2.out.size)⟩
        · have ho : Hid (opensB n Z = false) := Lib.hid (by
            obtain ⟨M, _, m2, _, m4⟩ := HTT.out.said
            exact turned_shut n Z _ _ M (opensB_sealed n l HL.out.size) m2 (m4 rfl))
          go_wp2_with (go_at_call 17; refine (open_bad _ _ _ _ _ _ HT5.out HY.out (by omega) (Nat.le_refl _) ho.out).mono ?_; rintro e w5 ⟨rfl, hb5⟩; have HB5 := Lib.hid hb5; clear hb5)
          go_ret
          exact ⟨rfl, HB2.out.trans ((HX.out.trans (HB5.out.mono HX.out.size)).mono HB2.out.size)⟩
theorem u16_lo {n : Int} (h : (Lit.int .u16 n).wf = true) : 0 ≤ n ∧ n ≤ 65535 := by
  simp [Lit.wf, IntKind.min, IntKind.max, IntKind.bits, IntKind.signed] at h; omega
theorem bursts_walk (a : Option Addr) (len cap : Nat) (zs : List Int) (p q : Int) (w : World) (h : IsRow .u8 w a len cap zs) (hp : (Lit.int .u16 p).wf = true) (hq : (Lit.int .u32 q).wf = true) :
    Calls Try.prog 8 #[.slice a len cap, .int .u16 p, .int .u32 q] w fun e w' => e = .returned (.bool true) ∧ Below w.heap.size w w' := by
  have hb := h.bytes
  obtain ⟨p0, p1⟩ := u16_lo hp
  obtain ⟨q0, q1⟩ := u32_lo hq
  by_cases h1 : 1000 < len
  · exact bursts_big a len cap p q w h1 hb.max
  · exact bursts_small a len cap _ p q w hb (by omega) p0 p1 q0 q1
end Go.Proofs.Ytpllflmflfbnpaa
