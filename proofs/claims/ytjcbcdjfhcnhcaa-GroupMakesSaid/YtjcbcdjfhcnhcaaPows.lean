/-
  Own text: powers of elements; Powers, walked.
-/
import Derived.Test.YtjcbcdjfhcnhcaaInvert
import Derived.Test.YtjcbcdjfhcnhcaaGfA
namespace Go.Proofs.Ytjcbcdjfhcnhcaa
open Go.RowKit

theorem pwr_pw {a : Nat} (ha : a < 256) (h0 : a ≠ 0) : ∀ n : Nat, pwZ ((lg a : Int) * (n : Nat)) = pwr a n
  | 0 => by simp; rfl
  | n + 1 => by
    have := pwZ_add (lg a * (n : Nat)) (lg a)
    rw [pwZ_lg ha h0, pwr_pw ha h0 n] at this
    show _ = mu (pwr a n) a
    rw [mu_eq (pwr_lt a n) ha, this, Int.natCast_add, Int.mul_add]; simp
theorem pwr_null : ∀ n : Nat, n ≠ 0 → pwr 0 n = 0
  | 0, h => absurd rfl h
  | _ + 1, _ => mu_zero _
theorem pow_nat (t a n : Nat) (ha : a < 256) (w : World) (ht : IsTab w t) : ∃ v : Value, Calls Try.prog 100 #[.pointer (some ⟨t, 0, none⟩), .int .u8 a, .int .i64 n] w fun e w' => e = .returned (.tuple #[.int .u8 (pwr a n), v]) ∧ w = w' := by
  by_cases h0 : a = 0
  · subst h0
    by_cases hn : n = 0
    · subst hn; exact ⟨_, pow_zero t 0 w⟩
    · rw [pwr_null n hn]; exact ⟨_, pow_null t n (by omega) w⟩
  · rw [← pwr_pw ha h0 n]; exact ⟨_, pow_some t a n ha h0 w ht⟩
set_option maxRecDepth 100000 in
theorem powers_none (t : Nat) (r c : Int) (h : ¬ ((0 ≤ r ∧ r ≤ 255) ∧ 0 ≤ c ∧ c ≤ 255)) (w : World) : Calls Try.prog 82 #[.pointer (some ⟨t, 0, none⟩), .int .i64 r, .int .i64 c] w (Refused 50 w) := by
  have HN := Lib.hid (new_none r c h)
  clear h
  go_enter Try.func82, Try.ntmps82
  go_wp2_with (go_at_call 98; refine (HN.out _).mono ?_; rintro e w1 ⟨rfl, hb⟩; have HB := Lib.hid hb; clear hb; obtain ⟨k0, k1, k2, kf⟩ := box3a (alloc_one w _ _) HB.out (alloc_lt _ _))
  clear k0 k1 k2 kf
  have HX := (bx_alloc ((alloc_bx w _ _ _).below HB.out (alloc_lt _ _)) (.cells #[.int .i64 0, .int .i64 0, .slice none 0 0] 137)).write (x' := .int .i64 0) (y' := .int .i64 0) (z' := .slice none 0 0)
  obtain ⟨z0, z1, z2, _⟩ := HX.cells
  refine bodyPost_ret (v := .tuple #[.agg #[.int .i64 0, .int .i64 0, .slice none 0 0], .int .i64 50]) (by simp [results, Try.results82, go_sem, z0, z1, z2]) rfl ?_
  clear z0 z1 z2
  exact ⟨rfl, below_set3 ((((Below.refl _ w).alloc (Nat.le_refl _) _).trans (HB.out.mono (Nat.le_of_lt (alloc_lt _ _)))).alloc (Nat.le_trans (Nat.le_of_lt (alloc_lt _ _)) HB.out.size) _) (Nat.le_refl _)⟩
set_option maxRecDepth 100000 in
set_option maxHeartbeats 2000000 in
theorem powers_some (t r c : Nat) (hr : r ≤ 255) (hc : c ≤ 255) (w : World) (ht : IsTab w t) : Calls Try.prog 82 #[.pointer (some ⟨t, 0, none⟩), .int .i64 r, .int .i64 c] w (Handed r c pwr w) := by
  have hm : r * c ≤ 65025 := Nat.mul_le_mul hr hc
  have HN := Lib.hid (new_some r c hr hc)
  have HP := Lib.hid (fun g => parts_any (some ⟨g, 0, none⟩) (r * c) (r * c) r c (by omega) (Nat.le_refl _) (Nat.le_refl _) (by omega) (fun h => nomatch h))
  have HPW := Lib.hid (fun (a n : Nat) (ha : a < 256) w ht => pow_nat t a n ha w ht)
  have HT := Lib.hid ht
  unfold Handed
  have HSP : Hid (∀ i k, i < r → k < c → i * c + k < r * c) := Lib.hid (fun i k hi hk => spot_lt hi hk)
  obtain ⟨m, hmm⟩ : ∃ m, r * c = m := ⟨_, rfl⟩
  unfold Newed at HN
  rw [hmm] at hm HN HP HSP ⊢
  clear hmm ht
  go_enter Try.func82, Try.ntmps82
  go_wp2_with first
    | (go_at_call 98; refine (HN.out _).mono ?_; rintro e w1 ⟨g, rfl, hg, hr, hb⟩; have HG := Lib.hid hg; have HR := Lib.hid hr; have HB := Lib.hid hb; clear hg hr hb)
    | (go_at_call 99; refine (HP.out _ _).mono ?_; rintro e w3 ⟨h, rfl, hh, hl, hb⟩; have HH := Lib.hid hh; have HL := Lib.hid hl; have HB3 := Lib.hid hb; clear hh hl hb)
  have HO1 : Hid (w.heap.size < g ∧ g < w1.heap.size ∧ w1.heap.size < h) := Lib.hid ⟨Nat.lt_of_lt_of_le (alloc_lt _ _) HG.out, HR.out.lt, Nat.lt_of_lt_of_le (alloc_lt _ _) HH.out⟩
  have HD3 : Hid (Dat w3 g m (List.replicate m 0)) := Lib.hid (by
    have := HR.out.dat (by_zero m)
    rw [List.length_replicate] at this
    exact (this.keep (Below.heap_alloc _ _ _ this.lt)).below HB3.out (Nat.lt_trans this.lt (alloc_lt _ _)))
  have HX2 : Hid (Bx w3 w.heap.size (.int .i64 0) (.int .i64 0) (.slice none 0 0)) := Lib.hid ((bx_alloc ((alloc_bx w _ _ _).below HB.out (alloc_lt _ _)) _).below HB3.out (Nat.lt_trans (Nat.lt_trans HO1.out.1 HO1.out.2.1) (alloc_lt _ _)))
  have HX4 : Hid (Bx w3 w1.heap.size (.int .i64 r) (.int .i64 c) (.slice (some ⟨g, 0, none⟩) m m)) := Lib.hid ((alloc_bx w1 _ _ _).below HB3.out (alloc_lt _ _))
  have HB0 : Hid (Below w.heap.size w w3) := Lib.hid (((((Below.refl _ w).alloc (Nat.le_refl _) _).trans (HB.out.mono (Nat.le_of_lt (alloc_lt _ _)))).alloc (Nat.le_of_lt (Nat.lt_trans HO1.out.1 HO1.out.2.1)) _).trans (HB3.out.mono (Nat.le_of_lt (Nat.lt_trans (Nat.lt_trans HO1.out.1 HO1.out.2.1) (alloc_lt _ _)))))
  have HT3 := Lib.hid (HT.out.below HB0.out HT.out.lt)
  have HLT := Lib.hid HT.out.lt
  have HGR0 := Lib.hid (grown_refl w3 (some g))
  clear HG HR HB HH HB3 HT HN HP
  generalize w1.heap.size = b4 at *
  go_loopw [10, 11, 12, 26] (fun _ _ _ i wr => ∃ (j : Nat) (lc : List Int), j ≤ r ∧ i = .int .i64 (j : Nat) ∧ Hid (Dat wr g m lc) ∧ Hid (∀ i k, i < r → k < c → co lc (i * c + k) = if i < j then pwr i k else 0) ∧ Hid (w3.grownBy wr (some g))) (fun _ _ _ i _ => r - (intOf i).toNat)
  case atStart => exact ⟨0, _, by omega, rfl, HD3, Lib.hid (fun i k _ _ => by rw [co_zero, if_neg (by omega)]), HGR0⟩
  case round =>
    obtain ⟨j, lc, hj, rfl, HDj, HCj, HGj⟩ := hrel
    obtain ⟨wo, ho⟩ : ∃ wo, wo = wr := ⟨_, rfl⟩
    subst ho
    by_cases hlt : j < r
    · have cr := (HL.out.grown HGj.out (fun e => by have := HO1.out; cases e; omega)).cell j hlt
      rw [onA_at, Nat.zero_add] at cr
      have HC0 : Hid (∀ i k, i < r → k < c → co lc (i * c + k) = if i < j ∨ (i = j ∧ k < 0) then pwr i k else 0) := Lib.hid (fun i k hi hk => by
        rw [HCj.out i k hi hk]
        by_cases g : i < j
        · rw [if_pos g, if_pos (.inl g)]
        · rw [if_neg g, if_neg (by omega)])
      go_wp2
      go_loopw [12, 33] (fun _ i wr => ∃ (q : Nat) (lc : List Int), q ≤ c ∧ i = .int .i64 (q : Nat) ∧ Hid (Dat wr g m lc) ∧ Hid (∀ i k, i < r → k < c → co lc (i * c + k) = if i < j ∨ (i = j ∧ k < q) then pwr i k else 0) ∧ Hid (w3.grownBy wr (some g))) (fun _ i _ => c - (intOf i).toNat)
      case atStart => exact ⟨0, lc, by omega, rfl, HDj, HC0, HGj⟩
      case round =>
        clear HDj HCj HGj HC0 lc
        obtain ⟨q, lc, hq, rfl, HDj, HCj, HGj⟩ := hrel
        obtain ⟨wi, hi⟩ : ∃ wi, wi = wr := ⟨_, rfl⟩
        subst hi
        by_cases hlq : q < c
        · have c0 := HDj.out.cell (j * c + q) (HSP.out j q hlt hlq)
          have f0 := HDj.out.frozen (j * c + q)
          obtain ⟨v, hv⟩ := HPW.out j q (by omega) wi (HT3.out.grown HGj.out (fun e => by have := HO1.out; have := HLT.out; cases e; omega))
          have HV := Lib.hid hv
          have hpl := pwr_lt j q
          have HPV : Hid (∃ pv, pv = pwr j q) := Lib.hid ⟨_, rfl⟩
          obtain ⟨pv, hpv⟩ := HPV.out
          rw [← hpv] at HV hpl
          have HPE := Lib.hid hpv
          have hju : IntKind.u8.wrap (j : Int) = j := IntWalk.u8_in _ (by omega)
          clear hv hpv cr
          go_wp2_with (go_at_call 100; refine HV.out.mono ?_; rintro e w5 ⟨rfl, rfl⟩)
          go_roundw
          case rel =>
            refine ⟨q + 1, lc.set (j * c + q) pv, by omega, by go_num, Lib.hid (HDj.out.set (j * c + q) pv hpl), Lib.hid (fun i k hi hk => ?_), Lib.hid (grown_trans HGj.out (grown_set _ _ _ _))⟩
            rw [co_set lc (j * c + q) pv (i * c + k) (by rw [HDj.out.size]; exact HSP.out j q hlt hlq)]
            by_cases g1 : i = j ∧ k = q
            · rw [g1.1, g1.2, if_pos rfl, if_pos (by omega), HPE.out]
            · rw [if_neg (spot_ne hk hlq g1), HCj.out i k hi hk]
              by_cases g2 : i < j ∨ (i = j ∧ k < q)
              · rw [if_pos g2, if_pos (by omega)]
              · rw [if_neg g2, if_neg (by omega)]
          case measure => simp [intOf]; omega
        · obtain rfl : q = c := by omega
          go_wp2
          go_roundw
          case rel =>
            refine ⟨j + 1, lc, by omega, by go_num, HDj, Lib.hid (fun i k hi hk => ?_), HGj⟩
            rw [HCj.out i k hi hk]
            by_cases g2 : i < j ∨ (i = j ∧ k < q)
            · rw [if_pos g2, if_pos (by omega)]
            · rw [if_neg g2, if_neg (by omega)]
          case measure => simp [intOf]; omega
    · obtain rfl : j = r := by omega
      obtain ⟨k0, k1, k2, kf⟩ := (HX4.out.keep (HGj.out.block b4 HX4.out.lt (fun e => by have := HO1.out; cases e; omega))).cells
      have HXr := Lib.hid (HX2.out.keep (HGj.out.block _ HX2.out.lt (fun e => by have := HO1.out; cases e; omega)))
      obtain ⟨r0, r1, r2, rf⟩ := HXr.out.cells
      go_wp2
      clear k0 k1 k2 kf r0 r1 r2 rf
      obtain ⟨z0, z1, z2, _⟩ := (HXr.out.write (x' := .int .i64 j) (y' := .int .i64 c) (z' := .slice (some ⟨g, 0, none⟩) m m)).cells
      refine bodyPost_ret (v := .tuple #[.agg #[.int .i64 j, .int .i64 c, .slice (some ⟨g, 0, none⟩) m m], .int .i64 0]) (by simp [results, Try.results82, go_sem, z0, z1, z2]) rfl ?_
      clear z0 z1 z2
      exact ⟨g, lc, rfl, by have := HO1.out; omega, dat_set3 HDj.out (by have := HO1.out; omega), fun i k hi hk => by rw [HCj.out i k hi hk, if_pos hi], below_set3 (HB0.out.trans (below_grows HGj.out (by have := HO1.out; omega) HB0.out.size)) (Nat.le_refl _)⟩
end Go.Proofs.Ytjcbcdjfhcnhcaa
