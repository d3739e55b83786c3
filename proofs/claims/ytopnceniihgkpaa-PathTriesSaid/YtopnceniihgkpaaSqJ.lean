/-
  Own text: the document's Take, whole; its Bits, walked.
-/
import Derived.Test.YtopnceniihgkpaaSqI
namespace Go.Proofs.Ytopnceniihgkpaa
open Go.RowKit

theorem rtake_any (s : Sn) (n k : Nat) (hn : n < 4294967296) (hf : s.fit k) (hk : k ≤ 1000000) (w : World) :
    Calls Try.prog 27 #[.agg (rowOf 69 s.dc), .int .u32 n] w fun e w' => e = .returned (.tuple #[.agg (rowOf 69 (s.take n).1.dc), .int .i64 (s.take n).2]) ∧ Below w.heap.size w w' := by
  have ht := hf.top
  have h1 := hf.came
  have h2 := hf.twice
  have h3 := hf.lost
  cases hs : s.any
  · have e : s.take n = (⟨true, n, 1#64, 1, 0, 0⟩, 0) := by unfold Sn.take; rw [hs]; rfl
    rw [e]
    exact rtake_first s n hs w
  · by_cases ho : beh n s.top ≤ -64
    · have e : s.take n = (s, 90) := by unfold Sn.take; simp [hs, ho]
      rw [e]
      exact rtake_old s n hs hn ht ho w
    · by_cases hy : 0 < beh n s.top
      · have e : s.take n = ({ s.moved n (beh n s.top).toNat with bts := (s.bts <<< (beh n s.top).toNat) ||| 1#64, came := s.came + 1 }, 0) := by unfold Sn.take; simp [hs, ho, hy]
        rw [e]
        have hb := beh_lo hn ht
        obtain ⟨j, hj⟩ : ∃ j : Nat, beh n s.top = j := ⟨(beh n s.top).toNat, by omega⟩
        have hd : s.dc = dcl true s.top s.bts.getLsbD s.came s.twice s.lost := by unfold Sn.dc; rw [hs]
        rw [hd]
        refine (rtake_loop s.top s.bts.getLsbD s.came s.twice s.lost n j hn ht hj (by omega) (by omega) (by omega) (by omega) w).mono ?_
        rintro e w' ⟨f, rfl, HF, hb⟩
        refine ⟨?_, hb⟩
        rw [hj, Int.toNat_natCast]
        congr 4
        refine congrArg Value.agg (rowOf_congr (fun i _ => ?_))
        have hm : ∀ i, i < 64 → f i = ((s.bts <<< j) ||| 1#64).getLsbD i := by
          intro i hi
          have h0 := HF.out i hi
          by_cases hz : i = 0
          · subst hz
            rw [if_pos rfl] at h0
            have h4 : f 0 = true := by injection h0
            rw [h4]
            simp
          · rw [if_neg hz] at h0
            unfold gMark at h0
            have h4 : f i = (decide (j ≤ i) && decide (i - j < 64) && s.bts.getLsbD (i - j)) := by injection h0
            rw [h4, BitVec.getLsbD_or, BitVec.getLsbD_shiftLeft]
            have h5 : (1#64).getLsbD i = false := by simp [BitVec.getLsbD_one, hz]
            have h6 : i - j < 64 := by omega
            rw [h5]
            by_cases h7 : j ≤ i
            · have h8 : ¬ i < j := by omega
              simp [hi, h6, h7, h8]
            · have h8 : i < j := by omega
              simp [h7, h8]
        show dcl true n f (s.came + 1) s.twice (s.lost + gLost s.bts.getLsbD j 64 + (j - 64)) i = dcl s.any n ((s.bts <<< j) ||| 1#64).getLsbD (s.came + 1) s.twice (s.lost + outs s.bts j + (j - 64)) i
        rw [hs]
        exact dcl_congr hm i
      · cases hb : s.bts.getLsbD (dist s.top n)
        · have e : s.take n = ({ s with bts := s.bts ||| (1#64 <<< dist s.top n), came := s.came + 1 }, 0) := by unfold Sn.take; simp [hs, ho, hy, hb]
          rw [e]
          exact rtake_mid s n hs hn ht (by omega) (by omega) hb (by omega) w
        · have e : s.take n = ({ s with twice := s.twice + 1 }, 171) := by unfold Sn.take; simp [hs, ho, hy, hb]
          rw [e]
          exact rtake_twice s n hs hn ht (by omega) (by omega) hb (by omega) w
theorem div_bit (x p : Nat) : x / 2 ^ p = x / 2 ^ (p + 1) * 2 + if x.testBit p then 1 else 0 := by
  have h : x / 2 ^ (p + 1) = x / 2 ^ p / 2 := by rw [Nat.pow_succ, Nat.div_div_eq_div_mul]
  rw [h, Nat.testBit_eq_decide_div_mod_eq]
  by_cases g : x / 2 ^ p % 2 = 1
  · simp only [g, decide_true, if_true]; omega
  · simp only [g, decide_false]; simp; omega
theorem bits_any (s : Sn) (w : World) :
    Calls Try.prog 47 #[.agg (rowOf 69 s.dc)] w fun e w' => e = .returned (.int .u64 s.bts.toNat) ∧ Below w.heap.size w w' := by
  have H0 := Lib.hid (rowIs_new w 69 s.dc 35)
  have H1 := Lib.hid ((Below.refl w.heap.size w).alloc (Nat.le_refl _) (.cells (rowOf 69 s.dc) 35))
  have hx := s.bts.isLt
  have ht : ∀ q, s.bts.toNat.testBit q = s.bts.getLsbD q := fun q => BitVec.testBit_toNat _
  obtain ⟨x, hxx⟩ : ∃ x, x = s.bts.toNat := ⟨_, rfl⟩
  rw [← hxx] at hx ht ⊢
  clear hxx
  have HT := Lib.hid ht
  clear ht
  have HX : Hid (x < 18446744073709551616) := Lib.hid (by simpa using hx)
  clear hx
  have HE : Hid (x / 2 ^ 64 = 0) := Lib.hid (Nat.div_eq_of_lt (by have := HX.out; omega))
  generalize hR : rowOf 69 s.dc = R at *
  go_enter Try.func47, Try.ntmps47
  go_upto_region 1 with fail
  generalize w.alloc (.cells R 35) = W at *
  go_wp2
  go_loop [3, 4] (fun v i => ∃ p : Nat, p ≤ 64 ∧ i = .int .i64 ((p : Int) - 1) ∧ v = .int .u64 ((x / 2 ^ p : Nat) : Int)) (fun _ i => (intOf i + 1).toNat)
  case atStart => exact ⟨64, by omega, rfl, by rw [HE.out]; rfl⟩
  case round =>
    obtain ⟨p, hp, rfl, rfl⟩ := hrel
    cases p with
    | zero =>
      have e : x / 2 ^ 0 = x := by simp
      rw [e]
      go_wp2
      go_ret
      exact ⟨rfl, H1.out⟩
    | succ q =>
      have e1 : ((q + 1 : Nat) : Int) - 1 = (q : Int) := by omega
      rw [e1]
      have hd := div_bit x q
      rw [HT.out q] at hd
      have hq : q < 64 := by omega
      have cq : W.cell? ⟨w.heap.size, 2 + q, none⟩ = some (.bool (s.bts.getLsbD q)) := by rw [H0.out.cell (i := 2 + q) (by omega), dc_mark s q hq]
      have hb : x / 2 ^ q < 18446744073709551616 := Nat.lt_of_le_of_lt (Nat.div_le_self _ _) HX.out
      obtain ⟨v, hv⟩ : ∃ v, v = x / 2 ^ (q + 1) := ⟨_, rfl⟩
      obtain ⟨u, hu⟩ : ∃ u, u = x / 2 ^ q := ⟨_, rfl⟩
      rw [← hv, ← hu] at hd
      rw [← hu] at hb
      rw [← hv]
      have HU := Lib.hid hu
      have k0 : (0 : Int) ≤ q := by omega
      have HQ := Lib.hid hq
      clear hv hu
      cases hc : s.bts.getLsbD q
      · rw [hc] at hd cq
        have hd2 : u = v * 2 := by simpa using hd
        clear hd hc
        go_wp2_with (with_reducible refine wpList_index28i rfl (.tmp 12) (.tmp 11) rfl w.heap.size 2 q (2 + q) (q : Int) rfl rfl rfl HQ.out rfl ?_)
        go_round
        case rel => exact ⟨q, by omega, by go_num, by rw [← HU.out, hd2]; simp⟩
        case measure => simp [intOf]
      · rw [hc] at hd cq
        have hd2 : u = v * 2 + 1 := by simpa using hd
        clear hd hc
        go_wp2_with (with_reducible refine wpList_index28i rfl (.tmp 12) (.tmp 11) rfl w.heap.size 2 q (2 + q) (q : Int) rfl rfl rfl HQ.out rfl ?_)
        go_round
        case rel => exact ⟨q, by omega, by go_num, by rw [← HU.out, hd2]; simp⟩
        case measure => simp [intOf]
end Go.Proofs.Ytopnceniihgkpaa
