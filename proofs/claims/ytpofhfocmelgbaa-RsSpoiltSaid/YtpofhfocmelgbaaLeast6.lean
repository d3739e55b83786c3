/-
  Own text: the document's Least, Decode, walked.
-/
import Derived.Test.YtpofhfocmelgbaaCheck6
import Derived.Test.YtpofhfocmelgbaaFits
namespace Go.Proofs.Ytpofhfocmelgbaa
open Go.RowKit

/-- Those k with the least numbers. -/
def Leasts (I : Nat → Int) (A : Nat → Option Addr) (L C : Nat → Nat) (X : Nat → List Int) (k N n : Nat) (w : World) (e : Ending) (w' : World) : Prop :=
  ∃ A1 C1 A2 C2, e = .returned (.tuple #[.slice A1 k C1, .slice A2 k C2]) ∧ Ints w' A1 k (fun q => (nth I n N q : Nat)) ∧ ColsIn w' A2 k C2 (fun q => A (std I n N q)) (fun q => L (std I n N q)) (fun q => C (std I n N q)) (fun q => X (std I n N q)) ∧ Below w.heap.size w w'
set_option maxRecDepth 100000 in
set_option maxHeartbeats 2000000 in
theorem rleast_any (k N n cap : Nat) (hN : N ≤ 255) (hk : k ≤ n) (a : Option Addr) (I : Nat → Int) (A : Nat → Option Addr) (L C : Nat → Nat) (X : Nat → List Int) (w : World) (hs : ShardsIn w a n cap I A L C X) (hg : GoodIx I N n) :
    Calls Try.prog 23 #[.int .i64 k, .slice a n cap] w (Leasts I A L C X k N n w) := by
  have HSH := Lib.hid hs
  have hn63 := Nat.le_trans hs.fits hs.top
  have hlen := ordL_len n hg
  have hn255 : n ≤ 255 := by have := ord_le I n N; omega
  have HG := Lib.hid hg
  have HFU : Hid (∀ V, N ≤ V → k ≤ (ordL I n V).length) := Lib.hid (fun V h => by
    have := (ordL_prefix I n N V h).length_le
    omega)
  have HEND : Hid (∀ V, V ≤ 255 → (ordL I n V).length = k → ∀ q, q < k → nth I n V q = nth I n N q ∧ std I n V q = std I n N q) := Lib.hid (fun V _ hv q hq => by
    rcases Nat.le_total V N with h | h
    · exact ⟨nth_prefix h (by omega), std_prefix h (by omega)⟩
    · exact ⟨(nth_prefix h (by omega)).symm, (std_prefix h (by omega)).symm⟩)
  clear hs hg hlen
  unfold Leasts
  go_enter Try.func23, Try.ntmps23
  go_wp2
  go_loopw [6, 7, 8, 9] (fun x y i _ wr => ∃ (V len : Nat) (A1 A2 : Option Addr) (C1 C2 : Nat), V ≤ 255 ∧ len ≤ k ∧ i = .int .i64 (V : Nat) ∧ x = .slice A1 len C1 ∧ y = .slice A2 len C2 ∧ Hid ((ordL I n V).length = len) ∧ Hid (OwnI wr w.heap.size (.slice A1 len C1) len (numsV I n V)) ∧ Hid (OwnS wr w.heap.size (.slice A2 len C2) len (datV I A L C n V)) ∧ Hid (Below w.heap.size w wr)) (fun _ _ i _ _ => 255 - (intOf i).toNat)
  case atStart => exact ⟨0, 0, none, none, 0, 0, by omega, by omega, rfl, rfl, rfl, Lib.hid rfl, Lib.hid (OwnI.none _ _), Lib.hid (OwnS.none _ _), Lib.hid (Below.refl _ _)⟩
  case round =>
    obtain ⟨V, len, A1, A2, C1, C2, hV, hlk, rfl, rfl, rfl, HLN, HX, HY, HB⟩ := hrel
    obtain ⟨wo, ho⟩ : ∃ wo, wo = wr := ⟨_, rfl⟩
    subst ho
    by_cases hgo : V < 255 ∧ len < k
    · obtain ⟨hV2, hl2⟩ := hgo
      have v1 : (V : Int) < 255 := by omega
      have v2 : (len : Int) < k := by omega
      have v0 : (0 : Int) ≤ V := by omega
      go_wp2
      go_loopw [6, 7, 9] (fun x y i wr => ∃ (j U lu : Nat) (A1 A2 : Option Addr) (C1 C2 : Nat), j ≤ n ∧ lu ≤ k ∧ i = .int .i64 (j : Nat) ∧ x = .slice A1 lu C1 ∧ y = .slice A2 lu C2 ∧ Hid ((U = V ∧ lu = len ∧ ∀ i, i < j → I i ≠ V) ∨ (U = V + 1 ∧ ∃ p : Nat, p < j ∧ I p = V)) ∧ Hid ((ordL I n U).length = lu) ∧ Hid (OwnI wr w.heap.size (.slice A1 lu C1) lu (numsV I n U)) ∧ Hid (OwnS wr w.heap.size (.slice A2 lu C2) lu (datV I A L C n U)) ∧ Hid (Below w.heap.size w wr)) (fun _ _ i _ => n - (intOf i).toNat)
      case atStart => exact ⟨0, V, len, A1, A2, C1, C2, by omega, by omega, rfl, rfl, rfl, Lib.hid (.inl ⟨rfl, rfl, fun i h => absurd h (by omega)⟩), HLN, HX, HY, HB⟩
      case round =>
        clear HX HY HB
        obtain ⟨j, U, lu, A3, A4, C3, C4, hj, hlu, rfl, rfl, rfl, HU, HLU, HX, HY, HB⟩ := hrel
        obtain ⟨wi, hwi⟩ : ∃ wi, wi = wr := ⟨_, rfl⟩
        subst hwi
        by_cases hlj : j < n
        · obtain ⟨lb, lo, rfl, hlb, c1, c2⟩ := (HSH.out.below HB.out (Nat.le_refl _)).cells j hlj
          have HC2 : Hid (∀ w', Below w.heap.size w w' → w'.cell? ⟨lb, lo + j * 2 + 1, none⟩ = some (.slice (A j) (L j) (C j))) := Lib.hid (fun w' h => by
            obtain ⟨lb', lo', e, _, _, e2⟩ := (HSH.out.below h (Nat.le_refl _)).cells j hlj
            cases e
            exact e2)
          have j0 : (0 : Int) ≤ j := by omega
          have j1 : (j : Int) < n := by omega
          by_cases he : I j = V
          · have hb : (I j == (V : Int)) = true := by simp [he]
            have hU : U = V ∧ lu = len := by
              rcases HU.out with ⟨e, e2, _⟩ | ⟨_, p, hp, hpe⟩
              · exact ⟨e, e2⟩
              · exact absurd (hpe.trans he.symm) ((HG.out j hlj).2.2 p hp)
            obtain ⟨rfl, rfl⟩ := hU
            have hw : whr I n U = j := by rw [← he]; exact HG.out.whr hlj
            have HYES := Lib.hid (ord_yes (I := I) (n := n) (V := U) (by omega))
            have HNV := Lib.hid (numsV_yes (I := I) (n := n) (V := U) (by omega))
            have HDV := Lib.hid (datV_yes (A := A) (L := L) (C := C) hw)
            have HEQ := Lib.hid he
            have HXA : Hid (∀ o, OwnI (wi.alloc o) w.heap.size (.slice A3 lu C3) lu (numsV I n U)) := Lib.hid (fun o => row_alloc HX.out o)
            have HNA : Hid (∀ o, w.heap.size ≤ (wi.alloc o).heap.size) := Lib.hid (fun o => Nat.le_trans HB.out.size (Nat.le_of_lt (alloc_lt _ _)))
            have HLT : Hid (lu + 1 ≤ 100000) := Lib.hid (by omega)
            rw [he] at c1
            clear hw he hb c2
            go_wp2_with first
              | ((with_reducible refine wpList_append_int2 (w := wi.alloc _) rfl (.tmp 33) (.tmp 35) rfl w.heap.size _ lu rfl (numsV I n U) (HXA.out _) wi.heap.size rfl U (new_box wi _ _) HLT.out (HNA.out _) ?_); intro v3 w3 hx3 hg3; obtain ⟨A5, C5, rfl, _⟩ := row_slice hx3; have HX3 := Lib.hid hx3; have HY3 := Lib.hid (row_other (row_alloc HX.out _) (row_alloc HY.out _) (by decide) hg3); have HB3 := Lib.hid (row_grown (row_alloc HX.out _) hg3 (b_put HB.out _) (Nat.le_refl _) (HNA.out _)); clear hx3 hg3; have HYA3 : Hid (∀ o, OwnS (w3.alloc o) w.heap.size (.slice A4 lu C4) lu (datV I A L C n U)) := Lib.hid (fun o => row_alloc HY3.out o); have HNA3 : Hid (∀ o, w.heap.size ≤ (w3.alloc o).heap.size) := Lib.hid (fun o => Nat.le_trans HB3.out.size (Nat.le_of_lt (alloc_lt _ _))); have f2 := HC2.out _ HB3.out)
              | ((with_reducible refine wpList_append_sl (w := w3.alloc _) rfl (.tmp 37) (.tmp 43) rfl w.heap.size _ lu rfl (datV I A L C n U) (HYA3.out _) w3.heap.size rfl (A j) (L j) (C j) (new_box w3 _ _) HLT.out (HNA3.out _) ?_); intro v4 w4 hy4 hg4; obtain ⟨A6, C6, rfl, _⟩ := row_slice hy4; have HY4 := Lib.hid hy4; have HX4 := Lib.hid (row_other (row_alloc HY3.out _) (row_alloc HX3.out _) (by decide) hg4); have HB4 := Lib.hid (row_grown (row_alloc HY3.out _) hg4 (b_put HB3.out _) (Nat.le_refl _) (HNA3.out _)); clear hy4 hg4 f2)
            go_roundw
            case rel =>
              refine ⟨j + 1, U + 1, lu + 1, A5, A6, C5, C6, by omega, by omega, by go_num, rfl, rfl, Lib.hid (.inr ⟨rfl, j, by omega, HEQ.out⟩), Lib.hid (by rw [HYES.out, HLU.out]), Lib.hid ?_, Lib.hid ?_, HB4⟩
              · rw [HNV.out]; exact HX4.out
              · rw [HDV.out]; exact HY4.out
            case measure => simp [intOf]; omega
          · have hb : (I j == (V : Int)) = false := by simpa using he
            have HNE := Lib.hid he
            generalize hxi : I j = xi at *
            have HXI := Lib.hid hxi
            clear he hxi c2
            go_wp2
            go_roundw
            case rel =>
              refine ⟨j + 1, U, lu, A3, A4, C3, C4, by omega, by omega, by go_num, rfl, rfl, Lib.hid ?_, HLU, HX, HY, HB⟩
              rcases HU.out with ⟨e, e2, h⟩ | ⟨e, p, hp, hpe⟩
              · exact .inl ⟨e, e2, fun i hi => if e : i = j then by rw [e, HXI.out]; exact HNE.out else by exact h i (by omega)⟩
              · exact .inr ⟨e, p, by omega, hpe⟩
            case measure => simp [intOf]; omega
        · obtain rfl : j = n := by omega
          have HNX : Hid (ordL I j (V + 1) = ordL I j U ∧ numsV I j (V + 1) = numsV I j U ∧ datV I A L C j (V + 1) = datV I A L C j U) := Lib.hid (by
            rcases HU.out with ⟨e, _, h⟩ | ⟨e, _⟩
            · have hno : ¬ 0 ≤ whr I j V := by
                rcases whr_spec I V j with ⟨h1, _⟩ | ⟨p, hp, _, hpe⟩
                · omega
                · exact absurd hpe (h p hp)
              have e1 := ord_no hno
              unfold numsV datV
              rw [e, e1]
              exact ⟨rfl, rfl, rfl⟩
            · rw [e]; exact ⟨rfl, rfl, rfl⟩)
          go_wp2
          go_roundw
          case rel =>
            refine ⟨V + 1, lu, A3, A4, C3, C4, by omega, by omega, by go_num, rfl, rfl, Lib.hid (by rw [HNX.out.1]; exact HLU.out), Lib.hid ?_, Lib.hid ?_, HB⟩
            · rw [HNX.out.2.1]; exact HX.out
            · rw [HNX.out.2.2]; exact HY.out
          case measure => simp [intOf]; omega
    · have hfull : len = k := by
        have h1 := HLN.out
        by_cases h2 : len < k
        · have h3 := HFU.out V (by omega)
          omega
        · omega
      subst hfull
      have HI1 : Hid (Ints wo A1 len (fun q => (nth I n N q : Nat))) := Lib.hid (by
        rcases OwnI.ints HX.out with h0 | ⟨b', o', e, hl, hc⟩
        · exact .inl h0
        · refine .inr ⟨b', o', e, hl, fun i hi => ?_⟩
          rw [hc i hi]
          show some (Value.int .i64 ((numsV I n V).getD i 0)) = some (Value.int .i64 ((nth I n N i : Nat) : Int))
          rw [← (HEND.out V hV HLN.out i hi).1]
          exact congrArg (fun z => some (Value.int .i64 z)) (numsV_get (by rw [HLN.out]; exact hi)))
      have HI2 : Hid (ColsIn wo A2 len C2 (fun q => A (std I n N q)) (fun q => L (std I n N q)) (fun q => C (std I n N q)) (fun q => X (std I n N q))) := Lib.hid (by
        refine OwnS.cols _ _ _ _ HY.out (fun i hi => ?_) (fun i hi => ?_)
        · rw [← (HEND.out V hV HLN.out i hi).2]
          exact datV_get (by rw [HLN.out]; exact hi)
        · rw [← (HEND.out V hV HLN.out i hi).2]
          exact (HSH.out.below HB.out (Nat.le_refl _)).data _ (std_spec (by rw [HLN.out]; exact hi)).1)
      by_cases hV2 : V < 255
      · have v1 : (V : Int) < 255 := by omega
        go_wp2
        go_ret2
        exact ⟨A1, C1, A2, C2, rfl, HI1.out, HI2.out, HB.out⟩
      · have v1 : ¬ (V : Int) < 255 := by omega
        go_wp2
        go_ret2
        exact ⟨A1, C1, A2, C2, rfl, HI1.out, HI2.out, HB.out⟩
end Go.Proofs.Ytpofhfocmelgbaa
