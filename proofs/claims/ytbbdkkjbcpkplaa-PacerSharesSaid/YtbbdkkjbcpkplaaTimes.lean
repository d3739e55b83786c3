/-
  Own text: the document's product of wide numbers (Times), walked.
-/
import Derived.Test.YtbbdkkjbcpkplaaTimesM
import Derived.Deep.Cut
namespace Go.Proofs.Ytbbdkkjbcpkplaa
open Go.RowKit

/-- What lies in memory behind i pieces: the two numbers, room for the answer, the sum so far. -/
structure Sofar (w W : World) (m : Bool) (x : Nat) (m' : Bool) (y s : Nat) : Prop where
  r0 : W.rowIs w.heap.size 63 10 (wcell m (limb x))
  r1 : W.rowIs (w.heap.size + 1) 63 10 (wcell m' (limb y))
  r2 : W.rowIs (w.heap.size + 1 + 1) 63 10 (wcell false (fun _ => 0))
  r3 : W.rowIs (w.heap.size + 1 + 1 + 1) 63 10 (wcell false (limb s))
  below : Below w.heap.size w W
theorem Sofar.keep {w W W' : World} {m m' : Bool} {x y s : Nat} (h : Sofar w W m x m' y s) (hb : Below W.heap.size W W') : Sofar w W' m x m' y s :=
  ⟨rowIs_below h.r0 hb, rowIs_below h.r1 hb, rowIs_below h.r2 hb, rowIs_below h.r3 hb, h.below.trans (hb.mono (by have := h.r0.lt; omega))⟩
theorem Sofar.lt {w W : World} {m m' : Bool} {x y s : Nat} (h : Sofar w W m x m' y s) : w.heap.size + 1 + 1 + 1 < W.heap.size := h.r3.lt
/-- The row for one piece, behind k of its own pieces. -/
def rowF (z y i k : Nat) : Nat → Nat := fun j => if i ≤ j ∧ j < i + k then limb (z * y) (j - i) else 0

set_option maxHeartbeats 1000000 in
theorem times_any (m m' : Bool) (x y : Nat) (w : World) (hx : x < 65536 ^ 4) (hy : y < 65536 ^ 4) :
    Calls Try.prog 29 #[wideV m x, wideV m' y] w fun e w' => e = .returned (wideV (m != m') (x * y)) ∧ Below w.heap.size w w' := by
  go_enter Try.func29, Try.ntmps29
  go_wp2
  go_loopw [6] (fun v wr => ∃ i : Nat, i ≤ 4 ∧ v = .int .i64 i ∧ Sofar w wr m x m' y (x % 65536 ^ i * y)) (fun v _ => 4 - (intOf v).toNat)
  case atStart =>
    refine ⟨0, by omega, rfl, ((((wide_row w m x).alloc _).alloc _).alloc _), (wide_row_2 w _ _ m' y).alloc _, (wide_row_3 w _ _).alloc _, ?_, ?_⟩
    · have R := wide_row0 (((w.alloc (.cells #[.bool m, .int .u64 (limb x 0), .int .u64 (limb x 1), .int .u64 (limb x 2), .int .u64 (limb x 3), .int .u64 (limb x 4), .int .u64 (limb x 5), .int .u64 (limb x 6), .int .u64 (limb x 7), .int .u64 (limb x 8)] 63)).alloc (.cells #[.bool m', .int .u64 (limb y 0), .int .u64 (limb y 1), .int .u64 (limb y 2), .int .u64 (limb y 3), .int .u64 (limb y 4), .int .u64 (limb y 5), .int .u64 (limb y 6), .int .u64 (limb y 7), .int .u64 (limb y 8)] 63)).alloc (.cells #[.bool false, .int .u64 0, .int .u64 0, .int .u64 0, .int .u64 0, .int .u64 0, .int .u64 0, .int .u64 0, .int .u64 0, .int .u64 0] 63))
      simp only [World.size_alloc] at R
      refine R.congr fun j _ => ?_
      have e : x % 65536 ^ 0 * y = 0 := by simp [Nat.mod_one]
      rw [e]
      have z : ∀ i, limb 0 i = 0 := fun i => limb_big 0 i (pow_pos' i)
      cases j <;> simp [wcell, z]
    · exact ((((Below.refl _ _).alloc (by simp) _).alloc (by simp) _).alloc (by simp; omega) _).alloc (by simp; omega) _
  case round =>
    obtain ⟨i, hi, rfl, S⟩ := hrel
    obtain ⟨wo, ho⟩ : ∃ wo, wo = wr := ⟨_, rfl⟩
    subst ho
    by_cases hlt : i < 4
    · have hz := S.lt
      go_wp2
      go_loopw [8, 9] (fun c v wq => ∃ k : Nat, k ≤ 4 ∧ v = .int .i64 k ∧ c = .int .u64 (mcarry (limb x i) y k) ∧ Below wo.heap.size wo wq ∧ wq.rowIs wo.heap.size 63 10 (wcell false (rowF (limb x i) y i k))) (fun _ v _ => 4 - (intOf v).toNat)
      case atStart =>
        refine ⟨0, by omega, rfl, by rw [mcarry_zero]; rfl, (Below.refl _ _).alloc (by simp) _, (wide_row0 wo).congr fun j _ => ?_⟩
        cases j with
        | zero => rfl
        | succ j =>
          simp only [wcell, rowF]
          rw [if_neg (by omega)]
      case round =>
        obtain ⟨k, hk, rfl, rfl, hb, R⟩ := hrel
        by_cases hkl : k < 4
        · have T := S.keep hb
          have c1 : wr.cell? ⟨w.heap.size, 1 + i, none⟩ = some (.int .u64 (limb x i)) := by rw [Nat.add_comm 1 i, T.r0.cell (by omega)]; simp [wcell]
          have c2 : wr.cell? ⟨w.heap.size + 1, 1 + k, none⟩ = some (.int .u64 (limb y k)) := by rw [Nat.add_comm 1 k, T.r1.cell (by omega)]; simp [wcell]
          have c3 : wr.cell? ⟨wo.heap.size, 1 + (i + k), none⟩ = some (.int .u64 (rowF (limb x i) y i k (i + k))) := by rw [Nat.add_comm 1 (i + k), R.cell (by omega)]; simp [wcell]
          have f3 := R.frozen (1 + (i + k))
          have l1 := limb_lt x i
          have l2 := limb_lt y k
          have l3 := mcarry_le (limb x i) y k (by omega)
          have lp : limb x i * limb y k ≤ 65535 * 65535 := Nat.mul_le_mul (by omega) (by omega)
          have s1 : IntKind.u64.wrap ((limb x i : Int) * (limb y k : Int)) = (limb x i : Int) * (limb y k : Int) := by
            have e : (limb x i : Int) * (limb y k : Int) = ((limb x i * limb y k : Nat) : Int) := by simp
            rw [e, IntKind.wrap_u64]
            omega
          have s2 : IntKind.u64.wrap ((limb x i : Int) * (limb y k : Int) + (mcarry (limb x i) y k : Int)) = (limb x i : Int) * (limb y k : Int) + (mcarry (limb x i) y k : Int) := by
            have e : (limb x i : Int) * (limb y k : Int) = ((limb x i * limb y k : Nat) : Int) := by simp
            rw [e, IntKind.wrap_u64]
            omega
          have s3 : 0 ≤ (limb x i : Int) * (limb y k : Int) + (mcarry (limb x i) y k : Int) := by
            have e : (limb x i : Int) * (limb y k : Int) = ((limb x i * limb y k : Nat) : Int) := by simp
            rw [e]
            omega
          have s4 : (limb x i : Int) * (limb y k : Int) + (mcarry (limb x i) y k : Int) ≤ 18446744073709551615 := by
            have e : (limb x i : Int) * (limb y k : Int) = ((limb x i * limb y k : Nat) : Int) := by simp
            rw [e]
            omega
          clear l1 l2 l3 lp
          have HT := Lib.hid T
          clear T
          go_wp2
          go_quiet (fail)
          go_wp2
          go_roundw
          case rel =>
            refine ⟨k + 1, by omega, by go_num, ?_, ?_, ?_⟩
            · rw [mcarry_succ]; congr 1
            · exact (below_drewN hb nq).setCell (by simp) _
            · rw [Nat.add_comm 1 (i + k)]
              refine ((rowIs_drewN R nq).set (i + k + 1) _).congr fun j hj => ?_
              cases j with
              | zero => simp [wcell]
              | succ j =>
                by_cases e : j = i + k
                · subst e
                  rw [if_pos rfl]
                  simp only [wcell, rowF]
                  rw [if_pos (by omega), Nat.add_sub_cancel_left, mlimb]
                  congr 1
                · rw [if_neg (by omega)]
                  simp only [wcell, rowF]
                  have e1 : (i ≤ j ∧ j < i + (k + 1)) ↔ (i ≤ j ∧ j < i + k) := by omega
                  simp only [e1]
          case measure => simp [intOf]; omega
        · obtain rfl : k = 4 := by omega
          have T := S.keep hb
          have c3 : wr.cell? ⟨wo.heap.size, 1 + (i + 4), none⟩ = some (.int .u64 (rowF (limb x i) y i 4 (i + 4))) := by rw [Nat.add_comm 1 (i + 4), R.cell (by omega)]; simp [wcell]
          have f3 := R.frozen (1 + (i + 4))
          go_upto_region 14 with fail
          generalize hg : wr.setCell ⟨wo.heap.size, 1 + (i + 4), none⟩ (.int .u64 (mcarry (limb x i) y 4)) = wz
          have hbz : Below wo.heap.size wo wz := by rw [← hg]; exact hb.setCell (by simp) _
          have Rz : wz.rowIs wo.heap.size 63 10 (wcell false (limb (limb x i * y * 65536 ^ i))) := by
            rw [← hg, Nat.add_comm 1 (i + 4)]
            refine (R.set (i + 4 + 1) _).congr fun j hj => ?_
            cases j with
            | zero => simp [wcell]
            | succ j =>
              simp only [wcell, rowF, row_limbs _ _ _ _ (Nat.le_of_lt_succ (limb_lt x i)) hy]
              by_cases e : j = i + 4
              · subst e; simp
              · rw [if_neg (by omega), if_neg e]
          have Tz := S.keep hbz
          clear T R hb hg c3 f3 S hbz
          obtain ⟨c0, c1, c2, c3, c4, c5, c6, c7, c8, c9⟩ := wide_cells Tz.r3
          obtain ⟨e0, e1, e2, e3, e4, e5, e6, e7, e8, e9⟩ := wide_cells Rz
          have HT := Lib.hid Tz
          clear Tz Rz
          have hp := part_sum x y i
          have HP := Lib.hid hp
          clear hp
          go_wp2_with (go_at_call 33; refine (plus_any _ _ (x % 65536 ^ i * y) (limb x i * y * 65536 ^ i) _).mono ?_; rintro e w' ⟨rfl, hb2⟩; have T := HT.out.keep hb2; clear hb2 c0 c1 c2 c3 c4 c5 c6 c7 c8 c9 e0 e1 e2 e3 e4 e5 e6 e7 e8 e9; obtain ⟨d0, d1, d2, d3, d4, d5, d6, d7, d8, d9⟩ := wide_cells T.r3; obtain ⟨f0, f1, f2, f3, f4, f5, f6, f7, f8, f9⟩ := wide_free T.r3; have HT2 := Lib.hid T; clear T HT)
          go_roundw
          case rel =>
            have T := HT2.out
            rw [HP.out]
            have q := T.lt
            exact ⟨i + 1, by omega, by go_num, row_store_other T.r0 (by omega) _ _ _ _ _ _ _ _ _ _, row_store_other T.r1 (by omega) _ _ _ _ _ _ _ _ _ _, row_store_other T.r2 (by omega) _ _ _ _ _ _ _ _ _ _, row_store T.r3 false _, below_wide T.below (by omega) _ _ _ _ _ _ _ _ _ _⟩
          case measure => simp [intOf]; omega
    · obtain rfl : i = 4 := by omega
      have e : x % 65536 ^ 4 * y = x * y := by rw [Nat.mod_eq_of_lt hx]
      rw [e] at S
      clear e
      have a0 := (wide_cells S.r0).1
      have b0 := (wide_cells S.r1).1
      obtain ⟨c0, c1, c2, c3, c4, c5, c6, c7, c8, c9⟩ := wide_cells S.r3
      obtain ⟨d0, d1, d2, d3, d4, d5, d6, d7, d8, d9⟩ := wide_cells S.r2
      obtain ⟨f0, f1, f2, f3, f4, f5, f6, f7, f8, f9⟩ := wide_free S.r2
      have g0 := S.r3.frozen 0
      have hz := S.lt
      have HB := Lib.hid S.below
      clear S hx hy
      go_wp2
      exact bodyPost_ret (v := wideV (m != m') (x * y)) (by simp [results, Try.results29, go_sem, d0, d1, d2, d3, d4, d5, d6, d7, d8, d9]; cases m <;> cases m' <;> rfl) rfl
        ⟨rfl, below_wide (HB.out.setCell (by simp; omega) _) (by omega) _ _ _ _ _ _ _ _ _ _⟩
end Go.Proofs.Ytbbdkkjbcpkplaa
