/-
  Own text: Shift, walked.
-/
import Derived.Test.YtpllflmflfbnpaaMatW
namespace Go.Proofs.Ytpllflmflfbnpaa
open Go.RowKit

/-- Held within two others. -/
def clampZ (n l h : Int) : Int := if n < l ∨ h < l then l else if h < n then h else n
theorem clamp_any (n l h : Int) (w : World) :
    Calls Try.prog 29 #[.int .i64 n, .int .i64 l, .int .i64 h] w fun e w' => e = .returned (.int .i64 (clampZ n l h)) ∧ w = w' := by
  go_enter Try.func29, Try.ntmps29
  go_wp2
  all_goals go_ret
  all_goals exact ⟨ret_int (by unfold clampZ; split <;> (try split) <;> omega), rfl⟩
theorem clamp_64 (b : Int) : ∃ N : Nat, clampZ b 0 64 = (N : Int) ∧ N ≤ 64 ∧ (0 ≤ b → b ≤ 64 → b = N) ∧ (b < 0 → N = 0) ∧ (64 < b → N = 64) :=
  ⟨(clampZ b 0 64).toNat, by unfold clampZ; split <;> (try split) <;> omega, by unfold clampZ; split <;> (try split) <;> omega, fun h h' => by unfold clampZ; split <;> (try split) <;> omega, fun h => by unfold clampZ; split <;> (try split) <;> omega, fun h => by unfold clampZ; split <;> (try split) <;> omega⟩
theorem one_shl (k : Nat) (hk : k < 32) : (2 : Int) ^ k % 4294967296 = ((bitB k).toNat : Int) := by
  rw [bitB_toNat k hk]
  have h : 2 ^ k < 2 ^ 32 := Nat.pow_lt_pow_right (by omega) hk
  have e : (2 : Int) ^ k = ((2 ^ k : Nat) : Int) := by simp
  rw [e]
  generalize 2 ^ k = x at *
  omega
/-- The matrix behind k bits, and j steps of the next one. -/
def shiftM (N k j : Nat) (x : Nat) : BitVec 32 := if x < k then matOf N x else if x = k then ones j (bitB k) else 0#32
def shiftO (N k : Nat) (x : Nat) : BitVec 32 := if x < k then matOf N x else 0#32
set_option maxRecDepth 100000 in
theorem shift_any (b : Int) (N : Nat) (hN : clampZ b 0 64 = (N : Int)) (hN2 : N ≤ 64) (w : World) :
    Calls Try.prog 22 #[.int .i64 b] w fun e w' => e = .returned (.agg (arr (matOf N))) ∧ Below w.heap.size w w' := by
  have HI := Lib.hid (fun m => mat_info m)
  have HO := Lib.hid (fun m => all_oneCell_toArray (arr_one m))
  have cc := fun w => clamp_any b 0 64 w
  rw [hN] at cc
  have CC := Lib.hid cc
  clear cc hN
  go_enter Try.func22, Try.ntmps22
  go_upto_region 2 with fail
  rw [zero_arr]
  obtain ⟨W, hW⟩ : ∃ W, W = (w.alloc (.cells (arr fun _ => 0#32) 40)).alloc (.cells (arr fun _ => 0#32) 40) := ⟨_, rfl⟩
  rw [← hW]
  have h0 : Hid (Mat W w.heap.size (fun _ => 0#32)) := Lib.hid (by rw [hW]; exact (Mat.new w _).below ((Below.refl (w.heap.size + 1) _).alloc (by simp) _) (by omega))
  have h1 : Hid (Mat W (w.heap.size + 1) (fun _ => 0#32)) := Lib.hid (by
    rw [hW]
    have := Mat.new (w.alloc (.cells (arr fun _ => 0#32) 40)) (fun _ => 0#32)
    simpa using this)
  have h3 : Hid (Below w.heap.size w W) := Lib.hid (by rw [hW]; exact ((Below.refl _ _).alloc (Nat.le_refl _) _).alloc (by simp) _)
  have HW := Lib.hid hW
  clear hW
  go_wp2
  go_loopw [4, 5] (fun _ i wr => ∃ k : Nat, k ≤ 32 ∧ i = .int .i64 k ∧ Hid (Mat wr (w.heap.size + 1) (shiftO N k)) ∧ Hid (Mat wr w.heap.size (fun _ => 0#32)) ∧ Hid (Below w.heap.size w wr)) (fun _ i _ => 32 - (intOf i).toNat)
  case atStart => exact ⟨0, by omega, rfl, Lib.hid (h1.out.congr (fun i _ => by simp [shiftO])), h0, h3⟩
  case round =>
    obtain ⟨k, hk, rfl, H1, H0, H3⟩ := hrel
    obtain ⟨wo, ho⟩ : ∃ wo, wo = wr := ⟨_, rfl⟩
    subst ho
    by_cases hlt : k < 32
    · have k0 : (0 : Int) ≤ k := by omega
      have k1 : (k : Int) < 32 := by omega
      have os := one_shl k hlt
      have c1 := H1.out.cell k hlt
      have f1 := H1.out.frozen k
      have HS := Lib.hid (H1.out.set k (bitB k))
      have HB := Lib.hid ((Below.refl (w.heap.size + 1) wo).setCell (p := ⟨w.heap.size + 1, k, none⟩) (Nat.le_refl _) (.int .u32 ((bitB k).toNat : Int)))
      have H3' := Lib.hid (H3.out.setCell (p := ⟨w.heap.size + 1, k, none⟩) (by show w.heap.size ≤ w.heap.size + 1; omega) (.int .u32 ((bitB k).toNat : Int)))
      have H0' := Lib.hid (H0.out.below HB.out (by omega))
      have H1' := Lib.hid (HS.out.congr (m' := shiftM N k 0) (fun j _ => by
        unfold shiftO shiftM
        by_cases e : j = k
        · subst e; simp [ones]
        · simp [e]))
      clear HS HB
      go_wp2_with (go_at_call 29; refine (CC.out _).mono ?_; rintro e w' ⟨rfl, rfl⟩)
      generalize wo.setCell ⟨w.heap.size + 1, k, none⟩ (.int .u32 ((bitB k).toNat : Int)) = W2 at *
      go_loopw [14] (fun j wr => ∃ q : Nat, q ≤ N ∧ j = .int .i64 q ∧ Hid (Mat wr (w.heap.size + 1) (shiftM N k q)) ∧ Hid (Mat wr w.heap.size (fun _ => 0#32)) ∧ Hid (Below w.heap.size w wr)) (fun j _ => N - (intOf j).toNat)
      case atStart => exact ⟨0, by omega, rfl, H1', H0', H3'⟩
      case round =>
        clear os c1 f1 H1' H0' H3' H1 H0 H3
        obtain ⟨q, hq, rfl, H1, H0, H3⟩ := hrel
        by_cases hqn : q < N
        · have q0 : (0 : Int) ≤ q := by omega
          have q1 : (q : Int) < N := by omega
          have c1 := H1.out.cell k hlt
          have f1 := H1.out.frozen k
          have e1 : shiftM N k q k = ones q (bitB k) := by unfold shiftM; rw [if_neg (by omega), if_pos rfl]
          rw [e1] at c1
          clear e1
          go_wp2_with (go_at_call 24; refine (step_any _ _).mono ?_; rintro e w' ⟨rfl, rfl⟩)
          go_roundw
          case rel =>
            refine ⟨q + 1, by omega, by go_num, Lib.hid ((H1.out.set k _).congr (fun j _ => ?_)), Lib.hid (H0.out.below ((Below.refl (w.heap.size + 1) _).setCell (p := ⟨w.heap.size + 1, k, none⟩) (Nat.le_refl _) _) (by omega)), Lib.hid (H3.out.setCell (p := ⟨w.heap.size + 1, k, none⟩) (by show w.heap.size ≤ w.heap.size + 1; omega) _)⟩
            unfold shiftM
            by_cases e : j = k
            · subst e; rw [if_pos rfl, if_neg (by omega), if_pos rfl, ones_succ]
            · rw [if_neg e, if_neg e, if_neg e]
          case measure => simp [intOf]; omega
        · obtain rfl : q = N := by omega
          go_wp2
          go_roundw
          case rel =>
            refine ⟨k + 1, by omega, by go_num, Lib.hid (H1.out.congr (fun j _ => ?_)), H0, H3⟩
            unfold shiftM shiftO matOf
            by_cases e : j = k
            · subst e; rw [if_neg (by omega), if_pos rfl, if_pos (by omega)]
            · by_cases g : j < k
              · rw [if_pos g, if_pos (by omega)]
              · rw [if_neg g, if_neg e, if_neg (by omega)]
          case measure => simp [intOf]; omega
    · obtain rfl : k = 32 := by omega
      have H2' : Hid (Mat wo (w.heap.size + 1) (matOf N)) := Lib.hid (H1.out.congr (fun j hj => by unfold shiftO; rw [if_pos hj]))
      have hr := Lib.hid H2'.out.row
      have hr1 := Lib.hid H0.out.row
      have ho := Lib.hid (HO.out (matOf N))
      have hsz : Hid ((arr (fun _ => 0#32)).size = (arr (matOf N)).size) := Lib.hid (by rw [arr_size, arr_size])
      go_wp2_with (first
        | (with_reducible refine wpList_load_row rfl 40 (.tmp 3) rfl (w.heap.size + 1) rfl 40 (arr (matOf N)) (0, 0) _ hr.out Try.underlying40 rfl (HI.out _) ?_)
        | (with_reducible refine wpList_store_row rfl 40 (.tmp 2) (.tmp 24) rfl w.heap.size (arr (matOf N)) rfl rfl 40 (arr (fun _ => 0#32)) hr1.out (HI.out _) hsz.out ho.out ?_))
      have H4 : Mat (wo.setRow w.heap.size (arr (matOf N))) w.heap.size (matOf N) := H0.out.store
      refine bodyPost_ret (v := .agg (arr (matOf N))) (results_cell_row Try.results22 _ _ w.heap.size 40 _ (0, 0) _ rfl H4 Try.underlying40 rfl (HI.out _)) rfl ⟨rfl, below_setRow H3.out (Nat.le_refl _) _⟩
end Go.Proofs.Ytpllflmflfbnpaa
