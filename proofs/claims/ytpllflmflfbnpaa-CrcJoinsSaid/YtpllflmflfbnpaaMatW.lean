/-
  Own text: matrices of 32 remainders, walked (times, twice, Shift, Join).
-/
import Derived.Test.YtpllflmflfbnpaaMatM
import Derived.Deep.Cut
namespace Go.Proofs.Ytpllflmflfbnpaa
open Go.RowKit

theorem bit_test (r : BitVec 32) (k : Nat) : (bits .and .u32 ((r.toNat : Int) / 2 ^ k) 1 == 1) = r.getLsbD k := by
  have e : (r.toNat : Int) / 2 ^ k = ((r >>> k).toNat : Int) := by
    rw [BitVec.toNat_ushiftRight, Nat.shiftRight_eq_div_pow]
    simp
  rw [e, low_bit]
  have h : (r >>> k).getLsbD 0 = r.getLsbD k := by rw [BitVec.getLsbD_ushiftRight]; rfl
  rw [← h, ← BitVec.testBit_toNat, Nat.testBit_zero, Bool.eq_iff_iff]
  generalize (r >>> k).toNat = x
  simp only [beq_iff_eq, decide_eq_true_eq]
  omega
theorem times_any (m : Nat → BitVec 32) (r : BitVec 32) (w : World) :
    Calls Try.prog 27 #[.agg (arr m), .int .u32 r.toNat] w fun e w' => e = .returned (.int .u32 (timesN m r 32).toNat) ∧ Below w.heap.size w w' := by
  have HM := Lib.hid (Mat.new w m).row
  have HI := Lib.hid (mat_info m)
  go_enter Try.func27, Try.ntmps27
  go_wp2_with (with_reducible refine wpList_load_row rfl 40 (.tmp 2) rfl w.heap.size rfl 40 (arr m) (0, 0) _ HM.out Try.underlying40 rfl HI.out ?_)
  go_loop [5, 6, 7, 9] (fun v _ _ i => ∃ k : Nat, k ≤ 32 ∧ i = .int .i64 k ∧ v = .int .u32 (timesN m r k).toNat) (fun _ _ _ i => 32 - (intOf i).toNat)
  case atStart => exact ⟨0, by omega, rfl, rfl⟩
  case round =>
    obtain ⟨k, hk, rfl, rfl⟩ := hrel
    by_cases hlt : k < 32
    · have ix := run_mat_index m k hlt
      have bt := bit_test r k
      have HS : Hid (timesN m r (k + 1) = if r.getLsbD k then timesN m r k ^^^ m k else timesN m r k) := Lib.hid rfl
      have bx := bits_xor (timesN m r k) (m k)
      have k0 : (0 : Int) ≤ k := by omega
      generalize timesN m r k = s at *
      cases hb : r.getLsbD k
      · rw [hb] at bt
        have HB := Lib.hid hb
        clear hb bx
        go_wp2
        go_round
        case rel => exact ⟨k + 1, by omega, by go_num, by rw [HS.out, HB.out]; rfl⟩
        case measure => simp [intOf]; omega
      · rw [hb] at bt
        have HB := Lib.hid hb
        clear hb
        go_wp2
        go_round
        case rel => exact ⟨k + 1, by omega, by go_num, by rw [HS.out, HB.out]; rfl⟩
        case measure => simp [intOf]; omega
    · obtain rfl : k = 32 := by omega
      go_wp2
      go_ret
      exact ⟨rfl, (Below.refl _ _).alloc (Nat.le_refl _) _⟩

theorem zero_arr : (#[Value.int .u32 0, Value.int .u32 0, Value.int .u32 0, Value.int .u32 0, Value.int .u32 0, Value.int .u32 0, Value.int .u32 0, Value.int .u32 0, Value.int .u32 0, Value.int .u32 0, Value.int .u32 0, Value.int .u32 0, Value.int .u32 0, Value.int .u32 0, Value.int .u32 0, Value.int .u32 0, Value.int .u32 0, Value.int .u32 0, Value.int .u32 0, Value.int .u32 0, Value.int .u32 0, Value.int .u32 0, Value.int .u32 0, Value.int .u32 0, Value.int .u32 0, Value.int .u32 0, Value.int .u32 0, Value.int .u32 0, Value.int .u32 0, Value.int .u32 0, Value.int .u32 0, Value.int .u32 0] : Array Value) = arr (fun _ => 0#32) := rfl
theorem matOf_twice (n i : Nat) : timesN (matOf n) (matOf n i) 32 = matOf (n + n) i := by
  rw [timesN_all]
  unfold matOf
  rw [← ones_add]
set_option maxRecDepth 100000 in
theorem twice_any (n : Nat) (w : World) :
    Calls Try.prog 28 #[.agg (arr (matOf n))] w fun e w' => e = .returned (.agg (arr (matOf (n + n)))) ∧ Below w.heap.size w w' := by
  have HI := Lib.hid (fun m => mat_info m)
  have HO := Lib.hid (fun m => all_oneCell_toArray (arr_one m))
  go_enter Try.func28, Try.ntmps28
  go_upto_region 2 with fail
  rw [zero_arr]
  obtain ⟨W, hW⟩ : ∃ W, W = ((w.alloc (.cells (arr (matOf n)) 40)).alloc (.cells (arr fun _ => 0#32) 40)).alloc (.cells (arr fun _ => 0#32) 40) := ⟨_, rfl⟩
  rw [← hW]
  have h0 : Hid (Mat W w.heap.size (matOf n)) := Lib.hid (by rw [hW]; exact ((Mat.new w _).below ((Below.refl (w.heap.size + 1) _).alloc (by simp) _) (by omega)).below ((Below.refl (w.heap.size + 1) _).alloc (by simp) _) (by omega))
  have h1 : Hid (Mat W (w.heap.size + 1) (fun _ => 0#32)) := Lib.hid (by
    rw [hW]
    have := (Mat.new (w.alloc (.cells (arr (matOf n)) 40)) (fun _ => 0#32)).below ((Below.refl (w.heap.size + 2) _).alloc (by simp) (.cells (arr fun _ => 0#32) 40)) (by simp)
    simpa using this)
  have h2 : Hid (Mat W (w.heap.size + 1 + 1) (fun _ => 0#32)) := Lib.hid (by
    rw [hW]
    have := Mat.new ((w.alloc (.cells (arr (matOf n)) 40)).alloc (.cells (arr fun _ => 0#32) 40)) (fun _ => 0#32)
    simpa using this)
  have h3 : Hid (Below w.heap.size w W) := Lib.hid (by rw [hW]; exact (((Below.refl _ _).alloc (Nat.le_refl _) _).alloc (by simp) _).alloc (by simp; omega) _)
  have HW := Lib.hid hW
  clear hW
  have hr := Lib.hid h0.out.row
  go_wp2_with (with_reducible refine wpList_load_row rfl 40 (.tmp 1) rfl w.heap.size rfl 40 (arr (matOf n)) (0, 0) _ hr.out Try.underlying40 rfl (HI.out _) ?_)
  clear hr
  go_loopw [4, 5, 7] (fun _ _ i wr => ∃ k : Nat, k ≤ 32 ∧ i = .int .i64 k ∧ Hid (Mat wr (w.heap.size + 1 + 1) (fun j => if j < k then matOf (n + n) j else 0#32)) ∧ Hid (Mat wr w.heap.size (matOf n)) ∧ Hid (Mat wr (w.heap.size + 1) (fun _ => 0#32)) ∧ Hid (Below w.heap.size w wr)) (fun _ _ i _ => 32 - (intOf i).toNat)
  case atStart => exact ⟨0, by omega, rfl, h2, h0, h1, h3⟩
  case round =>
    obtain ⟨k, hk, rfl, H2, H0, H1, H3⟩ := hrel
    by_cases hlt : k < 32
    · have ix := run_mat_index (matOf n) k hlt
      have k0 : (0 : Int) ≤ k := by omega
      have k1 : (k : Int) < 32 := by omega
      have hr := Lib.hid H0.out.row
      have ct := fun w => times_any (matOf n) (matOf n k) w
      rw [matOf_twice] at ct
      have CT := Lib.hid ct
      clear ct
      go_wp2_with (first
        | (with_reducible refine wpList_load_row rfl 40 (.tmp 1) rfl w.heap.size rfl 40 (arr (matOf n)) (0, 0) _ hr.out Try.underlying40 rfl (HI.out _) ?_)
        | (go_at_call 27; refine (CT.out _).mono ?_; rintro e w1 ⟨rfl, hb1⟩; have HB1 := Lib.hid hb1; have H2' := Lib.hid (H2.out.below hb1 H2.out.lt); have H0' := Lib.hid (H0.out.below hb1 H0.out.lt); have H1' := Lib.hid (H1.out.below hb1 H1.out.lt); have cc := H2'.out.cell k hlt; have cf := H2'.out.frozen k; clear hb1))
      go_roundw
      case rel =>
        refine ⟨k + 1, by omega, by go_num, Lib.hid ((H2'.out.set k _).congr (fun j hj => ?_)), Lib.hid ?_, Lib.hid ?_, Lib.hid ?_⟩
        · by_cases e : j = k
          · subst e; rw [if_pos rfl, if_pos (by omega)]
          · rw [if_neg e]
            by_cases g : j < k
            · rw [if_pos g, if_pos (by omega)]
            · rw [if_neg g, if_neg (by omega)]
        · exact H0'.out.below ((Below.refl (w.heap.size + 1) w1).setCell (p := ⟨w.heap.size + 1 + 1, k, none⟩) (by show w.heap.size + 1 ≤ w.heap.size + 1 + 1; omega) _) (by omega)
        · exact H1'.out.below ((Below.refl (w.heap.size + 2) w1).setCell (p := ⟨w.heap.size + 1 + 1, k, none⟩) (Nat.le_refl _) _) (by omega)
        · exact (H3.out.trans (HB1.out.mono H3.out.size)).setCell (p := ⟨w.heap.size + 1 + 1, k, none⟩) (by show w.heap.size ≤ w.heap.size + 1 + 1; omega) _
      case measure => simp [intOf]; omega
    · obtain rfl : k = 32 := by omega
      have H2' : Hid (Mat wr (w.heap.size + 1 + 1) (matOf (n + n))) := Lib.hid (H2.out.congr (fun j hj => by rw [if_pos hj]))
      have hr := Lib.hid H2'.out.row
      have hr1 := Lib.hid H1.out.row
      have ho := Lib.hid (HO.out (matOf (n + n)))
      have hsz : Hid ((arr (fun _ => 0#32)).size = (arr (matOf (n + n))).size) := Lib.hid (by rw [arr_size, arr_size])
      go_wp2_with (first
        | (with_reducible refine wpList_load_row rfl 40 (.tmp 3) rfl (w.heap.size + 1 + 1) rfl 40 (arr (matOf (n + n))) (0, 0) _ hr.out Try.underlying40 rfl (HI.out _) ?_)
        | (with_reducible refine wpList_store_row rfl 40 (.tmp 2) (.tmp 17) rfl (w.heap.size + 1) (arr (matOf (n + n))) rfl rfl 40 (arr (fun _ => 0#32)) hr1.out (HI.out _) hsz.out ho.out ?_))
      have H4 : Mat (wr.setRow (w.heap.size + 1) (arr (matOf (n + n)))) (w.heap.size + 1) (matOf (n + n)) := H1.out.store
      refine bodyPost_ret (v := .agg (arr (matOf (n + n)))) (results_cell_row Try.results28 _ _ (w.heap.size + 1) 40 _ (0, 0) _ rfl H4 Try.underlying40 rfl (HI.out _)) rfl ⟨rfl, below_setRow H3.out (by omega) _⟩
end Go.Proofs.Ytpllflmflfbnpaa
