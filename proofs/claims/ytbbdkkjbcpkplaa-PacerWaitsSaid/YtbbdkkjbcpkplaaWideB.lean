/-
  Own text: the document's wide numbers compared, added with signs, held (less, Plus, Turn, Held), walked.
-/
import Derived.Test.YtbbdkkjbcpkplaaWideA
namespace Go.Proofs.Ytbbdkkjbcpkplaa
open Go.RowKit

theorem less_any (m m' : Bool) (x y : Nat) (w : World) (hx : x < 65536 ^ 9) (hy : y < 65536 ^ 9) :
    Calls Try.prog 34 #[wideV m x, wideV m' y] w fun e w' => e = .returned (.bool (decide (x < y))) ∧ Below w.heap.size w w' := by
  have q9 : x / 65536 ^ 9 = y / 65536 ^ 9 := by rw [Nat.div_eq_of_lt hx, Nat.div_eq_of_lt hy]
  have H9 := Lib.hid q9
  clear q9 hx hy
  go_enter Try.func34, Try.ntmps34
  go_wp2
  go_loopw [5] (fun i wr => ∃ k : Nat, k ≤ 9 ∧ i = .int .i64 ((k : Int) - 1) ∧ Hid (x / 65536 ^ k = y / 65536 ^ k) ∧ wr.rowIs w.heap.size 63 10 (wcell m (limb x)) ∧
      wr.rowIs (w.heap.size + 1) 63 10 (wcell m' (limb y)) ∧ Below w.heap.size w wr)
    (fun i _ => (intOf i + 1).toNat)
  case atStart =>
    refine ⟨9, by omega, rfl, H9, ?_, ?_, ?_⟩
    · exact (wide_row w m x).alloc _
    · have := wide_row (w.alloc (.cells #[.bool m, .int .u64 (limb x 0), .int .u64 (limb x 1), .int .u64 (limb x 2), .int .u64 (limb x 3), .int .u64 (limb x 4), .int .u64 (limb x 5), .int .u64 (limb x 6), .int .u64 (limb x 7), .int .u64 (limb x 8)] 63)) m' y
      simp only [World.size_alloc] at this
      exact this
    · exact ((Below.refl _ _).alloc (by simp) _).alloc (by simp) _
  case round =>
    obtain ⟨k, hk, rfl, HE, R1, R2, hb⟩ := hrel
    cases k with
    | zero =>
      go_wp2
      go_ret
      refine ⟨ret_bool ?_, hb⟩
      have := HE.out
      simp at this
      simp [this]
    | succ k =>
      have ek : (((k + 1 : Nat) : Int) - 1) = (k : Int) := by omega
      rw [ek]
      clear ek
      have c1 : wr.cell? ⟨w.heap.size, 1 + k, none⟩ = some (.int .u64 (limb x k)) := by rw [Nat.add_comm 1 k, R1.cell (by omega)]; simp [wcell]
      have c2 : wr.cell? ⟨w.heap.size + 1, 1 + k, none⟩ = some (.int .u64 (limb y k)) := by rw [Nat.add_comm 1 k, R2.cell (by omega)]; simp [wcell]
      by_cases e : limb x k = limb y k
      · have E : (((limb x k : Nat) : Int) != ((limb y k : Nat) : Int)) = false := by simp [e]
        have HN := Lib.hid (limb_same x y k HE.out e)
        clear e HE
        go_wp2
        go_quiet (fail)
        go_wp2
        go_roundw
        case rel => exact ⟨k, by omega, by go_num, HN, rowIs_drewN R1 nq, rowIs_drewN R2 nq, below_drewN hb nq⟩
        case measure => simp [intOf]
      · have E : (((limb x k : Nat) : Int) != ((limb y k : Nat) : Int)) = true := by simp only [bne_iff_ne, ne_eq]; omega
        have HN := Lib.hid (limb_cmp x y k HE.out e)
        clear e HE H9
        go_wp2
        go_quiet (fail)
        go_wp2
        go_quiet (fail)
        go_wp2
        go_ret
        refine ⟨ret_bool ?_, ?_⟩
        · rw [decide_eq_decide]; exact HN.out
        · first | exact below_drewN (below_drewN hb _) _ | exact below_drewN hb _


theorem limb_high (x j : Nat) (h : 0 < limb x j) : 65536 ^ j ≤ x := by
  rcases Nat.lt_or_ge x (65536 ^ j) with g | g
  · rw [limb_big x j g] at h; omega
  · exact g
theorem limbs_sum (x : Nat) (h : x < 65536 ^ 9) (h4 : limb x 4 = 0) (h5 : limb x 5 = 0) (h6 : limb x 6 = 0) (h7 : limb x 7 = 0) (h8 : limb x 8 = 0) :
    x = limb x 0 + 65536 * limb x 1 + 4294967296 * limb x 2 + 281474976710656 * limb x 3 := by
  have q9 : x / 65536 ^ (8 + 1) = 0 := Nat.div_eq_of_lt h
  have q8 : x / 65536 ^ (7 + 1) = 0 := by rw [limb_div x 8, q9, h8]
  have q7 : x / 65536 ^ (6 + 1) = 0 := by rw [limb_div x 7, q8, h7]
  have q6 : x / 65536 ^ (5 + 1) = 0 := by rw [limb_div x 6, q7, h6]
  have q5 : x / 65536 ^ (4 + 1) = 0 := by rw [limb_div x 5, q6, h5]
  have q4 : x / 65536 ^ (3 + 1) = 0 := by rw [limb_div x 4, q5, h4]
  have q3 : x / 65536 ^ (2 + 1) = limb x 3 := by rw [limb_div x 3, q4]; omega
  have q2 : x / 65536 ^ (1 + 1) = 65536 * limb x 3 + limb x 2 := by rw [limb_div x 2, q3]
  have q1 : x / 65536 ^ (0 + 1) = 65536 * (65536 * limb x 3 + limb x 2) + limb x 1 := by rw [limb_div x 1, q2]
  have q0 := limb_div x 0
  rw [q1] at q0
  simp at q0
  omega

set_option maxHeartbeats 2000000 in
theorem held_big (m : Bool) (x : Nat) (w : World) (hx64 : 18446744073709551616 ≤ x)
    (big : 0 < limb x 4 ∨ (limb x 4 = 0 ∧ 0 < limb x 5) ∨ (limb x 4 = 0 ∧ limb x 5 = 0 ∧ 0 < limb x 6) ∨ (limb x 4 = 0 ∧ limb x 5 = 0 ∧ limb x 6 = 0 ∧ 0 < limb x 7) ∨ (limb x 4 = 0 ∧ limb x 5 = 0 ∧ limb x 6 = 0 ∧ limb x 7 = 0 ∧ 0 < limb x 8)) :
    Calls Try.prog 28 #[wideV m x] w fun e w' => e = .returned (.int .i64 (held (if m then -(x : Int) else x))) ∧ Below w.heap.size w w' := by
  have HX := Lib.hid hx64
  clear hx64
  rcases big with h4 | ⟨h4, h5⟩ | ⟨h4, h5, h6⟩ | ⟨h4, h5, h6, h7⟩ | ⟨h4, h5, h6, h7, h8⟩
  all_goals
    cases m
    all_goals
      go_enter Try.func28, Try.ntmps28
      go_wp2
      refine wp_loop_rounds 5 ?_
      iterate 5 (rw [rounds_succ]; go_wp2)
      go_ret
      refine ⟨ret_int ?_, (Below.refl _ _).alloc (by simp) _⟩
      have := HX.out
      unfold held
      omega
set_option maxRecDepth 100000 in
set_option maxHeartbeats 1000000 in
theorem held_small (m : Bool) (x : Nat) (w : World) (h4 : limb x 4 = 0) (h5 : limb x 5 = 0) (h6 : limb x 6 = 0) (h7 : limb x 7 = 0) (h8 : limb x 8 = 0)
    (S : x = limb x 0 + 65536 * limb x 1 + 4294967296 * limb x 2 + 281474976710656 * limb x 3) :
    Calls Try.prog 28 #[wideV m x] w fun e w' => e = .returned (.int .i64 (held (if m then -(x : Int) else x))) ∧ Below w.heap.size w w' := by
  have l0 := limb_lt x 0
  have l1 := limb_lt x 1
  have l2 := limb_lt x 2
  have l3 := limb_lt x 3
  have HS := Lib.hid S
  clear S
  cases m
  all_goals
    go_enter Try.func28, Try.ntmps28
    go_wp2
    refine wp_loop_rounds 5 ?_
    iterate 4 (rw [rounds_succ]; go_wp2)
    generalize hU : (((limb x 3 : Nat) : Int) * 65536 + ((limb x 2 : Nat) : Int)) * 65536 + ((limb x 1 : Nat) : Int) = u1 
    have eu : u1 * 65536 + (limb x 0 : Nat) = x := by have := HS.out; omega
    rw [eu]
    generalize hy : (x : Int) = y
    have y0 : 0 ≤ y ∧ y ≤ 18446744073709551615 := by have := HS.out; omega
    clear l0 l1 l2 l3 HS
    have HY := Lib.hid hy
    clear hU eu hy
    obtain ⟨y1, y2⟩ := y0
    by_cases hb : 9223372036854775808 ≤ y
    · rw [rounds_succ]
      go_wp2
      all_goals go_ret
      all_goals exact ⟨ret_int (by have := HY.out; unfold held; omega), (Below.refl _ _).alloc (by simp) _⟩
    · have hb' : y ≤ 9223372036854775807 := by omega
      clear hb
      rw [rounds_succ]
      go_wp2
      all_goals go_ret
      all_goals exact ⟨ret_int (by have := HY.out; unfold held; omega), (Below.refl _ _).alloc (by simp) _⟩
theorem held_any (m : Bool) (x : Nat) (w : World) (hx : x < 65536 ^ 9) :
    Calls Try.prog 28 #[wideV m x] w fun e w' => e = .returned (.int .i64 (held (if m then -(x : Int) else x))) ∧ Below w.heap.size w w' := by
  have b4 := limb_high x 4
  have b5 := limb_high x 5
  have b6 := limb_high x 6
  have b7 := limb_high x 7
  have b8 := limb_high x 8
  have big : (0 < limb x 4 ∨ (limb x 4 = 0 ∧ 0 < limb x 5) ∨ (limb x 4 = 0 ∧ limb x 5 = 0 ∧ 0 < limb x 6) ∨ (limb x 4 = 0 ∧ limb x 5 = 0 ∧ limb x 6 = 0 ∧ 0 < limb x 7) ∨ (limb x 4 = 0 ∧ limb x 5 = 0 ∧ limb x 6 = 0 ∧ limb x 7 = 0 ∧ 0 < limb x 8)) ∨
      (limb x 4 = 0 ∧ limb x 5 = 0 ∧ limb x 6 = 0 ∧ limb x 7 = 0 ∧ limb x 8 = 0) := by omega
  rcases big with big | ⟨h4, h5, h6, h7, h8⟩
  · exact held_big m x w (by omega) big
  · exact held_small m x w h4 h5 h6 h7 h8 (limbs_sum x hx h4 h5 h6 h7 h8)
end Go.Proofs.Ytbbdkkjbcpkplaa
