/-
  Own text: the document's wide numbers compared, added with signs, held (less, Plus, Turn, Held), walked.
  Own text: the document's sums, differences, absolute values over wide numbers (Plus, Add, Sub, Abs), walked.
  Own text: the document's held sums, differences and absolute values (Add, Sub, Abs), walked.
  Own text: the document's product of wide numbers (Times), walked.
  Own text: the document's product of wide numbers (Times), walked.
  Own text: the laws WordWide and WordAdds, walked (Mul64, Wide, Mul; the document's Mul).
-/
import Derived.Test.YtldhlknmabpanaaGreatK14
import Derived.Test.YtldhlknmabpanaaGreatK06
import Derived.Test.YtldhlknmabpanaaGreatK01
import Derived.Deep.Cut
import Derived.Laws.MathBits
namespace Go.Proofs.YtldhlknmabpanaaGreat
open Go.RowKit

theorem less_any (m m' : Bool) (x y : Nat) (w : World) (hx : x < 65536 ^ 9) (hy : y < 65536 ^ 9) :
    Calls Tryz.prog 133 #[wideV m x, wideV m' y] w fun e w' => e = .returned (.bool (decide (x < y))) ∧ Below w.heap.size w w' := by
  have q9 : x / 65536 ^ 9 = y / 65536 ^ 9 := by rw [Nat.div_eq_of_lt hx, Nat.div_eq_of_lt hy]
  have H9 := Lib.hid q9
  clear q9 hx hy
  go_enter Tryz.func133, Tryz.ntmps133
  go_wp2
  go_loopw [5] (fun i wr => ∃ k : Nat, k ≤ 9 ∧ i = .int .i64 ((k : Int) - 1) ∧ Hid (x / 65536 ^ k = y / 65536 ^ k) ∧ wr.rowIs w.heap.size 177 10 (wcell m (limb x)) ∧
      wr.rowIs (w.heap.size + 1) 177 10 (wcell m' (limb y)) ∧ Below w.heap.size w wr)
    (fun i _ => (intOf i + 1).toNat)
  case atStart =>
    refine ⟨9, by omega, rfl, H9, ?_, ?_, ?_⟩
    · exact (wide_row w m x).alloc _
    · have := wide_row (w.alloc (.cells #[.bool m, .int .u64 (limb x 0), .int .u64 (limb x 1), .int .u64 (limb x 2), .int .u64 (limb x 3), .int .u64 (limb x 4), .int .u64 (limb x 5), .int .u64 (limb x 6), .int .u64 (limb x 7), .int .u64 (limb x 8)] 177)) m' y
      simp only [World.size_alloc] at this
      exact this
    · exact ((Below.refl _ _).alloc (by simp) _).alloc (by simp) _
  case round =>
    obtain ⟨k, hk, rfl, HE, R1, R2, hb⟩ := hrel
    cases k with
    | zero =>
      go_wp2
      go_ret
      refine ⟨ret_bool ?_, hb⟩
      have := HE.out
      simp at this
      simp [this]
    | succ k =>
      have ek : (((k + 1 : Nat) : Int) - 1) = (k : Int) := by omega
      rw [ek]
      clear ek
      have c1 : wr.cell? ⟨w.heap.size, 1 + k, none⟩ = some (.int .u64 (limb x k)) := by rw [Nat.add_comm 1 k, R1.cell (by omega)]; simp [wcell]
      have c2 : wr.cell? ⟨w.heap.size + 1, 1 + k, none⟩ = some (.int .u64 (limb y k)) := by rw [Nat.add_comm 1 k, R2.cell (by omega)]; simp [wcell]
      by_cases e : limb x k = limb y k
      · have E : (((limb x k : Nat) : Int) != ((limb y k : Nat) : Int)) = false := by simp [e]
        have HN := Lib.hid (limb_same x y k HE.out e)
        clear e HE
        go_wp2
        go_quiet (fail)
        go_wp2
        go_roundw
        case rel => exact ⟨k, by omega, by go_num, HN, rowIs_drewN R1 nq, rowIs_drewN R2 nq, below_drewN hb nq⟩
        case measure => simp [intOf]
      · have E : (((limb x k : Nat) : Int) != ((limb y k : Nat) : Int)) = true := by simp only [bne_iff_ne, ne_eq]; omega
        have HN := Lib.hid (limb_cmp x y k HE.out e)
        clear e HE H9
        go_wp2
        go_quiet (fail)
        go_wp2
        go_quiet (fail)
        go_wp2
        go_ret
        refine ⟨ret_bool ?_, ?_⟩
        · rw [decide_eq_decide]; exact HN.out
        · first | exact below_drewN (below_drewN hb _) _ | exact below_drewN hb _


theorem limb_high (x j : Nat) (h : 0 < limb x j) : 65536 ^ j ≤ x := by
  rcases Nat.lt_or_ge x (65536 ^ j) with g | g
  · rw [limb_big x j g] at h; omega
  · exact g
theorem limbs_sum (x : Nat) (h : x < 65536 ^ 9) (h4 : limb x 4 = 0) (h5 : limb x 5 = 0) (h6 : limb x 6 = 0) (h7 : limb x 7 = 0) (h8 : limb x 8 = 0) :
    x = limb x 0 + 65536 * limb x 1 + 4294967296 * limb x 2 + 281474976710656 * limb x 3 := by
  have q9 : x / 65536 ^ (8 + 1) = 0 := Nat.div_eq_of_lt h
  have q8 : x / 65536 ^ (7 + 1) = 0 := by rw [limb_div x 8, q9, h8]
  have q7 : x / 65536 ^ (6 + 1) = 0 := by rw [limb_div x 7, q8, h7]
  have q6 : x / 65536 ^ (5 + 1) = 0 := by rw [limb_div x 6, q7, h6]
  have q5 : x / 65536 ^ (4 + 1) = 0 := by rw [limb_div x 5, q6, h5]
  have q4 : x / 65536 ^ (3 + 1) = 0 := by rw [limb_div x 4, q5, h4]
  have q3 : x / 65536 ^ (2 + 1) = limb x 3 := by rw [limb_div x 3, q4]; omega
  have q2 : x / 65536 ^ (1 + 1) = 65536 * limb x 3 + limb x 2 := by rw [limb_div x 2, q3]
  have q1 : x / 65536 ^ (0 + 1) = 65536 * (65536 * limb x 3 + limb x 2) + limb x 1 := by rw [limb_div x 1, q2]
  have q0 := limb_div x 0
  rw [q1] at q0
  simp at q0
  omega

set_option maxHeartbeats 2000000 in
theorem held_big (m : Bool) (x : Nat) (w : World) (hx64 : 18446744073709551616 ≤ x)
    (big : 0 < limb x 4 ∨ (limb x 4 = 0 ∧ 0 < limb x 5) ∨ (limb x 4 = 0 ∧ limb x 5 = 0 ∧ 0 < limb x 6) ∨ (limb x 4 = 0 ∧ limb x 5 = 0 ∧ limb x 6 = 0 ∧ 0 < limb x 7) ∨ (limb x 4 = 0 ∧ limb x 5 = 0 ∧ limb x 6 = 0 ∧ limb x 7 = 0 ∧ 0 < limb x 8)) :
    Calls Tryz.prog 114 #[wideV m x] w fun e w' => e = .returned (.int .i64 (held (if m then -(x : Int) else x))) ∧ Below w.heap.size w w' := by
  have HX := Lib.hid hx64
  clear hx64
  rcases big with h4 | ⟨h4, h5⟩ | ⟨h4, h5, h6⟩ | ⟨h4, h5, h6, h7⟩ | ⟨h4, h5, h6, h7, h8⟩
  all_goals
    cases m
    all_goals
      go_enter Tryz.func114, Tryz.ntmps114
      go_wp2
      refine wp_loop_rounds 5 ?_
      iterate 5 (rw [rounds_succ]; go_wp2)
      go_ret
      refine ⟨ret_int ?_, (Below.refl _ _).alloc (by simp) _⟩
      have := HX.out
      unfold held
      omega
set_option maxRecDepth 100000 in
set_option maxHeartbeats 1000000 in
theorem held_small (m : Bool) (x : Nat) (w : World) (h4 : limb x 4 = 0) (h5 : limb x 5 = 0) (h6 : limb x 6 = 0) (h7 : limb x 7 = 0) (h8 : limb x 8 = 0)
    (S : x = limb x 0 + 65536 * limb x 1 + 4294967296 * limb x 2 + 281474976710656 * limb x 3) :
    Calls Tryz.prog 114 #[wideV m x] w fun e w' => e = .returned (.int .i64 (held (if m then -(x : Int) else x))) ∧ Below w.heap.size w w' := by
  have l0 := limb_lt x 0
  have l1 := limb_lt x 1
  have l2 := limb_lt x 2
  have l3 := limb_lt x 3
  have HS := Lib.hid S
  clear S
  cases m
  all_goals
    go_enter Tryz.func114, Tryz.ntmps114
    go_wp2
    refine wp_loop_rounds 5 ?_
    iterate 4 (rw [rounds_succ]; go_wp2)
    generalize hU : (((limb x 3 : Nat) : Int) * 65536 + ((limb x 2 : Nat) : Int)) * 65536 + ((limb x 1 : Nat) : Int) = u1 
    have eu : u1 * 65536 + (limb x 0 : Nat) = x := by have := HS.out; omega
    rw [eu]
    generalize hy : (x : Int) = y
    have y0 : 0 ≤ y ∧ y ≤ 18446744073709551615 := by have := HS.out; omega
    clear l0 l1 l2 l3 HS
    have HY := Lib.hid hy
    clear hU eu hy
    obtain ⟨y1, y2⟩ := y0
    by_cases hb : 9223372036854775808 ≤ y
    · rw [rounds_succ]
      go_wp2
      all_goals go_ret
      all_goals exact ⟨ret_int (by have := HY.out; unfold held; omega), (Below.refl _ _).alloc (by simp) _⟩
    · have hb' : y ≤ 9223372036854775807 := by omega
      clear hb
      rw [rounds_succ]
      go_wp2
      all_goals go_ret
      all_goals exact ⟨ret_int (by have := HY.out; unfold held; omega), (Below.refl _ _).alloc (by simp) _⟩
theorem held_any (m : Bool) (x : Nat) (w : World) (hx : x < 65536 ^ 9) :
    Calls Tryz.prog 114 #[wideV m x] w fun e w' => e = .returned (.int .i64 (held (if m then -(x : Int) else x))) ∧ Below w.heap.size w w' := by
  have b4 := limb_high x 4
  have b5 := limb_high x 5
  have b6 := limb_high x 6
  have b7 := limb_high x 7
  have b8 := limb_high x 8
  have big : (0 < limb x 4 ∨ (limb x 4 = 0 ∧ 0 < limb x 5) ∨ (limb x 4 = 0 ∧ limb x 5 = 0 ∧ 0 < limb x 6) ∨ (limb x 4 = 0 ∧ limb x 5 = 0 ∧ limb x 6 = 0 ∧ 0 < limb x 7) ∨ (limb x 4 = 0 ∧ limb x 5 = 0 ∧ limb x 6 = 0 ∧ limb x 7 = 0 ∧ 0 < limb x 8)) ∨
      (limb x 4 = 0 ∧ limb x 5 = 0 ∧ limb x 6 = 0 ∧ limb x 7 = 0 ∧ limb x 8 = 0) := by omega
  rcases big with big | ⟨h4, h5, h6, h7, h8⟩
  · exact held_big m x w (by omega) big
  · exact held_small m x w h4 h5 h6 h7 h8 (limbs_sum x hx h4 h5 h6 h7 h8)
end Go.Proofs.YtldhlknmabpanaaGreat
namespace Go.Proofs.YtldhlknmabpanaaGreat
open Go.RowKit

theorem rowIs_below {w w' : World} {b : Nat} {t : TypeId} {n : Nat} {f : Nat → Value} (h : w.rowIs b t n f) (hb : Below w.heap.size w w') : w'.rowIs b t n f := h.of_block (hb.block b h.lt)

theorem below_wide_alloc {B : Nat} {a w : World} (h : Below B a w) {b : Nat} (hb : B ≤ b) (hB : B ≤ w.heap.size) (v0 v1 v2 v3 v4 v5 v6 v7 v8 v9 : Value) (o : Obj) :
    Below B a (((((((((((w.setCell ⟨b, 0, none⟩ v0).setCell ⟨b, 1, none⟩ v1).setCell ⟨b, 2, none⟩ v2).setCell ⟨b, 3, none⟩ v3).setCell ⟨b, 4, none⟩ v4).setCell ⟨b, 5, none⟩ v5).setCell ⟨b, 6, none⟩ v6).setCell ⟨b, 7, none⟩ v7).setCell ⟨b, 8, none⟩ v8).setCell ⟨b, 9, none⟩ v9).alloc o) :=
  (below_wide h hb v0 v1 v2 v3 v4 v5 v6 v7 v8 v9).alloc (by simpa [World.setCell] using hB) o

/-- Two wide numbers and room for a third one lie in the three blocks behind w. -/
structure Three (w W : World) (m : Bool) (x : Nat) (m' : Bool) (y : Nat) : Prop where
  r0 : W.rowIs w.heap.size 177 10 (wcell m (limb x))
  r1 : W.rowIs (w.heap.size + 1) 177 10 (wcell m' (limb y))
  r2 : W.rowIs (w.heap.size + 1 + 1) 177 10 (wcell false (fun _ => 0))
  below : Below w.heap.size w W
  lt : w.heap.size + 1 + 1 < W.heap.size
theorem Three.start (w : World) (m : Bool) (x : Nat) (m' : Bool) (y : Nat) : Three w (((w.alloc (.cells #[.bool m, .int .u64 (limb x 0), .int .u64 (limb x 1), .int .u64 (limb x 2), .int .u64 (limb x 3), .int .u64 (limb x 4), .int .u64 (limb x 5), .int .u64 (limb x 6), .int .u64 (limb x 7), .int .u64 (limb x 8)] 177)).alloc (.cells #[.bool m', .int .u64 (limb y 0), .int .u64 (limb y 1), .int .u64 (limb y 2), .int .u64 (limb y 3), .int .u64 (limb y 4), .int .u64 (limb y 5), .int .u64 (limb y 6), .int .u64 (limb y 7), .int .u64 (limb y 8)] 177)).alloc (.cells #[.bool false, .int .u64 0, .int .u64 0, .int .u64 0, .int .u64 0, .int .u64 0, .int .u64 0, .int .u64 0, .int .u64 0, .int .u64 0] 177)) m x m' y :=
  ⟨((wide_row w m x).alloc _).alloc _, wide_row_2 w _ _ m' y, wide_row_3 w _ _, (((Below.refl _ _).alloc (by simp) _).alloc (by simp) _).alloc (by simp; omega) _, by simp⟩
theorem Three.after {w W w' : World} {m m' : Bool} {x y : Nat} (h : Three w W m x m' y) (hb : Below W.heap.size W w') : Three w w' m x m' y :=
  ⟨rowIs_below h.r0 hb, rowIs_below h.r1 hb, rowIs_below h.r2 hb, h.below.trans (hb.mono (by have := h.lt; omega)), Nat.lt_of_lt_of_le h.lt hb.size⟩

/-- The sum's sign and size. -/
def plusM (m m' : Bool) (x y : Nat) : Bool := if m = m' then m else if x < y then m' else m
def plusX (m m' : Bool) (x y : Nat) : Nat := if m = m' then x + y else if x < y then y - x else x - y
set_option maxHeartbeats 1000000 in
theorem rplus_same (m : Bool) (x y : Nat) (w : World) :
    Calls Tryz.prog 117 #[wideV m x, wideV m y] w fun e w' => e = .returned (wideV m (x + y)) ∧ Below w.heap.size w w' := by
  cases m
  all_goals
    go_enter Tryz.func117, Tryz.ntmps117
    go_wp2_with (go_at_call 132; refine (plus_any _ _ x y _).mono ?_; rintro e w' ⟨rfl, hb⟩; have T := (Three.start w _ x _ y).after hb; clear hb; obtain ⟨c0, c1, c2, c3, c4, c5, c6, c7, c8, c9⟩ := wide_cells T.r0; obtain ⟨d0, d1, d2, d3, d4, d5, d6, d7, d8, d9⟩ := wide_cells T.r2; obtain ⟨f0, f1, f2, f3, f4, f5, f6, f7, f8, f9⟩ := wide_free T.r2; have hz := T.lt; have hz1 : w.heap.size + 1 < w'.heap.size := (by omega); have hz0 : w.heap.size < w'.heap.size := (by omega); have HT := Lib.hid T; clear T)
    exact bodyPost_ret (v := wideV _ (x + y)) (by simp [results, Tryz.results117, go_sem, d0, d1, d2, d3, d4, d5, d6, d7, d8, d9, hz]) rfl
        ⟨rfl, below_wide_alloc HT.out.below (by omega) (by omega) _ _ _ _ _ _ _ _ _ _ _⟩
set_option maxHeartbeats 2000000 in
theorem rplus_other (m m' : Bool) (x y : Nat) (w : World) (hx : x < 65536 ^ 9) (hy : y < 65536 ^ 9) (hm : m' = !m) :
    Calls Tryz.prog 117 #[wideV m x, wideV m' y] w fun e w' => e = .returned (wideV (if x < y then m' else m) (if x < y then y - x else x - y)) ∧ Below w.heap.size w w' := by
  subst hm
  have cl := fun w => less_any m (!m) x y w hx hy
  clear hx hy
  by_cases h : x < y
  · cases m
    · go_enter Tryz.func117, Tryz.ntmps117
      go_wp2_with (first
        | (go_at_call 133; refine (cl _).mono ?_; clear cl; rintro e w1 ⟨rfl, hb⟩; have T := (Three.start w _ x _ y).after hb; clear hb; obtain ⟨c0, c1, c2, c3, c4, c5, c6, c7, c8, c9⟩ := wide_cells T.r0; obtain ⟨e0, e1, e2, e3, e4, e5, e6, e7, e8, e9⟩ := wide_cells T.r1; have HT1 := Lib.hid T; clear T)
        | (go_at_call 134; refine (minus_any _ _ _ _ _ (by omega)).mono ?_; rintro e w2 ⟨rfl, hb⟩; have T := HT1.out.after hb; clear hb HT1 c0 c1 c2 c3 c4 c5 c6 c7 c8 c9 e0 e1 e2 e3 e4 e5 e6 e7 e8 e9; obtain ⟨c0, c1, c2, c3, c4, c5, c6, c7, c8, c9⟩ := wide_cells T.r0; obtain ⟨e0, e1, e2, e3, e4, e5, e6, e7, e8, e9⟩ := wide_cells T.r1; obtain ⟨d0, d1, d2, d3, d4, d5, d6, d7, d8, d9⟩ := wide_cells T.r2; obtain ⟨f0, f1, f2, f3, f4, f5, f6, f7, f8, f9⟩ := wide_free T.r2; have hz := T.lt; have hz1 : w.heap.size + 1 < w2.heap.size := (by omega); have hz0 : w.heap.size < w2.heap.size := (by omega); have HT := Lib.hid T; clear T))
      exact bodyPost_ret (v := wideV true (y - x)) (by simp [results, Tryz.results117, go_sem, d0, d1, d2, d3, d4, d5, d6, d7, d8, d9, hz]) rfl
        ⟨rfl, below_wide_alloc HT.out.below (by omega) (by omega) _ _ _ _ _ _ _ _ _ _ _⟩
    · go_enter Tryz.func117, Tryz.ntmps117
      go_wp2_with (first
        | (go_at_call 133; refine (cl _).mono ?_; clear cl; rintro e w1 ⟨rfl, hb⟩; have T := (Three.start w _ x _ y).after hb; clear hb; obtain ⟨c0, c1, c2, c3, c4, c5, c6, c7, c8, c9⟩ := wide_cells T.r0; obtain ⟨e0, e1, e2, e3, e4, e5, e6, e7, e8, e9⟩ := wide_cells T.r1; have HT1 := Lib.hid T; clear T)
        | (go_at_call 134; refine (minus_any _ _ _ _ _ (by omega)).mono ?_; rintro e w2 ⟨rfl, hb⟩; have T := HT1.out.after hb; clear hb HT1 c0 c1 c2 c3 c4 c5 c6 c7 c8 c9 e0 e1 e2 e3 e4 e5 e6 e7 e8 e9; obtain ⟨c0, c1, c2, c3, c4, c5, c6, c7, c8, c9⟩ := wide_cells T.r0; obtain ⟨e0, e1, e2, e3, e4, e5, e6, e7, e8, e9⟩ := wide_cells T.r1; obtain ⟨d0, d1, d2, d3, d4, d5, d6, d7, d8, d9⟩ := wide_cells T.r2; obtain ⟨f0, f1, f2, f3, f4, f5, f6, f7, f8, f9⟩ := wide_free T.r2; have hz := T.lt; have hz1 : w.heap.size + 1 < w2.heap.size := (by omega); have hz0 : w.heap.size < w2.heap.size := (by omega); have HT := Lib.hid T; clear T))
      exact bodyPost_ret (v := wideV false (y - x)) (by simp [results, Tryz.results117, go_sem, d0, d1, d2, d3, d4, d5, d6, d7, d8, d9, hz]) rfl
        ⟨rfl, below_wide_alloc HT.out.below (by omega) (by omega) _ _ _ _ _ _ _ _ _ _ _⟩
  · cases m
    · go_enter Tryz.func117, Tryz.ntmps117
      go_wp2_with (first
        | (go_at_call 133; refine (cl _).mono ?_; clear cl; rintro e w1 ⟨rfl, hb⟩; have T := (Three.start w _ x _ y).after hb; clear hb; obtain ⟨c0, c1, c2, c3, c4, c5, c6, c7, c8, c9⟩ := wide_cells T.r0; obtain ⟨e0, e1, e2, e3, e4, e5, e6, e7, e8, e9⟩ := wide_cells T.r1; have HT1 := Lib.hid T; clear T)
        | (go_at_call 134; refine (minus_any _ _ _ _ _ (by omega)).mono ?_; rintro e w2 ⟨rfl, hb⟩; have T := HT1.out.after hb; clear hb HT1 c0 c1 c2 c3 c4 c5 c6 c7 c8 c9 e0 e1 e2 e3 e4 e5 e6 e7 e8 e9; obtain ⟨c0, c1, c2, c3, c4, c5, c6, c7, c8, c9⟩ := wide_cells T.r0; obtain ⟨e0, e1, e2, e3, e4, e5, e6, e7, e8, e9⟩ := wide_cells T.r1; obtain ⟨d0, d1, d2, d3, d4, d5, d6, d7, d8, d9⟩ := wide_cells T.r2; obtain ⟨f0, f1, f2, f3, f4, f5, f6, f7, f8, f9⟩ := wide_free T.r2; have hz := T.lt; have hz1 : w.heap.size + 1 < w2.heap.size := (by omega); have hz0 : w.heap.size < w2.heap.size := (by omega); have HT := Lib.hid T; clear T))
      exact bodyPost_ret (v := wideV false (x - y)) (by simp [results, Tryz.results117, go_sem, d0, d1, d2, d3, d4, d5, d6, d7, d8, d9, hz]) rfl
        ⟨rfl, below_wide_alloc HT.out.below (by omega) (by omega) _ _ _ _ _ _ _ _ _ _ _⟩
    · go_enter Tryz.func117, Tryz.ntmps117
      go_wp2_with (first
        | (go_at_call 133; refine (cl _).mono ?_; clear cl; rintro e w1 ⟨rfl, hb⟩; have T := (Three.start w _ x _ y).after hb; clear hb; obtain ⟨c0, c1, c2, c3, c4, c5, c6, c7, c8, c9⟩ := wide_cells T.r0; obtain ⟨e0, e1, e2, e3, e4, e5, e6, e7, e8, e9⟩ := wide_cells T.r1; have HT1 := Lib.hid T; clear T)
        | (go_at_call 134; refine (minus_any _ _ _ _ _ (by omega)).mono ?_; rintro e w2 ⟨rfl, hb⟩; have T := HT1.out.after hb; clear hb HT1 c0 c1 c2 c3 c4 c5 c6 c7 c8 c9 e0 e1 e2 e3 e4 e5 e6 e7 e8 e9; obtain ⟨c0, c1, c2, c3, c4, c5, c6, c7, c8, c9⟩ := wide_cells T.r0; obtain ⟨e0, e1, e2, e3, e4, e5, e6, e7, e8, e9⟩ := wide_cells T.r1; obtain ⟨d0, d1, d2, d3, d4, d5, d6, d7, d8, d9⟩ := wide_cells T.r2; obtain ⟨f0, f1, f2, f3, f4, f5, f6, f7, f8, f9⟩ := wide_free T.r2; have hz := T.lt; have hz1 : w.heap.size + 1 < w2.heap.size := (by omega); have hz0 : w.heap.size < w2.heap.size := (by omega); have HT := Lib.hid T; clear T))
      exact bodyPost_ret (v := wideV true (x - y)) (by simp [results, Tryz.results117, go_sem, d0, d1, d2, d3, d4, d5, d6, d7, d8, d9, hz]) rfl
        ⟨rfl, below_wide_alloc HT.out.below (by omega) (by omega) _ _ _ _ _ _ _ _ _ _ _⟩
end Go.Proofs.YtldhlknmabpanaaGreat
namespace Go.Proofs.YtldhlknmabpanaaGreat
open Go.RowKit

theorem rplus_any (m m' : Bool) (x y : Nat) (w : World) (hx : x < 65536 ^ 9) (hy : y < 65536 ^ 9) :
    Calls Tryz.prog 117 #[wideV m x, wideV m' y] w fun e w' => e = .returned (wideV (plusM m m' x y) (plusX m m' x y)) ∧ Below w.heap.size w w' := by
  by_cases h : m = m'
  · subst h
    have := rplus_same m x y w
    simpa [plusM, plusX] using this
  · have := rplus_other m m' x y w hx hy (by cases m <;> cases m' <;> simp_all)
    simpa [plusM, plusX, h] using this
theorem plus_value (m m' : Bool) (x y : Nat) : (if plusM m m' x y then -(plusX m m' x y : Int) else (plusX m m' x y : Int)) = (if m then -(x : Int) else x) + (if m' then -(y : Int) else y) := by
  by_cases h : x < y <;> cases m <;> cases m' <;> simp [plusM, plusX, h] <;> omega
theorem plus_small (m m' : Bool) (x y : Nat) (hx : x ≤ 9223372036854775808) (hy : y ≤ 9223372036854775808) : plusX m m' x y < 65536 ^ 9 := by
  unfold plusX; split <;> (try split) <;> omega
theorem sign_value (a : Int) : (if decide (a < 0) = true then -(a.natAbs : Int) else (a.natAbs : Int)) = a := by
  by_cases h : a < 0 <;> simp [h] <;> omega
theorem below_seq {w W w' : World} (h : Below w.heap.size w W) (k : Below W.heap.size W w') : Below w.heap.size w w' := h.trans (k.mono h.size)

theorem radd_any (a b : Int) (w : World) (ha : -9223372036854775808 ≤ a) (ha' : a ≤ 9223372036854775807) (hb : -9223372036854775808 ≤ b) (hb' : b ≤ 9223372036854775807) :
    Calls Tryz.prog 93 #[.int .i64 a, .int .i64 b] w fun e w' => e = .returned (.int .i64 (held (a + b))) ∧ Below w.heap.size w w' := by
  have v := plus_value (decide (a < 0)) (decide (b < 0)) a.natAbs b.natAbs
  rw [sign_value, sign_value] at v
  have cp := fun w => rplus_any (decide (a < 0)) (decide (b < 0)) a.natAbs b.natAbs w (by omega) (by omega)
  have ch := fun w => held_any (plusM (decide (a < 0)) (decide (b < 0)) a.natAbs b.natAbs) (plusX (decide (a < 0)) (decide (b < 0)) a.natAbs b.natAbs) w (plus_small _ _ _ _ (by omega) (by omega))
  rw [v] at ch
  have ca := fun w => of_any a w ha ha'
  have cb := fun w => of_any b w hb hb'
  clear v
  generalize plusM (decide (a < 0)) (decide (b < 0)) a.natAbs b.natAbs = M at *
  generalize plusX (decide (a < 0)) (decide (b < 0)) a.natAbs b.natAbs = X at *
  generalize decide (a < 0) = ma at *
  generalize decide (b < 0) = mb at *
  generalize a.natAbs = xa at *
  generalize b.natAbs = xb at *
  go_enter Tryz.func93, Tryz.ntmps93
  go_wp2_with (first
    | (go_at_call 116; with_reducible refine (ca _).mono ?_; clear ca; rintro e w1 ⟨rfl, h1⟩; have H1 := Lib.hid h1; clear h1)
    | (go_at_call 116; with_reducible refine (cb _).mono ?_; clear cb; rintro e w2 ⟨rfl, h2⟩; have H2 := Lib.hid h2; clear h2)
    | (go_at_call 117; refine (cp _).mono ?_; clear cp; rintro e w3 ⟨rfl, h3⟩; have H3 := Lib.hid h3; clear h3)
    | (go_at_call 114; refine (ch _).mono ?_; clear ch; rintro e w4 ⟨rfl, h4⟩; have H4 := Lib.hid h4; clear h4))
  go_ret
  exact ⟨rfl, below_seq (below_seq (below_seq H1.out H2.out) H3.out) H4.out⟩
end Go.Proofs.YtldhlknmabpanaaGreat
namespace Go.Proofs.YtldhlknmabpanaaGreat
open Go.RowKit

/-- What is carried into piece k, where y is multiplied by z. -/
def mcarry (z y k : Nat) : Nat := z * (y % 65536 ^ k) / 65536 ^ k
theorem mcarry_zero (z y : Nat) : mcarry z y 0 = 0 := by simp [mcarry, Nat.mod_one]
theorem mcarry_le (z y k : Nat) (hz : z ≤ 65535) : mcarry z y k ≤ 65535 := by
  unfold mcarry
  have h := pow_pos' k
  have a := Nat.mod_lt y h
  rw [Nat.div_le_iff_le_mul_add_pred h]
  have : z * (y % 65536 ^ k) ≤ 65535 * 65536 ^ k := Nat.mul_le_mul hz (Nat.le_of_lt a)
  rw [Nat.mul_comm (65536 ^ k)]
  omega
theorem mcarry_succ (z y k : Nat) : mcarry z y (k + 1) = (z * limb y k + mcarry z y k) / 65536 := by
  unfold mcarry
  have h := pow_pos' k
  rw [mod_split, Nat.pow_succ, ← Nat.div_div_eq_div_mul, Nat.mul_add, Nat.mul_left_comm, Nat.add_comm, Nat.add_mul_div_left _ _ h]
  congr 1
  omega
theorem mlimb (z y k : Nat) : limb (z * y) k = (z * limb y k + mcarry z y k) % 65536 := by
  have h := pow_pos' k
  have e : z * y / 65536 ^ k = z * (y / 65536 ^ k) + mcarry z y k := by
    unfold mcarry
    have q := Nat.div_add_mod y (65536 ^ k)
    have : z * y = z * (y % 65536 ^ k) + 65536 ^ k * (z * (y / 65536 ^ k)) := by
      rw [Nat.mul_left_comm, ← Nat.mul_add]
      congr 1
      omega
    rw [this, Nat.add_mul_div_left _ _ h, Nat.add_comm]
  show z * y / 65536 ^ k % 65536 = _
  rw [e, limb_div y k, Nat.mul_add, Nat.add_assoc, Nat.mul_left_comm, Nat.mul_add_mod]
theorem mcarry_last (z y k : Nat) (hz : z ≤ 65535) (hy : y < 65536 ^ k) : mcarry z y k = limb (z * y) k := by
  have hm := mcarry_le z y k hz
  unfold limb
  have : z * y / 65536 ^ k = mcarry z y k := by unfold mcarry; rw [Nat.mod_eq_of_lt hy]
  rw [this]
  omega
theorem limb_shift_lo (z i j : Nat) (h : j < i) : limb (z * 65536 ^ i) j = 0 := by
  unfold limb
  obtain ⟨d, rfl⟩ : ∃ d, i = j + (d + 1) := ⟨i - j - 1, by omega⟩
  rw [Nat.pow_add, Nat.mul_left_comm, Nat.mul_div_cancel_left _ (pow_pos' j), Nat.pow_succ, ← Nat.mul_assoc, Nat.mul_mod_left]
theorem limb_shift (z i j : Nat) : limb (z * 65536 ^ i) (i + j) = limb z j := by
  unfold limb
  rw [Nat.pow_add, ← Nat.div_div_eq_div_mul, Nat.mul_div_cancel _ (pow_pos' i)]
/-- The row that is added for piece i. -/
theorem row_limbs (z y i j : Nat) (hz : z ≤ 65535) (hy : y < 65536 ^ 4) :
    limb (z * y * 65536 ^ i) j = (if j = i + 4 then mcarry z y 4 else if i ≤ j ∧ j < i + 4 then limb (z * y) (j - i) else 0) := by
  by_cases h : j < i
  · rw [limb_shift_lo _ _ _ h, if_neg (by omega), if_neg (by omega)]
  · obtain ⟨d, rfl⟩ : ∃ d, j = i + d := ⟨j - i, by omega⟩
    rw [limb_shift, Nat.add_sub_cancel_left]
    by_cases h4 : d = 4
    · subst h4
      rw [if_pos rfl, mcarry_last z y 4 hz hy]
    · by_cases h5 : d < 4
      · rw [if_neg (by omega), if_pos (by omega)]
      · rw [if_neg (by omega), if_neg (by omega)]
        refine limb_big _ _ ?_
        have a : z * y < 65536 ^ 5 := by
          have : z * y ≤ 65535 * y := Nat.mul_le_mul_right y hz
          omega
        exact Nat.lt_of_lt_of_le a (Nat.pow_le_pow_right (by decide) (by omega))
theorem part_sum (x y i : Nat) : x % 65536 ^ i * y + limb x i * y * 65536 ^ i = x % 65536 ^ (i + 1) * y := by
  rw [mod_split, Nat.add_mul, Nat.mul_assoc (65536 ^ i), Nat.mul_comm (65536 ^ i)]
  omega

theorem row_store {w : World} {b : Nat} {t : TypeId} {f : Nat → Value} (R : w.rowIs b t 10 f) (m : Bool) (x : Nat) :
    ((((((((((w.setCell ⟨b, 0, none⟩ (.bool m)).setCell ⟨b, 1, none⟩ (.int .u64 (limb x 0))).setCell ⟨b, 2, none⟩ (.int .u64 (limb x 1))).setCell ⟨b, 3, none⟩ (.int .u64 (limb x 2))).setCell ⟨b, 4, none⟩ (.int .u64 (limb x 3))).setCell ⟨b, 5, none⟩ (.int .u64 (limb x 4))).setCell ⟨b, 6, none⟩ (.int .u64 (limb x 5))).setCell ⟨b, 7, none⟩ (.int .u64 (limb x 6))).setCell ⟨b, 8, none⟩ (.int .u64 (limb x 7))).setCell ⟨b, 9, none⟩ (.int .u64 (limb x 8))).rowIs b t 10 (wcell m (limb x)) :=
  ((((((((((R.set 0 _).set 1 _).set 2 _).set 3 _).set 4 _).set 5 _).set 6 _).set 7 _).set 8 _).set 9 _).congr fun i hi => by
    match i, hi with
    | 0, _ => rfl
    | 1, _ => rfl
    | 2, _ => rfl
    | 3, _ => rfl
    | 4, _ => rfl
    | 5, _ => rfl
    | 6, _ => rfl
    | 7, _ => rfl
    | 8, _ => rfl
    | 9, _ => rfl
    | n + 10, h => omega
theorem row_store_other {w : World} {b b' : Nat} {t : TypeId} {n : Nat} {f : Nat → Value} (R : w.rowIs b t n f) (h : b ≠ b') (v0 v1 v2 v3 v4 v5 v6 v7 v8 v9 : Value) : ((((((((((w.setCell ⟨b', 0, none⟩ v0).setCell ⟨b', 1, none⟩ v1).setCell ⟨b', 2, none⟩ v2).setCell ⟨b', 3, none⟩ v3).setCell ⟨b', 4, none⟩ v4).setCell ⟨b', 5, none⟩ v5).setCell ⟨b', 6, none⟩ v6).setCell ⟨b', 7, none⟩ v7).setCell ⟨b', 8, none⟩ v8).setCell ⟨b', 9, none⟩ v9).rowIs b t n f :=
  ((((((((((R.setOther (a := ⟨b', 0, none⟩) h _).setOther (a := ⟨b', 1, none⟩) h _).setOther (a := ⟨b', 2, none⟩) h _).setOther (a := ⟨b', 3, none⟩) h _).setOther (a := ⟨b', 4, none⟩) h _).setOther (a := ⟨b', 5, none⟩) h _).setOther (a := ⟨b', 6, none⟩) h _).setOther (a := ⟨b', 7, none⟩) h _).setOther (a := ⟨b', 8, none⟩) h _).setOther (a := ⟨b', 9, none⟩) h _)
end Go.Proofs.YtldhlknmabpanaaGreat
namespace Go.Proofs.YtldhlknmabpanaaGreat
open Go.RowKit

/-- What lies in memory behind i pieces: the two numbers, room for the answer, the sum so far. -/
structure Sofar (w W : World) (m : Bool) (x : Nat) (m' : Bool) (y s : Nat) : Prop where
  r0 : W.rowIs w.heap.size 177 10 (wcell m (limb x))
  r1 : W.rowIs (w.heap.size + 1) 177 10 (wcell m' (limb y))
  r2 : W.rowIs (w.heap.size + 1 + 1) 177 10 (wcell false (fun _ => 0))
  r3 : W.rowIs (w.heap.size + 1 + 1 + 1) 177 10 (wcell false (limb s))
  below : Below w.heap.size w W
theorem Sofar.keep {w W W' : World} {m m' : Bool} {x y s : Nat} (h : Sofar w W m x m' y s) (hb : Below W.heap.size W W') : Sofar w W' m x m' y s :=
  ⟨rowIs_below h.r0 hb, rowIs_below h.r1 hb, rowIs_below h.r2 hb, rowIs_below h.r3 hb, h.below.trans (hb.mono (by have := h.r0.lt; omega))⟩
theorem Sofar.lt {w W : World} {m m' : Bool} {x y s : Nat} (h : Sofar w W m x m' y s) : w.heap.size + 1 + 1 + 1 < W.heap.size := h.r3.lt
/-- The row for one piece, behind k of its own pieces. -/
def rowF (z y i k : Nat) : Nat → Nat := fun j => if i ≤ j ∧ j < i + k then limb (z * y) (j - i) else 0

set_option maxHeartbeats 1000000 in
theorem times_any (m m' : Bool) (x y : Nat) (w : World) (hx : x < 65536 ^ 4) (hy : y < 65536 ^ 4) :
    Calls Tryz.prog 115 #[wideV m x, wideV m' y] w fun e w' => e = .returned (wideV (m != m') (x * y)) ∧ Below w.heap.size w w' := by
  go_enter Tryz.func115, Tryz.ntmps115
  go_wp2
  go_loopw [6] (fun v wr => ∃ i : Nat, i ≤ 4 ∧ v = .int .i64 i ∧ Sofar w wr m x m' y (x % 65536 ^ i * y)) (fun v _ => 4 - (intOf v).toNat)
  case atStart =>
    refine ⟨0, by omega, rfl, ((((wide_row w m x).alloc _).alloc _).alloc _), (wide_row_2 w _ _ m' y).alloc _, (wide_row_3 w _ _).alloc _, ?_, ?_⟩
    · have R := wide_row0 (((w.alloc (.cells #[.bool m, .int .u64 (limb x 0), .int .u64 (limb x 1), .int .u64 (limb x 2), .int .u64 (limb x 3), .int .u64 (limb x 4), .int .u64 (limb x 5), .int .u64 (limb x 6), .int .u64 (limb x 7), .int .u64 (limb x 8)] 177)).alloc (.cells #[.bool m', .int .u64 (limb y 0), .int .u64 (limb y 1), .int .u64 (limb y 2), .int .u64 (limb y 3), .int .u64 (limb y 4), .int .u64 (limb y 5), .int .u64 (limb y 6), .int .u64 (limb y 7), .int .u64 (limb y 8)] 177)).alloc (.cells #[.bool false, .int .u64 0, .int .u64 0, .int .u64 0, .int .u64 0, .int .u64 0, .int .u64 0, .int .u64 0, .int .u64 0, .int .u64 0] 177))
      simp only [World.size_alloc] at R
      refine R.congr fun j _ => ?_
      have e : x % 65536 ^ 0 * y = 0 := by simp [Nat.mod_one]
      rw [e]
      have z : ∀ i, limb 0 i = 0 := fun i => limb_big 0 i (pow_pos' i)
      cases j <;> simp [wcell, z]
    · exact ((((Below.refl _ _).alloc (by simp) _).alloc (by simp) _).alloc (by simp; omega) _).alloc (by simp; omega) _
  case round =>
    obtain ⟨i, hi, rfl, S⟩ := hrel
    obtain ⟨wo, ho⟩ : ∃ wo, wo = wr := ⟨_, rfl⟩
    subst ho
    by_cases hlt : i < 4
    · have hz := S.lt
      go_wp2
      go_loopw [8, 9] (fun c v wq => ∃ k : Nat, k ≤ 4 ∧ v = .int .i64 k ∧ c = .int .u64 (mcarry (limb x i) y k) ∧ Below wo.heap.size wo wq ∧ wq.rowIs wo.heap.size 177 10 (wcell false (rowF (limb x i) y i k))) (fun _ v _ => 4 - (intOf v).toNat)
      case atStart =>
        refine ⟨0, by omega, rfl, by rw [mcarry_zero]; rfl, (Below.refl _ _).alloc (by simp) _, (wide_row0 wo).congr fun j _ => ?_⟩
        cases j with
        | zero => rfl
        | succ j =>
          simp only [wcell, rowF]
          rw [if_neg (by omega)]
      case round =>
        obtain ⟨k, hk, rfl, rfl, hb, R⟩ := hrel
        by_cases hkl : k < 4
        · have T := S.keep hb
          have c1 : wr.cell? ⟨w.heap.size, 1 + i, none⟩ = some (.int .u64 (limb x i)) := by rw [Nat.add_comm 1 i, T.r0.cell (by omega)]; simp [wcell]
          have c2 : wr.cell? ⟨w.heap.size + 1, 1 + k, none⟩ = some (.int .u64 (limb y k)) := by rw [Nat.add_comm 1 k, T.r1.cell (by omega)]; simp [wcell]
          have c3 : wr.cell? ⟨wo.heap.size, 1 + (i + k), none⟩ = some (.int .u64 (rowF (limb x i) y i k (i + k))) := by rw [Nat.add_comm 1 (i + k), R.cell (by omega)]; simp [wcell]
          have f3 := R.frozen (1 + (i + k))
          have l1 := limb_lt x i
          have l2 := limb_lt y k
          have l3 := mcarry_le (limb x i) y k (by omega)
          have lp : limb x i * limb y k ≤ 65535 * 65535 := Nat.mul_le_mul (by omega) (by omega)
          have s1 : IntKind.u64.wrap ((limb x i : Int) * (limb y k : Int)) = (limb x i : Int) * (limb y k : Int) := by
            have e : (limb x i : Int) * (limb y k : Int) = ((limb x i * limb y k : Nat) : Int) := by simp
            rw [e, IntKind.wrap_u64]
            omega
          have s2 : IntKind.u64.wrap ((limb x i : Int) * (limb y k : Int) + (mcarry (limb x i) y k : Int)) = (limb x i : Int) * (limb y k : Int) + (mcarry (limb x i) y k : Int) := by
            have e : (limb x i : Int) * (limb y k : Int) = ((limb x i * limb y k : Nat) : Int) := by simp
            rw [e, IntKind.wrap_u64]
            omega
          have s3 : 0 ≤ (limb x i : Int) * (limb y k : Int) + (mcarry (limb x i) y k : Int) := by
            have e : (limb x i : Int) * (limb y k : Int) = ((limb x i * limb y k : Nat) : Int) := by simp
            rw [e]
            omega
          have s4 : (limb x i : Int) * (limb y k : Int) + (mcarry (limb x i) y k : Int) ≤ 18446744073709551615 := by
            have e : (limb x i : Int) * (limb y k : Int) = ((limb x i * limb y k : Nat) : Int) := by simp
            rw [e]
            omega
          clear l1 l2 l3 lp
          have HT := Lib.hid T
          clear T
          go_wp2
          go_quiet (fail)
          go_wp2
          go_roundw
          case rel =>
            refine ⟨k + 1, by omega, by go_num, ?_, ?_, ?_⟩
            · rw [mcarry_succ]; congr 1
            · exact (below_drewN hb nq).setCell (by simp) _
            · rw [Nat.add_comm 1 (i + k)]
              refine ((rowIs_drewN R nq).set (i + k + 1) _).congr fun j hj => ?_
              cases j with
              | zero => simp [wcell]
              | succ j =>
                by_cases e : j = i + k
                · subst e
                  rw [if_pos rfl]
                  simp only [wcell, rowF]
                  rw [if_pos (by omega), Nat.add_sub_cancel_left, mlimb]
                  congr 1
                · rw [if_neg (by omega)]
                  simp only [wcell, rowF]
                  have e1 : (i ≤ j ∧ j < i + (k + 1)) ↔ (i ≤ j ∧ j < i + k) := by omega
                  simp only [e1]
          case measure => simp [intOf]; omega
        · obtain rfl : k = 4 := by omega
          have T := S.keep hb
          have c3 : wr.cell? ⟨wo.heap.size, 1 + (i + 4), none⟩ = some (.int .u64 (rowF (limb x i) y i 4 (i + 4))) := by rw [Nat.add_comm 1 (i + 4), R.cell (by omega)]; simp [wcell]
          have f3 := R.frozen (1 + (i + 4))
          go_upto_region 14 with fail
          generalize hg : wr.setCell ⟨wo.heap.size, 1 + (i + 4), none⟩ (.int .u64 (mcarry (limb x i) y 4)) = wz
          have hbz : Below wo.heap.size wo wz := by rw [← hg]; exact hb.setCell (by simp) _
          have Rz : wz.rowIs wo.heap.size 177 10 (wcell false (limb (limb x i * y * 65536 ^ i))) := by
            rw [← hg, Nat.add_comm 1 (i + 4)]
            refine (R.set (i + 4 + 1) _).congr fun j hj => ?_
            cases j with
            | zero => simp [wcell]
            | succ j =>
              simp only [wcell, rowF, row_limbs _ _ _ _ (Nat.le_of_lt_succ (limb_lt x i)) hy]
              by_cases e : j = i + 4
              · subst e; simp
              · rw [if_neg (by omega), if_neg e]
          have Tz := S.keep hbz
          clear T R hb hg c3 f3 S hbz
          obtain ⟨c0, c1, c2, c3, c4, c5, c6, c7, c8, c9⟩ := wide_cells Tz.r3
          obtain ⟨e0, e1, e2, e3, e4, e5, e6, e7, e8, e9⟩ := wide_cells Rz
          have HT := Lib.hid Tz
          clear Tz Rz
          have hp := part_sum x y i
          have HP := Lib.hid hp
          clear hp
          go_wp2_with (go_at_call 132; refine (plus_any _ _ (x % 65536 ^ i * y) (limb x i * y * 65536 ^ i) _).mono ?_; rintro e w' ⟨rfl, hb2⟩; have T := HT.out.keep hb2; clear hb2 c0 c1 c2 c3 c4 c5 c6 c7 c8 c9 e0 e1 e2 e3 e4 e5 e6 e7 e8 e9; obtain ⟨d0, d1, d2, d3, d4, d5, d6, d7, d8, d9⟩ := wide_cells T.r3; obtain ⟨f0, f1, f2, f3, f4, f5, f6, f7, f8, f9⟩ := wide_free T.r3; have HT2 := Lib.hid T; clear T HT)
          go_roundw
          case rel =>
            have T := HT2.out
            rw [HP.out]
            have q := T.lt
            exact ⟨i + 1, by omega, by go_num, row_store_other T.r0 (by omega) _ _ _ _ _ _ _ _ _ _, row_store_other T.r1 (by omega) _ _ _ _ _ _ _ _ _ _, row_store_other T.r2 (by omega) _ _ _ _ _ _ _ _ _ _, row_store T.r3 false _, below_wide T.below (by omega) _ _ _ _ _ _ _ _ _ _⟩
          case measure => simp [intOf]; omega
    · obtain rfl : i = 4 := by omega
      have e : x % 65536 ^ 4 * y = x * y := by rw [Nat.mod_eq_of_lt hx]
      rw [e] at S
      clear e
      have a0 := (wide_cells S.r0).1
      have b0 := (wide_cells S.r1).1
      obtain ⟨c0, c1, c2, c3, c4, c5, c6, c7, c8, c9⟩ := wide_cells S.r3
      obtain ⟨d0, d1, d2, d3, d4, d5, d6, d7, d8, d9⟩ := wide_cells S.r2
      obtain ⟨f0, f1, f2, f3, f4, f5, f6, f7, f8, f9⟩ := wide_free S.r2
      have g0 := S.r3.frozen 0
      have hz := S.lt
      have HB := Lib.hid S.below
      clear S hx hy
      go_wp2
      exact bodyPost_ret (v := wideV (m != m') (x * y)) (by simp [results, Tryz.results115, go_sem, d0, d1, d2, d3, d4, d5, d6, d7, d8, d9]; cases m <;> cases m' <;> rfl) rfl
        ⟨rfl, below_wide (HB.out.setCell (by simp; omega) _) (by omega) _ _ _ _ _ _ _ _ _ _⟩
end Go.Proofs.YtldhlknmabpanaaGreat
namespace Go.Proofs.YtldhlknmabpanaaGreat
open Go.RowKit

theorem times_value (a b : Int) : (if (decide (a < 0) != decide (b < 0)) = true then -((a.natAbs * b.natAbs : Nat) : Int) else ((a.natAbs * b.natAbs : Nat) : Int)) = a * b := by
  have ea : a = if a < 0 then -(a.natAbs : Int) else (a.natAbs : Int) := by split <;> omega
  have eb : b = if b < 0 then -(b.natAbs : Int) else (b.natAbs : Int) := by split <;> omega
  by_cases ha : a < 0 <;> by_cases hb : b < 0 <;> simp only [ha, hb, if_true, if_false, Int.natCast_mul] at ea eb ⊢ <;> simp <;> grind
theorem times_small (a b : Int) (ha : -9223372036854775808 ≤ a) (ha' : a ≤ 9223372036854775807) (hb : -9223372036854775808 ≤ b) (hb' : b ≤ 9223372036854775807) : a.natAbs * b.natAbs ≤ 85070591730234615865843651857942052864 :=
  Nat.le_trans (Nat.mul_le_mul (show a.natAbs ≤ 9223372036854775808 by omega) (show b.natAbs ≤ 9223372036854775808 by omega)) (by decide)

theorem rmul_any (a b : Int) (w : World) (ha : -9223372036854775808 ≤ a) (ha' : a ≤ 9223372036854775807) (hb : -9223372036854775808 ≤ b) (hb' : b ≤ 9223372036854775807) :
    Calls Tryz.prog 92 #[.int .i64 a, .int .i64 b] w fun e w' => e = .returned (.int .i64 (held (a * b))) ∧ Below w.heap.size w w' := by
  have v := times_value a b
  have cs := times_small a b ha ha' hb hb'
  have ct := fun w => times_any (decide (a < 0)) (decide (b < 0)) a.natAbs b.natAbs w (by omega) (by omega)
  have ch := fun w => held_any (decide (a < 0) != decide (b < 0)) (a.natAbs * b.natAbs) w (by omega)
  rw [v] at ch
  have ca := fun w => of_any a w ha ha'
  have cb := fun w => of_any b w hb hb'
  clear v cs
  generalize held (a * b) = Z at *
  generalize a.natAbs * b.natAbs = X at *
  generalize (decide (a < 0) != decide (b < 0)) = M at *
  generalize decide (a < 0) = ma at *
  generalize decide (b < 0) = mb at *
  generalize a.natAbs = xa at *
  generalize b.natAbs = xb at *
  go_enter Tryz.func92, Tryz.ntmps92
  go_wp2_with (first
    | (go_at_call 116; with_reducible refine (ca _).mono ?_; clear ca; rintro e w1 ⟨rfl, h1⟩; have H1 := Lib.hid h1; clear h1)
    | (go_at_call 116; with_reducible refine (cb _).mono ?_; clear cb; rintro e w2 ⟨rfl, h2⟩; have H2 := Lib.hid h2; clear h2)
    | (go_at_call 115; refine (ct _).mono ?_; clear ct; rintro e w3 ⟨rfl, h3⟩; have H3 := Lib.hid h3; clear h3)
    | (go_at_call 114; refine (ch _).mono ?_; clear ch; rintro e w4 ⟨rfl, h4⟩; have H4 := Lib.hid h4; clear h4))
  go_ret
  exact ⟨rfl, below_seq (below_seq (below_seq H1.out H2.out) H3.out) H4.out⟩


end Go.Proofs.YtldhlknmabpanaaGreat
