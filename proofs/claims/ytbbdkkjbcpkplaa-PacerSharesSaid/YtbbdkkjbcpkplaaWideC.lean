/-
  Own text: the document's sums, differences, absolute values over wide numbers (Plus, Add, Sub, Abs), walked.
-/
import Derived.Test.YtbbdkkjbcpkplaaWideB
namespace Go.Proofs.Ytbbdkkjbcpkplaa
open Go.RowKit

theorem rowIs_below {w w' : World} {b : Nat} {t : TypeId} {n : Nat} {f : Nat → Value} (h : w.rowIs b t n f) (hb : Below w.heap.size w w') : w'.rowIs b t n f := h.of_block (hb.block b h.lt)

theorem below_wide_alloc {B : Nat} {a w : World} (h : Below B a w) {b : Nat} (hb : B ≤ b) (hB : B ≤ w.heap.size) (v0 v1 v2 v3 v4 v5 v6 v7 v8 v9 : Value) (o : Obj) :
    Below B a (((((((((((w.setCell ⟨b, 0, none⟩ v0).setCell ⟨b, 1, none⟩ v1).setCell ⟨b, 2, none⟩ v2).setCell ⟨b, 3, none⟩ v3).setCell ⟨b, 4, none⟩ v4).setCell ⟨b, 5, none⟩ v5).setCell ⟨b, 6, none⟩ v6).setCell ⟨b, 7, none⟩ v7).setCell ⟨b, 8, none⟩ v8).setCell ⟨b, 9, none⟩ v9).alloc o) :=
  (below_wide h hb v0 v1 v2 v3 v4 v5 v6 v7 v8 v9).alloc (by simpa [World.setCell] using hB) o

/-- Two wide numbers and room for a third one lie in the three blocks behind w. -/
structure Three (w W : World) (m : Bool) (x : Nat) (m' : Bool) (y : Nat) : Prop where
  r0 : W.rowIs w.heap.size 63 10 (wcell m (limb x))
  r1 : W.rowIs (w.heap.size + 1) 63 10 (wcell m' (limb y))
  r2 : W.rowIs (w.heap.size + 1 + 1) 63 10 (wcell false (fun _ => 0))
  below : Below w.heap.size w W
  lt : w.heap.size + 1 + 1 < W.heap.size
theorem Three.start (w : World) (m : Bool) (x : Nat) (m' : Bool) (y : Nat) : Three w (((w.alloc (.cells #[.bool m, .int .u64 (limb x 0), .int .u64 (limb x 1), .int .u64 (limb x 2), .int .u64 (limb x 3), .int .u64 (limb x 4), .int .u64 (limb x 5), .int .u64 (limb x 6), .int .u64 (limb x 7), .int .u64 (limb x 8)] 63)).alloc (.cells #[.bool m', .int .u64 (limb y 0), .int .u64 (limb y 1), .int .u64 (limb y 2), .int .u64 (limb y 3), .int .u64 (limb y 4), .int .u64 (limb y 5), .int .u64 (limb y 6), .int .u64 (limb y 7), .int .u64 (limb y 8)] 63)).alloc (.cells #[.bool false, .int .u64 0, .int .u64 0, .int .u64 0, .int .u64 0, .int .u64 0, .int .u64 0, .int .u64 0, .int .u64 0, .int .u64 0] 63)) m x m' y :=
  ⟨((wide_row w m x).alloc _).alloc _, wide_row_2 w _ _ m' y, wide_row_3 w _ _, (((Below.refl _ _).alloc (by simp) _).alloc (by simp) _).alloc (by simp; omega) _, by simp⟩
theorem Three.after {w W w' : World} {m m' : Bool} {x y : Nat} (h : Three w W m x m' y) (hb : Below W.heap.size W w') : Three w w' m x m' y :=
  ⟨rowIs_below h.r0 hb, rowIs_below h.r1 hb, rowIs_below h.r2 hb, h.below.trans (hb.mono (by have := h.lt; omega)), Nat.lt_of_lt_of_le h.lt hb.size⟩

/-- The sum's sign and size. -/
def plusM (m m' : Bool) (x y : Nat) : Bool := if m = m' then m else if x < y then m' else m
def plusX (m m' : Bool) (x y : Nat) : Nat := if m = m' then x + y else if x < y then y - x else x - y
set_option maxHeartbeats 1000000 in
theorem rplus_same (m : Bool) (x y : Nat) (w : World) :
    Calls Try.prog 31 #[wideV m x, wideV m y] w fun e w' => e = .returned (wideV m (x + y)) ∧ Below w.heap.size w w' := by
  cases m
  all_goals
    go_enter Try.func31, Try.ntmps31
    go_wp2_with (go_at_call 33; refine (plus_any _ _ x y _).mono ?_; rintro e w' ⟨rfl, hb⟩; have T := (Three.start w _ x _ y).after hb; clear hb; obtain ⟨c0, c1, c2, c3, c4, c5, c6, c7, c8, c9⟩ := wide_cells T.r0; obtain ⟨d0, d1, d2, d3, d4, d5, d6, d7, d8, d9⟩ := wide_cells T.r2; obtain ⟨f0, f1, f2, f3, f4, f5, f6, f7, f8, f9⟩ := wide_free T.r2; have hz := T.lt; have hz1 : w.heap.size + 1 < w'.heap.size := (by omega); have hz0 : w.heap.size < w'.heap.size := (by omega); have HT := Lib.hid T; clear T)
    exact bodyPost_ret (v := wideV _ (x + y)) (by simp [results, Try.results31, go_sem, d0, d1, d2, d3, d4, d5, d6, d7, d8, d9, hz]) rfl
        ⟨rfl, below_wide_alloc HT.out.below (by omega) (by omega) _ _ _ _ _ _ _ _ _ _ _⟩
set_option maxHeartbeats 2000000 in
theorem rplus_other (m m' : Bool) (x y : Nat) (w : World) (hx : x < 65536 ^ 9) (hy : y < 65536 ^ 9) (hm : m' = !m) :
    Calls Try.prog 31 #[wideV m x, wideV m' y] w fun e w' => e = .returned (wideV (if x < y then m' else m) (if x < y then y - x else x - y)) ∧ Below w.heap.size w w' := by
  subst hm
  have cl := fun w => less_any m (!m) x y w hx hy
  clear hx hy
  by_cases h : x < y
  · cases m
    · go_enter Try.func31, Try.ntmps31
      go_wp2_with (first
        | (go_at_call 34; refine (cl _).mono ?_; clear cl; rintro e w1 ⟨rfl, hb⟩; have T := (Three.start w _ x _ y).after hb; clear hb; obtain ⟨c0, c1, c2, c3, c4, c5, c6, c7, c8, c9⟩ := wide_cells T.r0; obtain ⟨e0, e1, e2, e3, e4, e5, e6, e7, e8, e9⟩ := wide_cells T.r1; have HT1 := Lib.hid T; clear T)
        | (go_at_call 35; refine (minus_any _ _ _ _ _ (by omega)).mono ?_; rintro e w2 ⟨rfl, hb⟩; have T := HT1.out.after hb; clear hb HT1 c0 c1 c2 c3 c4 c5 c6 c7 c8 c9 e0 e1 e2 e3 e4 e5 e6 e7 e8 e9; obtain ⟨c0, c1, c2, c3, c4, c5, c6, c7, c8, c9⟩ := wide_cells T.r0; obtain ⟨e0, e1, e2, e3, e4, e5, e6, e7, e8, e9⟩ := wide_cells T.r1; obtain ⟨d0, d1, d2, d3, d4, d5, d6, d7, d8, d9⟩ := wide_cells T.r2; obtain ⟨f0, f1, f2, f3, f4, f5, f6, f7, f8, f9⟩ := wide_free T.r2; have hz := T.lt; have hz1 : w.heap.size + 1 < w2.heap.size := (by omega); have hz0 : w.heap.size < w2.heap.size := (by omega); have HT := Lib.hid T; clear T))
      exact bodyPost_ret (v := wideV true (y - x)) (by simp [results, Try.results31, go_sem, d0, d1, d2, d3, d4, d5, d6, d7, d8, d9, hz]) rfl
        ⟨rfl, below_wide_alloc HT.out.below (by omega) (by omega) _ _ _ _ _ _ _ _ _ _ _⟩
    · go_enter Try.func31, Try.ntmps31
      go_wp2_with (first
        | (go_at_call 34; refine (cl _).mono ?_; clear cl; rintro e w1 ⟨rfl, hb⟩; have T := (Three.start w _ x _ y).after hb; clear hb; obtain ⟨c0, c1, c2, c3, c4, c5, c6, c7, c8, c9⟩ := wide_cells T.r0; obtain ⟨e0, e1, e2, e3, e4, e5, e6, e7, e8, e9⟩ := wide_cells T.r1; have HT1 := Lib.hid T; clear T)
        | (go_at_call 35; refine (minus_any _ _ _ _ _ (by omega)).mono ?_; rintro e w2 ⟨rfl, hb⟩; have T := HT1.out.after hb; clear hb HT1 c0 c1 c2 c3 c4 c5 c6 c7 c8 c9 e0 e1 e2 e3 e4 e5 e6 e7 e8 e9; obtain ⟨c0, c1, c2, c3, c4, c5, c6, c7, c8, c9⟩ := wide_cells T.r0; obtain ⟨e0, e1, e2, e3, e4, e5, e6, e7, e8, e9⟩ := wide_cells T.r1; obtain ⟨d0, d1, d2, d3, d4, d5, d6, d7, d8, d9⟩ := wide_cells T.r2; obtain ⟨f0, f1, f2, f3, f4, f5, f6, f7, f8, f9⟩ := wide_free T.r2; have hz := T.lt; have hz1 : w.heap.size + 1 < w2.heap.size := (by omega); have hz0 : w.heap.size < w2.heap.size := (by omega); have HT := Lib.hid T; clear T))
      exact bodyPost_ret (v := wideV false (y - x)) (by simp [results, Try.results31, go_sem, d0, d1, d2, d3, d4, d5, d6, d7, d8, d9, hz]) rfl
        ⟨rfl, below_wide_alloc HT.out.below (by omega) (by omega) _ _ _ _ _ _ _ _ _ _ _⟩
  · cases m
    · go_enter Try.func31, Try.ntmps31
      go_wp2_with (first
        | (go_at_call 34; refine (cl _).mono ?_; clear cl; rintro e w1 ⟨rfl, hb⟩; have T := (Three.start w _ x _ y).after hb; clear hb; obtain ⟨c0, c1, c2, c3, c4, c5, c6, c7, c8, c9⟩ := wide_cells T.r0; obtain ⟨e0, e1, e2, e3, e4, e5, e6, e7, e8, e9⟩ := wide_cells T.r1; have HT1 := Lib.hid T; clear T)
        | (go_at_call 35; refine (minus_any _ _ _ _ _ (by omega)).mono ?_; rintro e w2 ⟨rfl, hb⟩; have T := HT1.out.after hb; clear hb HT1 c0 c1 c2 c3 c4 c5 c6 c7 c8 c9 e0 e1 e2 e3 e4 e5 e6 e7 e8 e9; obtain ⟨c0, c1, c2, c3, c4, c5, c6, c7, c8, c9⟩ := wide_cells T.r0; obtain ⟨e0, e1, e2, e3, e4, e5, e6, e7, e8, e9⟩ := wide_cells T.r1; obtain ⟨d0, d1, d2, d3, d4, d5, d6, d7, d8, d9⟩ := wide_cells T.r2; obtain ⟨f0, f1, f2, f3, f4, f5, f6, f7, f8, f9⟩ := wide_free T.r2; have hz := T.lt; have hz1 : w.heap.size + 1 < w2.heap.size := (by omega); have hz0 : w.heap.size < w2.heap.size := (by omega); have HT := Lib.hid T; clear T))
      exact bodyPost_ret (v := wideV false (x - y)) (by simp [results, Try.results31, go_sem, d0, d1, d2, d3, d4, d5, d6, d7, d8, d9, hz]) rfl
        ⟨rfl, below_wide_alloc HT.out.below (by omega) (by omega) _ _ _ _ _ _ _ _ _ _ _⟩
    · go_enter Try.func31, Try.ntmps31
      go_wp2_with (first
        | (go_at_call 34; refine (cl _).mono ?_; clear cl; rintro e w1 ⟨rfl, hb⟩; have T := (Three.start w _ x _ y).after hb; clear hb; obtain ⟨c0, c1, c2, c3, c4, c5, c6, c7, c8, c9⟩ := wide_cells T.r0; obtain ⟨e0, e1, e2, e3, e4, e5, e6, e7, e8, e9⟩ := wide_cells T.r1; have HT1 := Lib.hid T; clear T)
        | (go_at_call 35; refine (minus_any _ _ _ _ _ (by omega)).mono ?_; rintro e w2 ⟨rfl, hb⟩; have T := HT1.out.after hb; clear hb HT1 c0 c1 c2 c3 c4 c5 c6 c7 c8 c9 e0 e1 e2 e3 e4 e5 e6 e7 e8 e9; obtain ⟨c0, c1, c2, c3, c4, c5, c6, c7, c8, c9⟩ := wide_cells T.r0; obtain ⟨e0, e1, e2, e3, e4, e5, e6, e7, e8, e9⟩ := wide_cells T.r1; obtain ⟨d0, d1, d2, d3, d4, d5, d6, d7, d8, d9⟩ := wide_cells T.r2; obtain ⟨f0, f1, f2, f3, f4, f5, f6, f7, f8, f9⟩ := wide_free T.r2; have hz := T.lt; have hz1 : w.heap.size + 1 < w2.heap.size := (by omega); have hz0 : w.heap.size < w2.heap.size := (by omega); have HT := Lib.hid T; clear T))
      exact bodyPost_ret (v := wideV true (x - y)) (by simp [results, Try.results31, go_sem, d0, d1, d2, d3, d4, d5, d6, d7, d8, d9, hz]) rfl
        ⟨rfl, below_wide_alloc HT.out.below (by omega) (by omega) _ _ _ _ _ _ _ _ _ _ _⟩
end Go.Proofs.Ytbbdkkjbcpkplaa
