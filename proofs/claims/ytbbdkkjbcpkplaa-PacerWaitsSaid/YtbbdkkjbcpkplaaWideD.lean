/-
  Own text: the document's held sums, differences and absolute values (Add, Sub, Abs), walked.
-/
import Derived.Test.YtbbdkkjbcpkplaaWideC
namespace Go.Proofs.Ytbbdkkjbcpkplaa
open Go.RowKit

theorem rplus_any (m m' : Bool) (x y : Nat) (w : World) (hx : x < 65536 ^ 9) (hy : y < 65536 ^ 9) :
    Calls Try.prog 31 #[wideV m x, wideV m' y] w fun e w' => e = .returned (wideV (plusM m m' x y) (plusX m m' x y)) ∧ Below w.heap.size w w' := by
  by_cases h : m = m'
  · subst h
    have := rplus_same m x y w
    simpa [plusM, plusX] using this
  · have := rplus_other m m' x y w hx hy (by cases m <;> cases m' <;> simp_all)
    simpa [plusM, plusX, h] using this
theorem plus_value (m m' : Bool) (x y : Nat) : (if plusM m m' x y then -(plusX m m' x y : Int) else (plusX m m' x y : Int)) = (if m then -(x : Int) else x) + (if m' then -(y : Int) else y) := by
  by_cases h : x < y <;> cases m <;> cases m' <;> simp [plusM, plusX, h] <;> omega
theorem plus_small (m m' : Bool) (x y : Nat) (hx : x ≤ 9223372036854775808) (hy : y ≤ 9223372036854775808) : plusX m m' x y < 65536 ^ 9 := by
  unfold plusX; split <;> (try split) <;> omega
theorem sign_value (a : Int) : (if decide (a < 0) = true then -(a.natAbs : Int) else (a.natAbs : Int)) = a := by
  by_cases h : a < 0 <;> simp [h] <;> omega
theorem below_seq {w W w' : World} (h : Below w.heap.size w W) (k : Below W.heap.size W w') : Below w.heap.size w w' := h.trans (k.mono h.size)

theorem turn_value (a : Int) : (if (!decide (a < 0)) = true then -(a.natAbs : Int) else (a.natAbs : Int)) = -a := by
  by_cases h : a < 0 <;> simp [h] <;> omega
theorem radd_any (a b : Int) (w : World) (ha : -9223372036854775808 ≤ a) (ha' : a ≤ 9223372036854775807) (hb : -9223372036854775808 ≤ b) (hb' : b ≤ 9223372036854775807) :
    Calls Try.prog 25 #[.int .i64 a, .int .i64 b] w fun e w' => e = .returned (.int .i64 (held (a + b))) ∧ Below w.heap.size w w' := by
  have v := plus_value (decide (a < 0)) (decide (b < 0)) a.natAbs b.natAbs
  rw [sign_value, sign_value] at v
  have cp := fun w => rplus_any (decide (a < 0)) (decide (b < 0)) a.natAbs b.natAbs w (by omega) (by omega)
  have ch := fun w => held_any (plusM (decide (a < 0)) (decide (b < 0)) a.natAbs b.natAbs) (plusX (decide (a < 0)) (decide (b < 0)) a.natAbs b.natAbs) w (plus_small _ _ _ _ (by omega) (by omega))
  rw [v] at ch
  have ca := fun w => of_any a w ha ha'
  have cb := fun w => of_any b w hb hb'
  clear v
  generalize plusM (decide (a < 0)) (decide (b < 0)) a.natAbs b.natAbs = M at *
  generalize plusX (decide (a < 0)) (decide (b < 0)) a.natAbs b.natAbs = X at *
  generalize decide (a < 0) = ma at *
  generalize decide (b < 0) = mb at *
  generalize a.natAbs = xa at *
  generalize b.natAbs = xb at *
  go_enter Try.func25, Try.ntmps25
  go_wp2_with (first
    | (go_at_call 30; with_reducible refine (ca _).mono ?_; clear ca; rintro e w1 ⟨rfl, h1⟩; have H1 := Lib.hid h1; clear h1)
    | (go_at_call 30; with_reducible refine (cb _).mono ?_; clear cb; rintro e w2 ⟨rfl, h2⟩; have H2 := Lib.hid h2; clear h2)
    | (go_at_call 31; refine (cp _).mono ?_; clear cp; rintro e w3 ⟨rfl, h3⟩; have H3 := Lib.hid h3; clear h3)
    | (go_at_call 28; refine (ch _).mono ?_; clear ch; rintro e w4 ⟨rfl, h4⟩; have H4 := Lib.hid h4; clear h4))
  go_ret
  exact ⟨rfl, below_seq (below_seq (below_seq H1.out H2.out) H3.out) H4.out⟩
end Go.Proofs.Ytbbdkkjbcpkplaa
