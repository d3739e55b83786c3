/-
  Own text: the law WordSums, walked.
-/
import Derived.Test.YtgihngmfplfgaaaRead
import Derived.Test.YtgihngmfplfgaaaWordB
import Derived.Test.YtgihngmfplfgaaaWideD
namespace Go.Proofs.Ytgihngmfplfgaaa
open Go.RowKit

theorem RowAt.block_lt {k : IntKind} {w : World} {b off len cap : Nat} {zs : List Int} (h : RowAt k w b off len cap zs) (h0 : 0 < len) : b < w.heap.size := by
  have c := h.cell 0 h0
  rcases Nat.lt_or_ge b w.heap.size with g | g
  · exact g
  · simp [World.cell?, Array.getElem?_eq_none g] at c
theorem RowAt.below {k : IntKind} {w w' : World} {b off len cap : Nat} {zs : List Int} (h : RowAt k w b off len cap zs) (hb : Below w.heap.size w w') : RowAt k w' b off len cap zs :=
  ⟨h.le, h.max, h.size, fun i hi => (hb.cell (p := ⟨b, off + i, none⟩) (h.block_lt (by omega))).trans (h.cell i hi), h.wf⟩

/-- One behind the other, held each time. -/
def sumZ (l : List Int) : Int := l.foldl (fun s n => held (s + n)) 0
theorem sumZ_snoc (zs : List Int) (k : Nat) (h : k < zs.length) : sumZ (zs.take (k + 1)) = held (sumZ (zs.take k) + zs.getD k 0) := by
  unfold sumZ
  rw [List.take_succ_eq_append_getElem h, List.foldl_append, List.getD_eq_getElem?_getD, List.getElem?_eq_getElem h]
  rfl
theorem sumZ_lo (zs : List Int) : ∀ k, k ≤ zs.length → -9223372036854775808 ≤ sumZ (zs.take k) ∧ sumZ (zs.take k) ≤ 9223372036854775807
  | 0, _ => by simp [sumZ]
  | k + 1, h => by rw [sumZ_snoc zs k (by omega)]; exact held_lo _
theorem sumZ_step {w : World} {b off len cap : Nat} {zs : List Int} (h : RowAt .i64 w b off len cap zs) (k : Nat) (hk : k < len) :
    -9223372036854775808 ≤ sumZ (zs.take k) ∧ sumZ (zs.take k) ≤ 9223372036854775807 ∧ -9223372036854775808 ≤ zs.getD k 0 ∧ zs.getD k 0 ≤ 9223372036854775807 ∧ held (sumZ (zs.take k) + zs.getD k 0) = sumZ (zs.take (k + 1)) := by
  have hs := h.size
  have hle := h.le
  have z := i64_lo (h.wf k hk)
  have s := sumZ_lo zs k (by omega)
  exact ⟨s.1, s.2, z.1, z.2, (sumZ_snoc zs k (by omega)).symm⟩

theorem sum_any (b off len cap : Nat) (zs : List Int) (w : World) (h : RowAt .i64 w b off len cap zs) :
    Calls Try.prog 23 #[.slice (some ⟨b, off, none⟩) len cap] w fun e w' => e = .returned (.int .i64 (sumZ (zs.take len))) ∧ w = w' := by
  have hc := h.max
  have hle := h.le
  go_enter Try.func23, Try.ntmps23
  go_wp2
  go_loop [3, 8] (fun v i => ∃ k : Nat, k ≤ len ∧ i = .int .i64 k ∧ v = .int .i64 (sumZ (zs.take k))) (fun _ i => len - (intOf i).toNat)
  case atStart => exact ⟨0, by omega, rfl, rfl⟩
  case round =>
    obtain ⟨k, hk, rfl, rfl⟩ := hrel
    by_cases h1 : k < len
    · have c := h.cell k h1
      obtain ⟨a1, a2, a3, a4, a5⟩ := sumZ_step h k h1
      have ca := fun w => add_any _ _ w a1 a2 a3 a4
      rw [a5] at ca
      rw [List.getD_eq_getElem?_getD] at c ca
      clear a5 a3 a4 a1 a2
      go_wp2_with (go_at_call 13; refine (ca _).mono ?_; clear ca; rintro e w' ⟨rfl, rfl⟩)
      go_round
      case rel => exact ⟨k + 1, by omega, by go_num, rfl⟩
      case measure => simp [intOf]; omega
    · obtain rfl : k = len := by omega
      go_wp2
      go_ret
      exact ⟨rfl, rfl⟩
theorem sum_zero (a : Option Addr) (cap : Nat) (w : World) :
    Calls Try.prog 23 #[.slice a 0 cap] w fun e w' => e = .returned (.int .i64 0) ∧ w = w' := by
  go_enter Try.func23, Try.ntmps23
  go_wp2
  refine wp_loop_rounds 1 ?_
  rw [rounds_succ]
  go_wp2
  go_ret
  exact ⟨rfl, rfl⟩

theorem sums_zero (a : Option Addr) (cap : Nat) (w : World) :
    Calls Try.prog 5 #[.slice a 0 cap] w fun e w' => e = .returned (.bool true) ∧ Below w.heap.size w w' := by
  go_enter Try.func5, Try.ntmps5
  go_wp2_with (go_at_call 12; refine (awake_any _).mono ?_; rintro e w' ⟨rfl, rfl⟩)
  refine wp_loop_rounds 1 ?_
  rw [rounds_succ]
  go_wp2_with (go_at_call 23; refine (sum_zero _ _ _).mono ?_; rintro e w' ⟨rfl, rfl⟩)
  go_ret
  exact ⟨rfl, Below.refl _ _⟩

theorem sums_some (b off len cap : Nat) (zs : List Int) (w : World) (h : RowAt .i64 w b off len cap zs) (h0 : 0 < len) :
    Calls Try.prog 5 #[.slice (some ⟨b, off, none⟩) len cap] w fun e w' => e = .returned (.bool true) ∧ Below w.heap.size w w' := by
  have hc := h.max
  have hle := h.le
  by_cases hbig : 300 < len
  · go_enter Try.func5, Try.ntmps5
    go_wp2_with (go_at_call 12; refine (awake_any _).mono ?_; rintro e w' ⟨rfl, rfl⟩)
    go_ret
    exact ⟨rfl, Below.refl _ _⟩
  · go_enter Try.func5, Try.ntmps5
    go_wp2_with (go_at_call 12; refine (awake_any _).mono ?_; rintro e w' ⟨rfl, rfl⟩)
    go_loopw [3, 4] (fun v i wr => ∃ k : Nat, k ≤ len ∧ i = .int .i64 k ∧ v = .int .i64 (sumZ (zs.take k)) ∧ Below w.heap.size w wr) (fun _ i _ => len - (intOf i).toNat)
    case atStart => exact ⟨0, by omega, rfl, rfl, Below.refl _ _⟩
    case round =>
      obtain ⟨k, hk, rfl, rfl, hb⟩ := hrel
      have h' := h.below hb
      by_cases h1 : k < len
      · have c := h'.cell k h1
        obtain ⟨a1, a2, a3, a4, a5⟩ := sumZ_step h k h1
        have ca := fun w => radd_any _ _ w a1 a2 a3 a4
        rw [a5] at ca
        rw [List.getD_eq_getElem?_getD] at c ca
        clear a5 a3 a4 a1 a2
        go_wp2_with (go_at_call 14; refine (ca _).mono ?_; clear ca; rintro e w' ⟨rfl, hb'⟩)
        go_roundw
        case rel => exact ⟨k + 1, by omega, by go_num, rfl, below_seq hb hb'⟩
        case measure => simp [intOf]; omega
      · obtain rfl : k = len := by omega
        go_wp2_with (go_at_call 23; refine (sum_any _ _ _ _ _ _ h').mono ?_; rintro e w' ⟨rfl, rfl⟩)
        go_ret
        exact ⟨rfl, hb⟩
theorem sums_walk (a : Option Addr) (len cap : Nat) (zs : List Int) (w : World) (h : IsRow .i64 w a len cap zs) :
    Calls Try.prog 5 #[.slice a len cap] w fun e w' => e = .returned (.bool true) ∧ Below w.heap.size w w' := by
  rcases h.at_ with rfl | ⟨h0, b, off, rfl, g⟩
  · exact sums_zero a cap w
  · exact sums_some b off len cap zs w g h0
end Go.Proofs.Ytgihngmfplfgaaa
