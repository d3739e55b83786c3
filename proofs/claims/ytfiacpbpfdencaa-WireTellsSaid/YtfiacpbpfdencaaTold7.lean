/-
  Own text: Clamp, an ack's bytes, Told, walked.
-/
import Derived.Test.YtfiacpbpfdencaaNext7
import Derived.StillTailTactics
import Derived.BigRegion
namespace Go.Proofs.Ytfiacpbpfdencaa
open Go.RowKit

def clampZ (n l h : Int) : Int := if n < l then l else if h < l then l else min n h
theorem clamp7_any (n l h : Int) (w : World) :
    Calls Try.prog 35 #[.int .i64 n, .int .i64 l, .int .i64 h] w fun e w' => e = .returned (.int .i64 (clampZ n l h)) ∧ w = w' := by
  have HR : Hid (clampZ n l h = if n < l then l else if h < l then l else min n h) := Lib.hid rfl
  generalize clampZ n l h = R at *
  by_cases h1 : n < l
  · rw [if_pos h1] at HR
    go_enter Try.func35, Try.ntmps35
    go_wp2
    go_ret
    exact ⟨ret_int HR.out.symm, rfl⟩
  rw [if_neg h1] at HR
  by_cases h2 : h < l
  · rw [if_pos h2] at HR
    go_enter Try.func35, Try.ntmps35
    go_wp2
    go_ret
    exact ⟨ret_int HR.out.symm, rfl⟩
  rw [if_neg h2] at HR
  by_cases h3 : n ≤ h
  · rw [Int.min_eq_left h3] at HR
    go_enter Try.func35, Try.ntmps35
    go_wp2
    go_ret
    exact ⟨ret_int HR.out.symm, rfl⟩
  · rw [Int.min_eq_right (by omega)] at HR
    go_enter Try.func35, Try.ntmps35
    go_wp2
    go_ret
    exact ⟨ret_int HR.out.symm, rfl⟩
/-- What an ack's bytes tell of how far one is ahead, held. -/
def aheadZ (a : Int) : Int := clampZ a (-32768) 32767
def lossZ (a : Int) : Int := clampZ a 0 65535
theorem ahead_range (a : Int) : -32768 ≤ aheadZ a ∧ aheadZ a ≤ 32767 := by unfold aheadZ clampZ; split <;> (try split) <;> omega
theorem loss_range (a : Int) : 0 ≤ lossZ a ∧ lossZ a ≤ 65535 := by unfold lossZ clampZ; split <;> (try split) <;> omega
/-- As a word. -/
def up16 (a : Int) : Int := a % 65536
def qualL (a l : Int) : List Int := be 2 (up16 (aheadZ a)) ++ be 2 (lossZ l)
theorem qbytes_any (a l : Int) (w : World) :
    Calls Try.prog 20 #[.agg #[.int .i64 a, .int .i64 l]] w fun e w' => ∃ g, e = .returned (.slice (some ⟨g, 0, none⟩) 4 4) ∧ Row8 w' g 5 (qualL a l) ∧ Below w.heap.size w w' := by
  have HA := Lib.hid (fun w => clamp7_any a (-32768) 32767 w)
  have HL := Lib.hid (fun w => clamp7_any l 0 65535 w)
  have ha := ahead_range a
  have hl := loss_range l
  have q1 : IntKind.u16.wrap (aheadZ a) = up16 (aheadZ a) := by unfold up16; rw [IntKind.wrap_u16]
  have q2 : IntKind.u16.wrap (lossZ l) = lossZ l := IntWalk.u16_in _ (by omega)
  have hu : 0 ≤ up16 (aheadZ a) ∧ up16 (aheadZ a) ≤ 65535 := by unfold up16; omega
  rw [show clampZ a (-32768) 32767 = aheadZ a from rfl] at HA
  rw [show clampZ l 0 65535 = lossZ l from rfl] at HL
  unfold qualL
  generalize up16 (aheadZ a) = u at *
  generalize aheadZ a = x at *
  generalize lossZ l = y at *
  have HM1 := Lib.hid (fun w => put16_any none 0 0 [] u w (Bytes.nil w) (by omega) hu.1 hu.2)
  simp only [List.nil_append, Nat.zero_add] at HM1
  have HM2 := Lib.hid (fun (w : World) (g : Nat) (h : Row8 w g 5 (be 2 u)) => put16_any (some ⟨g, 0, none⟩) 2 2 (be 2 u) y w (Row8.whole h (be_range 2 u) 2 (be_length 2 u).symm (by omega)) (by omega) hl.1 hl.2)
  simp only [Nat.reduceAdd] at HM2
  have HB0 : Hid (Below w.heap.size w (w.alloc (.cells #[.int .i64 a, .int .i64 l] 49))) := Lib.hid ((Below.refl w.heap.size w).alloc (Nat.le_refl _) _)
  go_enter Try.func20, Try.ntmps20
  go_wp2_with first
    | (go_at_call 35; (with_reducible refine (HA.out _).mono ?_); rintro e w1 ⟨rfl, rfl⟩)
    | (go_at_call 35; (with_reducible refine (HL.out _).mono ?_); rintro e w1 ⟨rfl, rfl⟩)
    | (go_at_call 23; (with_reducible refine (HM1.out _).mono ?_); rintro e w1 ⟨g1, rfl, hg, hr, hb⟩; have HR1 := Lib.hid hr; have HB1 := Lib.hid hb; clear hg hr hb)
    | (go_at_call 23; (with_reducible refine (HM2.out _ _ HR1.out).mono ?_); rintro e w2 ⟨g2, rfl, hg, hr, hb⟩; have HR2 := Lib.hid hr; have HB2 := Lib.hid hb; clear hg hr hb)
    | fail
  go_ret
  exact ⟨g2, rfl, HR2.out, (HB0.out.trans (HB1.out.mono HB0.out.size)).trans (HB2.out.mono (Nat.le_trans HB0.out.size HB1.out.size))⟩
/-- A word of two bytes, with its sign. -/
def sgn16 (x : Int) : Int := if x < 32768 then x else x - 65536
theorem sgn16_wrap (x : Int) (h0 : 0 ≤ x) (h1 : x ≤ 65535) : IntKind.i16.wrap x = sgn16 x := by
  unfold sgn16
  simp only [IntKind.wrap, IntKind.bits, IntKind.signed]
  simp
  split <;> omega
theorem told_no (a : Option Addr) (n cap : Nat) (w : World) (_ : n ≤ 9223372036854775807) (h : n ≠ 4) :
    Calls Try.prog 21 #[.slice a n cap] w fun e w' => e = .returned (.agg #[.int .i64 0, .int .i64 0]) ∧ Below w.heap.size w w' := by
  have h4 : ¬ (n : Int) = 4 := by omega
  have h5 : ((n : Int) != 4) = true := by simpa using h4
  go_enter Try.func21, Try.ntmps21
  go_wp2
  refine bodyPost_ret (v := .agg #[.int .i64 0, .int .i64 0]) (by simp [results, Try.results21, go_sem]) rfl ?_
  exact ⟨rfl, (Below.refl w.heap.size w).alloc (Nat.le_refl _) _⟩
set_option maxRecDepth 100000 in
theorem told_four (a : Option Addr) (cap : Nat) (l : List Int) (w : World) (hl : Bytes w a 4 l) (hc : 4 ≤ cap) (hm : cap ≤ 9223372036854775807) :
    Calls Try.prog 21 #[.slice a 4 cap] w fun e w' => e = .returned (.agg #[.int .i64 (sgn16 (wordOf (l.take 2))), .int .i64 (wordOf (l.drop 2))]) ∧ Below w.heap.size w w' := by
  rcases hl.cell with g | ⟨_, b, off, rfl, hb, _⟩
  · omega
  have H1 : Hid (∀ w', Below w.heap.size w w' → Calls Try.prog 36 #[.slice (some ⟨b, off, none⟩) 2 cap] w' fun e w'' => e = .returned (.int .u64 (wordOf (l.take 2))) ∧ w' = w'') := Lib.hid (fun w' h => get7_any _ 2 cap _ w' ((hl.front (by omega)).below h (Nat.le_refl _)) (by omega) (by omega) (by omega) hm)
  have H2 : Hid (∀ w', Below w.heap.size w w' → Calls Try.prog 36 #[.slice (some ⟨b, off + 2, none⟩) 2 (cap - 2)] w' fun e w'' => e = .returned (.int .u64 (wordOf (l.drop 2))) ∧ w' = w'') := Lib.hid (fun w' h => get7_any _ 2 (cap - 2) _ w' ((hl.behind (k := 2) (by omega)).below h (Nat.le_refl _)) (by omega) (by omega) (by omega) (by omega))
  have hx := wordOf_bound l 4 (by rw [hl.size]; exact Nat.le_refl _) hl.byte 2 (by omega)
  have hy := wordOf_bound (l.drop 2) 2 (by rw [List.length_drop, hl.size]; exact Nat.le_refl _) (hl.behind (k := 2) (by omega)).byte 2 (by omega)
  rw [List.take_of_length_le (by rw [List.length_drop, hl.size]; exact Nat.le_refl _)] at hy
  generalize wordOf (l.take 2) = x at *
  generalize wordOf (l.drop 2) = y at *
  have q1 := sgn16_wrap x hx.1 (by have := hx.2; omega)
  have q2 : IntKind.i64.wrap (sgn16 x) = sgn16 x := IntWalk.i64_in _ (by unfold sgn16; split <;> omega)
  have q3 : IntKind.i64.wrap y = y := IntWalk.i64_in _ (by have := hy.2; omega)
  have q4 : wrap64 (sgn16 x) = sgn16 x := by unfold wrap64 sgn16; split <;> omega
  have n1 : (4 : Int) ≤ cap := by omega
  have n2 : (cap : Int) ≤ 9223372036854775807 := by omega
  have n3 : ¬ cap = 2 := by omega
  have n4 : (2 : Int) ≤ cap := by omega
  have hb0 : Hid (Below w.heap.size w (w.alloc (.cells #[.int .i64 0, .int .i64 0] 49)).drew) := Lib.hid ((Below.refl w.heap.size w).alloc (Nat.le_refl _) _).drew
  clear hl hx hy
  generalize sgn16 x = s at *
  go_enter Try.func21, Try.ntmps21
  go_wp2
  refine wp_region_still_tail 10 (by kernel_rfl) (by kernel_rfl) ?_
  simp only [List.take_succ_cons, List.take_zero, List.drop_succ_cons, List.drop_zero]
  iterate 2 still_step
  still_call ((H1.out _ hb0.out).mono fun _ _ h => ⟨h.1, h.2.symm⟩)
  iterate 4 still_step
  still_call ((H2.out _ hb0.out).mono fun _ _ h => ⟨h.1, h.2.symm⟩)
  iterate 2 still_step
  refine wpStill_nil ?_
  change wpList _ _ _ _ _ (w.alloc (.cells #[.int .i64 0, .int .i64 0] 49)).drew
  go_wp2
  refine bodyPost_ret (v := .agg #[.int .i64 s, .int .i64 y]) (by simp [results, Try.results21, go_sem]) rfl ?_
  exact ⟨rfl, ((Below.refl w.heap.size w).alloc (Nat.le_refl _) _).drew⟩
end Go.Proofs.Ytfiacpbpfdencaa
