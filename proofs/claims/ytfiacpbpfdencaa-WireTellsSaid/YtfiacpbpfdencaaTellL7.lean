/-
  Own text: the law WireTells, walked.
-/
import Derived.Test.YtfiacpbpfdencaaTold7
import Derived.Test.YtfiacpbpfdencaaAwake7
import Derived.Test.YtfiacpbpfdencaaByteC
import Derived.BigRegion
import Derived.Deep.DeepCutAuto
namespace Go.Proofs.Ytfiacpbpfdencaa
open Go.RowKit

theorem rbytes_two (z : Int) (w : World) (hz0 : 0 ≤ z) (hz : z ≤ 65535) :
    Calls Try.prog 22 #[.int .u64 z, .int .i64 2] w fun e w' => e = .returned (.slice (some ⟨w.heap.size, 0, none⟩) 2 2) ∧ Row8 w' w.heap.size 5 (be 2 z) ∧ Below w.heap.size w w' := by
  have HB : Hid (∀ C : Array Value, C = ((be 2 z).map (Value.int .u8)).toArray → Row8 (w.alloc (.cells C 5)) w.heap.size 5 (be 2 z) ∧ Below w.heap.size w (w.alloc (.cells C 5))) := Lib.hid (fun C h =>
    ⟨by unfold Row8; rw [Go.Deep.blk_alloc_new, h], (Below.refl w.heap.size w).alloc (Nat.le_refl _) _⟩)
  rw [be_two] at *
  have hmk : ∀ w : World, (Instr.makeSlice 23 (.int .i64 2) (.int .i64 2)).run Try.prog w = .ok (.slice (some ⟨w.heap.size, 0, none⟩) 2 2) (w.alloc (.cells #[.int .u8 0, .int .u8 0] 5)) := fun _ => by kernel_rfl
  go_enter Try.func22, Try.ntmps22
  go_wp2
  refine wp_loop_rounds 3 ?_
  iterate 3 (rw [rounds_succ]; go_wp2)
  go_ret
  exact ⟨rfl, HB.out _ (by simp)⟩
theorem sgn_up (x : Int) (h0 : -32768 ≤ x) (h1 : x ≤ 32767) : sgn16 (up16 x) = x := by unfold sgn16 up16; split <;> omega
theorem up_sgn (x : Int) (h0 : 0 ≤ x) (h1 : x ≤ 65535) : up16 (sgn16 x) = x := by unfold sgn16 up16; split <;> omega
theorem clamp_in (n l h : Int) (h1 : l ≤ n) (h2 : n ≤ h) : clampZ n l h = n := by
  unfold clampZ
  rw [if_neg (by omega), if_neg (by omega), Int.min_eq_left h2]
theorem sgn_range (x : Int) (h0 : 0 ≤ x) (h1 : x ≤ 65535) : -32768 ≤ sgn16 x ∧ sgn16 x ≤ 32767 := by unfold sgn16; split <;> omega
theorem be_word (l : List Int) (h : l.length = 2) (hb : ∀ z ∈ l, 0 ≤ z ∧ z ≤ 255) : be 2 (wordOf l) = l := by
  match l, h with
  | [x, y], _ =>
    have hx := hb x (by simp)
    have hy := hb y (by simp)
    rw [be_two]
    simp [wordOf]
    omega
theorem clamp_minmax (a l h : Int) (hlh : l ≤ h) : clampZ a l h = min (max a l) h := by
  unfold clampZ
  rw [if_neg (show ¬ h < l by omega)]
  split
  · rw [Int.max_eq_right (by omega), Int.min_eq_left hlh]
  · rw [Int.max_eq_left (by omega)]
/-- What is told of an ack's bytes is what they were made of, held. -/
theorem told_back (a l : Int) : sgn16 (wordOf ((qualL a l).take 2)) = aheadZ a ∧ wordOf ((qualL a l).drop 2) = lossZ l ∧ (qualL a l).length = 4 ∧ ∀ z ∈ qualL a l, 0 ≤ z ∧ z ≤ 255 := by
  have h1 := ahead_range a
  have h2 := loss_range l
  have hu : 0 ≤ up16 (aheadZ a) ∧ up16 (aheadZ a) ≤ 65535 := by unfold up16; omega
  unfold qualL
  refine ⟨?_, ?_, by rw [List.length_append, be_length, be_length], ?_⟩
  · rw [List.take_append_of_le_length (by rw [be_length]; exact Nat.le_refl _), List.take_of_length_le (by rw [be_length]; exact Nat.le_refl _), word_two _ hu.1 hu.2, sgn_up _ h1.1 h1.2]
  · rw [List.drop_append_of_le_length (by rw [be_length]; exact Nat.le_refl _), List.drop_of_length_le (by rw [be_length]; exact Nat.le_refl _), List.nil_append, word_two _ h2.1 h2.2]
  · intro z hz
    rcases List.mem_append.1 hz with h | h <;> exact be_range _ _ z h
/-- What was told is made into the same bytes again. -/
theorem made_back (d : List Int) (h : d.length = 4) (hb : ∀ z ∈ d, 0 ≤ z ∧ z ≤ 255) : qualL (sgn16 (wordOf (d.take 2))) (wordOf (d.drop 2)) = d := by
  have l1 : (d.take 2).length = 2 := by rw [List.length_take, h]; rfl
  have l2 : (d.drop 2).length = 2 := by rw [List.length_drop, h]
  have b1 : ∀ z ∈ d.take 2, 0 ≤ z ∧ z ≤ 255 := fun z hz => hb z (List.mem_of_mem_take hz)
  have b2 : ∀ z ∈ d.drop 2, 0 ≤ z ∧ z ≤ 255 := fun z hz => hb z (List.mem_of_mem_drop hz)
  have w1 : ∀ x : List Int, x.length = 2 → (∀ z ∈ x, 0 ≤ z ∧ z ≤ 255) → 0 ≤ wordOf x ∧ wordOf x ≤ 65535 := fun x hx hxb => by
    match x, hx with
    | [p, q], _ =>
      have hp := hxb p (by simp)
      have hq := hxb q (by simp)
      simp [wordOf]
      omega
  have r1 := w1 _ l1 b1
  have r2 := w1 _ l2 b2
  have s1 := sgn_range _ r1.1 r1.2
  unfold qualL aheadZ lossZ
  rw [clamp_in _ _ _ s1.1 s1.2, clamp_in _ _ _ r2.1 r2.2, up_sgn _ r1.1 r1.2, be_word _ l1 b1, be_word _ l2 b2, List.take_append_drop]
theorem eq_zeroQ (w : World) : (binOp .eql 49 (.agg #[.int .i64 0, .int .i64 0]) (.agg #[.int .i64 0, .int .i64 0])).run Try.prog w = .ok (.bool true) w := by kernel_rfl
set_option maxRecDepth 100000 in
set_option maxHeartbeats 4000000 in
theorem tells7_walk (a lq : Int) (da : Option Addr) (n cap : Nat) (zs : List Int) (w : World) (h : IsRow .u8 w da n cap zs) :
    Calls Try.prog 8 #[.agg #[.int .i64 a, .int .i64 lq], .slice da n cap] w fun e w' => e = .returned (.bool true) ∧ Below w.heap.size w w' := by
  have hbd := h.bound
  have HL := Lib.hid h.bytes
  generalize zs.take n = l at *
  have HAW := Lib.hid (fun w => awake7_any w)
  clear h
  have HQ := Lib.hid (fun w => qbytes_any a lq w)
  obtain ⟨tb1, tb2, tb3, tb4⟩ := told_back a lq
  have HTB := Lib.hid (And.intro tb1 (And.intro tb2 (And.intro tb3 tb4)))
  clear tb1 tb2 tb3 tb4
  have hx := ahead_range a
  have hy := loss_range lq
  have HXM : Hid (aheadZ a = min (max a (-32768)) 32767) := Lib.hid (clamp_minmax _ _ _ (by omega))
  have HYM : Hid (lossZ lq = min (max lq 0) 65535) := Lib.hid (clamp_minmax _ _ _ (by omega))
  have HUP : Hid (qualL a lq = be 2 (up16 (aheadZ a)) ++ be 2 (lossZ lq)) := Lib.hid rfl
  generalize qualL a lq = P at *
  generalize hX : aheadZ a = X at *
  generalize hY : lossZ lq = Y at *
  clear hX hY
  go_enter Try.func8, Try.ntmps8
  go_upto_region 1 with fail
  have HB0 : Hid (Below w.heap.size w (w.alloc (.cells #[.int .i64 a, .int .i64 lq] 49))) := Lib.hid ((Below.refl w.heap.size w).alloc (Nat.le_refl _) _)
  have HCE : Hid (w.heap.size < (w.alloc (.cells #[.int .i64 a, .int .i64 lq] 49)).heap.size ∧ (w.alloc (.cells #[.int .i64 a, .int .i64 lq] 49)).cell? ⟨w.heap.size, 0, none⟩ = some (.int .i64 a) ∧ (w.alloc (.cells #[.int .i64 a, .int .i64 lq] 49)).cell? ⟨w.heap.size, 1, none⟩ = some (.int .i64 lq)) := Lib.hid (by
    have h := Go.Deep.blk_alloc_new w (.cells #[.int .i64 a, .int .i64 lq] 49)
    refine ⟨by simp, ?_, ?_⟩ <;> (simp only [World.cell?, h]; rfl))
  generalize (w.alloc (.cells #[.int .i64 a, .int .i64 lq] 49)) = w0 at *
  go_upto_region 6 with first
    | (go_at_call 9; refine (HAW.out _).mono ?_; rintro e w1 ⟨rfl, hb⟩; have C1 := Lib.hid hb; clear hb; have c0 := (C1.out.cell (p := ⟨w.heap.size, 0, none⟩) HCE.out.1).trans HCE.out.2.1; have c1 := (C1.out.cell (p := ⟨w.heap.size, 1, none⟩) HCE.out.1).trans HCE.out.2.2)
    | (go_at_call 20; refine (HQ.out _).mono ?_; rintro e w2 ⟨g, rfl, hr, hb⟩; have HP2 := Lib.hid (Row8.whole hr HTB.out.2.2.2 4 HTB.out.2.2.1.symm (by omega)); have C2 := Lib.hid (C1.out.trans (hb.mono C1.out.size)); clear hb hr c0 c1; have c0 := (C2.out.cell (p := ⟨w.heap.size, 0, none⟩) HCE.out.1).trans HCE.out.2.1; have c1 := (C2.out.cell (p := ⟨w.heap.size, 1, none⟩) HCE.out.1).trans HCE.out.2.2)
    | fail
  go_cut [6, 7] (fun s u wx => s = .int .i64 X ∧ u = .int .i64 Y ∧ Hid (Below w0.heap.size w0 wx ∧ Bytes wx (some ⟨g, 0, none⟩) 4 P))
  case first =>
    have HF : Hid (Below w0.heap.size w0 w2.drew ∧ Bytes w2.drew (some ⟨g, 0, none⟩) 4 P) := Lib.hid ⟨C2.out.drew, HP2.out.drew⟩
    -- CASES
    have HXC : Hid ((a < -32768 ∧ X = -32768) ∨ (¬ a < -32768 ∧ ¬ 32767 < a ∧ a = X) ∨ (32767 < a ∧ X = 32767)) := Lib.hid (by rw [HXM.out]; omega)
    have HYC : Hid ((lq < 0 ∧ Y = 0) ∨ (¬ lq < 0 ∧ ¬ 65535 < lq ∧ lq = Y) ∨ (65535 < lq ∧ Y = 65535)) := Lib.hid (by rw [HYM.out]; omega)
    clear HTB HUP HXM HYM hx hy C1 C2 HP2 HQ HAW HL hbd HCE HB0
    rcases HXC.out with ⟨k1, e1⟩ | ⟨k1, k2, e1⟩ | ⟨k1, e1⟩
    all_goals rcases HYC.out with ⟨k3, e3⟩ | ⟨k3, k4, e3⟩ | ⟨k3, e3⟩
    all_goals clear HXC HYC
    all_goals subst e1 e3
    · have m0 : (((a : Int) < -32768) = True) := eq_true (by omega)
      have m1 : (((-32768 : Int) ≤ a) = False) := eq_false (by omega)
      have m2 : (((32767 : Int) < a) = False) := eq_false (by omega)
      have m3 : (((a : Int) ≤ 32767) = True) := eq_true (by omega)
      have m4 : (((lq : Int) < 0) = True) := eq_true (by omega)
      have m5 : (((0 : Int) ≤ lq) = False) := eq_false (by omega)
      have m6 : (((65535 : Int) < lq) = False) := eq_false (by omega)
      have m7 : (((lq : Int) ≤ 65535) = True) := eq_true (by omega)
      go_region
      all_goals
        go_wp2_with fail
        go_meet
        exact ⟨rfl, rfl, HF⟩
    · have m0 : (((a : Int) < -32768) = True) := eq_true (by omega)
      have m1 : (((-32768 : Int) ≤ a) = False) := eq_false (by omega)
      have m2 : (((32767 : Int) < a) = False) := eq_false (by omega)
      have m3 : (((a : Int) ≤ 32767) = True) := eq_true (by omega)
      have m4 : (((lq : Int) < 0) = False) := eq_false (by omega)
      have m5 : (((0 : Int) ≤ lq) = True) := eq_true (by omega)
      have m6 : (((65535 : Int) < lq) = False) := eq_false (by omega)
      have m7 : (((lq : Int) ≤ 65535) = True) := eq_true (by omega)
      go_region
      all_goals
        go_wp2_with fail
        go_meet
        exact ⟨rfl, rfl, HF⟩
    · have m0 : (((a : Int) < -32768) = True) := eq_true (by omega)
      have m1 : (((-32768 : Int) ≤ a) = False) := eq_false (by omega)
      have m2 : (((32767 : Int) < a) = False) := eq_false (by omega)
      have m3 : (((a : Int) ≤ 32767) = True) := eq_true (by omega)
      have m4 : (((lq : Int) < 0) = False) := eq_false (by omega)
      have m5 : (((0 : Int) ≤ lq) = True) := eq_true (by omega)
      have m6 : (((65535 : Int) < lq) = True) := eq_true (by omega)
      have m7 : (((lq : Int) ≤ 65535) = False) := eq_false (by omega)
      go_region
      all_goals
        go_wp2_with fail
        go_meet
        exact ⟨rfl, rfl, HF⟩
    · have m0 : (((a : Int) < -32768) = False) := eq_false (by omega)
      have m1 : (((-32768 : Int) ≤ a) = True) := eq_true (by omega)
      have m2 : (((32767 : Int) < a) = False) := eq_false (by omega)
      have m3 : (((a : Int) ≤ 32767) = True) := eq_true (by omega)
      have m4 : (((lq : Int) < 0) = True) := eq_true (by omega)
      have m5 : (((0 : Int) ≤ lq) = False) := eq_false (by omega)
      have m6 : (((65535 : Int) < lq) = False) := eq_false (by omega)
      have m7 : (((lq : Int) ≤ 65535) = True) := eq_true (by omega)
      go_region
      all_goals
        go_wp2_with fail
        go_meet
        exact ⟨rfl, rfl, HF⟩
    · have m0 : (((a : Int) < -32768) = False) := eq_false (by omega)
      have m1 : (((-32768 : Int) ≤ a) = True) := eq_true (by omega)
      have m2 : (((32767 : Int) < a) = False) := eq_false (by omega)
      have m3 : (((a : Int) ≤ 32767) = True) := eq_true (by omega)
      have m4 : (((lq : Int) < 0) = False) := eq_false (by omega)
      have m5 : (((0 : Int) ≤ lq) = True) := eq_true (by omega)
      have m6 : (((65535 : Int) < lq) = False) := eq_false (by omega)
      have m7 : (((lq : Int) ≤ 65535) = True) := eq_true (by omega)
      go_region
      all_goals
        go_wp2_with fail
        go_meet
        exact ⟨rfl, rfl, HF⟩
    · have m0 : (((a : Int) < -32768) = False) := eq_false (by omega)
      have m1 : (((-32768 : Int) ≤ a) = True) := eq_true (by omega)
      have m2 : (((32767 : Int) < a) = False) := eq_false (by omega)
      have m3 : (((a : Int) ≤ 32767) = True) := eq_true (by omega)
      have m4 : (((lq : Int) < 0) = False) := eq_false (by omega)
      have m5 : (((0 : Int) ≤ lq) = True) := eq_true (by omega)
      have m6 : (((65535 : Int) < lq) = True) := eq_true (by omega)
      have m7 : (((lq : Int) ≤ 65535) = False) := eq_false (by omega)
      go_region
      all_goals
        go_wp2_with fail
        go_meet
        exact ⟨rfl, rfl, HF⟩
    · have m0 : (((a : Int) < -32768) = False) := eq_false (by omega)
      have m1 : (((-32768 : Int) ≤ a) = True) := eq_true (by omega)
      have m2 : (((32767 : Int) < a) = True) := eq_true (by omega)
      have m3 : (((a : Int) ≤ 32767) = False) := eq_false (by omega)
      have m4 : (((lq : Int) < 0) = True) := eq_true (by omega)
      have m5 : (((0 : Int) ≤ lq) = False) := eq_false (by omega)
      have m6 : (((65535 : Int) < lq) = False) := eq_false (by omega)
      have m7 : (((lq : Int) ≤ 65535) = True) := eq_true (by omega)
      go_region
      all_goals
        go_wp2_with fail
        go_meet
        exact ⟨rfl, rfl, HF⟩
    · have m0 : (((a : Int) < -32768) = False) := eq_false (by omega)
      have m1 : (((-32768 : Int) ≤ a) = True) := eq_true (by omega)
      have m2 : (((32767 : Int) < a) = True) := eq_true (by omega)
      have m3 : (((a : Int) ≤ 32767) = False) := eq_false (by omega)
      have m4 : (((lq : Int) < 0) = False) := eq_false (by omega)
      have m5 : (((0 : Int) ≤ lq) = True) := eq_true (by omega)
      have m6 : (((65535 : Int) < lq) = False) := eq_false (by omega)
      have m7 : (((lq : Int) ≤ 65535) = True) := eq_true (by omega)
      go_region
      all_goals
        go_wp2_with fail
        go_meet
        exact ⟨rfl, rfl, HF⟩
    · have m0 : (((a : Int) < -32768) = False) := eq_false (by omega)
      have m1 : (((-32768 : Int) ≤ a) = True) := eq_true (by omega)
      have m2 : (((32767 : Int) < a) = True) := eq_true (by omega)
      have m3 : (((a : Int) ≤ 32767) = False) := eq_false (by omega)
      have m4 : (((lq : Int) < 0) = False) := eq_false (by omega)
      have m5 : (((0 : Int) ≤ lq) = True) := eq_true (by omega)
      have m6 : (((65535 : Int) < lq) = True) := eq_true (by omega)
      have m7 : (((lq : Int) ≤ 65535) = False) := eq_false (by omega)
      go_region
      all_goals
        go_wp2_with fail
        go_meet
        exact ⟨rfl, rfl, HF⟩
  case rest =>
    obtain ⟨rfl, rfl, HW⟩ := hcut
    have C3 := Lib.hid HW.out.1
    have HP3 := Lib.hid HW.out.2
    clear HW c0 c1 C2 HP2 C1
    generalize wc = w3 at *
    have HT4 := Lib.hid (fun (w : World) (h : Bytes w (some ⟨g, 0, none⟩) 4 P) => told_four (some ⟨g, 0, none⟩) 4 P w h (Nat.le_refl _) (by omega))
    rw [HTB.out.1, HTB.out.2.1] at HT4
    have hu : 0 ≤ up16 X ∧ up16 X ≤ 65535 := by unfold up16; omega
    have HU1 : Hid (X < 0 → X + 65536 = up16 X) := Lib.hid (fun h => by unfold up16; omega)
    have HU2 : Hid (¬ X < 0 → X = up16 X) := Lib.hid (fun h => by unfold up16; omega)
    generalize up16 X = u at *
    have HSAME := Lib.hid (fun (A : Option Addr) (C : Nat) (w : World) (h : Bytes w (some ⟨g, 0, none⟩) 4 P) (h2 : Bytes w A 4 P) => same_true (some ⟨g, 0, none⟩) A 4 4 4 C P w h h2)
    have HR1 := Lib.hid (fun w => rbytes_two u w hu.1 hu.2)
    have HR2 := Lib.hid (fun w => rbytes_two Y w hy.1 hy.2)
    have hx3 : Hid (-32768 ≤ X ∧ X ≤ 32767) := Lib.hid hx
    go_upto_region 8 with first
      | (go_at_call 21; refine (HT4.out _ HP3.out).mono ?_; rintro e w4 ⟨rfl, hb⟩; have HB4 := Lib.hid hb; clear hb)
      | fail
    have hxy := Go.Deep.blk_alloc_new w4 (.cells #[.int .i64 X, .int .i64 Y] 49)
    have z0 : (w4.alloc (.cells #[.int .i64 X, .int .i64 Y] 49)).cell? ⟨w4.heap.size, 0, none⟩ = some (.int .i64 X) := by simp only [World.cell?, hxy]; rfl
    have z1 : (w4.alloc (.cells #[.int .i64 X, .int .i64 Y] 49)).cell? ⟨w4.heap.size, 1, none⟩ = some (.int .i64 Y) := by simp only [World.cell?, hxy]; rfl
    have C5 : Hid (Below w0.heap.size w0 (w4.alloc (.cells #[.int .i64 X, .int .i64 Y] 49))) := Lib.hid ((C3.out.trans (HB4.out.mono C3.out.size)).alloc (Nat.le_trans C3.out.size HB4.out.size) _)
    have HP5 : Hid (Bytes (w4.alloc (.cells #[.int .i64 X, .int .i64 Y] 49)) (some ⟨g, 0, none⟩) 4 P) := Lib.hid (HP3.out.below (HB4.out.alloc HB4.out.size _) (Nat.le_refl _))
    clear hxy HB4 HP3 C3 HT4
    generalize (w4.alloc (.cells #[.int .i64 X, .int .i64 Y] 49)) = w5 at *
    go_upto_region 10 with fail
    clear z0 z1
    have HN4 : Hid (2 + 2 ≤ 1000000) := Lib.hid (by omega)
    have HOW : Hid (∀ w6 w7 : World, Row8 w6 w5.heap.size 5 (be 2 u) → Below w5.heap.size w5 w6 → Row8 w7 w6.heap.size 5 (be 2 Y) → Below w6.heap.size w6 w7 → Own8 w7 w5.heap.size (.slice (some ⟨w5.heap.size, 0, none⟩) 2 2) 2 (be 2 u) ∧ Bytes w7 (some ⟨w6.heap.size, 0, none⟩) 2 (be 2 Y) ∧ Below w5.heap.size w5 w7) := Lib.hid (fun w6 w7 h1 h2 h3 h4 =>
      ⟨Own8.row (h1.below h4 h1.lt) (Nat.le_refl _) (be_length 2 u) (by unfold maxLen; omega), Row8.whole h3 (be_range 2 Y) 2 (be_length 2 Y).symm (by omega), h2.trans (h4.mono h2.size)⟩)
    have HPB : Hid (∀ z ∈ be 2 u ++ be 2 Y, 0 ≤ z ∧ z ≤ 255) := Lib.hid (fun z hz => (List.mem_append.1 hz).elim (be_range 2 u z) (be_range 2 Y z))
    have HNB := Lib.hid hbd
    clear hbd
    by_cases hneg : X < 0
    case' pos => have hu1 : X + 65536 = u := HU1.out (by omega)
    case' neg => obtain rfl : X = u := HU2.out (by omega)
    all_goals
      clear HU1 HU2
      go_upto_region 14 with first
        | (go_at_call 22; (with_reducible refine (HR1.out w5).mono ?_); rintro e w6 ⟨rfl, hr6, hb6⟩)
        | (go_at_call 22; (with_reducible refine (HR2.out w6).mono ?_); rintro e w7 ⟨rfl, hr7, hb7⟩; have H7 := Lib.hid (HOW.out _ _ hr6 hb6 hr7 hb7); clear hr6 hb6 hr7 hb7)
        | (with_reducible refine wpList_append_bytes rfl (.tmp 44) (.tmp 47) rfl w5.heap.size (some ⟨w5.heap.size, 0, none⟩) 2 2 rfl (be 2 _) H7.out.1 (some ⟨w6.heap.size, 0, none⟩) 2 2 rfl (be 2 Y) H7.out.2.1 (fun h => nomatch h) HN4.out w5.heap.size w5 H7.out.2.2 (Nat.le_refl _) H7.out.2.2.size 4 rfl _ rfl ?_; intro A8 C8 w8 HO8 hb8; have HB8 := Lib.hid hb8; clear hb8)
        | (go_at_call 14; refine (HSAME.out A8 C8 _ (HP5.out.below HB8.out (Nat.le_refl _)) (HUP.out ▸ Own8.bytes HO8.out HPB.out)).mono ?_; rintro e w9 ⟨rfl, hb⟩; have C9 := Lib.hid ((C5.out.trans (HB8.out.mono C5.out.size)).trans (hb.mono (Nat.le_trans C5.out.size HB8.out.size))); clear hb)
        | fail
      clear HOW HPB HR1 HR2 HSAME H7 HO8 HB8 HP5 C5
      have CW := Lib.hid (HB0.out.trans (C9.out.mono HB0.out.size))
      by_cases hn4 : n = 4
      · subst hn4
        have HT5 := Lib.hid (told_four da cap l w9 (HL.out.below CW.out (Nat.le_refl _)) HNB.out.1 HNB.out.2)
        have HMB := Lib.hid (made_back l HL.out.size HL.out.range)
        generalize sgn16 (wordOf (l.take 2)) = s at *
        generalize wordOf (l.drop 2) = y at *
        have HQ5 := Lib.hid (fun w => qbytes_any s y w)
        rw [HMB.out] at HQ5
        have HLR := Lib.hid HL.out.range
        have HLS := Lib.hid HL.out.size
        go_wp2_with first
          | (go_at_call 21; refine HT5.out.mono ?_; rintro e wa ⟨rfl, hb⟩; have CA := Lib.hid (CW.out.trans (hb.mono CW.out.size)); clear hb)
          | (go_at_call 20; refine (HQ5.out _).mono ?_; rintro e wb ⟨g9, rfl, hr, hb⟩; have HR9 := Lib.hid (Row8.whole hr HLR.out 4 HLS.out.symm (by omega)); have CB := Lib.hid ((CA.out.alloc CA.out.size _).trans (hb.mono (CA.out.alloc CA.out.size _).size)); clear hr hb)
          | (go_at_call 14; refine (same_true (some ⟨g9, 0, none⟩) da 4 4 4 cap l _ HR9.out (HL.out.below CB.out (Nat.le_refl _))).mono ?_; rintro e wc2 ⟨rfl, hb⟩; have CC := Lib.hid (CB.out.trans (hb.mono CB.out.size)); clear hb)
          | fail
        go_ret
        exact ⟨rfl, CC.out⟩
      · have hnb : ((n : Int) != 4) = true := by simp; omega
        have heq := eq_zeroQ
        have HT5 := Lib.hid (told_no da n cap w9 HL.out.max hn4)
        go_wp2_with first
          | (go_at_call 21; refine HT5.out.mono ?_; rintro e wa ⟨rfl, hb⟩; have CA := Lib.hid (CW.out.trans (hb.mono CW.out.size)); clear hb)
          | fail
        go_ret
        exact ⟨rfl, CA.out.alloc CA.out.size _⟩
theorem tells7_in (a lq : Int) (da : Option Addr) (n cap : Nat) (zs : List Int) (w : World) (_ : (Lit.int .i64 a).wf = true) (_ : (Lit.int .i64 lq).wf = true) (h : IsRow .u8 w da n cap zs) :
    Calls Try.prog 8 #[.agg #[.int .i64 a, .int .i64 lq], .slice da n cap] w fun e w' => e = .returned (.bool true) ∧ Below w.heap.size w w' :=
  tells7_walk a lq da n cap zs w h
end Go.Proofs.Ytfiacpbpfdencaa
