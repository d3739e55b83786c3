/-
  Own text: layer 16 (redund): the document's Odds, walked.
-/
import Derived.Test.YtldhlknmabpanaaRuO
import Derived.Deep.OwnRows
namespace Go.Proofs.Ytldhlknmabpanaa
open Go.RowKit

/-- A row of the document: 34 numbers. -/
abbrev Row34 (w : World) (b : Nat) (f : Nat → Int) : Prop := w.rowIs b 3 34 (iv f)
theorem px_doc {l : Int} (n : Nat) (hn : n < 32) (i : Nat) (hi : i < 34) : px (od l n) l 33 i = od l (n + 1) i := by
  unfold px
  have e : od l (n + 1) i = od l n i * l / 65536 + (if i = 0 then 0 else od l n (i - 1) * (65536 - l) / 65536) := by rw [od]
  rw [e]
  by_cases h : i = 0
  · subst h; rfl
  · rw [if_neg h, if_pos (show 1 ≤ i ∧ i ≤ 33 by omega)]
    by_cases h3 : i < 33
    · rw [if_pos h3]
    · rw [if_neg h3, od_far n i (by omega)]; simp
/-- What the inner loop keeps. -/
structure RW (w : World) (B b b2 : Nat) (L M : Nat → Int) (W : World) : Prop where
  old : Row34 W b L
  new : Row34 W b2 M
  bel : Below B w W
theorem RW.drew {w : World} {B b b2 : Nat} {L M : Nat → Int} {W : World} (h : RW w B b b2 L M W) : RW w B b b2 L M W.drew := ⟨h.old.of_block rfl, h.new.of_block rfl, h.bel.drew⟩
theorem RW.set {w : World} {B b b2 : Nat} {L M M' : Nat → Int} {W : World} (h : RW w B b b2 L M W) (hne : b ≠ b2) (hB : B ≤ b2) (j : Nat) (v : Int) (h1 : M' j = v) (h2 : ∀ i, i ≠ j → M' i = M i) : RW w B b b2 L M' (W.setCell ⟨b2, j, none⟩ (.int .i64 v)) :=
  ⟨h.old.setOther (a := ⟨b2, j, none⟩) hne _, (h.new.set j _).congr (fun i _ => by
    by_cases e : i = j
    · rw [if_pos e, e]; unfold iv; rw [h1]
    · rw [if_neg e]; unfold iv; rw [h2 i e]), h.bel.setCell (p := ⟨b2, j, none⟩) hB _⟩
theorem made34 (w : World) : (Instr.makeSlice 44 (.int .i64 34) (.int .i64 34)).run Try.prog w = .ok (.slice (some ⟨w.heap.size, 0, none⟩) 34 34) (w.alloc (.cells (madeCells #[.int .i64 0] 34) 3)) :=
  run_make_row' (P := Try.prog) 44 3 (.int .i64 0) 8 Try.underlying44 (by kernel_rfl) rfl .i64 .i64 34 (by omega) (by omega) w
set_option maxRecDepth 100000 in
set_option maxHeartbeats 1000000 in
theorem rodds_any (s n l : Int) (w : World) :
    Calls Try.prog 14 #[.int .i64 s, .int .i64 n, .int .i64 l] w fun e w' => e = .returned (.int .i64 (odds16 s n l)) ∧ Below w.heap.size w w' := by
  by_cases h0 : s < 0
  · rw [odds16_none (.inl h0)]
    go_enter Try.func14, Try.ntmps14
    go_wp2
    go_ret
    exact ⟨rfl, Below.refl _ _⟩
  by_cases h1 : 32 < s
  · rw [odds16_none (.inr (.inl h1))]
    go_enter Try.func14, Try.ntmps14
    go_wp2
    go_ret
    exact ⟨rfl, Below.refl _ _⟩
  by_cases h2 : s < n
  · rw [odds16_none (.inr (.inr h2))]
    go_enter Try.func14, Try.ntmps14
    go_wp2
    go_ret
    exact ⟨rfl, Below.refl _ _⟩
  rw [odds16_some (by omega) (by omega) (by omega)]
  obtain ⟨S, rfl⟩ : ∃ S : Nat, s = (S : Int) := ⟨s.toNat, by omega⟩
  rw [Int.toNat_natCast]
  have hl := held16_lo l (show (0 : Int) ≤ 65536 by omega)
  have cl := held16_cases l 65536 (by omega)
  generalize held16 l 65536 = lo at *
  have HS : Hid (S ≤ 32) := Lib.hid (by omega)
  have HP := Lib.hid (fun a m => od_part hl.1 hl.2 S a m)
  have HLO := Lib.hid hl
  have HOK : Hid (∀ j, OkR (od lo j)) := Lib.hid (fun j i => ⟨od_lo hl.1 hl.2 j i, od_le hl.1 hl.2 j i⟩)
  have HMK := Lib.hid made34
  clear hl
  go_enter Try.func14, Try.ntmps14
  go_upto_region 3 with fail
  go_cut [2] (fun s2 wx => s2 = .int .i64 lo ∧ Hid (wx = w))
  case first =>
    rcases cl with ⟨g1, rfl⟩ | ⟨g1, g2, rfl⟩ | ⟨g1, g2, rfl⟩ <;> (go_wp2; go_meet; exact ⟨rfl, Lib.hid rfl⟩)
  case rest =>
    obtain ⟨rfl, HWC⟩ := hcut
    obtain rfl := HWC.out
    clear cl HWC
    have mk := HMK.out
    go_upto_region 5 with fail
    obtain ⟨W0, hW0⟩ : ∃ W0, W0 = wc.alloc (.cells (madeCells #[.int .i64 0] 34) 3) := ⟨_, rfl⟩
    have hm0 : Row34 W0 wc.heap.size (fun _ => 0) := by rw [hW0]; exact World.rowIs_made wc (.int .i64 0) 34 3
    have hb0 : Below wc.heap.size wc W0 := by rw [hW0]; exact (Below.refl _ _).alloc (Nat.le_refl _) _
    have HR0 : Hid (Row34 (W0.setCell ⟨wc.heap.size, 0, none⟩ (.int .i64 65536)) wc.heap.size (od lo 0)) := Lib.hid ((hm0.set 0 _).congr (fun i _ => by
      show _ = Value.int .i64 (od lo 0 i)
      unfold od iv
      by_cases e : i = 0
      · rw [if_pos e, if_pos e]
      · rw [if_neg e, if_neg e]))
    have HB0 : Hid (Below wc.heap.size wc (W0.setCell ⟨wc.heap.size, 0, none⟩ (.int .i64 65536))) := Lib.hid (hb0.setCell (p := ⟨wc.heap.size, 0, none⟩) (Nat.le_refl _) _)
    have c0 : W0.cell? ⟨wc.heap.size, 0, none⟩ = some (.int .i64 0) := hm0.cell (by omega)
    have f0 := hm0.frozen 0
    rw [← hW0]
    clear hm0 hb0 hW0
    go_upto_region 6 with fail
    clear c0 f0
    generalize W0.setCell ⟨wc.heap.size, 0, none⟩ (.int .i64 65536) = W1 at *
    obtain ⟨B, hB⟩ : ∃ B, B = wc.heap.size := ⟨_, rfl⟩
    rw [← hB] at HR0 HB0 ⊢
    have HBE := Lib.hid hB
    clear hB
    go_wp2
    go_loopw [8, 7] (fun s8 s7 wr => ∃ (j b : Nat), j ≤ S ∧ s8 = .int .i64 (j : Int) ∧ s7 = .slice (some ⟨b, 0, none⟩) 34 34 ∧ Hid (Row34 wr b (od lo j)) ∧ Hid (B ≤ b ∧ Below B wc wr)) (fun s8 _ _ => S - (intOf s8).toNat)
    case atStart => exact ⟨0, B, Nat.zero_le _, rfl, rfl, HR0, Lib.hid ⟨Nat.le_refl _, HB0.out⟩⟩
    case round =>
      obtain ⟨j, b, hj, rfl, rfl, HR, HBR⟩ := hrel
      clear HR0 HB0
      have k0 : (0 : Int) ≤ (j : Int) := by omega
      have hs1 := HS.out
      by_cases hlt : j < S
      · have k1 : (j : Int) < (S : Int) := by omega
        have k2 : (j : Int) ≤ 32 := by omega
        have HI : Hid (j + 1 ≤ S) := Lib.hid hlt
        have HDM : Hid (S - (j + 1) < S - j) := Lib.hid (by omega)
        have HJ : Hid (j < 32) := Lib.hid (by omega)
        obtain ⟨wo, hwo⟩ : ∃ wo, wo = wr := ⟨_, rfl⟩
        subst hwo
        have hlt2 : b < wo.heap.size := HR.out.lt
        have HW0 : Hid (RW wc B b wo.heap.size (od lo j) (px (od lo j) lo 0) (wo.alloc (.cells (madeCells #[.int .i64 0] 34) 3))) := Lib.hid ⟨HR.out.alloc _, (World.rowIs_made wo (.int .i64 0) 34 3).congr (fun i _ => by unfold iv; rw [px_zero]), HBR.out.2.alloc (by have := HBR.out.1; omega) _⟩
        have HNE : Hid (b ≠ wo.heap.size ∧ B ≤ wo.heap.size) := Lib.hid ⟨by omega, by have := HBR.out.1; omega⟩
        clear hlt hj hlt2
        go_upto_region 10 with fail
        generalize wo.alloc (.cells (madeCells #[.int .i64 0] 34) 3) = W2 at *
        generalize wo.heap.size = b2 at *
        clear mk
        go_wp2
        go_loopw [10] (fun s10 wi => ∃ i : Nat, i ≤ 33 ∧ s10 = .int .i64 (i : Int) ∧ Hid (RW wc B b b2 (od lo j) (px (od lo j) lo i) wi)) (fun s10 _ => 33 - (intOf s10).toNat)
        case atStart => exact ⟨0, Nat.zero_le _, rfl, HW0⟩
        case round =>
          obtain ⟨i, hi, rfl, HW⟩ := hrel
          clear HW0
          have q0 : (0 : Int) ≤ (i : Int) := by omega
          have q3 : (i : Int) ≤ 33 := by omega
          by_cases hlt : i < 33
          · have q1 : (i : Int) < 33 := by omega
            have q2 : i < 34 := by omega
            have q4 : i + 1 < 34 := by omega
            have q5 : (i : Int) < 34 := by omega
            have q6 : (i : Int) + 1 < 34 := by omega
            have q7 : (0 : Int) ≤ (i : Int) + 1 := by omega
            obtain ⟨x0, x1⟩ := HOK.out j i
            obtain ⟨p0, p1⟩ := px_lo (HOK.out j) HLO.out.1 HLO.out.2 i i
            obtain ⟨l0, l1⟩ := HLO.out
            obtain ⟨a0, a1, a2, a3, t1⟩ := part_lo x0 x1 l0 l1
            obtain ⟨d0, d1, d2, d3, t2⟩ := part_lo x0 x1 (show 0 ≤ 65536 - lo by omega) (show 65536 - lo ≤ 65536 by omega)
            have w1 : IntKind.i64.wrap (od lo j i * lo) = od lo j i * lo := by rw [IntKind.wrap_i64]; omega
            have w2 : IntKind.i64.wrap (od lo j i * (65536 - lo)) = od lo j i * (65536 - lo) := by rw [IntKind.wrap_i64]; omega
            have HMA := Lib.hid (mx_at (od lo j) lo i)
            have HMO := Lib.hid (fun k h => (mx_off (od lo j) lo i k h))
            have HPO := Lib.hid (fun k h => (px_off (od lo j) lo i k h))
            have HMN := Lib.hid (mx_next (od lo j) lo i)
            have HI2 : Hid (i + 1 ≤ 33) := Lib.hid hlt
            have HD2 : Hid (33 - (i + 1) < 33 - i) := Lib.hid (by omega)
            have HX : Hid (∀ w', RW wc B b b2 (od lo j) (px (od lo j) lo i) w' → w'.cell? ⟨b, i, none⟩ = some (.int .i64 (od lo j i)) ∧ w'.cell? ⟨b2, i, none⟩ = some (.int .i64 (px (od lo j) lo i i)) ∧ w'.frozen? ⟨b2, i, none⟩ = false) := Lib.hid (fun w' h => ⟨h.old.cell q2, h.new.cell q2, h.new.frozen i⟩)
            have HY : Hid (∀ w', RW wc B b b2 (od lo j) (mx (od lo j) lo i) w' → w'.cell? ⟨b, i, none⟩ = some (.int .i64 (od lo j i)) ∧ w'.cell? ⟨b2, i + 1, none⟩ = some (.int .i64 0) ∧ w'.frozen? ⟨b2, i + 1, none⟩ = false) := Lib.hid (fun w' h => ⟨h.old.cell q2, by
              have : w'.cell? ⟨b2, i + 1, none⟩ = some (iv (mx (od lo j) lo i) (i + 1)) := h.new.cell q4
              rw [this]; unfold iv; rw [HMN.out.1], h.new.frozen (i + 1)⟩)
            have HS1 : Hid (∀ w', RW wc B b b2 (od lo j) (px (od lo j) lo i) w' → RW wc B b b2 (od lo j) (mx (od lo j) lo i) (w'.setCell ⟨b2, i, none⟩ (.int .i64 (px (od lo j) lo i i + od lo j i * lo / 65536)))) := Lib.hid (fun w' h => h.set HNE.out.1 HNE.out.2 i _ HMA.out HMO.out)
            have HS2 : Hid (∀ w', RW wc B b b2 (od lo j) (mx (od lo j) lo i) w' → RW wc B b b2 (od lo j) (px (od lo j) lo (i + 1)) (w'.setCell ⟨b2, i + 1, none⟩ (.int .i64 (od lo j i * (65536 - lo) / 65536)))) := Lib.hid (fun w' h => h.set HNE.out.1 HNE.out.2 (i + 1) _ HMN.out.2 HPO.out)
            clear HMA HMO HPO HMN hi hlt
            generalize od lo j i * lo / 65536 = q1 at *
            generalize od lo j i * (65536 - lo) / 65536 = q2 at *
            generalize px (od lo j) lo i i = pj at *
            generalize od lo j i = x at *
            have v1 : IntKind.i64.wrap (pj + q1) = pj + q1 := by rw [IntKind.wrap_i64]; omega
            have v2 : IntKind.i64.wrap q1 = q1 := by rw [IntKind.wrap_i64]; omega
            have v3 : IntKind.i64.wrap q2 = q2 := by rw [IntKind.wrap_i64]; omega
            have v4 : IntKind.i64.wrap (65536 - lo) = 65536 - lo := by rw [IntKind.wrap_i64]; omega
            have v5 : IntKind.i64.wrap ((i : Int) + 1) = (i : Int) + 1 := by rw [IntKind.wrap_i64]; omega
            clear a0 a1 a2 a3 d0 d1 d2 d3 p0 p1 x0 x1 l0 l1
            go_upto_region 13 with fail
            refine (wpIn_wide (n := 3)).1 ?_
            refine wpIn_grow_take (fun w' => RW wc B b b2 (od lo j) (px (od lo j) lo i) w') HW.out.drew 15 rfl (by kernel_rfl) (by kernel_rfl) (by kernel_rfl) ?_
            simp only [List.take_succ_cons, List.take_zero, List.drop_succ_cons, List.drop_zero]
            iterate 5 (refine wpQuietIn_step (fun _ _ _ _ => trivial) (fun K hK => ?_); go_simp; refine ⟨_, fun _ _ => rfl, hK _ ?_⟩; clear hK K)
            refine wpQuietIn_read (.int .i64 pj) (fun _ _ _ _ => trivial) rfl (fun w' hw => ?_) ?_
            · obtain ⟨c0, c1, _⟩ := HX.out w' hw
              unfold Oper.quietAtIn
              go_simp
            simp only [Act.put, List.setIfInBounds_toArray, List.set_cons_zero, List.set_cons_succ]
            iterate 3 (refine wpQuietIn_step (fun _ _ _ _ => trivial) (fun K hK => ?_); go_simp; refine ⟨_, fun _ _ => rfl, hK _ ?_⟩; clear hK K)
            refine wpQuietIn_read (.int .i64 x) (fun _ _ _ _ => trivial) rfl (fun w' hw => ?_) ?_
            · obtain ⟨c0, c1, _⟩ := HX.out w' hw
              unfold Oper.quietAtIn
              go_simp
            simp only [Act.put, List.setIfInBounds_toArray, List.set_cons_zero, List.set_cons_succ]
            iterate 5 (refine wpQuietIn_step (fun _ _ _ _ => trivial) (fun K hK => ?_); go_simp; refine ⟨_, fun _ _ => rfl, hK _ ?_⟩; clear hK K)
            refine wpQuietIn_nil ?_
            rintro w3 hw3
            have HW3 := Lib.hid hw3
            obtain ⟨_, c1, f1⟩ := HX.out w3 hw3
            have HW4 := Lib.hid (HS1.out w3 hw3)
            clear hw3 HW HX HS1
            gi_wp2
            clear c1 f1
            generalize w3.setCell ⟨b2, i, none⟩ (.int .i64 (pj + q1)) = w4 at *
            refine (wpIn_wide (n := 3)).1 ?_
            refine wpIn_grow_take (fun w' => RW wc B b b2 (od lo j) (mx (od lo j) lo i) w') HW4.out.drew 18 rfl (by kernel_rfl) (by kernel_rfl) (by kernel_rfl) ?_
            simp only [List.take_succ_cons, List.take_zero, List.drop_succ_cons, List.drop_zero]
            iterate 7 (refine wpQuietIn_step (fun _ _ _ _ => trivial) (fun K hK => ?_); go_simp; refine ⟨_, fun _ _ => rfl, hK _ ?_⟩; clear hK K)
            refine wpQuietIn_read (.int .i64 0) (fun _ _ _ _ => trivial) rfl (fun w' hw => ?_) ?_
            · obtain ⟨c0, c1, _⟩ := HY.out w' hw
              unfold Oper.quietAtIn
              go_simp
            simp only [Act.put, List.setIfInBounds_toArray, List.set_cons_zero, List.set_cons_succ]
            iterate 3 (refine wpQuietIn_step (fun _ _ _ _ => trivial) (fun K hK => ?_); go_simp; refine ⟨_, fun _ _ => rfl, hK _ ?_⟩; clear hK K)
            refine wpQuietIn_read (.int .i64 x) (fun _ _ _ _ => trivial) rfl (fun w' hw => ?_) ?_
            · obtain ⟨c0, c1, _⟩ := HY.out w' hw
              unfold Oper.quietAtIn
              go_simp
            simp only [Act.put, List.setIfInBounds_toArray, List.set_cons_zero, List.set_cons_succ]
            iterate 6 (refine wpQuietIn_step (fun _ _ _ _ => trivial) (fun K hK => ?_); go_simp; refine ⟨_, fun _ _ => rfl, hK _ ?_⟩; clear hK K)
            refine wpQuietIn_nil ?_
            rintro w5 hw5
            obtain ⟨_, c1, f1⟩ := HY.out w5 hw5
            have HW6 := Lib.hid (HS2.out w5 hw5)
            clear hw5 HW4 HW3 HY HS2
            gi_wp2
            go_wp2
            go_roundw
            case rel => exact ⟨i + 1, HI2.out, by go_num, HW6⟩
            case measure => have := HD2.out; simp [intOf] <;> omega
          · obtain rfl : i = 33 := by omega
            clear hlt hi
            have HRN : Hid (Row34 wr b2 (od lo (j + 1))) := Lib.hid (HW.out.new.congr (fun k hk => by unfold iv; rw [px_doc j HJ.out k hk]))
            go_wp2
            go_roundw
            case rel => exact ⟨j + 1, b2, HI.out, by go_num, rfl, HRN, Lib.hid ⟨HNE.out.2, HW.out.bel⟩⟩
            case measure => have := HDM.out; simp [intOf] <;> omega
      · obtain rfl : j = S := by omega
        have hp0 := HP.out n 33
        have HT34 : Hid (tl16 (od lo j) n 34 = tl16 (od lo j) n 33) := Lib.hid (by rw [tl16_step, od_far j 33 (by omega)]; split <;> omega)
        have HTS : Hid (∀ i : Nat, tl16 (od lo j) n (i + 1) = tl16 (od lo j) n i + (if n ≤ (i : Int) then od lo j i else 0)) := Lib.hid (fun i => tl16_step _ _ _)
        clear hlt hj mk hp0
        go_wp2
        go_loopw [11, 12] (fun s11 s12 wi => ∃ i : Nat, i ≤ 34 ∧ s12 = .int .i64 (i : Int) ∧ s11 = .int .i64 (tl16 (od lo j) n i) ∧ Hid (wi = wr)) (fun _ s12 _ => 34 - (intOf s12).toNat)
        case atStart => exact ⟨0, Nat.zero_le _, rfl, rfl, Lib.hid rfl⟩
        case round =>
          obtain ⟨i, hi, rfl, rfl, HW⟩ := hrel
          obtain rfl := HW.out
          have q0 : (0 : Int) ≤ (i : Int) := by omega
          have q3 : (i : Int) ≤ 34 := by omega
          by_cases hlt : i < 34
          · have q1 : (i : Int) < 34 := by omega
            have HSI := Lib.hid (HTS.out i)
            have HI : Hid (i + 1 ≤ 34) := Lib.hid hlt
            have HDM : Hid (34 - (i + 1) < 34 - i) := Lib.hid (by omega)
            by_cases hg : n ≤ (i : Int)
            · have c0 : wr.cell? ⟨b, i, none⟩ = some (.int .i64 (od lo j i)) := HR.out.cell hlt
              obtain ⟨x0, x1⟩ := HP.out n i
              obtain ⟨y0, y1⟩ := HP.out n (i + 1)
              rw [if_pos hg] at HSI
              have w1 : IntKind.i64.wrap (tl16 (od lo j) n i + od lo j i) = tl16 (od lo j) n i + od lo j i := by rw [← HSI.out, IntKind.wrap_i64]; omega
              clear x0 x1 y0 y1 hlt hi HTS
              generalize tl16 (od lo j) n i = x at *
              generalize od lo j i = y at *
              go_wp2
              go_roundw
              case rel => exact ⟨i + 1, HI.out, by go_num, by rw [HSI.out], by first | exact Lib.hid trivial | exact Lib.hid rfl⟩
              case measure => have := HDM.out; simp [intOf] <;> omega
            · rw [if_neg hg, Int.add_zero] at HSI
              clear hlt hi HTS
              go_wp2
              go_roundw
              case rel => exact ⟨i + 1, HI.out, by go_num, by rw [HSI.out], by first | exact Lib.hid trivial | exact Lib.hid rfl⟩
              case measure => have := HDM.out; simp [intOf] <;> omega
          · obtain rfl : i = 34 := by omega
            obtain ⟨y0, y1⟩ := HP.out n 34
            clear hlt hi HTS
            go_wp2
            go_ret
            exact ⟨ret_int HT34.out, by rw [← HBE.out]; exact HBR.out.2⟩
end Go.Proofs.Ytldhlknmabpanaa
