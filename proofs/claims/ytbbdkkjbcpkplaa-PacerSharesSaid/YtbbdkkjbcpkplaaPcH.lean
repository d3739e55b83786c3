/-
  Own text: the law's play, walked: a script's calls. (Written by gen_pch.py.)
-/
import Derived.Test.YtbbdkkjbcpkplaaPcG
import Derived.BigRegion
namespace Go.Proofs.Ytbbdkkjbcpkplaa
open Go.RowKit

theorem Lo.st_at {w : World} {b : Nat} {k : Bk} {W W2 : World} (h : Lo w b k W) (kd x y : Int) (hW : W2 = W.alloc (.cells #[.int .i64 kd, .int .i64 x, .int .i64 y] 38)) : St w b W.heap.size kd x y k k W2 := by rw [hW]; exact h.st kd x y
theorem later {α β : Prop} (h : α → β) (k : α) : β := h k
set_option maxRecDepth 100000 in
set_option maxHeartbeats 4000000 in
theorem played12_yes (r bb : Int) (hok : okB r bb = true) (a : Option Addr) (n c : Nat) (K N V : Nat → Int) (w : World) (ho : Ops w a n K N V) :
    Calls Try.prog 8 #[.int .i64 r, .int .i64 bb, .slice a n c] w fun x W => ∃ b k, x = .returned (.tuple #[.pointer (some ⟨b, 0, none⟩), KV k, .bool true]) ∧ Hid (k.fit 100) ∧ Hid (Fin12 w b k W) := by
  have HO := Lib.hid ho
  have CN := Lib.hid (new12_yes r bb hok)
  have CR := Lib.hid (right_any r bb)
  have HF0 := Lib.hid (Bk.new_fit hok)
  rw [hok] at CR
  clear hok ho
  unfold KV
  go_enter Try.func8, Try.ntmps8
  go_upto_region 2 with fail
  obtain ⟨W, hW⟩ : ∃ W, W = (w.alloc (.cells #[.int .i64 0, .int .i64 0, .int .i64 0, .int .i64 0, .int .i64 0] 26)).alloc (.cells #[.int .i64 0, .int .i64 0, .int .i64 0, .int .i64 0, .int .i64 0] 26) := ⟨_, rfl⟩
  rw [← hW]
  obtain ⟨hs, hb, h0, h1, hl⟩ := Lo.start w r bb hW
  have H1 := Lib.hid h1
  have HL0 := Lib.hid hl
  clear hW hs hb h0 h1 hl
  go_upto_region 7 with (first
    | (go_at_call 15; (with_reducible refine (CN.out _).mono ?_); rintro e w1 ⟨rfl, HK1, HB1⟩)
    | (go_at_call 16; (with_reducible refine (CR.out _).mono ?_); rintro e w2 ⟨rfl, rfl⟩)
    | fail)
  have x1 := H1.out.below HB1.out H1.out.lt
  obtain ⟨d0, d1, d2, d3, d4⟩ := x1.cells
  have f0 := x1.frozen 0
  have f1 := x1.frozen 1
  have f2 := x1.frozen 2
  have HLO := Lib.hid (HL0.out w1 HK1.out HB1.out)
  clear x1 H1 HL0 CN CR HK1 HB1
  go_upto_region 8 with fail
  generalize ((w1.setCell ⟨w.heap.size + 1, 0, none⟩ (.int .i64 r)).setCell ⟨w.heap.size + 1, 1, none⟩ (.int .i64 bb)).setCell ⟨w.heap.size + 1, 2, none⟩ (.int .i64 bb) = W1 at *
  generalize W.heap.size = b at *
  clear d0 d1 d2 d3 d4 f0 f1 f2
  generalize Bk.new r bb = kz at *
  go_wp2
  go_loopw [12] (fun i wr => ∃ (j : Nat) (k : Bk), i = .int .i64 (j : Int) ∧ j ≤ 100 ∧ Hid (k.fit j) ∧ Hid (Lo w b k wr)) (fun i _ => 100 - (intOf i).toNat)
  case atStart => exact ⟨0, kz, rfl, Nat.zero_le _, HF0, HLO⟩
  case round =>
    obtain ⟨j, k, rfl, hj, HF, HL⟩ := hrel
    clear HLO HF0
    obtain ⟨wo, hwo⟩ : ∃ wo, wo = wr := ⟨_, rfl⟩
    subst hwo
    have k2 : (0 : Int) ≤ (j : Int) := by omega
    have k3 : (j : Int) ≤ 100 := by omega
    by_cases hlt : j < n ∧ j < 100
    · obtain ⟨g, off, rfl, hg, hi, c0, c1, c2⟩ := (HO.out.below HL.out.bel (Nat.le_refl _)).at_ hlt.1
      obtain ⟨hi0, hi1, hi2⟩ := hi
      have HI0 := Lib.hid hi0
      have HI1 := Lib.hid hi1
      have HI2 := Lib.hid hi2
      have k1 : (j : Int) < n := by omega
      have k4 : (j : Int) < 100 := by omega
      have HJK : Hid (j + 1 ≤ 100) := Lib.hid (by omega)
      have HJ9 : Hid (j ≤ 1000) := Lib.hid (by omega)
      have HS0 : Hid (∀ W2, W2 = wo.alloc (.cells #[.int .i64 (K j), .int .i64 (N j), .int .i64 (V j)] 38) → St w b wo.heap.size (K j) (N j) (V j) k k W2) := Lib.hid (fun W2 h => HL.out.st_at _ _ _ h)
      have HA := Lib.hid (Bk.act_fit HF.out (K j) (N j) (V j))
      clear hlt hj hg hi0 hi1 hi2
      generalize K j = kd at *
      generalize N j = x at *
      generalize V j = y at *
      go_upto_region 12 with fail
      obtain ⟨W2, hW2⟩ : ∃ W2, W2 = wo.alloc (.cells #[.int .i64 kd, .int .i64 x, .int .i64 y] 38) := ⟨_, rfl⟩
      rw [← hW2]
      have HS := Lib.hid (HS0.out W2 hW2)
      clear hW2 HS0 HL c0 c1 c2
      generalize wo.heap.size = ob at *
      obtain ⟨o0, o1, o2⟩ := HS.out.op.cells
      obtain ⟨d0, d1, d2, d3, d4⟩ := HS.out.doc.cells
      by_cases h0 : kd = 0
      · subst h0
        have CM := Lib.hid (may_st HS.out x)
        have CT := Lib.hid (take_st HF.out HJ9.out HS.out x)
        have HAC : Hid (k.act 0 x y = k.take x) := Lib.hid (by unfold Bk.act; rw [if_pos rfl])
        rw [HAC.out] at HA
        have hmd : k.may x = decide (0 ≤ x ∧ x ≤ k.he) := rfl
        have htd : k.take x = if k.may x = true then ⟨k.ra, k.bu, k.he - x, k.sp + x, k.fu⟩ else k := rfl
        cases hm : k.may x
        · rw [hm] at hmd htd CM CT
          have hmd2 := of_decide_eq_false hmd.symm
          rw [if_neg (by simp)] at htd
          rw [htd] at HA CT
          clear hmd htd hm HAC
          have HQ0 : Hid (∀ w', St w b ob 0 x y k k w' → Calls Try.prog 19 #[.pointer (some ⟨b, 0, none⟩), .agg #[.int .i64 k.ra, .int .i64 k.bu, .int .i64 k.he, .int .i64 k.sp, .int .i64 k.fu]] w' fun e W' => e = .returned (.bool true) ∧ Hid (St w b ob 0 x y k k W')) := Lib.hid (fun w' h => same_st h)
          have hcs : x < 0 ∨ (0 ≤ x ∧ k.he < x) := by omega
          clear hmd2
          rcases hcs with hx | ⟨hx, hx2⟩
          all_goals
            go_wp2_with (first
              | (go_at_call 11; (with_reducible refine (CM.out).mono ?_); rintro e w3 ⟨rfl, rfl⟩)
              | (go_at_call 12; (with_reducible refine (CT.out).mono ?_); rintro e w4 ⟨rfl, HS4⟩; obtain ⟨q0, q1, q2, q3, q4⟩ := HS4.out.doc.cells)
              | (go_at_call 19; (with_reducible refine (HQ0.out _ HS4.out).mono ?_); rintro e w5 ⟨rfl, HS5⟩)
              | fail)
            go_roundw
            case rel => exact ⟨j + 1, k, by go_num, HJK.out, HA, Lib.hid HS5.out.lo⟩
            case measure => simp [intOf] <;> omega
        · rw [hm] at hmd htd CM CT
          obtain ⟨hx, hx2⟩ := of_decide_eq_true hmd.symm
          rw [if_pos rfl] at htd
          have wr1 : IntKind.i64.wrap (k.he - x) = k.he - x := by have := HF.out.h1; have := HF.out.h2; have := HF.out.b2; rw [IntKind.wrap_i64]; omega
          have wr2 : IntKind.i64.wrap (k.sp + x) = k.sp + x := by have := HF.out.h2; have := HF.out.b2; have := HF.out.s1; have := HF.out.s2; rw [IntKind.wrap_i64]; omega
          clear hmd hm HAC
          have HTD := Lib.hid htd
          clear htd
          obtain ⟨k2, hk2⟩ : ∃ k2, k2 = k.take x := ⟨_, rfl⟩
          rw [← hk2] at HTD HA CT
          clear hk2
          go_upto_region 18 with (first
            | (go_at_call 11; (with_reducible refine (CM.out).mono ?_); rintro e w3 ⟨rfl, rfl⟩)
            | (go_at_call 12; (with_reducible refine (CT.out).mono ?_); rintro e w4 ⟨rfl, HS4⟩)
            | fail)
          clear o0 o1 o2 d0 d1 d2 d3 d4
          obtain ⟨o0, o1, o2⟩ := HS4.out.op.cells
          obtain ⟨d0, d1, d2, d3, d4⟩ := HS4.out.doc.cells
          have f2 := HS4.out.doc.frozen 2
          have f3 := HS4.out.doc.frozen 3
          have HQ : Hid (St w b ob 0 x y k2 k2 ((w4.setCell ⟨w.heap.size + 1, 2, none⟩ (.int .i64 (k.he - x))).setCell ⟨w.heap.size + 1, 3, none⟩ (.int .i64 (k.sp + x)))) := Lib.hid (by
            have := (HS4.out.s2 (k.he - x)).s3 (k.sp + x)
            dsimp only at this
            rw [← HTD.out] at this
            exact this)
          go_upto_region 29 with fail
          clear o0 o1 o2 d0 d1 d2 d3 d4 f2 f3 HTD wr1 wr2
          generalize (w4.setCell ⟨w.heap.size + 1, 2, none⟩ (.int .i64 (k.he - x))).setCell ⟨w.heap.size + 1, 3, none⟩ (.int .i64 (k.sp + x)) = W4 at *
          obtain ⟨d0, d1, d2, d3, d4⟩ := HQ.out.doc.cells
          have CS := Lib.hid (same_st HQ.out)
          unfold KV at CS
          go_wp2_with (first
            | (go_at_call 19; (with_reducible refine (CS.out).mono ?_); rintro e w5 ⟨rfl, HS5⟩)
            | fail)
          go_roundw
          case rel => exact ⟨j + 1, k2, by go_num, HJK.out, HA, Lib.hid HS5.out.lo⟩
          case measure => simp [intOf] <;> omega
      by_cases h1 : kd = 1
      · subst h1
        have HAC : Hid (k.act 1 x y = k.tick x) := Lib.hid (by unfold Bk.act; rw [if_neg (by omega), if_pos rfl])
        rw [HAC.out] at HA
        have CT := Lib.hid (tick_st HF.out HS.out x HI1.out)
        obtain ⟨k2, hk2⟩ : ∃ k2, k2 = k.tick x := ⟨_, rfl⟩
        have CRT : Hid (∀ w', St w b ob 1 x y k2 k w' → Calls Try.prog 17 #[.agg #[.int .i64 k.ra, .int .i64 k.bu, .int .i64 k.he, .int .i64 k.sp, .int .i64 k.fu], .int .i64 x] w' fun e W' => e = .returned (.agg #[.int .i64 k2.ra, .int .i64 k2.bu, .int .i64 k2.he, .int .i64 k2.sp, .int .i64 k2.fu]) ∧ Hid (St w b ob 1 x y k2 k W')) := Lib.hid (fun w' h => by
          have := rtick_st HF.out h x HI1.out
          rw [← hk2] at this
          exact this)
        rw [← hk2] at HA CT
        clear hk2 HAC
        go_upto_region 22 with (first
          | (go_at_call 10; (with_reducible refine (CT.out).mono ?_); rintro e w4 ⟨rfl, HS4⟩)
          | fail)
        clear o0 o1 o2 d0 d1 d2 d3 d4
        obtain ⟨o0, o1, o2⟩ := HS4.out.op.cells
        obtain ⟨d0, d1, d2, d3, d4⟩ := HS4.out.doc.cells
        go_upto_region 29 with (first
          | (go_at_call 17; (with_reducible refine (CRT.out _ HS4.out).mono ?_); rintro e w5 ⟨rfl, HS6⟩; obtain ⟨q0, q1, q2, q3, q4⟩ := HS6.out.doc.cells; have f0 := HS6.out.doc.frozen 0; have f1 := HS6.out.doc.frozen 1; have f2 := HS6.out.doc.frozen 2; have f3 := HS6.out.doc.frozen 3; have f4 := HS6.out.doc.frozen 4)
          | fail)
        have HQ := Lib.hid (((((HS6.out.s0 k2.ra).s1 k2.bu).s2 k2.he).s3 k2.sp).s4 k2.fu)
        dsimp only at HQ
        clear o0 o1 o2 d0 d1 d2 d3 d4 q0 q1 q2 q3 q4 f0 f1 f2 f3 f4
        generalize ((((w5.setCell ⟨w.heap.size + 1, 0, none⟩ (.int .i64 k2.ra)).setCell ⟨w.heap.size + 1, 1, none⟩ (.int .i64 k2.bu)).setCell ⟨w.heap.size + 1, 2, none⟩ (.int .i64 k2.he)).setCell ⟨w.heap.size + 1, 3, none⟩ (.int .i64 k2.sp)).setCell ⟨w.heap.size + 1, 4, none⟩ (.int .i64 k2.fu) = W4 at *
        obtain ⟨d0, d1, d2, d3, d4⟩ := HQ.out.doc.cells
        have CS := Lib.hid (same_st HQ.out)
        unfold KV at CS
        go_wp2_with (first
          | (go_at_call 19; (with_reducible refine (CS.out).mono ?_); rintro e w5 ⟨rfl, HS5⟩)
          | fail)
        go_roundw
        case rel => exact ⟨j + 1, k2, by go_num, HJK.out, HA, Lib.hid HS5.out.lo⟩
        case measure => simp [intOf] <;> omega
      by_cases h2 : kd = 2
      · subst h2
        have HAC : Hid (k.act 2 x y = k.change x y) := Lib.hid (by unfold Bk.act; rw [if_neg (by omega), if_neg (by omega), if_pos rfl])
        rw [HAC.out] at HA
        have CRI := Lib.hid (right_any x y)
        have CC := Lib.hid (change_st HS.out x y)
        have htd : k.change x y = if okB x y = true then ⟨x, y, if y < k.he then y else k.he, k.sp, k.fu⟩ else k := rfl
        cases hm : okB x y
        · rw [hm] at htd CRI CC
          rw [if_neg (by simp)] at htd
          rw [htd] at HA CC
          rw [if_neg (by simp)] at CC
          clear htd hm HAC
          go_upto_region 29 with (first
            | (go_at_call 16; (with_reducible refine (CRI.out _).mono ?_); rintro e w3 ⟨rfl, rfl⟩)
            | (go_at_call 18; (with_reducible refine (CC.out).mono ?_); rintro e w4 ⟨rfl, HQ⟩)
            | fail)
          clear o0 o1 o2 d0 d1 d2 d3 d4
          obtain ⟨d0, d1, d2, d3, d4⟩ := HQ.out.doc.cells
          have CS := Lib.hid (same_st HQ.out)
          unfold KV at CS
          go_wp2_with (first
            | (go_at_call 19; (with_reducible refine (CS.out).mono ?_); rintro e w5 ⟨rfl, HS5⟩)
            | fail)
          go_roundw
          case rel => exact ⟨j + 1, k, by go_num, HJK.out, HA, Lib.hid HS5.out.lo⟩
          case measure => simp [intOf] <;> omega
        · rw [hm] at htd CRI CC
          rw [if_pos rfl] at htd CC
          clear hm HAC
          obtain ⟨k2, hk2⟩ : ∃ k2, k2 = k.change x y := ⟨_, rfl⟩
          rw [← hk2] at htd HA CC
          have HT0 := Lib.hid htd
          clear htd
          clear hk2
          go_upto_region 28 with (first
            | (go_at_call 16; (with_reducible refine (CRI.out _).mono ?_); rintro e w3 ⟨rfl, rfl⟩)
            | (go_at_call 18; (with_reducible refine (CC.out).mono ?_); rintro e w4 ⟨rfl, HS4⟩)
            | fail)
          clear o0 o1 o2 d0 d1 d2 d3 d4
          obtain ⟨o0, o1, o2⟩ := HS4.out.op.cells
          obtain ⟨d0, d1, d2, d3, d4⟩ := HS4.out.doc.cells
          have f0 := HS4.out.doc.frozen 0
          have f1 := HS4.out.doc.frozen 1
          have f2 := HS4.out.doc.frozen 2
          have htd := HT0.out
          clear HT0
          by_cases hmin : y < k.he
          · rw [if_pos hmin] at htd
            have HTD := Lib.hid htd
            clear htd
            have HQ : Hid (St w b ob 2 x y k2 k2 (((w4.setCell ⟨w.heap.size + 1, 0, none⟩ (.int .i64 x)).setCell ⟨w.heap.size + 1, 1, none⟩ (.int .i64 y)).setCell ⟨w.heap.size + 1, 2, none⟩ (.int .i64 y)).drew) := Lib.hid (by
              have := ((HS4.out.s0 x).s1 y).s2 y
              dsimp only at this
              rw [← HTD.out] at this
              exact this.below (Below.refl _ _).drew)
            have m1 : (y < k.he) = True := eq_true hmin
            have m2 : (k.he ≤ y) = False := eq_false (by omega)
            have m3 : (k.he < y) = False := eq_false (by omega)
            have m4 : (y ≤ k.he) = True := eq_true (by omega)
            apply later
            case h =>
              intro hl
              go_region
              exact hl
            case k =>
              generalize (((w4.setCell ⟨w.heap.size + 1, 0, none⟩ (.int .i64 x)).setCell ⟨w.heap.size + 1, 1, none⟩ (.int .i64 y)).setCell ⟨w.heap.size + 1, 2, none⟩ (.int .i64 y)).drew = W4 at *
              clear o0 o1 o2 d0 d1 d2 d3 d4 f0 f1 f2
              obtain ⟨d0, d1, d2, d3, d4⟩ := HQ.out.doc.cells
              have CS := Lib.hid (same_st HQ.out)
              unfold KV at CS
              go_wp2_with (first
                | (go_at_call 19; (with_reducible refine (CS.out).mono ?_); rintro e w5 ⟨rfl, HS5⟩)
                | fail)
              go_roundw
              case rel => exact ⟨j + 1, k2, by go_num, HJK.out, HA, Lib.hid HS5.out.lo⟩
              case measure => simp [intOf] <;> omega
          · rw [if_neg hmin] at htd
            have HTD := Lib.hid htd
            clear htd
            have HQ : Hid (St w b ob 2 x y k2 k2 (((w4.setCell ⟨w.heap.size + 1, 0, none⟩ (.int .i64 x)).setCell ⟨w.heap.size + 1, 1, none⟩ (.int .i64 y)).setCell ⟨w.heap.size + 1, 2, none⟩ (.int .i64 k.he)).drew) := Lib.hid (by
              have := ((HS4.out.s0 x).s1 y).s2 k.he
              dsimp only at this
              rw [← HTD.out] at this
              exact this.below (Below.refl _ _).drew)
            have m1 : (y < k.he) = False := eq_false hmin
            have m2 : (k.he ≤ y) = True := eq_true (by omega)
            apply later
            case h =>
              intro hl
              go_region
              exact hl
            case k =>
              generalize (((w4.setCell ⟨w.heap.size + 1, 0, none⟩ (.int .i64 x)).setCell ⟨w.heap.size + 1, 1, none⟩ (.int .i64 y)).setCell ⟨w.heap.size + 1, 2, none⟩ (.int .i64 k.he)).drew = W4 at *
              clear o0 o1 o2 d0 d1 d2 d3 d4 f0 f1 f2
              obtain ⟨d0, d1, d2, d3, d4⟩ := HQ.out.doc.cells
              have CS := Lib.hid (same_st HQ.out)
              unfold KV at CS
              go_wp2_with (first
                | (go_at_call 19; (with_reducible refine (CS.out).mono ?_); rintro e w5 ⟨rfl, HS5⟩)
                | fail)
              go_roundw
              case rel => exact ⟨j + 1, k2, by go_num, HJK.out, HA, Lib.hid HS5.out.lo⟩
              case measure => simp [intOf] <;> omega
      · have e0 : (kd == 0) = false := by simp [h0]
        have e1 : (kd == 1) = false := by simp [h1]
        have e2 : (kd == 2) = false := by simp [h2]
        have HAC : Hid (k.act kd x y = k) := Lib.hid (by unfold Bk.act; rw [if_neg h0, if_neg h1, if_neg h2])
        rw [HAC.out] at HA
        clear h0 h1 h2 HAC
        go_wp2
        go_roundw
        case rel => exact ⟨j + 1, k, by go_num, HJK.out, HA, Lib.hid HS.out.lo⟩
        case measure => simp [intOf] <;> omega
    · have hend : n ≤ j ∨ (j < n ∧ j = 100) := by omega
      have HF9 : Hid (k.fit 100) := Lib.hid (by
        have h := HF.out
        exact ⟨h.r1, h.r2, h.b1, h.b2, h.h1, h.h2, h.s1, by have := h.s2; omega, h.f1, h.f2⟩)
      obtain ⟨d0, d1, d2, d3, d4⟩ := HL.out.doc.cells
      obtain ⟨z0, z1, z2, z3, z4⟩ := HL.out.res.cells
      have f0 := HL.out.res.frozen 0
      have f1 := HL.out.res.frozen 1
      have f2 := HL.out.res.frozen 2
      have f3 := HL.out.res.frozen 3
      have f4 := HL.out.res.frozen 4
      unfold Bk.zero at z0 z1 z2 z3 z4
      dsimp only at z0 z1 z2 z3 z4
      have HFI := Lib.hid HL.out
      clear hlt HL HO hj
      rcases hend with hend | ⟨hend, rfl⟩
      all_goals
        go_upto_region 31 with fail
        go_region
        all_goals
          go_wp2
          refine bodyPost_ret (v := .tuple #[.pointer (some ⟨b, 0, none⟩), .agg #[.int .i64 k.ra, .int .i64 k.bu, .int .i64 k.he, .int .i64 k.sp, .int .i64 k.fu], .bool true]) (by simp [results, Try.results8, go_sem, z0, z1, z2, z3, z4]) rfl ?_
          exact ⟨b, k, rfl, HF9, Lib.hid (HFI.out.fin _ _ _ _ _).drew⟩
end Go.Proofs.Ytbbdkkjbcpkplaa
