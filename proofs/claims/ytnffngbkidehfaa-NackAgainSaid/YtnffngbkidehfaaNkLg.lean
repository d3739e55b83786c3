/-
  Own text: law NackAgain, walked.
-/
import Derived.Test.YtnffngbkidehfaaNkLf
namespace Go.Proofs.Ytnffngbkidehfaa.Nk
open Go.RowKit

/-- Between two ticks: the code's list, the call's box. -/
structure Ag (w : World) (B b s m : Nat) (kd no tk fo : Int) (M : Nl) (W : World) : Prop where
  nf : NF W B b s m M
  op : OpB W w.heap.size kd no tk fo
  bel : Below w.heap.size w W
theorem Ag.below {w W W' : World} {B b s m : Nat} {kd no tk fo : Int} {M : Nl} (h : Ag w B b s m kd no tk fo M W) (hb : Below W.heap.size W W') : Ag w B b s m kd no tk fo M W' :=
  ⟨h.nf.below hb (Nat.le_refl _), (hb.block _ h.op.lt).trans h.op, h.bel.trans (hb.mono h.bel.size)⟩
theorem Ag.went {w W W' : World} {B b s m : Nat} {kd no tk fo : Int} {M M' : Nl} (h : Ag w B b s m kd no tk fo M W) (hB : w.heap.size < B) (hn : NF W' B b s m M') (hb : Below B W W') : Ag w B b s m kd no tk fo M' W' :=
  ⟨hn, (hb.block _ hB).trans h.op, h.bel.trans (hb.mono (Nat.le_of_lt hB))⟩
theorem told_next {no : Int} {L : List Int} {k : Nat} {tl : Bool} (h : tl = true ↔ no ∈ L.take k) (hk : k < L.length) : (tl || (L.getD k 0 == no)) = true ↔ no ∈ L.take (k + 1) := by
  rw [List.take_add_one, List.getElem?_eq_getElem hk, Bool.or_eq_true, h, List.mem_append, List.getD_eq_getElem?_getD, List.getElem?_eq_getElem hk]
  simp only [Option.getD_some, beq_iff_eq, Option.toList_some, List.mem_singleton]
  exact ⟨fun h => h.imp id Eq.symm, fun h => h.imp id Eq.symm⟩
set_option maxRecDepth 100000 in
set_option maxHeartbeats 1000000 in
theorem again19_walk (room : Int) (a : Option Addr) (n c : Nat) (kd no tk fo : Int) (w : World) (hp : True → In19 w a n) (hno : 0 ≤ no ∧ no ≤ 4294967295) :
    Calls Try.prog 7 #[.int .i64 room, .slice a n c, .agg #[.int .i64 kd, .int .u32 no, .int .i64 tk, .int .i64 fo]] w fun e W => e = .returned (.bool true) ∧ Below w.heap.size w W := by
  have HNO := Lib.hid hno
  have hb0 : Below w.heap.size w (w.alloc (.cells #[.int .i64 kd, .int .u32 no, .int .i64 tk, .int .i64 fo] 67)) := (Below.refl _ _).alloc (Nat.le_refl _) _
  have hs0 : (w.alloc (.cells #[.int .i64 kd, .int .u32 no, .int .i64 tk, .int .i64 fo] 67)).heap.size = w.heap.size + 1 := by simp
  have ho0 : OpB (w.alloc (.cells #[.int .i64 kd, .int .u32 no, .int .i64 tk, .int .i64 fo] 67)) w.heap.size kd no tk fo := Go.Deep.blk_alloc_new w _
  by_cases hroom : room < 1 ∨ 64 < room
  · have CP := Lib.hid (fun w1 (hb : Below w.heap.size w w1) => played19_bad room hroom a n c w1)
    have HB0 := Lib.hid hb0
    clear hp hroom hno hb0 hs0 ho0
    go_enter Try.func7, Try.ntmps7
    go_upto_region 1 with fail
    generalize w.alloc (.cells #[.int .i64 kd, .int .u32 no, .int .i64 tk, .int .i64 fo] 67) = w0 at *
    go_wp2_with (first
      | (go_at_call 21; (with_reducible refine (awake19_any _).mono ?_); rintro e w1 ⟨rfl, hb1⟩; have HB1 := Lib.hid (HB0.out.trans (hb1.mono HB0.out.size)); clear hb1)
      | (go_at_call 22; (with_reducible refine (CP.out _ HB1.out).mono ?_); rintro e w2 ⟨rfl, hb2⟩; have HB2 := Lib.hid (HB1.out.trans (hb2.mono HB1.out.size)); clear hb2)
      | fail)
    go_ret
    exact ⟨rfl, HB2.out.trans (((Below.refl _ _).alloc (Nat.le_refl _) _).mono HB2.out.size)⟩
  · obtain ⟨r, rfl⟩ : ∃ r : Nat, room = r := ⟨room.toNat, by omega⟩
    have CP := Lib.hid (fun w1 (hb : Below w.heap.size w w1) => played19_good r (by omega) (by omega) a n c w1 ((hp trivial).below hb))
    have H0 := Lib.hid (And.intro hb0 (And.intro hs0 ho0))
    clear hp hroom hno hb0 hs0 ho0
    go_enter Try.func7, Try.ntmps7
    go_upto_region 1 with fail
    generalize w.alloc (.cells #[.int .i64 kd, .int .u32 no, .int .i64 tk, .int .i64 fo] 67) = w0 at *
    go_upto_region 4 with (first
      | (go_at_call 21; (with_reducible refine (awake19_any _).mono ?_); rintro e w1 ⟨rfl, hb1⟩; have HB1 := Lib.hid (And.intro hb1 (H0.out.1.trans (hb1.mono H0.out.1.size))); clear hb1)
      | (go_at_call 22; (with_reducible refine (CP.out _ HB1.out.2).mono ?_); rintro e w2 ⟨b, s, m, N, A2, C2, rfl, HF, HN⟩)
      | fail)
    obtain ⟨w3, hw3⟩ : ∃ w3, w3 = w2.alloc (.cells #[.int .i64 (r : Int), .int .i64 (N.asked : Int), .int .i64 (N.full : Int), .slice A2 N.q.l.length C2] 62) := ⟨_, rfl⟩
    have HN3 : Hid (Ag w w1.heap.size b s m kd no tk fo N w3 ∧ DBx w3 w2.heap.size (r : Int) (N.asked : Int) (N.full : Int) (.slice A2 N.q.l.length C2) ∧ DL w3 w1.heap.size A2 N.q.l.length C2 N.ref ∧ w.heap.size < w1.heap.size) := by
      subst hw3
      have hb : Below w2.heap.size w2 (w2.alloc (.cells #[.int .i64 (r : Int), .int .i64 (N.asked : Int), .int .i64 (N.full : Int), .slice A2 N.q.l.length C2] 62)) := (Below.refl _ _).alloc (Nat.le_refl _) _
      have h12 := HB1.out.2.trans (HN.out.bel.mono HB1.out.2.size)
      have hsz : w.heap.size < w1.heap.size := by have := HB1.out.1.size; have := H0.out.2.1; omega
      have o1 : OpB w1 w.heap.size kd no tk fo := (HB1.out.1.block _ (by have := H0.out.2.1; omega)).trans H0.out.2.2
      have o2 : OpB w2 w.heap.size kd no tk fo := (HN.out.bel.block _ hsz).trans o1
      exact Lib.hid ⟨⟨HN.out.nf.below hb (Nat.le_refl _), (hb.block _ o2.lt).trans o2, h12.trans (hb.mono h12.size)⟩, DBx.new _ _ _ _ _, HN.out.dl.below hb (Nat.le_refl _), hsz⟩
    rw [← hw3]
    obtain ⟨o0, o1, o2, o3⟩ := HN3.out.1.op.cells
    obtain ⟨d0, d1, d2, d3⟩ := DBx.cells HN3.out.2.1
    have CRH := Lib.hid (rnhas_any no N 3600 HF.out.1 w1.heap.size A2 C2 w3 HN3.out.2.2.1)
    unfold NV at CRH
    rw [HF.out.2] at CRH
    have HB3 := Lib.hid HN3.out.1.bel
    clear hw3 CP HN HB1 H0
    by_cases t1 : tk < 1
    · go_wp2_with fail
      go_ret
      exact ⟨rfl, HB3.out⟩
    by_cases t2 : 4 < tk
    · go_wp2_with fail
      go_ret
      exact ⟨rfl, HB3.out⟩
    cases hhas : N.has no with
    | true =>
      rw [hhas] at CRH
      go_wp2_with (first
        | (go_at_call 23; (with_reducible refine (CRH.out).mono ?_); rintro e w4 ⟨rfl, hb4⟩)
        | fail)
      go_ret
      exact ⟨rfl, HB3.out.trans (hb4.mono HB3.out.size)⟩
    | false =>
      rw [hhas] at CRH
      go_upto_region 6 with (first
        | (go_at_call 23; (with_reducible refine (CRH.out).mono ?_); rintro e w4 ⟨rfl, hb4⟩)
        | fail)
      have HN4 := Lib.hid (And.intro (HN3.out.1.below hb4) (And.intro (DBx.below HN3.out.2.1 hb4 (DBx.lt HN3.out.2.1)) HN3.out.2.2.2))
      have HHAS := Lib.hid hhas
      have CW := Lib.hid (wait_from no tk HNO.out w1.heap.size b s m N 3600 HF.out.1 (by omega) w4 HN4.out.1.nf)
      clear o0 o1 o2 o3 d0 d1 d2 d3 CRH HN3 HB3 hb4 hhas
      obtain ⟨o0, o1, o2, o3⟩ := HN4.out.1.op.cells
      go_upto_region 7 with (first
        | (go_at_call 24; (with_reducible refine (CW.out).mono ?_); rintro e w5 ⟨rfl, H5⟩)
        | fail)
      have hx5 : DBx w5 w2.heap.size (r : Int) (N.asked : Int) (N.full : Int) (.slice A2 N.q.l.length C2) := HN4.out.2.1.keep (H5.out.2.2 _ _ _ HN4.out.2.1 (by decide) (by decide) (by decide))
      have HA5 := Lib.hid (HN4.out.1.went HN4.out.2.2 H5.out.1 H5.out.2.1)
      have HSZ := Lib.hid HN4.out.2.2
      obtain ⟨d0, d1, d2, d3⟩ := DBx.cells hx5
      clear o0 o1 o2 o3 HN4 H5 CW hx5
      generalize w1.heap.size = B at *
      have HTK : Hid (1 ≤ tk ∧ tk ≤ 4) := Lib.hid ⟨by omega, by omega⟩
      have hlen : N.q.l.length ≤ 64 := by have := HF.out.1.q.len; have := HF.out.1.room; omega
      by_cases hfull : (r : Int) ≤ (N.q.l.length : Int)
      · have CH := Lib.hid (has_from no HNO.out B b s m (N.wait no tk) w5 HA5.out.nf)
        rw [Nl.wait_full HF.out.1 HHAS.out (by have := HF.out.2; omega)] at CH
        obtain ⟨o0, o1, o2, o3⟩ := HA5.out.op.cells
        go_wp2_with (first
          | (go_at_call 25; (with_reducible refine (CH.out).mono ?_); rintro e w7 ⟨rfl, rfl⟩)
          | fail)
        go_ret
        exact ⟨rfl, HA5.out.bel⟩
      · have HG := Lib.hid (Agn.new HF.out.1 HHAS.out (by have := HF.out.2; omega) HTK.out.1 HTK.out.2)
        have HF5 := Lib.hid (Nl.wait_fit (t := tk) HF.out.1 HNO.out)
        generalize N.wait no tk = M0 at *
        have t3 : ¬ 32 * tk < 0 := by omega
        have t4 : (1 : Int) ≤ 32 * tk ∧ 32 * tk ≤ 128 := by omega
        go_wp2
        clear d0 d1 d2 d3 hlen
        go_loopw [10, 11, 12] (fun v10 v11 v12 wr => ∃ (i last gap : Nat) (M : Nl), v10 = .int .i64 (last : Int) ∧ v11 = .int .i64 (gap : Int) ∧ v12 = .int .i64 (i : Int) ∧ 1 ≤ i ∧ i ≤ 401 ∧ Hid (M.fit (3600 + i)) ∧ Hid (Agn no tk M i last gap) ∧ Hid (Ag w B b s m kd no tk fo M wr)) (fun _ _ v12 _ => 401 - (intOf v12).toNat)
        case atStart => exact ⟨1, 0, 0, M0, rfl, rfl, rfl, by omega, by omega, HF5, HG, HA5⟩
        case round =>
          clear HF5 HG HA5
          obtain ⟨i, last, gap, M, rfl, rfl, rfl, hi1, hi2, HFM, HG, HA⟩ := hrel
          obtain ⟨wo, hwo⟩ : ∃ wo, wo = wr := ⟨_, rfl⟩
          subst hwo
          obtain ⟨o0, o1, o2, o3⟩ := HA.out.op.cells
          by_cases hlt : i ≤ 400
          · have i1 : (i : Int) ≤ 400 := by omega
            have i2 : (1 : Int) ≤ (i : Int) := by omega
            have hb : 3600 + i ≤ 1000000 := by omega
            have i3 : (last : Int) < (i : Int) := by have := HG.out.seen; omega
            have CT := Lib.hid (tick_from tk B b s m M (3600 + i) HFM.out hb wo HA.out.nf)
            have HFT : Hid ((M.tick tk).fit (3600 + (i + 1))) := Lib.hid (Nl.tick_fit HFM.out hb)
            have HNX := Lib.hid (HG.out.next HTK.out.1 HTK.out.2 HFM.out hb)
            have hl : (M.q.came 1).length ≤ 1000 := by
              have h1 := (Nl.mid HFM.out hb).len
              have h2 := HFM.out.room
              have e0 : (M.q.tick 1).room = M.q.room := rfl
              dsimp only at h1
              omega
            generalize M.tick tk = M2 at *
            generalize M.q.came 1 = L at *
            have i4 : (L.length : Int) ≤ 1000 := by omega
            have HI : Hid (i ≤ 400 ∧ 1 ≤ i) := Lib.hid ⟨hlt, hi1⟩
            clear hb hlt hi1 hi2 hl
            go_wp2_with (first
              | (go_at_call 26; (with_reducible refine (CT.out).mono ?_); rintro e w6 ⟨A3, C3, rfl, HO, H6⟩)
              | fail)
            have HA6 := Lib.hid (HA.out.went HSZ.out H6.out.1 H6.out.2.1)
            clear CT H6 HFM HG HA o0 o1 o2 o3
            go_loopw [14, 15] (fun v14 v15 wr => ∃ (k : Nat) (tl : Bool), v14 = .bool tl ∧ v15 = .int .i64 (k : Int) ∧ k ≤ L.length ∧ Hid (tl = true ↔ no ∈ L.take k) ∧ Hid (Below w6.heap.size w6 wr)) (fun _ v15 _ => L.length - (intOf v15).toNat)
            case atStart => exact ⟨0, false, rfl, rfl, Nat.zero_le _, Lib.hid (by simp), Lib.hid (Below.refl _ _)⟩
            case round =>
              obtain ⟨k, tl, rfl, rfl, hk, HTL, HB6⟩ := hrel
              by_cases hk2 : k < L.length
              · obtain ⟨g, rfl, _, _, c0, f0, _⟩ := (HO.out.below HB6.out (Nat.le_refl _)).at_ k hk2
                obtain ⟨o0, o1, o2, o3⟩ := (HA6.out.below HB6.out).op.cells
                have i5 : (k : Int) < (L.length : Int) := by omega
                have HT2 := Lib.hid (told_next HTL.out hk2)
                generalize L.getD k 0 = z at *
                have HK := Lib.hid hk2
                clear hk hk2
                cases tl with
                | true =>
                  go_upto_region 18 with fail
                  go_quiet (fail)
                  go_wp2
                  go_roundw
                  case rel => exact ⟨k + 1, _, rfl, by go_num, HK.out, HT2, Lib.hid (below_drewN HB6.out _)⟩
                  case measure => simp [intOf] <;> (have := HK.out; omega)
                | false =>
                  go_upto_region 18 with fail
                  go_quiet (fail)
                  go_wp2
                  go_roundw
                  case rel => exact ⟨k + 1, _, rfl, by go_num, HK.out, HT2, Lib.hid (below_drewN HB6.out _)⟩
                  case measure => simp [intOf] <;> (have := HK.out; omega)
              · obtain rfl : k = L.length := by omega
                have HA7 := Lib.hid (HA6.out.below HB6.out)
                obtain ⟨o0, o1, o2, o3⟩ := HA7.out.op.cells
                have htl := HTL.out
                rw [List.take_length] at htl
                clear HTL HB6 HA6 hk hk2 HO i4
                cases tl with
                | true =>
                  obtain ⟨q1, q2⟩ := HNX.out.1 (htl.1 rfl)
                  have i6 : ¬ (i : Int) - (last : Int) < (gap : Int) := by omega
                  have i7 : (i : Int) - (last : Int) = ((i - last : Nat) : Int) := by omega
                  have HQ1 := Lib.hid q1
                  clear q1 q2 htl HNX
                  go_wp2
                  go_roundw
                  case rel => exact ⟨i + 1, i, i - last, M2, rfl, by rw [← i7], by go_num, by omega, by (have := HI.out; omega), HFT, HQ1, HA7⟩
                  case measure => simp [intOf] <;> (have := HI.out; omega)
                | false =>
                  obtain ⟨q1, q2⟩ := HNX.out.2 (fun h => by have := htl.2 h; cases this)
                  have HQ1 := Lib.hid q1
                  clear q1 htl HNX
                  go_wp2
                  go_roundw
                  case rel => exact ⟨i + 1, last, gap, M2, rfl, rfl, by go_num, by omega, by (have := HI.out; omega), HFT, HQ1, HA7⟩
                  case measure => simp [intOf] <;> (have := HI.out; omega)
          · obtain rfl : i = 401 := by omega
            have CH := Lib.hid (has_from no HNO.out B b s m M wo HA.out.nf)
            rw [HG.out.has] at CH
            have i1 : 0 < last := HG.out.last_pos HTK.out.1 HTK.out.2
            have i2 : (0 : Int) < (last : Int) := by omega
            go_wp2_with (first
              | (go_at_call 25; (with_reducible refine (CH.out).mono ?_); rintro e w7 ⟨rfl, rfl⟩)
              | fail)
            go_ret
            exact ⟨rfl, HA.out.bel⟩
end Go.Proofs.Ytnffngbkidehfaa.Nk
