/-
  Own text: law NackPlays, walked; law NackRooms, walked.
-/
import Derived.Test.YtnffngbkidehfaaNkLe
namespace Go.Proofs.Ytnffngbkidehfaa.Nk
open Go.RowKit

/-- What came in of a script. -/
def In19 (w : World) (a : Option Addr) (n : Nat) : Prop := ∃ K No Tk Fo, Ops19 w a n K No Tk Fo
theorem In19.below {w w' : World} {a : Option Addr} {n : Nat} (h : In19 w a n) (hb : Below w.heap.size w w') : In19 w' a n := by
  obtain ⟨K, No, Tk, Fo, h2⟩ := h
  exact ⟨K, No, Tk, Fo, h2.below hb (Nat.le_refl _)⟩
theorem played19_good (room : Nat) (hr1 : 1 ≤ room) (hr2 : room ≤ 64) (a : Option Addr) (n c : Nat) (w : World) (ho : In19 w a n) :
    Calls Try.prog 22 #[.int .i64 (room : Int), .slice a n c] w fun x W => ∃ b s m N A2 C2, x = .returned (.tuple #[.pointer (some ⟨b, 0, none⟩), .agg #[.int .i64 (room : Int), .int .i64 (N.asked : Int), .int .i64 (N.full : Int), .slice A2 N.q.l.length C2], .bool true]) ∧ Hid (N.fit 3600 ∧ N.q.room = room) ∧ Hid (Fin19 w b s m N A2 C2 W) := by
  obtain ⟨K, No, Tk, Fo, h2⟩ := ho
  refine (played19_any room hr1 hr2 a n c K No Tk Fo w h2).mono ?_
  rintro x W ⟨b, s, m, N, A2, C2, rfl, HF, HN⟩
  refine ⟨b, s, m, N, A2, C2, ?_, HF, HN⟩
  unfold NV
  rw [HF.out.2]
theorem played19_all (room : Int) (a : Option Addr) (n c : Nat) (w : World) (ho : In19 w a n) :
    Calls Try.prog 22 #[.int .i64 room, .slice a n c] w fun x W => ∃ p y z A2 n2 C2, x = .returned (.tuple #[.pointer p, .agg #[.int .i64 room, .int .i64 y, .int .i64 z, .slice A2 n2 C2], .bool true]) ∧ Below w.heap.size w W := by
  by_cases h : room < 1 ∨ 64 < room
  · exact (played19_bad room h a n c w).mono fun x W hh => ⟨none, 0, 0, none, 0, 0, hh.1, hh.2⟩
  · obtain ⟨r, rfl⟩ : ∃ r : Nat, room = r := ⟨room.toNat, by omega⟩
    refine (played19_good r (by omega) (by omega) a n c w ho).mono ?_
    rintro x W ⟨b, s, m, N, A2, C2, rfl, HF, HN⟩
    exact ⟨_, _, _, _, _, _, rfl, HN.out.bel⟩
set_option maxRecDepth 100000 in
theorem plays19_walk (room : Int) (a : Option Addr) (n c : Nat) (w : World) (hp : True → In19 w a n) :
    Calls Try.prog 6 #[.int .i64 room, .slice a n c] w fun e W => e = .returned (.bool true) ∧ Below w.heap.size w W := by
  have CP := Lib.hid (fun w1 (hb : Below w.heap.size w w1) => played19_all room a n c w1 ((hp trivial).below hb))
  clear hp
  go_enter Try.func6, Try.ntmps6
  go_wp2_with (first
    | (go_at_call 21; (with_reducible refine (awake19_any _).mono ?_); rintro e w1 ⟨rfl, hb1⟩; have HB1 := Lib.hid hb1; clear hb1)
    | (go_at_call 22; (with_reducible refine (CP.out _ HB1.out).mono ?_); rintro e w2 ⟨p, y, z, A2, n2, C2, rfl, hb2⟩; have HB2 := Lib.hid (HB1.out.trans (hb2.mono HB1.out.size)); clear hb2)
    | fail)
  go_ret
  exact ⟨rfl, HB2.out.trans (((Below.refl _ _).alloc (Nat.le_refl _) _).mono HB2.out.size)⟩
set_option maxRecDepth 100000 in
theorem rooms19_walk (room : Int) (a : Option Addr) (n c : Nat) (no : Int) (w : World) (hp : True → In19 w a n) (hno : 0 ≤ no ∧ no ≤ 4294967295) :
    Calls Try.prog 8 #[.int .i64 room, .slice a n c, .int .u32 no] w fun e W => e = .returned (.bool true) ∧ Below w.heap.size w W := by
  have HNO := Lib.hid hno
  by_cases hroom : room < 1 ∨ 64 < room
  · have CP := Lib.hid (fun w1 (hb : Below w.heap.size w w1) => played19_bad room hroom a n c w1)
    clear hp hroom hno
    go_enter Try.func8, Try.ntmps8
    go_wp2_with (first
      | (go_at_call 21; (with_reducible refine (awake19_any _).mono ?_); rintro e w1 ⟨rfl, hb1⟩; have HB1 := Lib.hid hb1; clear hb1)
      | (go_at_call 22; (with_reducible refine (CP.out _ HB1.out).mono ?_); rintro e w2 ⟨rfl, hb2⟩; have HB2 := Lib.hid (HB1.out.trans (hb2.mono HB1.out.size)); clear hb2)
      | fail)
    go_ret
    exact ⟨rfl, HB2.out.trans (((Below.refl _ _).alloc (Nat.le_refl _) _).mono HB2.out.size)⟩
  · obtain ⟨r, rfl⟩ : ∃ r : Nat, room = r := ⟨room.toNat, by omega⟩
    have CP := Lib.hid (fun w1 (hb : Below w.heap.size w w1) => played19_good r (by omega) (by omega) a n c w1 ((hp trivial).below hb))
    clear hp hroom hno
    go_enter Try.func8, Try.ntmps8
    go_upto_region 4 with (first
      | (go_at_call 21; (with_reducible refine (awake19_any _).mono ?_); rintro e w1 ⟨rfl, hb1⟩; have HB1 := Lib.hid hb1; clear hb1)
      | (go_at_call 22; (with_reducible refine (CP.out _ HB1.out).mono ?_); rintro e w2 ⟨b, s, m, N, A2, C2, rfl, HF, HN⟩)
      | fail)
    obtain ⟨w3, hw3⟩ : ∃ w3, w3 = w2.alloc (.cells #[.int .i64 (r : Int), .int .i64 (N.asked : Int), .int .i64 (N.full : Int), .slice A2 N.q.l.length C2] 62) := ⟨_, rfl⟩
    have HN3 : Hid (NF w3 w1.heap.size b s m N ∧ Below w.heap.size w w3) := by
      subst hw3
      have hb : Below w2.heap.size w2 (w2.alloc (.cells #[.int .i64 (r : Int), .int .i64 (N.asked : Int), .int .i64 (N.full : Int), .slice A2 N.q.l.length C2] 62)) := (Below.refl _ _).alloc (Nat.le_refl _) _
      have h12 := HB1.out.trans (HN.out.bel.mono HB1.out.size)
      exact Lib.hid ⟨HN.out.nf.below hb (Nat.le_refl _), h12.trans (hb.mono h12.size)⟩
    rw [← hw3]
    have HSZ := Lib.hid HB1.out.size
    have i1 : ¬ (r : Int) < (N.q.l.length : Int) := by have := HF.out.1.q.len; have := HF.out.2; omega
    have CL := Lib.hid (len_from w1.heap.size b s m N w3 HN3.out.1)
    have CS := Lib.hid (stop_from no HNO.out w1.heap.size b s m N 3600 HF.out.1 w3 HN3.out.1)
    have HS : Hid ((N.stop no).fit 3600 ∧ (N.stop no).has no = false) := Lib.hid ⟨by rw [Nl.stop_strike HF.out.1]; exact Nl.strike_fit HF.out.1 _, Nl.stop_has HF.out.1 no⟩
    generalize N.stop no = M0 at *
    clear hw3 CP
    go_wp2_with (first
      | (go_at_call 27; (with_reducible refine (CL.out).mono ?_); rintro e w4 ⟨rfl, rfl⟩)
      | (go_at_call 28; (with_reducible refine (CS.out).mono ?_); rintro e w5 ⟨rfl, H5⟩)
      | fail)
    have H6 : Hid (NF w5 w1.heap.size b s m M0 ∧ Below w.heap.size w w5) := Lib.hid ⟨H5.out.1, HN3.out.2.trans (H5.out.2.1.mono HSZ.out)⟩
    clear H5 HN HF HN3 CL CS HB1
    generalize w1.heap.size = B at *
    go_loopw [10] (fun i wr => ∃ (j : Nat) (M : Nl), i = .int .i64 (j : Int) ∧ j ≤ 300 ∧ Hid (M.fit (3600 + j) ∧ M.has no = false) ∧ Hid (NF wr B b s m M ∧ Below w.heap.size w wr)) (fun i _ => 300 - (intOf i).toNat)
    case atStart => exact ⟨0, M0, rfl, by omega, HS, H6⟩
    case round =>
      clear HS H6
      obtain ⟨j, M, rfl, hj, HF, HM⟩ := hrel
      obtain ⟨wo, hwo⟩ : ∃ wo, wo = wr := ⟨_, rfl⟩
      subst hwo
      by_cases hlt : j < 300
      · have i2 : (j : Int) < 300 := by omega
        have hb : 3600 + j ≤ 1000000 := by omega
        have CT := Lib.hid (tick_from 3 B b s m M (3600 + j) HF.out.1 hb wo HM.out.1)
        have HT : Hid ((M.tick 3).fit (3600 + (j + 1)) ∧ (M.tick 3).has no = false) := Lib.hid ⟨Nl.tick_fit HF.out.1 hb, (Nl.tick_has 3 HF.out.1 hb no).trans HF.out.2⟩
        have HC := Lib.hid (Nl.came_not HF.out.1 hb HF.out.2)
        generalize M.tick 3 = M2 at *
        have hl : (M.q.came 1).length ≤ 1000 := by
          have h1 := (Nl.mid HF.out.1 hb).len
          have h2 := HF.out.1.room
          have e0 : (M.q.tick 1).room = M.q.room := rfl
          dsimp only at h1
          omega
        generalize M.q.came 1 = L at *
        have i3 : (L.length : Int) ≤ 1000 := by omega
        have HJ := Lib.hid hlt
        clear hb hlt hj hl
        go_wp2_with (first
          | (go_at_call 26; (with_reducible refine (CT.out).mono ?_); rintro e w6 ⟨A3, C3, rfl, HO, H6⟩)
          | fail)
        have H7 : Hid (NF w6 B b s m M2 ∧ Below w.heap.size w w6) := Lib.hid ⟨H6.out.1, HM.out.2.trans (H6.out.2.1.mono HSZ.out)⟩
        clear CT H6 HM HF
        go_loopw [12] (fun i wr => ∃ k : Nat, i = .int .i64 (k : Int) ∧ k ≤ L.length ∧ wr = w6) (fun i _ => L.length - (intOf i).toNat)
        case atStart => exact ⟨0, rfl, Nat.zero_le _, rfl⟩
        case round =>
          obtain ⟨k, rfl, hk, rfl⟩ := hrel
          by_cases hk2 : k < L.length
          · obtain ⟨g, rfl, _, _, c0, f0, _⟩ := HO.out.at_ k hk2
            have i4 : (k : Int) < (L.length : Int) := by omega
            have hne : (L.getD k 0 == no) = false := by
              have hm : L.getD k 0 ∈ L := by
                rw [List.getD_eq_getElem?_getD, List.getElem?_eq_getElem hk2]
                exact List.getElem_mem hk2
              have h2 : L.getD k 0 ≠ no := fun e => HC.out (by rw [← e]; exact hm)
              exact beq_eq_false_iff_ne.2 h2
            generalize L.getD k 0 = z at *
            have HK := Lib.hid hk2
            clear hk hk2
            go_wp2
            go_roundw
            case rel => exact ⟨k + 1, by go_num, HK.out, trivial⟩
            case measure => simp [intOf] <;> (have := HK.out; omega)
          · obtain rfl : k = L.length := by omega
            go_wp2
            go_roundw
            case rel => exact ⟨j + 1, M2, by go_num, HJ.out, HT, H7⟩
            case measure => simp [intOf] <;> (have := HJ.out; omega)
      · obtain rfl : j = 300 := by omega
        have CH := Lib.hid (has_from no HNO.out B b s m M wo HM.out.1)
        rw [HF.out.2] at CH
        go_wp2_with (first
          | (go_at_call 25; (with_reducible refine (CH.out).mono ?_); rintro e w7 ⟨rfl, rfl⟩)
          | fail)
        go_ret
        exact ⟨rfl, HM.out.2⟩
end Go.Proofs.Ytnffngbkidehfaa.Nk
