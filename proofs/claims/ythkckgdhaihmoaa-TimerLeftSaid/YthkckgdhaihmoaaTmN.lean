/-
  Own text: law TimerLeft, walked.
-/
import Derived.Test.YthkckgdhaihmoaaTmK
namespace Go.Proofs.Ythkckgdhaihmoaa
open Go.RowKit

set_option maxRecDepth 100000 in
theorem left11_skip (room : Int) (a : Option Addr) (n c : Nat) (k : Int) (h : room < 1 ∨ 40 < room ∨ 80 < n) (w : World) :
    Calls Try.prog 5 #[.int .i64 room, .slice a n c, .int .i64 k] w (Yes11 w) := by
  have CP := Lib.hid (played11_skip room a n c h)
  clear h
  go_enter Try.func5, Try.ntmps5
  go_wp2_with (first
    | (go_at_call 7; (refine (awake11_any _).mono ?_); rintro e w1 ⟨rfl, hb1⟩; have HB1 := Lib.hid hb1; clear hb1)
    | (go_at_call 8; (with_reducible refine (CP.out _).mono ?_); rintro e w2 ⟨rfl, hb⟩; have HB2 := Lib.hid (HB1.out.trans (hb.mono HB1.out.size)); clear hb)
    | fail)
  go_ret
  exact ⟨rfl, HB2.out.alloc HB2.out.size _⟩
set_option maxRecDepth 100000 in
set_option maxHeartbeats 1000000 in
theorem left11_go (room : Nat) (h1 : 1 ≤ room) (h2 : room ≤ 40) (a : Option Addr) (n c : Nat) (hn : n ≤ 80) (K N V : Nat → Int) (k : Int) (w : World) (ho : Ops w a n K N V) :
    Calls Try.prog 5 #[.int .i64 (room : Int), .slice a n c, .int .i64 k] w (Yes11 w) := by
  have CP := Lib.hid (fun w1 (hb : Below w.heap.size w w1) => played11_any room h1 h2 a n c hn K N V w1 (ho.below hb (Nat.le_refl _)))
  clear h1 h2 hn ho
  go_enter Try.func5, Try.ntmps5
  go_upto_region 4 with (first
    | (go_at_call 7; (refine (awake11_any _).mono ?_); rintro e w1 ⟨rfl, hb1⟩; have HB1 := Lib.hid hb1; clear hb1)
    | (go_at_call 8; (with_reducible refine (CP.out _ HB1.out).mono ?_); rintro e w2 ⟨b, Q, D, C2, rfl, HF, HN⟩; unfold DV)
    | fail)
  obtain ⟨A, C, h2, hb2⟩ := HN.out
  obtain ⟨m, hm⟩ : ∃ m, m = Q.l.length := ⟨_, rfl⟩
  have hm1 : m ≤ 256 := by have := HF.out.1.len; have := HF.out.1.hi; omega
  have hm2 : (m : Int) ≤ 256 := by omega
  have HBW : Hid (Below w.heap.size w w2) := Lib.hid (HB1.out.trans (hb2.mono HB1.out.size))
  obtain ⟨W3, hW3⟩ : ∃ W3, W3 = w2.alloc (.cells #[.int .i64 (Q.room : Int), .int .i64 Q.now, .slice D Q.l.length C2] 27) := ⟨_, rfl⟩
  rw [← hW3]
  have hb3 : Below w2.heap.size w2 W3 := by rw [hW3]; exact (Below.refl _ _).alloc (Nat.le_refl _) _
  have hx3 : DBx W3 w2.heap.size Q.room Q.now (.slice D m C2) := by rw [hW3, hm]; exact DBx.new w2 _ _ _
  have h3 := h2.below hb3
  have CL := Lib.hid (left_any k b Q A C HF.out.1 W3 h3.qb)
  have HALL : Hid (∀ w', Below W3.heap.size W3 w' → DBx w' w2.heap.size Q.room Q.now (.slice D m C2) ∧ DL w' (w1.heap.size + 2) D m C2 Q.l ∧ Below w.heap.size w w') := Lib.hid (fun w' h' => by
    refine ⟨hx3.below h' hx3.lt, ?_, (HBW.out.trans (hb3.mono HBW.out.size)).trans (h'.mono (Nat.le_trans HBW.out.size hb3.size))⟩
    have := h3.dl.below h' (Nat.le_refl _)
    rw [hm]
    exact this)
  have HM : Hid (Q.l.length = m) := Lib.hid hm.symm
  have m0 := HF.out.1.now0
  have m1 := HF.out.1.now1
  have HFF := Lib.hid HF.out.1
  clear hW3 hb3 hx3 h3 h2 hb2 hm hm1 HF HN HB1 CP HBW
  rw [HM.out]
  by_cases hk : fidx k Q.l < Q.l.length
  · have e1 : hasK k Q.l = true := by unfold hasK; exact decide_eq_true hk
    obtain ⟨P, hP⟩ : ∃ P, P = fidx k Q.l := ⟨_, rfl⟩
    have HLO := Lib.hid (fidx_lo k Q.l)
    have HAT := Lib.hid (fidx_at k Q.l)
    rw [← hP] at HLO HAT
    obtain ⟨x, hx⟩ : ∃ x, Q.l[P]? = some x := ⟨_, List.getElem?_eq_getElem (by rw [hP]; exact hk)⟩
    have e2 : Q.left k = x.due - Q.now := by unfold Qn.left; rw [← hP, hx]
    obtain ⟨x1, x2⟩ := HFF.out.due x (List.mem_of_getElem? hx)
    have wr1 : IntKind.i64.wrap (x.due - Q.now) = x.due - Q.now := by rw [IntKind.wrap_i64]; omega
    have ze : (x.due - Q.now == x.due - Q.now) = true := by simp
    rw [e1, e2] at CL
    have HPM : Hid (P < m) := Lib.hid (by have := HM.out; omega)
    have HX := Lib.hid hx
    clear hk hP hx e1 e2
    go_wp2_with (first
      | (go_at_call 12; (with_reducible refine (CL.out).mono ?_); rintro e w4 ⟨rfl, hb4⟩; have HB4 := Lib.hid hb4; clear hb4)
      | fail)
    go_loopw [12] (fun i wr => ∃ j : Nat, j ≤ P ∧ i = .int .i64 (j : Int) ∧ Hid (Below W3.heap.size W3 wr)) (fun i _ => m - (intOf i).toNat)
    case atStart => exact ⟨0, Nat.zero_le _, rfl, HB4⟩
    case round =>
      obtain ⟨j, hj, rfl, HBR⟩ := hrel
      obtain ⟨hx, hdl, hbw⟩ := HALL.out wr HBR.out
      obtain ⟨d0, d1, d2⟩ := hx.cells
      have hpm := HPM.out
      have HBW := Lib.hid hbw
      obtain ⟨y, hy⟩ : ∃ y, Q.l[j]? = some y := ⟨_, List.getElem?_eq_getElem (by have := HM.out; omega)⟩
      obtain ⟨g, off, eA, _, c0, c1⟩ := hdl.at_ j y hy
      subst eA
      have k1 : (j : Int) < (m : Int) := by omega
      by_cases hlt : j < P
      · have hne : (y.key == k) = false := by have := HLO.out j y hlt hy; simp [this]
        clear hx hdl hbw hy
        generalize y.key = yk at *
        generalize y.due = yd at *
        go_wp2
        go_roundw
        case rel => exact ⟨j + 1, hlt, by go_num, HBR⟩
        case measure => simp [intOf] <;> omega
      · obtain rfl : j = P := by omega
        obtain rfl : x = y := by have := HX.out; rw [hy] at this; exact (Option.some.inj this).symm
        have hne : (x.key == k) = true := by simp [HAT.out x hy]
        clear hx hdl hbw hy hlt
        generalize x.key = yk at *
        go_upto_region 11 with fail
        go_quiet (fail)
        go_wp2
        go_ret
        exact ⟨rfl, below_drewN HBW.out _⟩
  · have e1 : hasK k Q.l = false := by unfold hasK; exact decide_eq_false hk
    have e2 : Q.left k = 0 := by unfold Qn.left; rw [List.getElem?_eq_none (by omega)]
    have HLO : Hid (∀ t y, t < m → Q.l[t]? = some y → ¬ y.key = k) := Lib.hid (fun t y ht hy => fidx_lo k Q.l t y (by have := HM.out; omega) hy)
    rw [e1, e2] at CL
    clear hk e1 e2
    go_wp2_with (first
      | (go_at_call 12; (with_reducible refine (CL.out).mono ?_); rintro e w4 ⟨rfl, hb4⟩; have HB4 := Lib.hid hb4; clear hb4)
      | fail)
    go_loopw [12] (fun i wr => ∃ j : Nat, j ≤ m ∧ i = .int .i64 (j : Int) ∧ Hid (Below W3.heap.size W3 wr)) (fun i _ => m - (intOf i).toNat)
    case atStart => exact ⟨0, Nat.zero_le _, rfl, HB4⟩
    case round =>
      obtain ⟨j, hj, rfl, HBR⟩ := hrel
      obtain ⟨hx, hdl, hbw⟩ := HALL.out wr HBR.out
      obtain ⟨d0, d1, d2⟩ := hx.cells
      have HBW := Lib.hid hbw
      by_cases hlt : j < m
      · obtain ⟨y, hy⟩ : ∃ y, Q.l[j]? = some y := ⟨_, List.getElem?_eq_getElem (by have := HM.out; omega)⟩
        obtain ⟨g, off, eA, _, c0, c1⟩ := hdl.at_ j y hy
        subst eA
        have k1 : (j : Int) < (m : Int) := by omega
        have hne : (y.key == k) = false := by have := HLO.out j y hlt hy; simp [this]
        clear hx hdl hbw hy
        generalize y.key = yk at *
        generalize y.due = yd at *
        go_wp2
        go_roundw
        case rel => exact ⟨j + 1, hlt, by go_num, HBR⟩
        case measure => simp [intOf] <;> omega
      · obtain rfl : j = m := by omega
        clear hx hdl hbw
        go_wp2
        go_ret
        exact ⟨rfl, HBW.out⟩
theorem left11_walk (room : Int) (a : Option Addr) (n c : Nat) (k : Int) (w : World) (hp : n ≤ 80 → ∃ K N V, Ops w a n K N V) :
    Calls Try.prog 5 #[.int .i64 room, .slice a n c, .int .i64 k] w (Yes11 w) := by
  by_cases h : room < 1 ∨ 40 < room ∨ 80 < n
  · exact left11_skip room a n c k h w
  · obtain ⟨K, N, V, ho⟩ := hp (by omega)
    have e : room = (room.toNat : Int) := by omega
    rw [e]
    exact left11_go room.toNat (by omega) (by omega) a n c (by omega) K N V k w ho
end Go.Proofs.Ythkckgdhaihmoaa
