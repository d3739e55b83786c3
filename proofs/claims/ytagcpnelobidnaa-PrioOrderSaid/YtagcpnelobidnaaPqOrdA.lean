/-
  Own text: law PrioOrder, walked.
-/
import Derived.Test.YtagcpnelobidnaaPqX
namespace Go.Proofs.Ytagcpnelobidnaa
open Go.RowKit

/-- Numbers that came in. -/
def Ints10 (w : World) (a : Option Addr) (n : Nat) (P : Nat → Int) : Prop := n = 0 ∨ ∃ b off, a = some ⟨b, off, none⟩ ∧ b < w.heap.size ∧ ∀ i, i < n → w.cell? ⟨b, off + i, none⟩ = some (.int .i64 (P i))
theorem Ints10.below {w w' : World} {a : Option Addr} {n B : Nat} {P : Nat → Int} (h : Ints10 w a n P) (hb : Below B w w') (hB : w.heap.size ≤ B) : Ints10 w' a n P :=
  h.imp id fun ⟨g, off, e, hl, hc⟩ => ⟨g, off, e, Nat.lt_of_lt_of_le hl hb.size, fun i hi => (hb.cell (p := ⟨g, off + i, none⟩) (by show g < B; omega)).trans (hc i hi)⟩
theorem isrow_ints10 {w : World} {a : Option Addr} {len cap : Nat} {zs : List Int} (h : IsRow .i64 w a len cap zs) : Ints10 w a len (fun i => zs.getD i 0) := by
  rcases h.at_ with h0 | ⟨h0, b, off, e, g⟩
  · exact .inl h0
  · refine .inr ⟨b, off, e, ?_, fun i hi => g.cell i hi⟩
    have c := g.cell 0 h0
    rcases Nat.lt_or_ge b w.heap.size with g | g
    · exact g
    · simp [World.cell?, Array.getElem?_eq_none g] at c
/-- So many of the numbers have been pushed, each with its place. -/
structure Fed (P : Nat → Int) (j : Nat) (Q : Qn) : Prop where
  fit : Q.fit j
  room : Q.room = 200
  pushed : Q.pushed = j
  len : Q.l.length = j
  all : ∀ x ∈ Q.l, x.v = x.num ∧ ∃ i : Nat, x.num = (i : Int) ∧ i < j ∧ x.rank = P i
theorem Fed.zero (P : Nat → Int) : Fed P 0 ⟨200, 0, []⟩ := ⟨new_fit 200 (by omega) (by omega), rfl, rfl, rfl, fun x hx => by simp at hx⟩
theorem Fed.step {P : Nat → Int} {j : Nat} {Q : Qn} (h : Fed P j Q) (hj : j < 200) : Fed P (j + 1) (Q.push (P j) (j : Int)) := by
  have hl : Q.l.length < Q.room := by rw [h.len, h.room]; exact hj
  have e : (Q.push (P j) (j : Int)).l = Q.ins (P j) (j : Int) := by
    unfold Qn.push
    exact if_pos hl
  refine ⟨Qn.push_fit h.fit _ _, h.room, by show Q.pushed + 1 = j + 1; rw [h.pushed], by rw [e, Q.ins_length, h.len], fun x hx => ?_⟩
  rw [e] at hx
  rcases Q.ins_mem _ _ x hx with hm | rfl
  · obtain ⟨h1, i, h2, h3, h4⟩ := h.all x hm
    exact ⟨h1, i, h2, by omega, h4⟩
  · exact ⟨by show (j : Int) = (Q.pushed : Int); rw [h.pushed], j, by show (Q.pushed : Int) = _; rw [h.pushed], Nat.lt_succ_self j, rfl⟩
theorem Fed.goes {P : Nat → Int} {j : Nat} {Q : Qn} (h : Fed P j Q) (hj : j < 200) : decide (Q.room ≤ Q.l.length) = false := by
  have h1 := h.len
  have h2 := h.room
  simp
  omega
/-- So many have come, the last one with that rank and that place. -/
structure Came (P : Nat → Int) (n j : Nat) (lr la : Int) (Q : Qn) : Prop where
  fit : Q.fit n
  len : Q.l.length = n - j
  all : ∀ x ∈ Q.l, x.v = x.num ∧ ∃ i : Nat, x.num = (i : Int) ∧ i < n ∧ x.rank = P i
  behind : ∀ x ∈ Q.l, j = 0 ∨ lr < x.rank ∨ (lr = x.rank ∧ la < x.num)
theorem Came.zero {P : Nat → Int} {n : Nat} {Q : Qn} (h : Fed P n Q) (lr la : Int) : Came P n 0 lr la Q := ⟨h.fit, by rw [h.len]; omega, h.all, fun _ _ => .inl rfl⟩
/-- The next one, and what is left. -/
theorem Came.next {P : Nat → Int} {n j : Nat} {lr la : Int} {Q : Qn} (h : Came P n j lr la Q) (hj : j < n) : ∃ i : Nat, i < n ∧ Q.front = .tuple #[.int .i64 (i : Int), .int .i64 (P i), .bool true] ∧ (j = 0 ∨ lr < P i ∨ (lr = P i ∧ la < (i : Int))) ∧ Came P n (j + 1) (P i) (i : Int) Q.pop := by
  have hl := h.len
  have hs := h.fit.sorted
  have hp := Qn.pop_fit h.fit
  have ha := h.all
  have hb := h.behind
  cases hq : Q.l with
  | nil => rw [hq] at hl; simp at hl; omega
  | cons x t =>
    rw [hq] at hl hs ha hb
    obtain ⟨h1, i, h2, h3, h4⟩ := ha x (List.mem_cons_self ..)
    have h5 := hb x (List.mem_cons_self ..)
    have e : Q.pop.l = t := by unfold Qn.pop; rw [hq]; rfl
    refine ⟨i, h3, by unfold Qn.front; rw [hq]; show Value.tuple #[.int .i64 x.v, .int .i64 x.rank, .bool true] = _; rw [h1, h2, h4], by rw [h2, h4] at h5; exact h5, hp, by rw [e]; simp at hl; omega, fun y hy => ha y (by rw [e] at hy; exact List.mem_cons_of_mem _ hy), fun y hy => ?_⟩
    rw [e] at hy
    have := (List.pairwise_cons.1 hs).1 y hy
    unfold It.ahead at this
    rw [h2, h4] at this
    exact .inr this
/-- A law's word. -/
def YesO (w : World) (x : Ending) (W : World) : Prop := x = .returned (.bool true) ∧ Below w.heap.size w W
set_option maxRecDepth 100000 in
theorem order10_long (a : Option Addr) (n c : Nat) (hn : 200 < n) (w : World) :
    Calls Try.prog 5 #[.slice a n c] w (YesO w) := by
  have n0 : (200 : Int) < (n : Int) := by omega
  clear hn
  go_enter Try.func5, Try.ntmps5
  go_wp2_with (first
    | (go_at_call 7; (refine (awake10_any _).mono ?_); rintro e w1 ⟨rfl, hb1⟩; have HB1 := Lib.hid hb1; clear hb1)
    | fail)
  go_ret
  exact ⟨rfl, HB1.out⟩
set_option maxRecDepth 100000 in
set_option maxHeartbeats 1000000 in
theorem order10_go (a : Option Addr) (n c : Nat) (P : Nat → Int) (hn : n ≤ 200) (w : World) (hi : Ints10 w a n P) :
    Calls Try.prog 5 #[.slice a n c] w (YesO w) := by
  have n0 : ¬ (200 : Int) < (n : Int) := by omega
  have HI := Lib.hid hi
  have HN := Lib.hid hn
  have CN : Hid (∀ w, Calls Try.prog 12 #[.int .i64 200] w fun e w' => e = .returned (.tuple #[.pointer (some ⟨w.heap.size, 0, none⟩), .int .i64 0]) ∧ Hid (From w' w.heap.size w.heap.size ⟨200, 0, []⟩) ∧ Hid (Below w.heap.size w w')) := Lib.hid (fun w => new_from 200 (by omega) (by omega) w)
  clear hi hn
  go_enter Try.func5, Try.ntmps5
  go_wp2_with (first
    | (go_at_call 7; (refine (awake10_any _).mono ?_); rintro e w1 ⟨rfl, hb1⟩; have HB1 := Lib.hid hb1; clear hb1)
    | (go_at_call 12; (with_reducible refine (CN.out _).mono ?_); rintro e w2 ⟨rfl, HQ, HB⟩; have HB2 := Lib.hid (HB1.out.trans (HB.out.mono HB1.out.size)))
    | fail)
  have HQ0 : Hid (From w2 w.heap.size w1.heap.size ⟨200, 0, []⟩) := Lib.hid (HQ.out.low HB1.out.size)
  clear HQ HB HB1 CN n0
  generalize w1.heap.size = b at *
  have HE0 : Hid (Fed P 0 ⟨200, 0, []⟩) := Lib.hid (Fed.zero P)
  go_loopw [5] (fun i wr => ∃ (j : Nat) (Q : Qn), i = .int .i64 (j : Int) ∧ j ≤ n ∧ Hid (Fed P j Q) ∧ Hid (From wr w.heap.size b Q) ∧ Hid (Below w.heap.size w wr)) (fun i _ => n - (intOf i).toNat)
  case atStart => exact ⟨0, ⟨200, 0, []⟩, rfl, Nat.zero_le _, HE0, HQ0, HB2⟩
  case round =>
    obtain ⟨j, Q, rfl, hj, HF, HQ, HW⟩ := hrel
    obtain ⟨wo, hwo⟩ : ∃ wo, wo = wr := ⟨_, rfl⟩
    subst hwo
    by_cases hlt : j < n
    · obtain ⟨g, off, rfl, c0⟩ : ∃ g off, a = some ⟨g, off, none⟩ ∧ wo.cell? ⟨g, off + j, none⟩ = some (.int .i64 (P j)) := by
        rcases HI.out.below HW.out (Nat.le_refl _) with h | ⟨g, off, e, _, h⟩
        · omega
        · exact ⟨g, off, e, h j hlt⟩
      have hnn := HN.out
      have k1 : (j : Int) < n := by omega
      have k2 : (0 : Int) ≤ (j : Int) := by omega
      have k3 : (j : Int) ≤ 200 := by omega
      have HJK : Hid (j + 1 ≤ n) := Lib.hid (by omega)
      have CP := Lib.hid (push_from (P j) (j : Int) w.heap.size b j Q HF.out.fit (by omega) wo HQ.out)
      rw [HF.out.goes (by omega)] at CP
      have HF2 := Lib.hid (HF.out.step (by omega))
      clear hlt hj hnn
      generalize Q.push (P j) (j : Int) = Q2 at *
      generalize Q.gone (P j) (j : Int) = gn at *
      generalize P j = pj at *
      go_wp2_with (first
        | (go_at_call 13; (with_reducible refine (CP.out).mono ?_); rintro e w3 ⟨rfl, HQ3, HB3⟩; have HW3 := Lib.hid (HW.out.trans HB3.out))
        | fail)
      go_roundw
      case rel => exact ⟨j + 1, Q2, by go_num, HJK.out, HF2, HQ3, HW3⟩
      case measure => simp [intOf] <;> omega
    · obtain rfl : n = j := by omega
      have HL0 := Lib.hid (Came.zero HF.out 0 (-1))
      clear HF hj hlt
      go_wp2_with fail
      clear HQ0 HB2 HE0
      generalize wo = wz at *
      go_loopw [8, 9, 10] (fun lr la i wr => ∃ (m : Nat) (Q : Qn) (r l : Int), lr = .int .i64 r ∧ la = .int .i64 l ∧ i = .int .i64 (m : Int) ∧ m ≤ n ∧ Hid (Came P n m r l Q) ∧ Hid (From wr w.heap.size b Q) ∧ Hid (Below w.heap.size w wr)) (fun _ _ i _ => n - (intOf i).toNat)
      case atStart => exact ⟨0, Q, 0, -1, rfl, rfl, rfl, Nat.zero_le _, HL0, HQ, HW⟩
      case round =>
        clear HL0 HQ HW
        obtain ⟨m, Q, r, l, rfl, rfl, rfl, hm, HC, HQ, HW⟩ := hrel
        by_cases hlt : m < n
        · obtain ⟨i, hin, hfr, hlast, hnext⟩ := HC.out.next hlt
          obtain ⟨g, off, rfl, hcl⟩ : ∃ g off, a = some ⟨g, off, none⟩ ∧ ∀ w', Below w.heap.size w w' → w'.cell? ⟨g, off + i, none⟩ = some (.int .i64 (P i)) := by
            rcases HI.out with h | ⟨g, off, e, hg, h⟩
            · omega
            · exact ⟨g, off, e, fun w' hb => (hb.cell (p := ⟨g, off + i, none⟩) hg).trans (h i hin)⟩
          have hnn := HN.out
          have hlen := HC.out.len
          have CP := Lib.hid (pop_from w.heap.size b Q (by omega) wr HQ.out)
          rw [hfr] at CP
          have HCL := Lib.hid hcl
          have HC2 := Lib.hid hnext
          have HJK : Hid (m + 1 ≤ n) := Lib.hid (by omega)
          have k0 : (m : Int) < (n : Int) := by omega
          have k1 : ¬ (i : Int) < 0 := by omega
          have k2 : ¬ (n : Int) ≤ (i : Int) := by omega
          have k3 : (i : Int) < (n : Int) := by omega
          have k4 : (0 : Int) ≤ (i : Int) := by omega
          have k5 : (m : Int) ≤ 200 := by omega
          have k6 : (0 : Int) ≤ (m : Int) := by omega
          generalize P i = px at *
          have k7 : (px != px) = false := by simp
          clear hin hfr hcl hnext hnn hlen hlt hm HC
          by_cases hm0 : m = 0
          · have k8 : ¬ (0 : Int) < (m : Int) := by omega
            clear hlast hm0
            go_wp2_with (first
              | (go_at_call 14; (with_reducible refine (CP.out).mono ?_); rintro e w3 ⟨rfl, HQ3, HB3⟩; have HW3 := Lib.hid (HW.out.trans HB3.out); have c1 := HCL.out w3 HW3.out)
              | fail)
            go_roundw
            case rel => exact ⟨m + 1, Q.pop, px, (i : Int), rfl, rfl, by go_num, HJK.out, HC2, HQ3, HW3⟩
            case measure => simp [intOf] <;> omega
          · have k8 : (0 : Int) < (m : Int) := by omega
            by_cases he : r < px
            · have k9 : ¬ px < r := by omega
              have k10 : (px == r) = false := by simp; omega
              clear hlast hm0 he
              go_wp2_with (first
                | (go_at_call 14; (with_reducible refine (CP.out).mono ?_); rintro e w3 ⟨rfl, HQ3, HB3⟩; have HW3 := Lib.hid (HW.out.trans HB3.out); have c1 := HCL.out w3 HW3.out)
                | fail)
              go_roundw
              case rel => exact ⟨m + 1, Q.pop, px, (i : Int), rfl, rfl, by go_num, HJK.out, HC2, HQ3, HW3⟩
              case measure => simp [intOf] <;> omega
            · have k9 : r = px := by omega
              have k10 : ¬ (i : Int) ≤ l := by omega
              subst k9
              have k11 : (r == r) = true := by simp
              have k12 : ¬ r < r := by omega
              clear hlast hm0 he
              go_wp2_with (first
                | (go_at_call 14; (with_reducible refine (CP.out).mono ?_); rintro e w3 ⟨rfl, HQ3, HB3⟩; have HW3 := Lib.hid (HW.out.trans HB3.out); have c1 := HCL.out w3 HW3.out)
                | fail)
              go_roundw
              case rel => exact ⟨m + 1, Q.pop, r, (i : Int), rfl, rfl, by go_num, HJK.out, HC2, HQ3, HW3⟩
              case measure => simp [intOf] <;> omega
        · have hm2 : m = n := by omega
          have hl0 := HC.out.len
          obtain ⟨A, C, hq, _⟩ := HQ.out
          have hb := hq.blk
          rw [show Q.l.length = 0 by omega] at hb
          have CL := Lib.hid (len_any A 0 C wr hb)
          clear hb hq hl0 HC HQ
          subst hm2
          go_wp2_with (first
            | (go_at_call 15; (with_reducible refine (CL.out).mono ?_); rintro e w3 ⟨rfl, rfl⟩)
            | fail)
          go_ret
          exact ⟨rfl, HW.out⟩
theorem order10_walk (a : Option Addr) (n c : Nat) (zs : List Int) (w : World) (h : IsRow .i64 w a n c zs) :
    Calls Try.prog 5 #[.slice a n c] w (YesO w) := by
  by_cases hn : n ≤ 200
  · exact order10_go a n c _ hn w (isrow_ints10 h)
  · exact order10_long a n c (by omega) w
end Go.Proofs.Ytagcpnelobidnaa
