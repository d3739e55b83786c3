/-
  Own text: law RingKeeps, walked.
-/
import Derived.Test.YtjkobejhbgjhlaaRgQ
namespace Go.Proofs.Ytjkobejhbgjhlaa
open Go.RowKit

/-- Numbers that came in. -/
def Ints9 (w : World) (a : Option Addr) (n : Nat) (P : Nat → Int) : Prop := n = 0 ∨ ∃ b off, a = some ⟨b, off, none⟩ ∧ b < w.heap.size ∧ ∀ i, i < n → w.cell? ⟨b, off + i, none⟩ = some (.int .i64 (P i))
theorem Ints9.below {w w' : World} {a : Option Addr} {n B : Nat} {P : Nat → Int} (h : Ints9 w a n P) (hb : Below B w w') (hB : w.heap.size ≤ B) : Ints9 w' a n P :=
  h.imp id fun ⟨g, off, e, hl, hc⟩ => ⟨g, off, e, Nat.lt_of_lt_of_le hl hb.size, fun i hi => (hb.cell (p := ⟨g, off + i, none⟩) (by show g < B; omega)).trans (hc i hi)⟩
theorem isrow_ints9 {w : World} {a : Option Addr} {len cap : Nat} {zs : List Int} (h : IsRow .i64 w a len cap zs) : Ints9 w a len (fun i => zs.getD i 0) := by
  rcases h.at_ with h0 | ⟨h0, b, off, e, g⟩
  · exact .inl h0
  · refine .inr ⟨b, off, e, ?_, fun i hi => g.cell i hi⟩
    have c := g.cell 0 h0
    rcases Nat.lt_or_ge b w.heap.size with g | g
    · exact g
    · simp [World.cell?, Array.getElem?_eq_none g] at c
/-- What so many puts leave. -/
structure Kp (R0 : Rn) (P : Nat → Int) (k : Nat) (R : Rn) : Prop where
  room : R.room = R0.room
  next : R.next = R0.next + k
  full : min k R.room ≤ R.l.length
  tail : ∀ i, i < k → R.first ≤ R0.next + i → R.l[R0.next + i - R.first]? = some (P i)
theorem Kp.zero (R0 : Rn) (P : Nat → Int) : Kp R0 P 0 R0 := ⟨rfl, rfl, by omega, fun i hi => by omega⟩
theorem Kp.step {R0 R : Rn} {P : Nat → Int} {k : Nat} (h : Kp R0 P k R) (hr : 1 ≤ R.room) (hl : R.l.length ≤ R.room) : Kp R0 P (k + 1) (R.put (P k)) := by
  have h1 := h.room
  have h2 := h.next
  have h3 := h.full
  have h5 := R.put_next (P k) hr
  have h6 := Rn.put_room R (P k)
  have hn : R.next = R.first + R.l.length := rfl
  by_cases hq : R.l.length = R.room
  · have e : R.put (P k) = ⟨R.room, R.first + 1, R.l.drop 1 ++ [P k]⟩ := by unfold Rn.put; rw [if_pos hq]
    refine ⟨h6.trans h1, by omega, ?_, fun i hi hf => ?_⟩
    · rw [h6, e]
      simp only [List.length_append, List.length_drop, List.length_singleton]
      omega
    · rw [e] at hf ⊢
      dsimp only at hf ⊢
      by_cases hik : i = k
      · subst hik
        rw [List.getElem?_append_right (by rw [List.length_drop]; omega), List.length_drop, show R0.next + i - (R.first + 1) - (R.l.length - 1) = 0 by omega]
        rfl
      · rw [List.getElem?_append_left (by rw [List.length_drop]; omega), List.getElem?_drop, show 1 + (R0.next + i - (R.first + 1)) = R0.next + i - R.first by omega]
        exact h.tail i (by omega) (by omega)
  · have e : R.put (P k) = ⟨R.room, R.first, R.l ++ [P k]⟩ := by unfold Rn.put; rw [if_neg hq]
    refine ⟨h6.trans h1, by omega, ?_, fun i hi hf => ?_⟩
    · rw [h6, e]
      simp only [List.length_append, List.length_singleton]
      omega
    · rw [e] at hf ⊢
      dsimp only at hf ⊢
      by_cases hik : i = k
      · subst hik
        rw [List.getElem?_append_right (by omega), show R0.next + i - R.first - R.l.length = 0 by omega]
        rfl
      · rw [List.getElem?_append_left (by omega)]
        exact h.tail i (by omega) hf
theorem Kp.told {R0 R : Rn} {P : Nat → Int} {k i : Nat} (h : Kp R0 P k R) (hi : i < k) (hr : k - i ≤ R.room) : R.kept ((R0.next : Int) + (i : Int)) = 0 ∧ R.at_ ((R0.next : Int) + (i : Int)) = P i := by
  have h2 := h.next
  have h3 := h.full
  have hn : R.next = R.first + R.l.length := rfl
  have hf : R.first ≤ R0.next + i := by omega
  have hk : R.kept ((R0.next : Int) + (i : Int)) = 0 := by
    unfold Rn.kept
    rw [if_neg (by omega), if_neg (by omega)]
  refine ⟨hk, ?_⟩
  unfold Rn.at_
  rw [if_pos hk, show ((R0.next : Int) + (i : Int) - (R.first : Int)).toNat = R0.next + i - R.first by omega, List.getD_eq_getElem?_getD, h.tail i hi hf]
  rfl
theorem Kp.gone {R0 R : Rn} {P : Nat → Int} {k i : Nat} (h : Kp R0 P k R) (hl : R.l.length ≤ R.room) (hr : R.room < k - i) : R.kept ((R0.next : Int) + (i : Int)) = 90 ∧ R.at_ ((R0.next : Int) + (i : Int)) = 0 := by
  have h2 := h.next
  have hn : R.next = R.first + R.l.length := rfl
  have hk : R.kept ((R0.next : Int) + (i : Int)) = 90 := by
    unfold Rn.kept
    rw [if_pos (by omega)]
  refine ⟨hk, ?_⟩
  unfold Rn.at_
  rw [if_neg (by rw [hk]; omega)]
theorem From.low {w : World} {B B' b : Nat} {R : Rn} (h : From w B b R) (hB : B' ≤ B) : From w B' b R := by
  obtain ⟨A, C, xs, h1, h2, h3, h4⟩ := h
  exact ⟨A, C, xs, h1, by omega, by omega, fun k hk => by have := h4 k hk; omega⟩
theorem next_from {w : World} {B b : Nat} {R : Rn} (h : From w B b R) :
    Calls Try.prog 16 #[.pointer (some ⟨b, 0, none⟩)] w fun e w' => e = .returned (.int .i64 (R.next : Int)) ∧ w = w' := by
  obtain ⟨A, C, xs, h1, _⟩ := h
  exact next_any w h1.blk
theorem len_from {w : World} {B b k : Nat} {R : Rn} (hf : R.fit k) (hk : k ≤ 1000000) (h : From w B b R) :
    Calls Try.prog 18 #[.pointer (some ⟨b, 0, none⟩)] w fun e w' => e = .returned (.int .i64 (R.l.length : Int)) ∧ ∃ k, w' = w.drewN k := by
  obtain ⟨A, C, xs, h1, _⟩ := h
  exact len_any R.l.length rfl (by have := hf.next; have e : R.next = R.first + R.l.length := rfl; omega) w h1.blk
set_option maxRecDepth 100000 in
theorem keeps9_skip (room : Int) (a : Option Addr) (n c : Nat) (l : Option Addr) (m d : Nat) (h : room < 1 ∨ 40 < room ∨ 60 < n) (w : World) :
    Calls Try.prog 6 #[.int .i64 room, .slice a n c, .slice l m d] w (Yes9 w) := by
  have CP := Lib.hid (played9_skip room a n c h)
  clear h
  go_enter Try.func6, Try.ntmps6
  go_wp2_with (first
    | (go_at_call 7; (refine (awake9_any _).mono ?_); rintro e w1 ⟨rfl, hb1⟩; have HB1 := Lib.hid hb1; clear hb1)
    | (go_at_call 8; (with_reducible refine (CP.out _).mono ?_); rintro e w2 ⟨rfl, hb⟩; have HB2 := Lib.hid (HB1.out.trans (hb.mono HB1.out.size)); clear hb)
    | fail)
  go_ret
  exact ⟨rfl, HB2.out.alloc HB2.out.size _⟩
set_option maxRecDepth 100000 in
theorem keeps9_long (room : Nat) (h1 : 1 ≤ room) (h2 : room ≤ 40) (a : Option Addr) (n c : Nat) (hn : n ≤ 60) (K N V : Nat → Int) (l : Option Addr) (m d : Nat) (hm : 60 < m) (w : World) (ho : Ops w a n K N V) :
    Calls Try.prog 6 #[.int .i64 (room : Int), .slice a n c, .slice l m d] w (Yes9 w) := by
  have CP := Lib.hid (fun w1 (hb : Below w.heap.size w w1) => played9_any room h1 h2 a n c hn K N V w1 (ho.below hb (Nat.le_refl _)))
  have m1 : (60 : Int) < (m : Int) := by omega
  clear h1 h2 hn ho hm
  go_enter Try.func6, Try.ntmps6
  go_wp2_with (first
    | (go_at_call 7; (refine (awake9_any _).mono ?_); rintro e w1 ⟨rfl, hb1⟩; have HB1 := Lib.hid hb1; clear hb1)
    | (go_at_call 8; (with_reducible refine (CP.out _ HB1.out).mono ?_); rintro e w2 ⟨b, R, A2, C2, rfl, HF, HN⟩; have HB2 := Lib.hid (HB1.out.trans (HN.out.2.2.mono HB1.out.size)))
    | fail)
  go_ret
  exact ⟨rfl, HB2.out.alloc HB2.out.size _⟩
set_option maxRecDepth 100000 in
set_option maxHeartbeats 1000000 in
theorem keeps9_go (room : Nat) (h1 : 1 ≤ room) (h2 : room ≤ 40) (a : Option Addr) (n c : Nat) (hn : n ≤ 60) (K N V : Nat → Int) (l : Option Addr) (m d : Nat) (P : Nat → Int) (hm : m ≤ 60) (w : World) (ho : Ops w a n K N V) (hp : Ints9 w l m P) :
    Calls Try.prog 6 #[.int .i64 (room : Int), .slice a n c, .slice l m d] w (Yes9 w) := by
  have CP := Lib.hid (fun w1 (hb : Below w.heap.size w w1) => played9_any room h1 h2 a n c hn K N V w1 (ho.below hb (Nat.le_refl _)))
  have HI := Lib.hid hp
  have m1 : ¬ (60 : Int) < (m : Int) := by omega
  have m2 : (m : Int) ≤ 60 := by omega
  have HM := Lib.hid hm
  have HRR := Lib.hid (And.intro h1 h2)
  clear h1 h2 hn ho hp hm
  go_enter Try.func6, Try.ntmps6
  go_upto_region 4 with (first
    | (go_at_call 7; (refine (awake9_any _).mono ?_); rintro e w1 ⟨rfl, hb1⟩; have HB1 := Lib.hid hb1; clear hb1)
    | (go_at_call 8; (with_reducible refine (CP.out _ HB1.out).mono ?_); rintro e w2 ⟨b, R, A2, C2, rfl, HF, HN⟩; have HALL := Lib.hid (play_box HN.out); have HB2 := Lib.hid (HB1.out.trans (HN.out.2.2.mono HB1.out.size)))
    | fail)
  have HB3 := Lib.hid (HB2.out.alloc HB2.out.size (.cells #[.int .i64 (R.room : Int), .int .i64 (R.first : Int), .slice A2 R.l.length C2] 27))
  have HFIT : Hid (R.fit 60) := Lib.hid HF.out.1
  have HRO : Hid (R.room = room) := Lib.hid HF.out.2
  have hat : R.next ≤ 1099511627776 + 60 := HF.out.1.next
  generalize w2.alloc (.cells #[.int .i64 (R.room : Int), .int .i64 (R.first : Int), .slice A2 R.l.length C2] 27) = W3 at *
  have HR3 : Hid (From W3 w.heap.size b R) := Lib.hid ((HALL.out W3 (Below.refl _ _)).1.1.low HB1.out.size)
  have CX := Lib.hid (next_from HR3.out)
  have HK0 : Hid (Kp R P 0 R ∧ R.fit (60 + 0)) := Lib.hid ⟨Kp.zero R P, HFIT.out⟩
  clear HF HN HB2 HALL CP
  obtain ⟨at0, hat0⟩ : ∃ q, q = R.next := ⟨_, rfl⟩
  rw [← hat0] at CX hat
  have HAT := Lib.hid hat0
  clear hat0
  go_wp2_with (first
    | (go_at_call 16; (with_reducible refine (CX.out).mono ?_); rintro e w4 ⟨rfl, rfl⟩)
    | fail)
  clear CX
  go_loopw [11] (fun i wr => ∃ (k : Nat) (R1 : Rn), k ≤ m ∧ i = .int .i64 (k : Int) ∧ Hid (Kp R P k R1 ∧ R1.fit (60 + k)) ∧ Hid (From wr w.heap.size b R1) ∧ Hid (Below w.heap.size w wr)) (fun i _ => m - (intOf i).toNat)
  case atStart => exact ⟨0, R, Nat.zero_le _, rfl, HK0, HR3, HB3⟩
  case round =>
    obtain ⟨k, R1, hk, rfl, HK, HR, HB⟩ := hrel
    obtain ⟨wo, hwo⟩ : ∃ wo, wo = wr := ⟨_, rfl⟩
    subst hwo
    clear HK0 HR3 HB3
    by_cases hlt : k < m
    · obtain ⟨g, off, rfl, c0⟩ : ∃ g off, l = some ⟨g, off, none⟩ ∧ wo.cell? ⟨g, off + k, none⟩ = some (.int .i64 (P k)) := by
        rcases HI.out.below HB.out (Nat.le_refl _) with h | ⟨g, off, e, _, h⟩
        · omega
        · exact ⟨g, off, e, h k hlt⟩
      have k1 : (k : Int) < m := by omega
      have k2 : (0 : Int) ≤ (k : Int) := by omega
      have k3 : (k : Int) ≤ 60 := by omega
      have a1 : (at0 : Int) ≤ 1099511627836 := by omega
      have a2 : (0 : Int) ≤ (at0 : Int) := by omega
      have HKK := Lib.hid (show k + 1 ≤ m from hlt)
      have HK2 : Hid (Kp R P (k + 1) (R1.put (P k)) ∧ (R1.put (P k)).fit (60 + (k + 1))) := Lib.hid ⟨HK.out.1.step HK.out.2.lo HK.out.2.len, Rn.put_fit HK.out.2 (P k)⟩
      have hne : (R1.next : Int) = (at0 : Int) + (k : Int) := by have := HK.out.1.next; have := HAT.out; omega
      have CP := Lib.hid (put_from (P k) w.heap.size b (60 + k) R1 HK.out.2 (by omega) wo HR.out)
      rw [hne] at CP
      have CL := Lib.hid (fun w' (h : From w' w.heap.size b (R1.put (P k))) => len_from HK2.out.2 (by have := HM.out; omega) h)
      have hl : ¬ (room : Int) < ((R1.put (P k)).l.length : Int) := by
        have h1 := HK2.out.2.len
        have h2 := HK2.out.1.room
        have h3 := HRO.out
        omega
      have bn : ((at0 : Int) + (k : Int) != (at0 : Int) + (k : Int)) = false := by simp
      clear hne hlt hk HI
      generalize R1.put (P k) = R2 at *
      generalize P k = pk at *
      generalize R2.l.length = L2 at *
      go_wp2_with (first
        | (go_at_call 17; (with_reducible refine (CP.out).mono ?_); rintro e w5 ⟨rfl, HR5, HB5⟩)
        | (go_at_call 18; (with_reducible refine (CL.out _ HR5.out).mono ?_); rintro e w6 ⟨rfl, q, rfl⟩)
        | fail)
      go_roundw
      case rel => exact ⟨k + 1, R2, HKK.out, by go_num, HK2, Lib.hid (HR5.out.drewN q), Lib.hid (below_drewN (HB.out.trans HB5.out) q)⟩
      case measure => simp [intOf] <;> omega
    · obtain rfl : k = m := by omega
      have HKR := Lib.hid hk
      clear hlt hk
      go_wp2
      go_loopw [12] (fun i wr => ∃ (j : Nat), j ≤ k ∧ i = .int .i64 (j : Int) ∧ Hid (From wr w.heap.size b R1) ∧ Hid (Below w.heap.size w wr)) (fun i _ => k - (intOf i).toNat)
      case atStart => exact ⟨0, Nat.zero_le _, rfl, HR, HB⟩
      case round =>
        obtain ⟨j, hj, rfl, HR6, HB6⟩ := hrel
        obtain ⟨wp, hwp⟩ : ∃ wp, wp = wr := ⟨_, rfl⟩
        subst hwp
        clear HR HB
        by_cases hlt : j < k
        · obtain ⟨g, off, rfl, c0⟩ : ∃ g off, l = some ⟨g, off, none⟩ ∧ ∀ q, (wp.drewN q).cell? ⟨g, off + j, none⟩ = some (.int .i64 (P j)) := by
            rcases HI.out.below HB6.out (Nat.le_refl _) with h | ⟨g, off, e, _, h⟩
            · omega
            · exact ⟨g, off, e, fun q => h j hlt⟩
          have HC0 := Lib.hid c0
          have k1 : (j : Int) < k := by omega
          have k2 : (0 : Int) ≤ (j : Int) := by omega
          have k3 : (j : Int) ≤ 60 := by omega
          have a1 : (at0 : Int) ≤ 1099511627836 := by omega
          have a2 : (0 : Int) ≤ (at0 : Int) := by omega
          have HKK := Lib.hid (show j + 1 ≤ k from hlt)
          have CA := Lib.hid (at_from ((at0 : Int) + (j : Int)) HK.out.2 (by have := HM.out; omega) wp HR6.out)
          by_cases hr : k - j ≤ room
          · have hT := HK.out.1.told hlt (by have := HK.out.1.room; have := HRO.out; omega)
            rw [← HAT.out] at hT
            rw [hT.1, hT.2] at CA
            have r1 : (k : Int) - (j : Int) ≤ (room : Int) := by omega
            have r2 : ¬ (room : Int) < (k : Int) - (j : Int) := by omega
            have bn : (P j != P j) = false := by simp
            clear hT hlt hj HI c0 hr
            generalize P j = pj at *
            go_wp2_with (first
              | (go_at_call 14; (with_reducible refine (CA.out).mono ?_); rintro e w5 ⟨rfl, q, rfl⟩; have hc := HC0.out q)
              | fail)
            go_roundw
            case rel => exact ⟨j + 1, HKK.out, by go_num, Lib.hid (HR6.out.drewN q), Lib.hid (below_drewN HB6.out q)⟩
            case measure => simp [intOf] <;> omega
          · have hT := HK.out.1.gone (i := j) HK.out.2.len (by have := HK.out.1.room; have := HRO.out; omega)
            rw [← HAT.out] at hT
            rw [hT.1, hT.2] at CA
            have r1 : ¬ (k : Int) - (j : Int) ≤ (room : Int) := by omega
            have r2 : (room : Int) < (k : Int) - (j : Int) := by omega
            clear hT hlt hj HI c0 hr HC0
            go_wp2_with (first
              | (go_at_call 14; (with_reducible refine (CA.out).mono ?_); rintro e w5 ⟨rfl, q, rfl⟩)
              | fail)
            go_roundw
            case rel => exact ⟨j + 1, HKK.out, by go_num, Lib.hid (HR6.out.drewN q), Lib.hid (below_drewN HB6.out q)⟩
            case measure => simp [intOf] <;> omega
        · obtain rfl : j = k := by omega
          go_wp2
          go_ret
          exact ⟨rfl, HB6.out⟩
theorem keeps9_walk (room : Int) (a : Option Addr) (n c : Nat) (l : Option Addr) (m d : Nat) (zs : List Int) (w : World) (hp : n ≤ 60 → ∃ K N V, Ops w a n K N V) (hr : IsRow .i64 w l m d zs) :
    Calls Try.prog 6 #[.int .i64 room, .slice a n c, .slice l m d] w (Yes9 w) := by
  by_cases h : room < 1 ∨ 40 < room ∨ 60 < n
  · exact keeps9_skip room a n c l m d h w
  · obtain ⟨K, N, V, ho⟩ := hp (by omega)
    have e : room = (room.toNat : Int) := by omega
    rw [e]
    by_cases hm : m ≤ 60
    · exact keeps9_go room.toNat (by omega) (by omega) a n c (by omega) K N V l m d _ hm w ho (isrow_ints9 hr)
    · exact keeps9_long room.toNat (by omega) (by omega) a n c (by omega) K N V l m d (by omega) w ho
end Go.Proofs.Ytjkobejhbgjhlaa
