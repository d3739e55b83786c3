/-
  Own text: where an entry lies; a number held; At, Set, walked.
-/
import Derived.Test.YtjkobejhbgjhlaaRgM
import Derived.BigRegion
namespace Go.Proofs.Ytjkobejhbgjhlaa
open Go.RowKit

section
variable {w : World} {b room first next : Nat} {s : Value}
set_option maxRecDepth 100000 in
theorem slot_any (n : Nat) (base C m : Nat) (A : Option Addr) (xs : List Int) (hr : 1 ≤ room) (_ : n ≤ 1099512627776) (hr2 : room ≤ 4096) (hi : n % room < m) (w : World) (h : RBlk w b room first next (.slice A m C)) (ho : OwnI w base (.slice A m C) m xs) (hm : m ≤ 4096) :
    Calls Try.prog 33 #[.pointer (some ⟨b, 0, none⟩), .int .i64 (n : Int)] w fun e w' => (∃ g, A = some ⟨g, 0, none⟩ ∧ e = .returned (.pointer (some ⟨g, n % room, none⟩))) ∧ ∃ k, w' = w.drewN k := by
  obtain ⟨c0, c1, c2, c3⟩ := h.cells
  obtain ⟨g, rfl, _⟩ := ho.at_ _ hi
  clear h ho
  have e1 : ((n : Int)).tmod (room : Int) = ((n % room : Nat) : Int) := (Int.ofNat_tmod n room).symm
  have h0 : ¬ (room : Int) = 0 := by omega
  have i0 : (0 : Int) ≤ ((n % room : Nat) : Int) := by omega
  have i1 : ((n % room : Nat) : Int) < (m : Int) := by omega
  have i2 : ((n % room : Nat) : Int) ≤ 4096 := by omega
  generalize hk : n % room = k at *
  clear hk
  go_enter Try.func33, Try.ntmps33
  go_upto_region 1 with fail
  go_quiet (fail)
  go_wp2
  go_ret
  exact ⟨⟨g, rfl, rfl⟩, _, rfl⟩
set_option maxRecDepth 100000 in
theorem held_any (n : Int) (hl : first ≤ next) (w : World) (h : RBlk w b room first next s) :
    Calls Try.prog 35 #[.pointer (some ⟨b, 0, none⟩), .int .i64 n] w fun e w' => e = .returned (.int .i64 (min (max n (first : Int)) (next : Int))) ∧ ∃ k, w' = w.drewN k := by
  obtain ⟨c0, c1, c2, c3⟩ := h.cells
  clear h
  obtain ⟨x, hx⟩ : ∃ x, x = min (max n (first : Int)) (next : Int) := ⟨_, rfl⟩
  rw [← hx]
  by_cases h1 : n < (first : Int)
  · obtain rfl : x = (first : Int) := by omega
    have a1 : (n < (first : Int)) = True := eq_true h1
    have a2 : (n ≤ (first : Int)) = True := eq_true (by omega)
    have a3 : ((first : Int) ≤ n) = False := eq_false (by omega)
    have a4 : ((first : Int) < n) = False := eq_false (by omega)
    have b1 : ((first : Int) ≤ (next : Int)) = True := eq_true (by omega)
    have b2 : ((next : Int) < (first : Int)) = False := eq_false (by omega)
    clear h1 hl hx
    go_enter Try.func35, Try.ntmps35
    go_upto_region 1 with fail
    go_region
    go_wp2
    go_ret
    exact ⟨rfl, _, rfl⟩
  · by_cases h2 : n ≤ (next : Int)
    · obtain rfl : x = n := by omega
      have a1 : (x < (first : Int)) = False := eq_false h1
      have a3 : ((first : Int) ≤ x) = True := eq_true (by omega)
      have b2 : (x ≤ (next : Int)) = True := eq_true (by omega)
      have b4 : ((next : Int) < x) = False := eq_false (by omega)
      clear h1 h2 hl hx
      go_enter Try.func35, Try.ntmps35
      go_upto_region 1 with fail
      go_region
      go_wp2
      go_ret
      exact ⟨rfl, _, rfl⟩
    · obtain rfl : x = (next : Int) := by omega
      have a1 : (n < (first : Int)) = False := eq_false h1
      have a3 : ((first : Int) ≤ n) = True := eq_true (by omega)
      have b1 : (n ≤ (next : Int)) = False := eq_false h2
      have b2 : (n < (next : Int)) = False := eq_false (by omega)
      have b3 : ((next : Int) ≤ n) = True := eq_true (by omega)
      clear h1 h2 hl hx
      go_enter Try.func35, Try.ntmps35
      go_upto_region 1 with fail
      go_region
      go_wp2
      · go_ret
        exact ⟨rfl, _, rfl⟩
      · exact (of_eq_false b1 (by assumption)).elim
end
theorem at_none (n : Int) (b : Nat) (R : Rn) (A : Option Addr) (C : Nat) (xs : List Int) (hn : R.kept n ≠ 0) (w : World) (h : RB w b R A C xs) :
    Calls Try.prog 14 #[.pointer (some ⟨b, 0, none⟩), .int .i64 n] w fun e w' => e = .returned (.tuple #[.int .i64 (R.at_ n), .int .i64 (R.kept n)]) ∧ ∃ k, w' = w.drewN k := by
  have e0 : R.at_ n = 0 := by unfold Rn.at_; rw [if_neg hn]
  rw [e0]
  have CK := Lib.hid (kept_any n w h.blk)
  obtain ⟨x, hx⟩ : ∃ x, x = R.kept n := ⟨_, rfl⟩
  rw [← hx] at hn ⊢
  have hx2 : (if n < (R.first : Int) then (90 : Int) else if (R.next : Int) ≤ n then 91 else 0) = x := by rw [hx]; rfl
  rw [hx2] at CK
  clear h hx hx2 e0
  go_enter Try.func14, Try.ntmps14
  go_wp2_with (first
    | (go_at_call 32; (with_reducible refine (CK.out).mono ?_); rintro e w1 ⟨rfl, rfl⟩)
    | fail)
  go_ret2
  exact ⟨rfl, 0, rfl⟩
theorem at_some (n : Int) (b k : Nat) (R : Rn) (A : Option Addr) (C : Nat) (xs : List Int) (hf : R.fit k) (hk : k ≤ 1000000) (hn : R.kept n = 0) (w : World) (h : RB w b R A C xs) :
    Calls Try.prog 14 #[.pointer (some ⟨b, 0, none⟩), .int .i64 n] w fun e w' => e = .returned (.tuple #[.int .i64 (R.at_ n), .int .i64 (R.kept n)]) ∧ ∃ k, w' = w.drewN k := by
  obtain ⟨i, hi, hl, hi2⟩ := R.kept_zero hn
  have e0 : R.at_ n = R.l.getD i 0 := by unfold Rn.at_; rw [if_pos hn, hi2]
  rw [e0]
  have CK := Lib.hid (kept_any n w h.blk)
  have hx2 : (if n < (R.first : Int) then (90 : Int) else if (R.next : Int) ≤ n then 91 else 0) = 0 := hn
  rw [hx2] at CK
  rw [hn]
  obtain ⟨hin, hv⟩ := h.inRow i hl
  have h1 := hf.lo
  have h2 := hf.hi
  have h3 := hf.next
  have h4 := h.le
  obtain ⟨N, hN⟩ : ∃ N, N = R.first + i := ⟨_, rfl⟩
  rw [← hN] at hi hin hv
  have CS := Lib.hid (slot_any N 0 C xs.length A xs h1 (by unfold Rn.next at h3; omega) h2 hin w h.blk h.own (by omega))
  obtain ⟨g, eA, _, _, hc, hfz, _⟩ := h.own.at_ _ hin
  rw [hv] at hc
  have HC := Lib.hid hc
  have HA := Lib.hid eA
  clear h hx2 e0 hc hfz hin hv h1 h2 h3 h4 hl hi2 hn hf eA hN
  subst hi
  generalize R.l.getD i 0 = v at *
  go_enter Try.func14, Try.ntmps14
  go_wp2_with (first
    | (go_at_call 32; (with_reducible refine (CK.out).mono ?_); rintro e w1 ⟨rfl, rfl⟩)
    | (go_at_call 33; (with_reducible refine (CS.out).mono ?_); rintro e w1 ⟨⟨g2, eg, rfl⟩, k, rfl⟩; have HE := Lib.hid (HA.out.symm.trans eg); clear eg; have hc := HC.out; obtain rfl : g = g2 := (by have := HE.out; simpa using this))
    | fail)
  go_ret2
  exact ⟨rfl, _, rfl⟩
theorem setr_none (n v : Int) (b : Nat) (R : Rn) (A : Option Addr) (C : Nat) (xs : List Int) (hn : R.kept n ≠ 0) (w : World) (h : RB w b R A C xs) :
    Calls Try.prog 24 #[.pointer (some ⟨b, 0, none⟩), .int .i64 n, .int .i64 v] w fun e w' => e = .returned (.int .i64 (R.kept n)) ∧ w = w' := by
  have CK := Lib.hid (kept_any n w h.blk)
  obtain ⟨x, hx⟩ : ∃ x, x = R.kept n := ⟨_, rfl⟩
  rw [← hx] at hn ⊢
  have hx2 : (if n < (R.first : Int) then (90 : Int) else if (R.next : Int) ≤ n then 91 else 0) = x := by rw [hx]; rfl
  rw [hx2] at CK
  clear h hx hx2
  go_enter Try.func24, Try.ntmps24
  go_wp2_with (first
    | (go_at_call 32; (with_reducible refine (CK.out).mono ?_); rintro e w1 ⟨rfl, rfl⟩)
    | fail)
  go_ret
  exact ⟨rfl, rfl⟩
/-- Numbers that lie near each other have places of their own. -/
theorem mod_apart {first room i j : Nat} (hi : i < room) (hj : j < room) (h : i ≠ j) : (first + i) % room ≠ (first + j) % room := by
  intro e
  have h1 := Nat.div_add_mod (first + i) room
  have h2 := Nat.div_add_mod (first + j) room
  rw [e] at h1
  generalize (first + i) / room = p at *
  generalize (first + j) / room = q at *
  have h3 : room * p + j = room * q + i := by omega
  rcases Nat.lt_trichotomy p q with g | g | g
  · have : room * (p + 1) ≤ room * q := Nat.mul_le_mul_left _ g
    rw [Nat.mul_add, Nat.mul_one] at this
    omega
  · subst g; omega
  · have : room * (q + 1) ≤ room * p := Nat.mul_le_mul_left _ g
    rw [Nat.mul_add, Nat.mul_one] at this
    omega
/-- An entry's slot is written. -/
theorem RB.store {w : World} {b C : Nat} {R : Rn} {g : Nat} {xs : List Int} (h : RB w b R (some ⟨g, 0, none⟩) C xs) (hr : R.l.length ≤ R.room) (i : Nat) (hi : i < R.l.length) (v : Int) :
    RB (w.setCell ⟨g, (R.first + i) % R.room, none⟩ (.int .i64 v)) b ⟨R.room, R.first, R.l.set i v⟩ (some ⟨g, 0, none⟩) C (xs.set ((R.first + i) % R.room) v) := by
  have hg := h.apart g rfl
  have e1 : (⟨R.room, R.first, R.l.set i v⟩ : Rn).next = R.next := by unfold Rn.next; simp
  have hin := (h.inRow i hi).1
  refine ⟨?_, ?_, ?_, ?_⟩
  · rw [e1, List.length_set]; exact h.blk.other (p := ⟨g, _, none⟩) (fun e => hg e.symm) _
  · rw [List.length_set]; exact h.own.set _ _
  · rw [List.length_set]; exact h.le
  · intro j hj
    have hj2 : j < R.l.length := by simpa using hj
    show (xs.set ((R.first + i) % R.room) v)[(R.first + j) % R.room]? = (R.l.set i v)[j]?
    by_cases e : i = j
    · subst e
      rw [List.getElem?_set_self (by exact hin), List.getElem?_set_self hi]
    · rw [List.getElem?_set_ne (mod_apart (by omega) (by omega) e), List.getElem?_set_ne e]
      exact h.spot j hj2
theorem setr_some (n v : Int) (b k : Nat) (R : Rn) (A : Option Addr) (C : Nat) (xs : List Int) (hf : R.fit k) (hk : k ≤ 1000000) (hn : R.kept n = 0) (w : World) (h : RB w b R A C xs) :
    Calls Try.prog 24 #[.pointer (some ⟨b, 0, none⟩), .int .i64 n, .int .i64 v] w fun e w' => e = .returned (.int .i64 0) ∧ Hid (∃ xs', xs'.length = xs.length ∧ RB w' b (R.set n v) A C xs') ∧ Hid (Frm b (Value.slice A xs.length C).ownBlock w w') := by
  obtain ⟨i, hi, hl, hi2⟩ := R.kept_zero hn
  have e0 : R.set n v = ⟨R.room, R.first, R.l.set i v⟩ := by unfold Rn.set; rw [if_pos hn, hi2]
  rw [e0]
  have CK := Lib.hid (kept_any n w h.blk)
  have hx2 : (if n < (R.first : Int) then (90 : Int) else if (R.next : Int) ≤ n then 91 else 0) = 0 := hn
  rw [hx2] at CK
  obtain ⟨hin, hv⟩ := h.inRow i hl
  have h1 := hf.lo
  have h2 := hf.hi
  have h3 := hf.next
  have h4 := h.le
  obtain ⟨g, eA, _, _, hc, hfz, _⟩ := h.own.at_ _ hin
  subst eA
  have HS := Lib.hid (h.store hf.len i hl v)
  obtain ⟨N, hN⟩ : ∃ N, N = R.first + i := ⟨_, rfl⟩
  rw [← hN] at hi hin hv hc hfz HS
  have CS := Lib.hid (slot_any N 0 C xs.length _ xs h1 (by unfold Rn.next at h3; omega) h2 hin w h.blk h.own (by omega))
  have HC := Lib.hid hc
  have HF := Lib.hid hfz
  clear h hx2 e0 hc hfz hin hv h1 h2 h3 h4 hl hi2 hn hf hN
  subst hi
  generalize N % R.room = p at *
  go_enter Try.func24, Try.ntmps24
  go_wp2_with (first
    | (go_at_call 32; (with_reducible refine (CK.out).mono ?_); rintro e w1 ⟨rfl, rfl⟩)
    | (go_at_call 33; (with_reducible refine (CS.out).mono ?_); rintro e w1 ⟨⟨g2, eg, rfl⟩, k, rfl⟩; have HE := Lib.hid eg; clear eg; obtain rfl : g = g2 := (by have := HE.out; simpa using this); have hc := HC.out; have hfz := HF.out)
    | fail)
  go_ret
  refine ⟨rfl, Lib.hid ⟨_, ?_, HS.out.drewN k⟩, Lib.hid ((Frm.setSlot b g p w _).drewN k)⟩
  exact List.length_set ..
end Go.Proofs.Ytjkobejhbgjhlaa
