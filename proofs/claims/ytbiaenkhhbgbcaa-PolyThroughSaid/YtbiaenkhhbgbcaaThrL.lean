/-
  Own text: law PolyThrough, walked.
-/
import Derived.Test.YtbiaenkhhbgbcaaAwk
namespace Go.Proofs.Ytbiaenkhhbgbcaa
open Go.RowKit

theorem thru_big (p : Option Addr) (n c : Nat) (w : World) (hx : n ≤ 9223372036854775807) (h : ¬ n ≤ 40) :
    Calls Try.prog 6 #[.slice p n c] w (Woke w) := by
  have h1 : (40 : Int) < n := by omega
  go_enter Try.func6, Try.ntmps6
  go_wp2_with (go_at_call 8; refine (awake4_any _).mono ?_; rintro e w1 ⟨rfl, hb1⟩; have HB1 := Lib.hid hb1; clear hb1)
  go_ret
  exact ⟨rfl, HB1.out⟩
/-- Two points at one place. -/
def Dup (X : Nat → Nat) (n : Nat) : Prop := ∃ i j, i < j ∧ j < n ∧ X i = X j
/-- None before. -/
def NoDup (X : Nat → Nat) (n : Nat) : Prop := ∀ i j, i < j → j < n → X i ≠ X j
set_option maxRecDepth 100000 in
set_option maxHeartbeats 1000000 in
theorem thru_dup (p : Option Addr) (n c : Nat) (X Y : Nat → Nat) (w : World) (hp : Pts w p n X Y) (hn : n ≤ 40) (hd : Dup X n) :
    Calls Try.prog 6 #[.slice p n c] w (Woke w) := by
  have HP := Lib.hid hp
  have HD := Lib.hid hd
  have CT := Lib.hid (fun t w (ht : IsTab w t) (hp : Pts w p n X Y) => (through_any t p n c X Y w ht hp (by omega)).mono (R' := fun e w' => e = .returned (.tuple #[.slice none 0 0, .int .i64 40]) ∧ Below w.heap.size w w') (fun e w' h => by
    obtain ⟨h1, (⟨_, h2⟩ | ⟨A, m, C, P, Q, h2, _⟩)⟩ := h
    · exact ⟨h2, h1⟩
    · obtain ⟨i, j, h3, h4, h5⟩ := hd
      exact absurd h5 (h2.apart i j h3 h4)))
  have hn1 : ¬ (40 : Int) < n := by omega
  clear hp hd
  go_enter Try.func6, Try.ntmps6
  go_wp2_with (first
    | (go_at_call 8; refine (awake4_any _).mono ?_; rintro e w1 ⟨rfl, hb1⟩; have HB1 := Lib.hid hb1; clear hb1)
    | (go_at_call 10; refine (new_any _).mono ?_; rintro e w2 ⟨rfl, ht, hb⟩; have HT2 := Lib.hid ht; have HB2 := Lib.hid (HB1.out.trans (hb.mono HB1.out.size)); clear ht hb)
    | (go_at_call 25; refine (CT.out _ _ HT2.out (HP.out.below HB2.out (Nat.le_refl _))).mono ?_; rintro e w3 ⟨rfl, hb⟩; have HB3 := Lib.hid (HB2.out.trans (hb.mono HB2.out.size)); clear hb))
  have HN0 : Hid (NoDup X 0) := Lib.hid (fun i j _ h => by omega)
  go_loopw [5, 6] (fun i _ wr => ∃ k : Nat, k ≤ n ∧ i = .int .i64 k ∧ Hid (NoDup X k) ∧ Hid (Below w.heap.size w wr)) (fun i _ _ => n - (intOf i).toNat)
  case atStart => exact ⟨0, by omega, rfl, HN0, HB3⟩
  case round =>
    obtain ⟨i, hi, rfl, HN, HB⟩ := hrel
    obtain ⟨wo, ho⟩ : ∃ wo, wo = wr := ⟨_, rfl⟩
    subst ho
    by_cases hlt : i < n
    · have HM0 : Hid (∀ k', k' < 0 → X k' ≠ X i) := Lib.hid (fun k' h => by omega)
      go_wp2
      go_loopw [6] (fun k wr => ∃ k0 : Nat, k0 ≤ i ∧ k = .int .i64 k0 ∧ Hid (∀ k', k' < k0 → X k' ≠ X i) ∧ Hid (Below w.heap.size w wr)) (fun k _ => i - (intOf k).toNat)
      case atStart => exact ⟨0, by omega, rfl, HM0, HB⟩
      case round =>
        obtain ⟨k, hk, rfl, HM, HB4⟩ := hrel
        by_cases hl2 : k < i
        · obtain ⟨b, off, rfl, c1, c2⟩ : ∃ b off, p = some ⟨b, off, none⟩ ∧ wr.cell? ⟨b, off + i * 2, none⟩ = some (.int .u8 (X i)) ∧ wr.cell? ⟨b, off + k * 2, none⟩ = some (.int .u8 (X k)) := by
            rcases (HP.out.below HB4.out (Nat.le_refl _)).cell with h | ⟨b, off, e, _, h⟩
            · omega
            · exact ⟨b, off, e, (h i hlt).1, (h k (by omega)).1⟩
          have i0 : (0 : Int) ≤ i := by omega
          have i1 : (i : Int) < n := by omega
          have k0 : (0 : Int) ≤ k := by omega
          have k1 : (k : Int) < n := by omega
          have k2 : (k : Int) < i := by omega
          by_cases he : X k = X i
          · rw [he] at c2
            generalize X i = u at *
            have hbe : ((u : Int) == (u : Int)) = true := by simp
            clear he
            go_wp2
            go_quiet (fail)
            go_wp2
            go_ret
            exact ⟨rfl, below_drewN HB4.out _⟩
          · have HE := Lib.hid he
            have hbe : ((X i : Int) == (X k : Int)) = false := by rw [beq_eq_false_iff_ne]; omega
            clear he
            go_wp2
            go_quiet (fail)
            go_wp2
            go_roundw
            case rel => exact ⟨k + 1, by omega, by go_num, Lib.hid (fun k' h => by
              by_cases g : k' = k
              · rw [g]; exact HE.out
              · exact HM.out k' (by omega)), Lib.hid (below_drewN HB4.out _)⟩
            case measure => simp [intOf] <;> omega
        · obtain rfl : k = i := by omega
          go_wp2
          go_roundw
          case rel => exact ⟨k + 1, by omega, by go_num, Lib.hid (fun i' j' h1 h2 => by
              by_cases g : j' = k
              · subst g; exact HM.out i' h1
              · exact HN.out i' j' h1 (by omega)), HB4⟩
          case measure => simp [intOf] <;> omega
    · obtain rfl : i = n := by omega
      obtain ⟨i', j', h3, h4, h5⟩ := HD.out
      exact absurd h5 (HN.out i' j' h3 h4)
set_option maxRecDepth 100000 in
set_option maxHeartbeats 1000000 in
theorem thru_apart (p : Option Addr) (n c : Nat) (X Y : Nat → Nat) (w : World) (hp : Pts w p n X Y) (hn : n ≤ 40) (hd : NoDup X n) :
    Calls Try.prog 6 #[.slice p n c] w (Woke w) := by
  have HP := Lib.hid hp
  have HD := Lib.hid hd
  have CT := Lib.hid (fun t w (ht : IsTab w t) (hp : Pts w p n X Y) => (through_any t p n c X Y w ht hp (by omega)).mono (R' := fun e w' => Below w.heap.size w w' ∧ ∃ A m C P, e = .returned (.tuple #[.slice A m C, .int .i64 0]) ∧ Sl w' A m C P ∧ dn P = m ∧ m ≤ n ∧ ∀ i, i < n → evL (X i) P = Y i) (fun e w' h => by
    obtain ⟨h1, (⟨⟨i, j, h3, h4, h5⟩, _⟩ | ⟨A, m, C, P, Q, h2, h3, h4⟩)⟩ := h
    · exact absurd h5 (hd i j h3 h4)
    · have hs := h4.bytes.size
      exact ⟨h1, A, m, C, P, h3, h4, by rw [← hs]; exact h2.pneat, by rw [← hs]; exact h2.plen, h2.thro⟩))
  have hn1 : ¬ (40 : Int) < n := by omega
  clear hp hd
  go_enter Try.func6, Try.ntmps6
  go_wp2_with (first
    | (go_at_call 8; refine (awake4_any _).mono ?_; rintro e w1 ⟨rfl, hb1⟩; have HB1 := Lib.hid hb1; clear hb1)
    | (go_at_call 10; refine (new_any _).mono ?_; rintro e w2 ⟨rfl, ht, hb⟩; have HT2 := Lib.hid ht; have HB2 := Lib.hid (HB1.out.trans (hb.mono HB1.out.size)); clear ht hb)
    | (go_at_call 25; refine (CT.out _ _ HT2.out (HP.out.below HB2.out (Nat.le_refl _))).mono ?_; rintro e w3 ⟨hb, A, m, C, P, rfl, hsl, hdn, hmn, hth⟩; have HB3 := Lib.hid (HB2.out.trans (hb.mono HB2.out.size)); have HSL := Lib.hid hsl; have HDN := Lib.hid hdn; have HTH := Lib.hid hth; clear hb hsl hdn hth))
  have H30 := Lib.hid (Below.refl w3.heap.size w3)
  go_loopw [5, 6] (fun i _ wr => ∃ k : Nat, k ≤ n ∧ i = .int .i64 k ∧ Hid (Below w3.heap.size w3 wr)) (fun i _ _ => n - (intOf i).toNat)
  case atStart => exact ⟨0, by omega, rfl, H30⟩
  case round =>
    obtain ⟨i, hi, rfl, HB⟩ := hrel
    obtain ⟨wo, ho⟩ : ∃ wo, wo = wr := ⟨_, rfl⟩
    subst ho
    by_cases hlt : i < n
    · go_wp2
      go_loopw [6] (fun k wr => ∃ k0 : Nat, k0 ≤ i ∧ k = .int .i64 k0 ∧ Hid (Below w3.heap.size w3 wr)) (fun k _ => i - (intOf k).toNat)
      case atStart => exact ⟨0, by omega, rfl, HB⟩
      case round =>
        obtain ⟨k, hk, rfl, HB4⟩ := hrel
        by_cases hl2 : k < i
        · obtain ⟨b, off, rfl, c1, c2⟩ : ∃ b off, p = some ⟨b, off, none⟩ ∧ wr.cell? ⟨b, off + i * 2, none⟩ = some (.int .u8 (X i)) ∧ wr.cell? ⟨b, off + k * 2, none⟩ = some (.int .u8 (X k)) := by
            rcases (HP.out.below (HB3.out.trans (HB4.out.mono HB3.out.size)) (Nat.le_refl _)).cell with h | ⟨b, off, e, _, h⟩
            · omega
            · exact ⟨b, off, e, (h i hlt).1, (h k (by omega)).1⟩
          have i0 : (0 : Int) ≤ i := by omega
          have i1 : (i : Int) < n := by omega
          have k0 : (0 : Int) ≤ k := by omega
          have k1 : (k : Int) < n := by omega
          have k2 : (k : Int) < i := by omega
          have he := HD.out k i hl2 hlt
          have hbe : ((X i : Int) == (X k : Int)) = false := by rw [beq_eq_false_iff_ne]; omega
          clear he
          go_wp2
          go_quiet (fail)
          go_wp2
          go_roundw
          case rel => exact ⟨k + 1, by omega, by go_num, Lib.hid (below_drewN HB4.out _)⟩
          case measure => simp [intOf] <;> omega
        · obtain rfl : k = i := by omega
          go_wp2
          go_roundw
          case rel => exact ⟨k + 1, by omega, by go_num, HB4⟩
          case measure => simp [intOf] <;> omega
    · obtain rfl : i = n := by omega
      have HR := Lib.hid (rdegree_any A m C P wo (HSL.out.below HB.out (Nat.le_refl _)).bytes)
      rw [HDN.out] at HR
      have g1 : ¬ (i : Int) < m := by omega
      go_wp2_with (go_at_call 20; (with_reducible refine HR.out.mono ?_); rintro e w4 ⟨rfl, rfl⟩)
      go_loopw [7] (fun k wr => ∃ k0 : Nat, k0 ≤ i ∧ k = .int .i64 k0 ∧ Hid (Below w3.heap.size w3 wr)) (fun k _ => i - (intOf k).toNat)
      case atStart => exact ⟨0, by omega, rfl, HB⟩
      case round =>
        obtain ⟨k, hk, rfl, HB4⟩ := hrel
        by_cases hl2 : k < i
        · obtain ⟨b, off, rfl, c1, c2⟩ : ∃ b off, p = some ⟨b, off, none⟩ ∧ wr.cell? ⟨b, off + k * 2, none⟩ = some (.int .u8 (X k)) ∧ wr.cell? ⟨b, off + k * 2 + 1, none⟩ = some (.int .u8 (Y k)) := by
            rcases (HP.out.below (HB3.out.trans (HB4.out.mono HB3.out.size)) (Nat.le_refl _)).cell with h | ⟨b, off, e, _, h⟩
            · omega
            · exact ⟨b, off, e, h k hl2⟩
          have CE : Hid (∀ j, Calls Try.prog 22 #[.slice A m C, .int .u8 (X k)] (wr.drewN j) fun e w' => e = .returned (.int .u8 (Y k)) ∧ wr.drewN j = w') := Lib.hid (fun j => by
            have := reval_any A m C P (X k) (HP.out.x k hl2) (wr.drewN j) ((HSL.out.below HB4.out (Nat.le_refl _)).bytes.drewN j)
            rwa [HTH.out k hl2] at this)
          have k0 : (0 : Int) ≤ k := by omega
          have k1 : (k : Int) < i := by omega
          generalize X k = u at *
          generalize Y k = v at *
          have hne : ((v : Int) != (v : Int)) = false := by simp
          go_wp2
          go_quiet ((go_at_call 22; exact (CE.out _).mono fun _ _ h => ⟨h.1, _, h.2.symm⟩))
          go_wp2
          go_roundw
          case rel => exact ⟨k + 1, by omega, by go_num, Lib.hid (below_drewN HB4.out _)⟩
          case measure => simp [intOf] <;> omega
        · obtain rfl : k = i := by omega
          go_wp2
          go_ret
          exact ⟨rfl, HB3.out.trans (HB4.out.mono HB3.out.size)⟩
theorem thru_walk (p : Option Addr) (n c : Nat) (w : World) (hn : n ≤ 9223372036854775807) (hp : n ≤ 40 → ∃ X Y, Pts w p n X Y) :
    Calls Try.prog 6 #[.slice p n c] w fun e w' => e = .returned (.bool true) ∧ Below w.heap.size w w' := by
  by_cases h : n ≤ 40
  · obtain ⟨X, Y, hxy⟩ := hp h
    by_cases hd : Dup X n
    · exact thru_dup p n c X Y w hxy h hd
    · exact thru_apart p n c X Y w hxy h (fun i j h1 h2 h3 => hd ⟨i, j, h1, h2, h3⟩)
  · exact thru_big p n c w hn h
end Go.Proofs.Ytbiaenkhhbgbcaa
