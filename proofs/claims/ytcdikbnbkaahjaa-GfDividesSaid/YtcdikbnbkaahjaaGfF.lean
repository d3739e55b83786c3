/-
  Own text: the laws on quotients, powers and logs, walked.
-/
import Derived.Test.YtcdikbnbkaahjaaGfE
namespace Go.Proofs.Ytcdikbnbkaahjaa
open Go.RowKit

theorem IsTab.drewN {w : World} {b : Nat} (h : IsTab w b) (n : Nat) : IsTab (w.drewN n) b := h
theorem divides_walk (x y : Int) (w : World) (hx : (Lit.int .u8 x).wf = true) (hy : (Lit.int .u8 y).wf = true) :
    Calls Try.prog 4 #[.int .u8 x, .int .u8 y] w fun e w' => e = .returned (.bool true) ∧ Below w.heap.size w w' := by
  obtain ⟨a, rfl, ha⟩ := u8_of hx
  obtain ⟨b, rfl, hb⟩ := u8_of hy
  clear hx hy
  by_cases h0 : b = 0
  · subst h0
    go_enter Try.func4, Try.ntmps4
    go_wp2_with (first
      | (go_at_call 9; refine (awake_any _).mono ?_; rintro e w1 ⟨rfl, hb1⟩; have HB1 := Lib.hid hb1; clear hb1)
      | (go_at_call 10; refine (new_any _).mono ?_; rintro e w2 ⟨rfl, ht, hb2⟩; have HT := Lib.hid ht; clear ht; have HB2 := Lib.hid (HB1.out.trans (hb2.mono HB1.out.size)); clear hb2)
      | (go_at_call 13; refine (inv_none _ _).mono ?_; rintro e w' ⟨rfl, rfl⟩)
      | (go_at_call 14; refine (div_none _ _ _).mono ?_; rintro e w' ⟨rfl, rfl⟩))
    go_ret
    exact ⟨rfl, HB2.out⟩
  · have CI := Lib.hid (fun (t : Nat) (w : World) (ht : IsTab w t) => inv_some t b hb h0 w ht)
    have CD := Lib.hid (fun (t : Nat) (w : World) (ht : IsTab w t) => div_some t a b ha hb h0 w ht)
    have CR := Lib.hid (fun (w : World) => rinv_any b hb h0 w)
    have CP := Lib.hid (fun (w : World) => rmul_any a (gi b) ha (gi_lt b) w)
    have he : gm (gm a (gi b)) b = a := by rw [← gm_assoc ha (gi_lt b) hb, gi_gm hb h0, gm_one a ha]
    have cm := fun (t : Nat) (w : World) (ht : IsTab w t) => mul_any t (gm a (gi b)) b (gm_lt ha (gi_lt b)) hb w ht
    rw [he] at cm
    have CM := Lib.hid cm
    have h1 : ((b : Int) == 0) = false := by simp; omega
    clear cm he h0
    generalize gm a (gi b) = q at *
    generalize gi b = i at *
    go_enter Try.func4, Try.ntmps4
    go_wp2_with (first
      | (go_at_call 9; refine (awake_any _).mono ?_; rintro e w1 ⟨rfl, hb1⟩; have HB1 := Lib.hid hb1; clear hb1)
      | (go_at_call 10; refine (new_any _).mono ?_; rintro e w2 ⟨rfl, ht, hb2⟩; have HT := Lib.hid ht; clear ht; have HB2 := Lib.hid (HB1.out.trans (hb2.mono HB1.out.size)); clear hb2)
      | (go_at_call 13; refine (CI.out _ _ HT.out).mono ?_; rintro e w' ⟨rfl, rfl⟩)
      | (go_at_call 14; refine (CD.out _ _ HT.out).mono ?_; rintro e w' ⟨rfl, n, rfl⟩; have HT3 := Lib.hid (HT.out.drewN n))
      | (go_at_call 15; refine (CR.out _).mono ?_; rintro e w' ⟨rfl, rfl⟩)
      | (go_at_call 12; refine (CP.out _).mono ?_; rintro e w' ⟨rfl, rfl⟩)
      | (go_at_call 11; refine (CM.out _ _ HT3.out).mono ?_; rintro e w' ⟨rfl, m, rfl⟩))
    go_ret
    exact ⟨rfl, below_drewN HB2.out _⟩
theorem logs_walk (x n : Int) (w : World) (hx : (Lit.int .u8 x).wf = true) (hn : (Lit.int .i64 n).wf = true) :
    Calls Try.prog 6 #[.int .u8 x, .int .i64 n] w fun e w' => e = .returned (.bool true) ∧ Below w.heap.size w w' := by
  obtain ⟨a, rfl, ha⟩ := u8_of hx
  clear hx hn
  by_cases h0 : a = 0
  · subst h0
    go_enter Try.func6, Try.ntmps6
    go_wp2_with (first
      | (go_at_call 9; refine (awake_any _).mono ?_; rintro e w1 ⟨rfl, hb1⟩; have HB1 := Lib.hid hb1; clear hb1)
      | (go_at_call 10; refine (new_any _).mono ?_; rintro e w2 ⟨rfl, ht, hb2⟩; have HT := Lib.hid ht; clear ht; have HB2 := Lib.hid (HB1.out.trans (hb2.mono HB1.out.size)); clear hb2)
      | (go_at_call 19; refine (log_none _ _).mono ?_; rintro e w' ⟨rfl, rfl⟩))
    go_ret
    exact ⟨rfl, HB2.out⟩
  · have CL := Lib.hid (fun (t : Nat) (w : World) (ht : IsTab w t) => log_some t a ha h0 w ht)
    have h1 : ((a : Int) == 0) = false := by simp; omega
    have hl := (lg_all a ha h0).1
    have ce := fun (t : Nat) (w : World) (ht : IsTab w t) => exp_any t (lg a) w ht
    rw [pwZ_lg ha h0] at ce
    have CE := Lib.hid ce
    clear ce
    have HQ : Hid (∀ k : Nat, k < 255 → (pwZ k = a ↔ k = lg a)) := Lib.hid (fun k hk => by
      rw [pwZ_nat]
      constructor
      · intro e; rw [← e, lg_pw k hk]
      · intro e; rw [e]; exact (lg_all a ha h0).2)
    have CN := Lib.hid (fun (t : Nat) (w : World) (ht : IsTab w t) => exp_any t n w ht)
    have hp := pwZ_lt n
    generalize lg a = l at *
    clear h0
    have fin : ∀ (p : Nat), p = pwZ n → ((n < 0) ∨ (254 < n) ∨ (0 ≤ n ∧ n ≤ 254 ∧ ((p : Int) == a) = true ∧ (n == (l : Int)) = true) ∨ (0 ≤ n ∧ n ≤ 254 ∧ ((p : Int) == a) = false ∧ (n == (l : Int)) = false)) := by
      intro p ep
      by_cases g1 : n < 0
      · exact .inl g1
      · by_cases g2 : 254 < n
        · exact .inr (.inl g2)
        · obtain ⟨k, rfl⟩ : ∃ k : Nat, n = k := ⟨n.toNat, by omega⟩
          have hq := HQ.out k (by omega)
          rw [← ep] at hq
          by_cases e : k = l
          · exact .inr (.inr (.inl ⟨by omega, by omega, by have := hq.2 e; simp; omega, by simp; omega⟩))
          · exact .inr (.inr (.inr ⟨by omega, by omega, by have : ¬ p = a := fun h => e (hq.1 h)
                                                           simp; omega, by simp; omega⟩))
    have F := fin _ rfl
    clear fin
    generalize pwZ n = p at *
    rcases F with g1 | g1 | ⟨g1, g2, g3, g4⟩ | ⟨g1, g2, g3, g4⟩
    all_goals
      go_enter Try.func6, Try.ntmps6
      go_wp2_with (first
        | (go_at_call 9; refine (awake_any _).mono ?_; rintro e w1 ⟨rfl, hb1⟩; have HB1 := Lib.hid hb1; clear hb1)
        | (go_at_call 10; refine (new_any _).mono ?_; rintro e w2 ⟨rfl, ht, hb2⟩; have HT := Lib.hid ht; clear ht; have HB2 := Lib.hid (HB1.out.trans (hb2.mono HB1.out.size)); clear hb2)
        | (go_at_call 19; refine (CL.out _ _ HT.out).mono ?_; rintro e w' ⟨rfl, rfl⟩)
        | (go_at_call 18; (with_reducible refine (CE.out _ _ HT.out).mono ?_); rintro e w' ⟨rfl, rfl⟩)
        | (go_at_call 18; (with_reducible refine (CN.out _ _ HT.out).mono ?_); rintro e w' ⟨rfl, rfl⟩))
      go_ret
      exact ⟨rfl, HB2.out⟩
theorem pows_walk (x n : Int) (w : World) (hx : (Lit.int .u8 x).wf = true) (hn : (Lit.int .i64 n).wf = true) :
    Calls Try.prog 5 #[.int .u8 x, .int .i64 n] w fun e w' => e = .returned (.bool true) ∧ Below w.heap.size w w' := by
  obtain ⟨a, rfl, ha⟩ := u8_of hx
  clear hx hn
  by_cases h0 : a = 0
  · subst h0
    rcases (show n < 0 ∨ n = 0 ∨ 0 < n by omega) with g | g | g
    · go_enter Try.func5, Try.ntmps5
      go_wp2_with (first
        | (go_at_call 9; refine (awake_any _).mono ?_; rintro e w1 ⟨rfl, hb1⟩; have HB1 := Lib.hid hb1; clear hb1)
        | (go_at_call 10; refine (new_any _).mono ?_; rintro e w2 ⟨rfl, ht, hb2⟩; have HT := Lib.hid ht; clear ht; have HB2 := Lib.hid (HB1.out.trans (hb2.mono HB1.out.size)); clear hb2)
        | (go_at_call 16; refine (pow_none _ _ g _).mono ?_; rintro e w' ⟨rfl, rfl⟩))
      go_ret
      exact ⟨rfl, HB2.out⟩
    · subst g
      go_enter Try.func5, Try.ntmps5
      go_wp2_with (first
        | (go_at_call 9; refine (awake_any _).mono ?_; rintro e w1 ⟨rfl, hb1⟩; have HB1 := Lib.hid hb1; clear hb1)
        | (go_at_call 10; refine (new_any _).mono ?_; rintro e w2 ⟨rfl, ht, hb2⟩; have HT := Lib.hid ht; clear ht; have HB2 := Lib.hid (HB1.out.trans (hb2.mono HB1.out.size)); clear hb2)
        | (go_at_call 16; refine (pow_zero _ 0 _).mono ?_; rintro e w' ⟨rfl, rfl⟩))
      go_ret
      exact ⟨rfl, HB2.out⟩
    · have g1 : (n == 0) = false := by simp; omega
      go_enter Try.func5, Try.ntmps5
      go_wp2_with (first
        | (go_at_call 9; refine (awake_any _).mono ?_; rintro e w1 ⟨rfl, hb1⟩; have HB1 := Lib.hid hb1; clear hb1)
        | (go_at_call 10; refine (new_any _).mono ?_; rintro e w2 ⟨rfl, ht, hb2⟩; have HT := Lib.hid ht; clear ht; have HB2 := Lib.hid (HB1.out.trans (hb2.mono HB1.out.size)); clear hb2)
        | (go_at_call 16; refine (pow_null _ _ g _).mono ?_; rintro e w' ⟨rfl, rfl⟩))
      go_ret
      exact ⟨rfl, HB2.out⟩
  · have h1 : ((a : Int) == 0) = false := by simp; omega
    have CP := Lib.hid (fun (t : Nat) (w : World) (ht : IsTab w t) => pow_some t a n ha h0 w ht)
    have CE := Lib.hid (fun (t : Nat) (w : World) (ht : IsTab w t) => exp_any t n w ht)
    have key : ∀ q : Nat, q < 255 → (n % 255).toNat = q → (∀ w, Calls Try.prog 17 #[.int .u8 a, .int .i64 q] w fun e w' => e = .returned (.int .u8 (pwZ (lg a * n))) ∧ w = w') ∧
        (∀ w, Calls Try.prog 17 #[.int .u8 2, .int .i64 q] w fun e w' => e = .returned (.int .u8 (pwZ n)) ∧ w = w') := by
      intro q hq e
      have e1 : (q : Int) = n % 255 := by omega
      constructor
      · intro w
        have := rpow_any a q ha h0 hq w
        rwa [e1, show pwZ (lg a * (n % 255)) = pwZ (lg a * n) from pwZ_same (by rw [Int.mul_emod, Int.emod_emod, ← Int.mul_emod]), ← e1] at this
      · intro w
        have := rpow_any 2 q (by omega) (by omega) hq w
        rwa [show lg 2 = 1 from by decide +kernel, show pwZ (((1 : Nat) : Int) * q) = pwZ n from pwZ_same (by omega)] at this
    have hp := pwZ_lt n
    have hp2 := pwZ_lt (lg a * n)
    rcases rest_of n with ⟨q, k1, k2, k3⟩ | ⟨q, k0, k1, k2, k3⟩
    all_goals
      obtain ⟨c1, c2⟩ := key q k1 k3
      have C1 := Lib.hid c1
      have C2 := Lib.hid c2
      clear c1 c2 key k3
      generalize pwZ n = p at *
      generalize pwZ (lg a * n) = r at *
      clear h0
      go_enter Try.func5, Try.ntmps5
      go_wp2_with (first
        | (go_at_call 9; refine (awake_any _).mono ?_; rintro e w1 ⟨rfl, hb1⟩; have HB1 := Lib.hid hb1; clear hb1)
        | (go_at_call 10; refine (new_any _).mono ?_; rintro e w2 ⟨rfl, ht, hb2⟩; have HT := Lib.hid ht; clear ht; have HB2 := Lib.hid (HB1.out.trans (hb2.mono HB1.out.size)); clear hb2)
        | (go_at_call 16; refine (CP.out _ _ HT.out).mono ?_; rintro e w' ⟨rfl, rfl⟩)
        | (go_at_call 18; refine (CE.out _ _ HT.out).mono ?_; rintro e w' ⟨rfl, rfl⟩)
        | (go_at_call 17; (with_reducible refine (C1.out _).mono ?_); rintro e w' ⟨rfl, rfl⟩)
        | (go_at_call 17; (with_reducible refine (C2.out _).mono ?_); rintro e w' ⟨rfl, rfl⟩))
      go_ret
      exact ⟨rfl, HB2.out⟩
end Go.Proofs.Ytcdikbnbkaahjaa
