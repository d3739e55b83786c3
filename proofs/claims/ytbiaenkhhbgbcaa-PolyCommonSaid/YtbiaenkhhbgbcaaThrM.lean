/-
  Own text: values of sums and products of lists; one point more. Plain lists.
-/
import Derived.Test.YtbiaenkhhbgbcaaSlope
import Derived.Test.YtbiaenkhhbgbcaaEval
namespace Go.Proofs.Ytbiaenkhhbgbcaa
open Go.RowKit

theorem sc_by {a : Nat} (ha : a < 256) {l : List Int} (hl : By l) : By (sc a l) := sc_range a ha l hl
theorem sc_co {a : Nat} (ha : a < 256) {l : List Int} (hl : By l) (i : Nat) : co (sc a l) i = mu a (co l i) := by
  by_cases h : i < l.length
  · rw [mu_eq ha (hl.lt i)]
    unfold co
    rw [sc_get _ _ _ h, Int.toNat_natCast]
  · rw [co_out (by rw [sc_length]; omega), co_out (by omega), mu_zero]
theorem evL_add (z : Nat) (x y : List Int) : evL z (addL x y) = evL z x ^^^ evL z y := by
  have e : co (addL x y) = fun i => co x i ^^^ co y i := funext (addL_co x y)
  have h1 := Nat.le_max_left x.length y.length
  have h2 := Nat.le_max_right x.length y.length
  rw [evL_sup (l := addL x y) (N := max x.length y.length) (by rw [e]; exact sum_sup x y), e, ev_xor, evL_sup ((co_sup x).mono h1), evL_sup ((co_sup y).mono h2)]
theorem evL_sc (z : Nat) {a : Nat} (ha : a < 256) {l : List Int} (hl : By l) : evL z (sc a l) = mu a (evL z l) := by
  have e : co (sc a l) = fun i => mu a (co l i) := funext (sc_co ha hl)
  unfold evL
  rw [e, sc_length, ev_scale]
theorem evL_mul (z : Nat) (x y : List Int) : evL z (mulL x y) = mu (evL z x) (evL z y) := by
  have e : co (mulL x y) = conv (co x) (co y) := funext (mulL_co x y)
  rw [evL_sup (l := mulL x y) (N := x.length + y.length) (by rw [e]; exact mulF_sup x y), e, ev_conv z _ (co_sup y) _ (co_sup x)]
  rfl
theorem two_by {x : Nat} (hx : x < 256) : By [(x : Int), 1] := fun z hz => by simp at hz; omega
theorem two_neat {x : Nat} (hx : x < 256) : Neat [(x : Int), 1] := neat_of (two_by hx) (fun _ => by simp [co])
theorem evL_two {z x : Nat} (hz : z < 256) (hx : x < 256) : evL z [(x : Int), 1] = x ^^^ z := by
  unfold evL
  show co [(x : Int), 1] 0 ^^^ mu z (co [(x : Int), 1] 1 ^^^ mu z 0) = _
  rw [mu_zero, Nat.xor_zero]
  have e0 : co [(x : Int), 1] 0 = x := by simp [co]
  have e1 : co [(x : Int), 1] 1 = 1 := by simp [co]
  rw [e0, e1, mu_one hz]
theorem one_by : By [1] := fun z hz => by simp at hz; omega
theorem one_neat : Neat [1] := neat_of one_by (fun _ => by simp [co])
theorem xor_eq_zero' {a b : Nat} : a ^^^ b = 0 ↔ a = b := ⟨fun h => by
  have := xor_back a b
  rw [h, Nat.zero_xor] at this
  exact this.symm, fun h => by rw [h, Nat.xor_self]⟩
/-- Behind so many points: the polynomial, and the one that is 0 at their places. -/
structure Thr (X Y : Nat → Nat) (k : Nat) (p q : List Int) : Prop where
  pby : By p
  pneat : Neat p
  plen : p.length ≤ k
  qby : By q
  qneat : Neat q
  qlen : q.length = k + 1
  thro : ∀ i, i < k → evL (X i) p = Y i
  nought : ∀ z, z < 256 → (evL z q = 0 ↔ ∃ i, i < k ∧ z = X i)
  apart : ∀ i j, i < j → j < k → X i ≠ X j
theorem thr_zero (X Y : Nat → Nat) : Thr X Y 0 [] [1] :=
  ⟨By.nil, neat_nil, Nat.le_refl _, one_by, one_neat, rfl, fun i h => by omega, fun z _ => ⟨fun h => by
    unfold evL at h
    rw [show ([1] : List Int).length = 0 + 1 from rfl, ev_succ] at h
    have e : co [1] 0 = 1 := rfl
    rw [e] at h
    have : ev z (fun i => co [1] (i + 1)) 0 = 0 := rfl
    rw [this, mu_zero] at h
    simp at h, fun ⟨i, h, _⟩ => by omega⟩, fun i j _ h => by omega⟩
theorem Thr.step {X Y : Nat → Nat} {k : Nat} {p q : List Int} (h : Thr X Y k p q) (hx : ∀ i, i < k + 1 → X i < 256) (hy : Y k < 256) (hz : evL (X k) q ≠ 0) :
    Thr X Y (k + 1) (addL p (sc (gm (Y k ^^^ evL (X k) p) (gi (evL (X k) q))) q)) (mulL q [(X k : Int), 1]) := by
  have l1 : evL (X k) p < 256 := evL_lt h.pby
  have l2 : evL (X k) q < 256 := evL_lt h.qby
  have l3 : Y k ^^^ evL (X k) p < 256 := xor_lt hy l1
  have hxk := hx k (by omega)
  have lc := gm_lt l3 (gi_lt (evL (X k) q))
  have dq : dn q = k + 1 := by rw [h.qneat, h.qlen]
  have d2 : dn [(X k : Int), 1] = 2 := two_neat hxk
  obtain ⟨c, hc⟩ : ∃ c, gm (Y k ^^^ evL (X k) p) (gi (evL (X k) q)) = c := ⟨_, rfl⟩
  rw [hc] at lc ⊢
  have bs := sc_by lc h.qby
  have key : mu c (evL (X k) q) = Y k ^^^ evL (X k) p := by
    rw [← hc, ← mu_eq l3 (gi_lt _), ← mu_assoc, mu_comm (gi _), mu_gi l2 hz, mu_one l3]
  have no : ∀ z, z < 256 → (evL z (mulL q [(X k : Int), 1]) = 0 ↔ ∃ i, i < k + 1 ∧ z = X i) := fun z hz => by
    rw [evL_mul, evL_two hz hxk]
    constructor
    · intro e
      by_cases g : evL z q = 0
      · obtain ⟨i, h1, h2⟩ := (h.nought z hz).1 g
        exact ⟨i, by omega, h2⟩
      · by_cases g2 : X k ^^^ z = 0
        · exact ⟨k, by omega, (xor_eq_zero'.1 g2).symm⟩
        · exact absurd e (mu_ne (evL_lt h.qby) (xor_lt hxk hz) g g2)
    · rintro ⟨i, h1, h2⟩
      by_cases g : i < k
      · rw [(h.nought z hz).2 ⟨i, g, h2⟩, zero_mu]
      · obtain rfl : i = k := by omega
        rw [h2, Nat.xor_self, mu_zero]
  refine ⟨addL_by h.pby bs, addL_neat h.pby bs, ?_, mulL_by _ _, mulL_neat _ _, ?_, ?_, no, ?_⟩
  · unfold addL
    rw [tr_length]
    refine Nat.le_trans (dn_le _) ?_
    rw [ofF_length, sc_length, h.qlen]
    exact Nat.max_le.2 ⟨Nat.le_succ_of_le h.plen, Nat.le_refl _⟩
  · rw [mulL_top h.qby (two_by hxk) (by omega) (by omega), ofF_length, dq, d2]; omega
  · intro i hi
    rw [evL_add, evL_sc _ lc h.qby]
    by_cases g : i < k
    · rw [(h.nought (X i) (hx i (by omega))).2 ⟨i, g, rfl⟩, mu_zero, Nat.xor_zero]; exact h.thro i g
    · obtain rfl : i = k := by omega
      rw [key, Nat.xor_comm (Y i), ← Nat.xor_assoc, Nat.xor_self, Nat.zero_xor]
  · intro i j h1 h2
    by_cases g : j < k
    · exact h.apart i j h1 g
    · obtain rfl : j = k := by omega
      intro e
      exact hz ((h.nought (X j) hxk).2 ⟨i, h1, e.symm⟩)
end Go.Proofs.Ytbiaenkhhbgbcaa
