/-
  Own text: the document's Same, walked.
-/
import Derived.Test.YtjcbcdjfhcnhcaaByteA
namespace Go.Proofs.Ytjcbcdjfhcnhcaa
open Go.RowKit

/-- Are two lists the same? -/
def sameB (x y : List Int) : Bool := decide (x = y)
set_option maxRecDepth 100000 in
theorem same_any (a b : Option Addr) (n m c d : Nat) (x y : List Int) (w : World) (hx : Bytes w a n x) (hy : Bytes w b m y) :
    Calls Try.prog 39 #[.slice a n c, .slice b m d] w fun e w' => e = .returned (.bool (sameB x y)) ∧ Below w.heap.size w w' := by
  have hn := hx.max
  have hm := hy.max
  have sx := hx.size
  have sy := hy.size
  by_cases hnm : n = m
  · subst hnm
    have H := Lib.hid sx
    have H2 := Lib.hid sy
    clear sx sy
    go_enter Try.func39, Try.ntmps39
    go_wp2
    go_loopw [5] (fun i wr => ∃ k : Nat, k ≤ n ∧ i = .int .i64 k ∧ (∀ j, j < k → x.getD j 0 = y.getD j 0) ∧ Below w.heap.size w wr) (fun i _ => n - (intOf i).toNat)
    case atStart => exact ⟨0, by omega, rfl, by omega, Below.refl _ _⟩
    case round =>
      obtain ⟨k, hk, rfl, hj, hb⟩ := hrel
      have HJ := Lib.hid hj
      have h1 := hx.below hb (Nat.le_refl _)
      have h2 := hy.below hb (Nat.le_refl _)
      have HX := Lib.hid hx
      have HY := Lib.hid hy
      clear hj hx hy
      by_cases hlt : k < n
      · obtain ⟨p, o, rfl, c1⟩ : ∃ p o, a = some ⟨p, o, none⟩ ∧ wr.cell? ⟨p, o + k, none⟩ = some (.int .u8 (x.getD k 0)) := by
          rcases h1.cell with h | ⟨_, b, off, e, _, h⟩
          · omega
          · exact ⟨b, off, e, h k hlt⟩
        obtain ⟨p', o', rfl, c2⟩ : ∃ p o, b = some ⟨p, o, none⟩ ∧ wr.cell? ⟨p, o + k, none⟩ = some (.int .u8 (y.getD k 0)) := by
          rcases h2.cell with h | ⟨_, b, off, e, _, h⟩
          · omega
          · exact ⟨b, off, e, h k hlt⟩
        clear h1 h2
        obtain ⟨u, hu⟩ : ∃ u, u = x.getD k 0 := ⟨_, rfl⟩
        obtain ⟨v, hv⟩ : ∃ v, v = y.getD k 0 := ⟨_, rfl⟩
        rw [← hu] at c1
        rw [← hv] at c2
        have HU := Lib.hid hu
        have HV := Lib.hid hv
        clear hu hv
        have k0 : (0 : Int) ≤ k := by omega
        have k1 : (k : Int) < n := by omega
        cases he : (u == v)
        · have hne : (u != v) = true := by simp [bne, he]
          go_wp2
          go_quiet (fail)
          go_wp2
          go_ret
          refine ⟨ret_bool ?_, below_drewN hb _⟩
          unfold sameB
          simp only [Bool.false_eq, decide_eq_false_iff_not]
          intro e
          rw [HU.out, HV.out, e] at he
          simp at he
        · have hne : (u != v) = false := by simp [bne, he]
          go_wp2
          go_quiet (fail)
          go_wp2
          go_roundw
          case rel =>
            refine ⟨k + 1, by omega, by go_num, fun j hj => ?_, below_drewN hb _⟩
            by_cases e : j = k
            · subst e; rw [← HU.out, ← HV.out]; simpa using he
            · exact HJ.out j (by omega)
          case measure => simp [intOf]; omega
      · obtain rfl : k = n := by omega
        go_wp2
        go_ret
        refine ⟨ret_bool ?_, hb⟩
        unfold sameB
        simp only [Bool.true_eq, decide_eq_true_eq]
        exact same_getD (by rw [H.out, H2.out]) (fun i hi => HJ.out i (by rw [H.out] at hi; exact hi))
  · have hne : x ≠ y := fun e => hnm (by rw [← sx, ← sy, e])
    have hd : sameB x y = false := by unfold sameB; simp [hne]
    rw [hd]
    clear hd hne sx sy
    go_enter Try.func39, Try.ntmps39
    go_wp2
    go_ret
    exact ⟨rfl, Below.refl _ _⟩
theorem same_true (a b : Option Addr) (n m c d : Nat) (x : List Int) (w : World) (hx : Bytes w a n x) (hy : Bytes w b m x) :
    Calls Try.prog 39 #[.slice a n c, .slice b m d] w fun e w' => e = .returned (.bool true) ∧ Below w.heap.size w w' := by
  have h := same_any a b n m c d x x w hx hy
  rwa [show sameB x x = true by simp [sameB]] at h
end Go.Proofs.Ytjcbcdjfhcnhcaa
