/-
  Own text: the law MatrixApplies, walked.
-/
import Derived.Test.YtipaolkgafhliaaMApply
import Derived.Test.YtipaolkgafhliaaGrow
namespace Go.Proofs.Ytipaolkgafhliaa
open Go.RowKit

set_option maxRecDepth 100000 in
set_option maxHeartbeats 2000000 in
theorem appl_long (r c : Int) (a aC : Option Addr) (n cap N capC : Nat) (A : Nat → Option Addr) (L C : Nat → Nat) (X : Nat → List Int) (w : World) (hs : SmallM r c n) (hN : N ≤ 30) (hc : ColsIn w aC N capC A L C X) (h : ∃ k, k < N ∧ 60 < L k) :
    Calls Try.prog 9 #[.agg #[.int .i64 r, .int .i64 c, .slice a n cap], .slice aC N capC] w fun e w' => e = .returned (.bool true) ∧ Below w.heap.size w w' := by
  have HAW := Lib.hid (fun w => awake5_any w)
  have HSA := Lib.hid (small_any r c a n cap)
  rw [decide_eq_true hs] at HSA
  have HCI := Lib.hid hc
  have HNE := Lib.hid (fun w => new_any w)
  have HRA := Lib.hid (fun w => ref_any r c a n cap w)
  have HQA := Lib.hid (rright_any r c n a cap)
  have HLG := Lib.hid h
  clear h hs hc HNE HRA HQA
  go_enter Try.func9, Try.ntmps9
  go_wp2_with first
    | (go_at_call 10; refine (HAW.out _).mono ?_; rintro e w1 ⟨rfl, hb⟩; have HX := Lib.hid ((alloc_bx w _ _ _).below hb (alloc_lt _ _)); have HB := Lib.hid (later1 hb); clear hb; obtain ⟨k0, k1, k2, kf⟩ := HX.out.cells)
    | (go_at_call 24; refine (HSA.out _).mono ?_; rintro e w2 ⟨rfl, hb⟩; have HX2 := Lib.hid (HX.out.below hb HX.out.lt); have HB2 := Lib.hid (HB.out.trans (hb.mono HB.out.size)); clear hb k0 k1 k2 kf)
  clear HX HB HAW HSA
  have HBR := Lib.hid (Below.refl w2.heap.size w2)
  go_loopw [5, 6] (fun s i wr => ∃ (I : Nat) (v : Bool), I ≤ N ∧ i = .int .i64 (I : Nat) ∧ s = .bool v ∧ Hid (v = true → ∀ k, k < I → L k = L 0) ∧ Hid (v = false → ∃ k, k < N ∧ L k ≠ L 0) ∧ Hid (∀ k, k < I → L k ≤ 60) ∧ Hid (Below w2.heap.size w2 wr)) (fun _ i _ => N - (intOf i).toNat)
  case atStart => exact ⟨0, true, by omega, rfl, rfl, Lib.hid (fun _ k hk => by omega), Lib.hid (fun h => nomatch h), Lib.hid (fun k hk => by omega), HBR⟩
  case round =>
    obtain ⟨I, v, hI, rfl, rfl, HV1, HV2, HLE, HBo⟩ := hrel
    obtain ⟨wo, ho⟩ : ∃ wo, wo = wr := ⟨_, rfl⟩
    subst ho
    by_cases hlt : I < N
    · have HCo := Lib.hid (HCI.out.below (HB2.out.trans (HBo.out.mono HB2.out.size)) (Nat.le_refl _))
      obtain ⟨⟨cb, off, rfl, _, cI⟩, _⟩ := HCo.out.2.2.2 I hlt
      obtain ⟨⟨cb2, off2, e2, _, c0⟩, _⟩ := HCo.out.2.2.2 0 (by omega)
      cases e2
      rw [Nat.add_zero] at c0
      have hi0 : (0 : Int) ≤ (I : Int) := by omega
      have hi1 : (I : Int) < (N : Int) := by omega
      have hi2 : (0 : Int) < (N : Int) := by omega
      have HLI : Hid (∃ x y, x = L I ∧ y = L 0) := Lib.hid ⟨_, _, rfl, rfl⟩
      obtain ⟨x, y, hx, hy⟩ := HLI.out
      rw [← hx] at cI
      rw [← hy] at c0
      have HXY := Lib.hid (And.intro hx hy)
      clear hx hy
      by_cases h60 : (60 : Int) < (x : Int)
      · go_wp2
        go_ret
        exact ⟨rfl, HB2.out.trans (HBo.out.mono HB2.out.size)⟩
      · have h61 : (x : Int) ≤ 60 := by omega
        have HLE2 : Hid (∀ k, k < I + 1 → L k ≤ 60) := Lib.hid (fun k hk => by
          by_cases e : k = I
          · rw [e, ← HXY.out.1]; omega
          · exact HLE.out k (by omega))
        clear h60
        cases v with
        | false =>
          go_wp2
          go_quiet (fail)
          go_wp2
          go_roundw
          case rel => exact ⟨I + 1, false, by omega, by go_num, rfl, Lib.hid (fun h => nomatch h), Lib.hid (fun _ => HV2.out (by trivial)), HLE2, Lib.hid (below_drewN HBo.out _)⟩
          case measure => simp [intOf]; omega
        | true =>
          cases he : ((x : Int) == (y : Int))
          · have HNE : Hid (x ≠ y) := Lib.hid (by simp at he; omega)
            go_wp2
            go_quiet (fail)
            go_wp2
            go_roundw
            case rel => exact ⟨I + 1, false, by omega, by go_num, rfl, Lib.hid (fun h => nomatch h), Lib.hid (fun _ => ⟨I, hlt, by rw [← HXY.out.1, ← HXY.out.2]; exact HNE.out⟩), HLE2, Lib.hid (below_drewN HBo.out _)⟩
            case measure => simp [intOf]; omega
          · have HEQ : Hid (x = y) := Lib.hid (by simp at he; omega)
            go_wp2
            go_quiet (fail)
            go_wp2
            go_roundw
            case rel => exact ⟨I + 1, true, by omega, by go_num, rfl, Lib.hid (fun _ k hk => by
              by_cases e : k = I
              · rw [e, ← HXY.out.1, ← HXY.out.2]; exact HEQ.out
              · exact HV1.out (by trivial) k (by omega)), Lib.hid (fun h => nomatch h), HLE2, Lib.hid (below_drewN HBo.out _)⟩
            case measure => simp [intOf]; omega
    · obtain rfl : N = I := by omega
      have HX4 := Lib.hid (HX2.out.below HBo.out HX2.out.lt)
      have HB4 := Lib.hid (HB2.out.trans (HBo.out.mono HB2.out.size))
      clear HX2 HB2 HBR HBo
      obtain ⟨k, hk, hl⟩ := HLG.out
      have := HLE.out k hk
      omega
end Go.Proofs.Ytipaolkgafhliaa
