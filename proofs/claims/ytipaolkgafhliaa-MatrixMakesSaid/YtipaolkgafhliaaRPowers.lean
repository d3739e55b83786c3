/-
  Own text: the document's Powers, walked.
-/
import Derived.Test.YtipaolkgafhliaaRPick
import Derived.Test.YtipaolkgafhliaaPows
namespace Go.Proofs.Ytipaolkgafhliaa
open Go.RowKit

set_option maxRecDepth 100000 in
set_option maxHeartbeats 4000000 in
theorem rpowers_any (R Cn : Nat) (hR : R ≤ 255) (hC : Cn ≤ 255) (w : World) :
    Calls Try.prog 23 #[.int .i64 R, .int .i64 Cn] w (HandedR R Cn pwr w) := by
  have HAT : Hid (∀ i k w', i < R → k < Cn → Calls Try.prog 42 #[.int .u8 (i : Nat), .int .i64 (k : Nat)] w' fun e w'' => e = .returned (.int .u8 (pwr i k)) ∧ Below w'.heap.size w' w'') :=
    Lib.hid (fun i k w' hi hk => (rpwr_any i k (by omega) (by omega) w').mono fun _ _ h => ⟨h.1, h.2 ▸ Below.refl _ _⟩)
  have HEL : Hid (∀ i k, pwr i k < 256) := Lib.hid pwr_lt
  generalize pwr = E at *
  have HRC : Hid (R * Cn ≤ 65025) := Lib.hid (Nat.mul_le_mul hR hC)
  go_enter Try.func23, Try.ntmps23
  go_wp2
  have HG0 : Hid (Outg w ((w.alloc (.cells #[.int .i64 0, .int .i64 0, .slice none 0 0] 27)).alloc (.cells #[.int .i64 R, .int .i64 Cn, .slice none 0 0] 27)) w.heap.size (w.heap.size + 1) ((w.alloc (.cells #[.int .i64 0, .int .i64 0, .slice none 0 0] 27)).alloc (.cells #[.int .i64 R, .int .i64 Cn, .slice none 0 0] 27)).heap.size R Cn 0 none 0 (ofF (flat Cn E) 0)) := Lib.hid (by
    have h4 := alloc_rx w (.int .i64 0) (.int .i64 0) (.slice none 0 0)
    have h5 := alloc_rx (w.alloc (.cells #[.int .i64 0, .int .i64 0, .slice none 0 0] 27)) (.int .i64 R) (.int .i64 Cn) (.slice none 0 0)
    rw [World.size_alloc] at h5
    exact ⟨Own8.none _ _, h5, h4.keep (Below.heap_alloc _ _ _ (by simp)), by go_grown, by omega, by omega, by simp, Nat.le_refl _⟩)
  generalize ((w.alloc (.cells #[.int .i64 0, .int .i64 0, .slice none 0 0] 27)).alloc (.cells #[.int .i64 R, .int .i64 Cn, .slice none 0 0] 27)) = w0 at *
  have HS0 : Hid (w.heap.size + 1 < w0.heap.size) := Lib.hid HG0.out.ord.2.2.1
  generalize w0.heap.size = base at *
  go_loopw [6, 7] (fun i _ wr => ∃ (I : Nat) (A : Option Addr) (C : Nat), I ≤ R ∧ i = .int .i64 (I : Nat) ∧ Hid (Outg w wr w.heap.size (w.heap.size + 1) base R Cn (I * Cn) A C (ofF (flat Cn E) (I * Cn)))) (fun i _ _ => R - (intOf i).toNat)
  case atStart => exact ⟨0, none, 0, by omega, rfl, by rw [Nat.zero_mul]; exact HG0⟩
  case round =>
    clear HG0
    obtain ⟨I, A, C, hI, rfl, HG⟩ := hrel
    obtain ⟨wo, ho⟩ : ∃ wo, wo = wr := ⟨_, rfl⟩
    subst ho
    by_cases hlt : I < R
    · go_wp2
      go_loopw [7] (fun k wr => ∃ (K : Nat) (A : Option Addr) (C : Nat), K ≤ Cn ∧ k = .int .i64 (K : Nat) ∧ Hid (Outg w wr w.heap.size (w.heap.size + 1) base R Cn (I * Cn + K) A C (ofF (flat Cn E) (I * Cn + K)))) (fun k _ => Cn - (intOf k).toNat)
      case atStart => exact ⟨0, A, C, by omega, rfl, HG⟩
      case round =>
        clear HG A C
        obtain ⟨K, A, C, hK, rfl, HG⟩ := hrel
        obtain ⟨wi, hi⟩ : ∃ wi, wi = wr := ⟨_, rfl⟩
        subst hi
        by_cases hlk : K < Cn
        · have HRI : Hid (I * Cn + K < R * Cn) := Lib.hid (spot_lt hlt hlk)
          have he := HEL.out I K
          have HSF : Hid (ofF (flat Cn E) (I * Cn + K) ++ [((E I K : Nat) : Int)] = ofF (flat Cn E) (I * Cn + K + 1)) := Lib.hid (by rw [ofF_succ, flat_at _ _ _ _ hlk])
          have HA2 := Lib.hid (HAT.out I K wi.drew hlt hlk)
          have hju : IntKind.u8.wrap (I : Int) = I := IntWalk.u8_in _ (by omega)
          generalize E I K = v at *
          obtain ⟨p0, p1, p2, pf⟩ := HG.out.out.cells
          have HAPP : Hid (∀ w2, Below wi.heap.size wi w2 → Own8 (w2.alloc (.cells #[.int .u8 (v : Int)] 5)) base (.slice A (I * Cn + K) C) (I * Cn + K) (ofF (flat Cn E) (I * Cn + K)) ∧ Bytes (w2.alloc (.cells #[.int .u8 (v : Int)] 5)) (some ⟨w2.heap.size, 0, none⟩) 1 [(v : Int)] ∧ base ≤ (w2.alloc (.cells #[.int .u8 (v : Int)] 5)).heap.size ∧ Rx (w2.alloc (.cells #[.int .u8 (v : Int)] 5)) (w.heap.size + 1) (.int .i64 R) (.int .i64 Cn) (.slice A (I * Cn + K) C)) :=
            Lib.hid (fun w2 h => by
              have h1 := (HG.out.later h).later ((Below.refl w2.heap.size w2).alloc (Nat.le_refl _) (.cells #[.int .u8 (v : Int)] 5))
              exact ⟨h1.own, one_blk w2 v he, h1.ord.2.2.2, h1.out⟩)
          have H6 : Hid (I * Cn + K + 1 ≤ 1000000) := Lib.hid (by have := HRI.out; have := HRC.out; omega)
          have HP2 : Hid (∀ w2, Below wi.heap.size wi w2 → Rx w2 (w.heap.size + 1) (.int .i64 R) (.int .i64 Cn) (.slice A (I * Cn + K) C)) := Lib.hid (fun w2 h => (HG.out.later h).out)
          have HP3 : Hid (∀ w2, Below wi.heap.size wi w2 → ∀ o, (w2.alloc o).cell? ⟨w.heap.size + 1, 2, none⟩ = some (.slice A (I * Cn + K) C)) := Lib.hid (fun w2 h o => ((HG.out.later h).later ((Below.refl w2.heap.size w2).alloc (Nat.le_refl _) o)).out.cells.2.2.1)
          go_wp2
          go_region_law (first
            | (go_simp; go_at_call 42; (with_reducible refine HA2.out.mono ?_); rintro e w2 ⟨rfl, hb2⟩; have hb2' := (Below.refl wi.heap.size wi).drew.trans hb2; obtain ⟨q0, q1, q2, qf⟩ := (HP2.out w2 hb2').cells; have q5 := HP3.out w2 hb2')
            | (refine step_append_bytes (w := w2.alloc _) rfl (.tmp 22) (.tmp 27) rfl base A (I * Cn + K) C rfl (ofF (flat Cn E) (I * Cn + K)) (HAPP.out w2 hb2').1 (some ⟨w2.heap.size, 0, none⟩) 1 1 rfl [(v : Int)] (HAPP.out w2 hb2').2.1 (fun h => nomatch h) H6.out base (w2.alloc _) (Below.refl _ _) (Nat.le_refl _) (HAPP.out w2 hb2').2.2.1 (I * Cn + K + 1) rfl _ rfl ?_; intro A2 C2 w3 HO3 hb3; obtain ⟨s0, s1, s2, sf⟩ := ((HAPP.out w2 hb2').2.2.2.below hb3 HS0.out).cells))
          all_goals
            have HG3 := Lib.hid ((HG.out.later hb2').more HO3.out hb3)
            rw [HSF.out] at HG3
            clear HO3 hb3 s0 s1 s2 sf hb2 hb2' q0 q1 q2 qf q5
            go_wp2
            go_roundw
            case rel => exact ⟨K + 1, A2, C2, by omega, by go_num, HG3⟩
            case measure => simp [intOf]; omega
        · obtain rfl : K = Cn := by omega
          go_wp2
          go_roundw
          case rel => exact ⟨I + 1, A, C, by omega, by go_num, by rw [Nat.succ_mul]; exact HG⟩
          case measure => simp [intOf]; omega
    · obtain rfl : I = R := by omega
      obtain ⟨i0, i1, i2, _⟩ := HG.out.out.cells
      obtain ⟨r0, r1, r2, rf⟩ := HG.out.res.cells
      go_wp2
      clear i0 i1 i2 r0 r1 r2 rf
      obtain ⟨z0, z1, z2, _⟩ := (HG.out.res.write (x' := .int .i64 I) (y' := .int .i64 Cn) (z' := .slice A (I * Cn) C)).cells
      refine bodyPost_ret (v := .agg #[.int .i64 I, .int .i64 Cn, .slice A ((I * Cn : Nat)) C]) (by simp [results, Try.results23, go_sem, z0, z1, z2]) rfl ?_
      exact HG.out.hand HEL.out
end Go.Proofs.Ytipaolkgafhliaa
