/-
  Own text: the law MatrixApplies, walked.
-/
import Derived.Test.YtipaolkgafhliaaMApply
import Derived.Test.YtipaolkgafhliaaGrow
namespace Go.Proofs.Ytipaolkgafhliaa
open Go.RowKit

set_option maxRecDepth 100000 in
set_option maxHeartbeats 4000000 in
theorem appl_nil (R N m cap capC : Nat) (hR : R ≤ 255) (hNN : N ≤ 255) (hm : m = R * N) (a aC : Option Addr) (la : List Int) (A : Nat → Option Addr) (L C : Nat → Nat) (X : Nat → List Int) (w : World) (hs : SmallM R N m) (hN : N ≤ 30) (ha : Sl w a m cap la) (hc : ColsIn w aC N capC A L C X) (h : ∀ k, k < N → L k = L 0) (h60 : ∀ k, k < N → L k ≤ 60) (h0 : N = 0) :
    Calls Try.prog 9 #[.agg #[.int .i64 R, .int .i64 N, .slice a m cap], .slice aC N capC] w fun e w' => e = .returned (.bool true) ∧ Below w.heap.size w w' := by
  obtain ⟨len, hlen⟩ : ∃ len, len = 0 := ⟨_, rfl⟩
  have hl60 : len ≤ 60 := by omega
  have HAW := Lib.hid (fun w => awake5_any w)
  have HSA := Lib.hid (small_any R N a m cap)
  rw [decide_eq_true hs] at HSA
  have HCI := Lib.hid hc
  have HNE := Lib.hid (fun w => new_any w)
  have HRA := Lib.hid (fun w => ref_any R N a m cap w)
  have HQA := Lib.hid (rright_any R N m a cap)
  rw [decide_eq_true (show RightM R N m from ⟨⟨by omega, by omega⟩, ⟨by omega, by omega⟩, by rw [hm]; omega⟩)] at HQA
  have HAP := Lib.hid (fun t w' (hw : Below w.heap.size w w') ht => mapply_some t R N len cap capC hR hNN (by omega) a aC la A L C X w' (by rw [← hm]; exact ha.below hw (Nat.le_refl _)) (hc.below hw (Nat.le_refl _)) (fun k hk => by omega) (fun e => by omega) ht)
  unfold AppliedTo at HAP
  rw [← hm] at HAP
  have HA := Lib.hid ha
  have HEV := Lib.hid h
  have HMM := Lib.hid hm
  have HLN := Lib.hid hlen
  have hmm : m ≤ 65025 := by rw [hm]; exact Nat.mul_le_mul hR hNN
  have hRl : R * len ≤ 25500 := Nat.mul_le_mul hR (show len ≤ 100 by omega)
  obtain ⟨E, hE⟩ : ∃ E : Nat → Nat → Nat, E = fun i c => xs (fun k => mu (co la (i * N + k)) (co (X k) c)) N := ⟨_, rfl⟩
  rw [← hE] at HAP
  have HE := Lib.hid hE
  obtain ⟨m2, hm2⟩ : ∃ m2, R * len = m2 := ⟨_, rfl⟩
  rw [hm2] at HAP hRl
  have HM2 := Lib.hid hm2
  have hmk := fun w => run_make_row' (P := Try.prog) 22 5 (.int .u8 0) 1 Try.underlying22 info_u8 rfl .i64 .i64 len (by omega) (by omega) w
  have HMR := Lib.hid (fun w b => made_row' w len 5 b)
  generalize madeCells #[Value.int .u8 0] len = M at *
  have HMK := Lib.hid (And.intro hmk True.intro)
  clear hmk
  have H0 := Lib.hid h0
  clear h0
  clear h hs hc hm ha hlen hE hm2 h60
  go_enter Try.func9, Try.ntmps9
  go_wp2_with first
    | (go_at_call 10; refine (HAW.out _).mono ?_; rintro e w1 ⟨rfl, hb⟩; have HX := Lib.hid ((alloc_bx w _ _ _).below hb (alloc_lt _ _)); have HB := Lib.hid (later1 hb); clear hb; obtain ⟨k0, k1, k2, kf⟩ := HX.out.cells)
    | (go_at_call 24; refine (HSA.out _).mono ?_; rintro e w2 ⟨rfl, hb⟩; have HX2 := Lib.hid (HX.out.below hb HX.out.lt); have HB2 := Lib.hid (HB.out.trans (hb.mono HB.out.size)); clear hb k0 k1 k2 kf)
  clear HX HB HAW HSA
  have HBR := Lib.hid (Below.refl w2.heap.size w2)
  go_loopw [5, 6] (fun s i wr => ∃ (I : Nat) (v : Bool), I ≤ N ∧ i = .int .i64 (I : Nat) ∧ s = .bool v ∧ Hid (v = true → ∀ k, k < I → L k = L 0) ∧ Hid (v = false → ∃ k, k < N ∧ L k ≠ L 0) ∧ Hid (∀ k, k < I → L k ≤ 60) ∧ Hid (Below w2.heap.size w2 wr)) (fun _ i _ => N - (intOf i).toNat)
  case atStart => exact ⟨0, true, by omega, rfl, rfl, Lib.hid (fun _ k hk => by omega), Lib.hid (fun h => nomatch h), Lib.hid (fun k hk => by omega), HBR⟩
  case round =>
    obtain ⟨I, v, hI, rfl, rfl, HV1, HV2, HLE, HBo⟩ := hrel
    obtain ⟨wo, ho⟩ : ∃ wo, wo = wr := ⟨_, rfl⟩
    subst ho
    by_cases hlt : I < N
    · have HCo := Lib.hid (HCI.out.below (HB2.out.trans (HBo.out.mono HB2.out.size)) (Nat.le_refl _))
      obtain ⟨⟨cb, off, rfl, _, cI⟩, _⟩ := HCo.out.2.2.2 I hlt
      obtain ⟨⟨cb2, off2, e2, _, c0⟩, _⟩ := HCo.out.2.2.2 0 (by omega)
      cases e2
      rw [Nat.add_zero] at c0
      have hi0 : (0 : Int) ≤ (I : Int) := by omega
      have hi1 : (I : Int) < (N : Int) := by omega
      have hi2 : (0 : Int) < (N : Int) := by omega
      have HLI : Hid (∃ x y, x = L I ∧ y = L 0) := Lib.hid ⟨_, _, rfl, rfl⟩
      obtain ⟨x, y, hx, hy⟩ := HLI.out
      rw [← hx] at cI
      rw [← hy] at c0
      have HXY := Lib.hid (And.intro hx hy)
      clear hx hy
      by_cases h60 : (60 : Int) < (x : Int)
      · go_wp2
        go_ret
        exact ⟨rfl, HB2.out.trans (HBo.out.mono HB2.out.size)⟩
      · have h61 : (x : Int) ≤ 60 := by omega
        have HLE2 : Hid (∀ k, k < I + 1 → L k ≤ 60) := Lib.hid (fun k hk => by
          by_cases e : k = I
          · rw [e, ← HXY.out.1]; omega
          · exact HLE.out k (by omega))
        clear h60
        cases v with
        | false =>
          go_wp2
          go_quiet (fail)
          go_wp2
          go_roundw
          case rel => exact ⟨I + 1, false, by omega, by go_num, rfl, Lib.hid (fun h => nomatch h), Lib.hid (fun _ => HV2.out (by trivial)), HLE2, Lib.hid (below_drewN HBo.out _)⟩
          case measure => simp [intOf]; omega
        | true =>
          cases he : ((x : Int) == (y : Int))
          · have HNE : Hid (x ≠ y) := Lib.hid (by simp at he; omega)
            go_wp2
            go_quiet (fail)
            go_wp2
            go_roundw
            case rel => exact ⟨I + 1, false, by omega, by go_num, rfl, Lib.hid (fun h => nomatch h), Lib.hid (fun _ => ⟨I, hlt, by rw [← HXY.out.1, ← HXY.out.2]; exact HNE.out⟩), HLE2, Lib.hid (below_drewN HBo.out _)⟩
            case measure => simp [intOf]; omega
          · have HEQ : Hid (x = y) := Lib.hid (by simp at he; omega)
            go_wp2
            go_quiet (fail)
            go_wp2
            go_roundw
            case rel => exact ⟨I + 1, true, by omega, by go_num, rfl, Lib.hid (fun _ k hk => by
              by_cases e : k = I
              · rw [e, ← HXY.out.1, ← HXY.out.2]; exact HEQ.out
              · exact HV1.out (by trivial) k (by omega)), Lib.hid (fun h => nomatch h), HLE2, Lib.hid (below_drewN HBo.out _)⟩
            case measure => simp [intOf]; omega
    · obtain rfl : N = I := by omega
      have HX4 := Lib.hid (HX2.out.below HBo.out HX2.out.lt)
      have HB4 := Lib.hid (HB2.out.trans (HBo.out.mono HB2.out.size))
      clear HX2 HB2 HBR HBo
      have hv : v = true := by
        cases v with
        | true => rfl
        | false => obtain ⟨k, hk, hne⟩ := HV2.out rfl; exact absurd (HEV.out k hk) hne
      subst hv
      have HS : Hid (∀ w', Below wo.heap.size wo w' → Below wo.heap.size wo w' ∧ w'.cell? ⟨w.heap.size, 0, none⟩ = some (.int .i64 (R : Int)) ∧ w'.cell? ⟨w.heap.size, 1, none⟩ = some (.int .i64 (N : Int)) ∧ w'.cell? ⟨w.heap.size, 2, none⟩ = some (.slice a m cap)) :=
        Lib.hid (fun w' h => ⟨h, (HX4.out.below h HX4.out.lt).cells.1, (HX4.out.below h HX4.out.lt).cells.2.1, (HX4.out.below h HX4.out.lt).cells.2.2.1⟩)
      have cc : Below wo.heap.size wo wo.drew := (Below.refl _ _).drew
      go_upto_region 12 with fail
      go_region_held3 (fun w' => Below wo.heap.size wo w' ∧ w'.cell? ⟨w.heap.size, 0, none⟩ = some (.int .i64 (R : Int)) ∧ w'.cell? ⟨w.heap.size, 1, none⟩ = some (.int .i64 (N : Int)) ∧ w'.cell? ⟨w.heap.size, 2, none⟩ = some (.slice a m cap))
        (first
          | exact HS.out _ cc
          | exact HS.out _ (Below.refl _ _)
          | fail "keep")
        (first
          | (go_at_call 18; refine (HNE.out _).mono ?_; rintro e w5 ⟨rfl, ht, hb⟩; have c5 := cc.trans (hb.mono cc.size); have t5 : IsTab w5 wo.heap.size := ht; clear hb ht cc; have cc := c5; clear c5)
          | (go_at_call 33; refine (HAP.out _ _ (HB4.out.trans (cc.mono HB4.out.size)) t5).mono ?_; rintro e w6 ⟨h, g, l, rfl, _, _, hl, hd, hcc, hb⟩; have c6 := cc.trans (hb.mono cc.size); clear hb cc; have cc := c6; clear c6)
          | fail "arm")
      all_goals
        have HX6 := Lib.hid (HX4.out.below cc HX4.out.lt)
        have HB6 := Lib.hid (HB4.out.trans (cc.mono HB4.out.size))
        have HL6 := Lib.hid hl
        have HD6 := Lib.hid hd
        have HC6 := Lib.hid hcc
        rename_i hHeld
        clear hHeld HS cc t5 HX4 HB4 hl hd hcc HAP HNE
        obtain ⟨k0, k1, k2, kf⟩ := HX6.out.cells
        go_upto_region 19 with first
          | (go_at_call 12; (with_reducible refine (HRA.out _).mono ?_); rintro e w7 ⟨rfl, hb⟩; have HX7 := Lib.hid (HX6.out.below hb HX6.out.lt); have HB67 := Lib.hid hb; have HB7 := Lib.hid (HB6.out.trans (hb.mono HB6.out.size)); clear hb k0 k1 k2 kf; obtain ⟨k0, k1, k2, kf⟩ := HX7.out.cells)
          | (go_at_call 11; (with_reducible refine (HQA.out _).mono ?_); rintro e w8 ⟨rfl, hb⟩; have HX8 := Lib.hid (HX7.out.below hb HX7.out.lt); have HB68 := Lib.hid (HB67.out.trans (hb.mono HB67.out.size)); have HB8 := Lib.hid (HB7.out.trans (hb.mono HB7.out.size)); clear hb k0 k1 k2 kf; obtain ⟨k0, k1, k2, kf⟩ := HX8.out.cells)
        have HL8 := Lib.hid (HL6.out.below HB68.out HL6.out.lt)
        have HD8 := Lib.hid (HD6.out.below HB68.out HD6.out.lt)
        have HC8 := Lib.hid (HCI.out.below HB8.out (Nat.le_refl _))
        have HA8 := Lib.hid (HA.out.below HB8.out (Nat.le_refl _))
        clear HX6 HB6 HL6 HD6 HX7 HB67 HB7 HB68 HCI HA HV1 HV2 HLE hlt hI
        have hn0 : ¬ (0 : Int) < (N : Int) := by have := H0.out; omega
        have HZ : Hid (((len : Nat) : Int) = 0) := Lib.hid (by rw [HLN.out]; rfl)
        go_wp2
        clear k0 k1 k2 kf
        have HBR := Lib.hid (Below.refl w8.heap.size w8)
        go_loopw [10, 11, 12, 13] (fun i _ _ _ wr => ∃ I : Nat, I ≤ R ∧ i = .int .i64 (I : Nat) ∧ Hid (Below w8.heap.size w8 wr)) (fun i _ _ _ _ => R - (intOf i).toNat)
        case atStart => exact ⟨0, by omega, rfl, HBR⟩
        case round =>
          clear HBR
          obtain ⟨I, hI, rfl, HBo⟩ := hrel
          obtain ⟨wp, hwp⟩ : ∃ wp, wp = wr := ⟨_, rfl⟩
          subst hwp
          have HXo := Lib.hid (HX8.out.below HBo.out HX8.out.lt)
          obtain ⟨k0, k1, k2, kf⟩ := HXo.out.cells
          by_cases hltI : I < R
          · have hmk := HMK.out.1
            simp only [HZ.out] at hmk
            go_wp2
            clear k0 k1 k2 kf
            have HD9 : Hid (Dat (wp.alloc (.cells M 5)) wp.heap.size len (List.replicate len 0)) := Lib.hid (by
              have h1 := (HMR.out wp wp.heap.size rfl).dat (by_zero len)
              rwa [List.length_replicate] at h1)
            have HX9 := Lib.hid (bx_alloc HXo.out (.cells M 5))
            have HB9 : Hid (Below w8.heap.size w8 (wp.alloc (.cells M 5))) := Lib.hid (HBo.out.alloc HBo.out.size _)
            have HSZ : Hid (w8.heap.size ≤ wp.heap.size) := Lib.hid HBo.out.size
            clear hmk HXo HBo
            generalize wp.alloc (.cells M 5) = w9 at *
            generalize wp.heap.size = g1 at *
            have HGR := Lib.hid (grown_refl w9 (some g1))
            have HX8w : Hid (w.heap.size < w8.heap.size) := Lib.hid HX8.out.lt
            go_loopw [12, 13] (fun k _ wr => ∃ (K : Nat) (lc : List Int), K ≤ N ∧ k = .int .i64 (K : Nat) ∧ Hid (Dat wr g1 len lc) ∧ Hid (∀ c, c < len → co lc c = xs (fun q => mu (co la (I * N + q)) (co (X q) c)) K) ∧ Hid (w9.grownBy wr (some g1))) (fun k _ _ => N - (intOf k).toNat)
            case atStart => exact ⟨0, _, by omega, rfl, HD9, Lib.hid (fun c _ => by rw [co_zero]; rfl), HGR⟩
            case round =>
              clear HGR HD9
              obtain ⟨K, lc, hK, rfl, HDk, HCk, HGk⟩ := hrel
              obtain ⟨wk, hwk⟩ : ∃ wk, wk = wr := ⟨_, rfl⟩
              subst hwk
              have HXk := Lib.hid (HX9.out.keep (HGk.out.block _ HX9.out.lt (fun e => by have := HSZ.out; have := HX8w.out; cases e; omega)))
              obtain ⟨k0, k1, k2, kf⟩ := HXk.out.cells
              by_cases hltK : K < N
              · exact absurd hltK (by omega)
              · obtain rfl : N = K := by omega
                have HLk := Lib.hid ((HL8.out.below HB9.out HL8.out.lt).grown HGk.out (fun e => by have := HSZ.out; have := HL8.out.lt; cases e; omega))
                have HDo := Lib.hid ((HD8.out.below HB9.out HD8.out.lt).grown HGk.out (fun e => by have := HSZ.out; have := HD8.out.lt; cases e; omega))
                have cI := HLk.out.cell I hltI
                have hi0 : (0 : Int) ≤ (I : Int) := by omega
                have hi1 : (I : Int) < (R : Int) := by omega
                have HSM : Hid (Calls Try.prog 15 #[.slice (some ⟨g, I * len, none⟩) len len, .slice (some ⟨g1, 0, none⟩) len len] wk fun e w' => e = .returned (.bool true) ∧ Below wk.heap.size wk w') := Lib.hid (by
                  have hb1 := HDo.out.bytes (I * len) len (by rw [← HM2.out]; exact (laid_rows R len _ (Nat.le_refl _)).fit I hltI) (by omega)
                  have hb2 := (HDk.out.sl (by omega)).bytes
                  have e : seg l (I * len) len = lc := by
                    refine list_co hb1.by_ hb2.by_ (hb1.size.trans hb2.size.symm) (fun p hp => ?_)
                    rw [hb1.size] at hp
                    rw [seg_co _ _ _ _ hp, HCk.out p hp]
                    have h2 := HC6.out I p hltI hp
                    unfold gr at h2
                    rw [h2, HE.out]
                  rw [e] at hb1
                  exact same_true _ _ len len len len lc wk hb1 hb2)
                go_wp2_with (go_at_call 15; refine HSM.out.mono ?_; rintro e w10 ⟨rfl, hb⟩; have HB10 := Lib.hid hb; clear hb k0 k1 k2 kf)
                go_roundw
                case rel => exact ⟨I + 1, by omega, by go_num, Lib.hid (HB9.out.trans ((below_grows HGk.out HSZ.out HB9.out.size).trans (HB10.out.mono (Nat.le_trans HB9.out.size HGk.out.size))))⟩
                case measure => simp [intOf]; omega
          · obtain rfl : R = I := by omega
            go_wp2
            go_ret
            exact ⟨rfl, HB8.out.trans (HBo.out.mono HB8.out.size)⟩
end Go.Proofs.Ytipaolkgafhliaa
