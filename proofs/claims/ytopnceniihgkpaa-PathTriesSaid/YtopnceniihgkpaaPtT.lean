/-
  Own text: law PathTries, walked.
-/
import Derived.Test.YtopnceniihgkpaaPtK
namespace Go.Proofs.Ytopnceniihgkpaa
open Go.RowKit

/-- While nothing is heard: when it was tried last, and how far the next try is. -/
structure Tried (pn : Pn) (q0 j l : Int) : Prop where
  q : pn.q ≤ q0 + j
  l : l = -1 ∨ (0 ≤ l ∧ l < j ∧ 20 ≤ pn.q ∧ 5 ≤ pn.ga ∧ 1 ≤ pn.pr ∧ 5 ≤ pn.pr + (j - 1 - l) ∧ pn.pr + (j - 1 - l) ≤ 80)
theorem Tried.step {pn : Pn} {q0 j l : Int} (hk : pn.ok) (h : Tried pn q0 j l) :
    (pn.fires = false → (l = -1 ∨ (0 ≤ l ∧ l < j ∧ j - l < 80)) ∧ Tried pn.tick q0 (j + 1) l) ∧
    (pn.fires = true → 20 ≤ q0 + j + 1 ∧ (l = -1 ∨ (0 ≤ l ∧ 5 ≤ j - l)) ∧ (0 ≤ j → Tried pn.tick q0 (j + 1) j)) := by
  have hq := h.q
  have hl := h.l
  have k0 := hk.q0
  have k1 := hk.q1
  have pg := hk.pg
  have hm : (pn.q < 1073741824 ∧ more30 pn.q = pn.q + 1) ∨ (¬ pn.q < 1073741824 ∧ more30 pn.q = 1073741824) := by
    unfold more30
    split <;> omega
  unfold Pn.fires Pn.tick
  generalize more30 pn.q = m at *
  by_cases a1 : m < 20
  · rw [if_pos a1, if_pos a1]
    refine ⟨fun _ => ⟨by omega, by dsimp only; omega, .inl (by omega)⟩, fun e => by simp at e⟩
  · rw [if_neg a1, if_neg a1]
    by_cases a2 : pn.ga = 0
    · rw [if_pos a2, if_pos a2]
      refine ⟨fun e => by simp at e, fun _ => ⟨by omega, by omega, fun hj => ⟨by dsimp only; omega, .inr (by dsimp only; omega)⟩⟩⟩
    · rw [if_neg a2, if_neg a2]
      by_cases a3 : 1 < pn.pr
      · rw [if_pos a3, if_pos a3]
        refine ⟨fun _ => ⟨by omega, by dsimp only; omega, by dsimp only; omega⟩, fun e => by simp at e⟩
      · rw [if_neg a3, if_neg a3]
        refine ⟨fun e => by simp at e, fun _ => ⟨by omega, by omega, fun hj => ⟨by dsimp only; omega, .inr ?_⟩⟩⟩
        dsimp only
        have : 5 ≤ (if 40 < pn.ga then (80 : Int) else 2 * pn.ga) := by split <;> omega
        omega
theorem Pn.heard_alive (p : Pn) (n : Nat) : (p.heard n).q = 0 ∧ (p.heard n).state = 0 ∧ (p.heard n).fires = false := by
  have e : (p.heard n).q = 0 := by unfold Pn.heard; split <;> rfl
  refine ⟨e, ?_, ?_⟩
  · unfold Pn.state
    rw [e]
    rfl
  · unfold Pn.fires
    rw [e]
    rfl
set_option maxRecDepth 100000 in
set_option maxHeartbeats 4000000 in
theorem tries14_walk (a : Option Addr) (n c : Nat) (tk nb : Int) (w : World) (hp : True → ∃ K N T, Ops14 w a n K N T) (hn : 0 ≤ nb ∧ nb ≤ 4294967295) :
    Calls Try.prog 5 #[.slice a n c, .int .i64 tk, .int .u32 nb] w (Yes14 w) := by
  obtain ⟨K, N, T, ho⟩ := hp trivial
  obtain ⟨nn, rfl⟩ : ∃ nn : Nat, nb = nn := ⟨nb.toNat, by omega⟩
  have HNN : Hid (nn < 4294967296) := Lib.hid (by omega)
  have CP := Lib.hid (fun w1 (hb : Below w.heap.size w w1) => played14_any a n c K N T w1 (ho.below hb (Nat.le_refl _)))
  have I37 := Lib.hid info37
  have zz := zero37
  obtain ⟨Z, hZ⟩ : ∃ Z, Z = rowOf 78 Pn.zero.dc := ⟨_, rfl⟩
  rw [← hZ] at zz
  have HZN := Lib.hid (boxz14 hZ)
  have HKP := Lib.hid (@kept14 Z)
  clear ho hp hZ hn
  go_enter Try.func5, Try.ntmps5
  go_upto_region 3 with (first
    | (go_at_call 6; (refine (awake14_any _).mono ?_); rintro e w1 ⟨rfl, hb1⟩; have HB1 := Lib.hid hb1; clear hb1)
    | fail)
  have CP1 := Lib.hid (CP.out _ HB1.out)
  clear CP
  unfold Pn.cells at CP1 HZN HKP
  go_upto_region 4 with (first
    | (go_at_call 7; (with_reducible refine (CP1.out).mono ?_); rintro e w2 ⟨p, rfl, HF, HN⟩; have HB2 := Lib.hid (HB1.out.trans (HN.out.mono HB1.out.size)))
    | (with_reducible refine wpList_store_rowIs rfl 37 (.tmp 8) (.tmp 19) rfl (w2.heap.size + 1) rfl 78 p.dc rfl 37 Pn.zero.dc (HZN.out w2 p) I37.out p.dc_one ?_; intro w5 G5 G6 G7 G8; have HK := Lib.hid (HKP.out w2 p G5.out G7.out); clear G5 G6 G7 G8)
    | fail)
  have HP5 := Lib.hid HK.out.1
  have HB5 := Lib.hid (HB2.out.trans (HK.out.2.2.mono HB2.out.size))
  have HG : Hid (w.heap.size ≤ w2.heap.size) := Lib.hid HB2.out.size
  clear HK HKP HZN CP1 HB1 HB2 HN zz
  generalize w2.heap.size = g at *
  by_cases t0 : tk < 0
  · go_wp2
    go_ret
    exact ⟨rfl, HB5.out⟩
  · by_cases t1 : 1000 < tk
    · go_wp2
      go_ret
      exact ⟨rfl, HB5.out⟩
    · obtain ⟨c0, c1, c2, c3⟩ := HP5.out.four0
      obtain ⟨m, rfl⟩ : ∃ m : Nat, tk = m := ⟨tk.toNat, by omega⟩
      have hm : (m : Int) ≤ 1000 := by omega
      have hq0 := HF.out.ok.q0
      have hq1 := HF.out.ok.q1
      clear t0 t1
      have u0 : ¬ ((m : Int) < 0) := by omega
      have u1 : ¬ (1000 < (m : Int)) := by omega
      go_upto_region 6 with fail
      go_quiet (fail)
      have HP6 := Lib.hid (HP5.out.drewN nq)
      have HB6 := Lib.hid (below_drewN HB5.out nq)
      clear HP5 HB5 c0 c1 c2 c3
      generalize w5.drewN nq = w6 at *
      go_wp2
      go_loopw [10, 12] (fun s10 s12 wr => ∃ (j : Nat) (l : Int), s10 = .int .i64 l ∧ s12 = .int .i64 (j : Int) ∧ Hid (j ≤ m) ∧ Hid (Tried (p.ticks j) p.q j l) ∧ Hid (PLie wr g 0 (p.ticks j)) ∧ Hid (Below w.heap.size w wr)) (fun _ s12 _ => m - (intOf s12).toNat)
      case atStart => exact ⟨0, -1, rfl, rfl, Lib.hid (Nat.zero_le _), Lib.hid ⟨by show p.q ≤ p.q + ((0 : Nat) : Int); omega, .inl rfl⟩, HP6, HB6⟩
      case round =>
        obtain ⟨j, l, rfl, rfl, HJ, HT, HP, HB⟩ := hrel
        clear HP6 HB6
        have hj := HJ.out
        have HFJ := Lib.hid (Pn.ticks_fit HF.out j)
        by_cases hlt : j < m
        · obtain ⟨s1, s2⟩ := HT.out.step HFJ.out.ok
          have CT := Lib.hid (tick_any g 0 (p.ticks j) HFJ.out.ok wr HP.out)
          have HE : Hid ((p.ticks j).tick = p.ticks (j + 1)) := Lib.hid rfl
          have k1 : (j : Int) < m := by omega
          have k2 : (0 : Int) ≤ (j : Int) := by omega
          have HJ2 : Hid (j + 1 ≤ m) := Lib.hid (by omega)
          have HDM : Hid (m - (j + 1) < m - j) := Lib.hid (by omega)
          have hc1 : ((j : Int) + 1) = ((j + 1 : Nat) : Int) := by omega
          rw [hc1] at s1
          rw [HE.out] at s1 s2 CT
          cases hfr : (p.ticks j).fires
          · obtain ⟨l1, HT2⟩ := s1 hfr
            have HT2 := Lib.hid HT2
            rw [hfr] at CT
            clear s1 s2 hfr hlt hj hc1 HFJ HT
            rcases l1 with rfl | ⟨l0, lj, l1⟩
            all_goals
              first | have wl : wrap64 ((j : Int) - l) = (j : Int) - l := (by unfold wrap64; omega) | skip
              go_wp2_with (first
                | (go_at_call 10; (with_reducible refine (CT.out).mono ?_); rintro e w7 ⟨rfl, HP7, HW7⟩; have HB7 := Lib.hid (HW7.out.bel HB.out HB.out.size HG.out))
                | fail)
              go_roundw
              case rel => exact ⟨j + 1, _, rfl, by go_num, HJ2, HT2, HP7, HB7⟩
              case measure => have := HDM.out; simp [intOf] <;> omega
          · obtain ⟨e1, l1, s3⟩ := s2 hfr
            have HT2 := Lib.hid (s3 k2)
            rw [hfr] at CT
            have HC := Lib.hid hc1
            clear s1 s2 s3 hfr hlt hj hc1 HFJ HT
            rcases l1 with rfl | ⟨l0, l1⟩
            all_goals
              first | have wl : wrap64 ((j : Int) - l) = (j : Int) - l := (by unfold wrap64; omega) | skip
              go_wp2_with (first
                | (go_at_call 10; (with_reducible refine (CT.out).mono ?_); rintro e w7 ⟨rfl, HP7, HW7⟩; have HB7 := Lib.hid (HW7.out.bel HB.out HB.out.size HG.out))
                | fail)
              go_roundw
              case rel => exact ⟨j + 1, (j : Int), rfl, by go_num, HJ2, by rw [← HC.out]; exact HT2, HP7, HB7⟩
              case measure => have := HDM.out; simp [intOf] <;> omega
        · obtain rfl : j = m := by omega
          have CH := Lib.hid (heard_any g 0 100 nn (p.ticks j) HFJ.out (by omega) HNN.out wr HP.out)
          obtain ⟨z1, z2, z3⟩ := Pn.heard_alive (p.ticks j) nn
          have HOK := Lib.hid (Pn.heard_fit HNN.out HFJ.out).ok
          generalize (p.ticks j).heard nn = ph at *
          have CS : Hid (∀ w', PLie w' g 0 ph → Calls Try.prog 12 #[.pointer (some ⟨g, 0, none⟩)] w' fun e w1 => e = .returned (.int .i64 0) ∧ w' = w1) := Lib.hid (fun w' h => by
            have := state_any g 0 ph w' h
            rw [z2] at this
            exact this)
          have CT : Hid (∀ w', PLie w' g 0 ph → Calls Try.prog 10 #[.pointer (some ⟨g, 0, none⟩)] w' fun e w1 => e = .returned (.bool false) ∧ Hid (PLie w1 g 0 ph.tick) ∧ Hid (Prt g 0 15 w' w1)) := Lib.hid (fun w' h => by
            have := tick_any g 0 ph HOK.out w' h
            rw [z3] at this
            exact this)
          have HQ : Hid (∀ w', PLie w' g 0 ph → w'.cell? ⟨g, 11, none⟩ = some (.int .i64 0)) := Lib.hid (fun w' h => by
            have := h.four0.1
            rw [z1] at this
            exact this)
          clear hlt hj z1 z2 z3 HFJ HT
          generalize ((p.ticks j).sn.take nn).2 = er at *
          go_wp2_with (first
            | (go_at_call 11; (with_reducible refine (CH.out).mono ?_); rintro e w7 ⟨rfl, HP7, HW7⟩; have HB7 := Lib.hid (HW7.out.bel HB.out HB.out.size HG.out); have q7 := HQ.out _ HP7.out)
            | (go_at_call 12; (with_reducible refine (CS.out _ HP7.out).mono ?_); rintro e w8 ⟨rfl, rfl⟩)
            | (go_at_call 10; (with_reducible refine (CT.out _ HP7.out).mono ?_); rintro e w8 ⟨rfl, HP8, HW8⟩; have HB8 := Lib.hid (HW8.out.bel HB7.out HB7.out.size HG.out))
            | fail)
          go_ret
          exact ⟨rfl, HB8.out⟩
end Go.Proofs.Ytopnceniihgkpaa
