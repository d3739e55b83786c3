/-
  Own text: the document's Check, walked.
-/
import Derived.Test.YtldhlknmabpanaaGreatK12
import Derived.Deep.DeepCutAuto
namespace Go.Proofs.YtldhlknmabpanaaGreat
open Go.RowKit

theorem ask_few (F : Nat → Int) (n : Nat) (h0 : ∀ i, i < n → 0 ≤ F i) (h : ∀ i, i < n → F i < 32 ∧ (0 < i → F (i - 1) < F i)) : n ≤ 32 := by
  have h1 : ∀ i : Nat, i < n → (i : Int) ≤ F i := by
    intro i
    induction i with
    | zero => intro hi; simpa using h0 0 hi
    | succ i ih =>
      intro hi
      have a := ih (by omega)
      have b := (h (i + 1) hi).2 (by omega)
      rw [Nat.add_sub_cancel] at b
      omega
  rcases Nat.lt_or_ge 32 n with g | g
  · have a := h1 32 g
    have b := (h 32 g).1
    omega
  · exact g
set_option maxRecDepth 100000 in
set_option maxHeartbeats 8000000 in
theorem rcheck_4 (ses seq path tick A B K M ix : Int) (da : Option Addr) (dl dc : Nat) (l : List Int) (w : World) (hl : Bytes w da dl l) (bb cb : Bool) (HBB : Hid (bb = decide (K = 0 ∧ M = 0 ∧ ix = 0))) (_HCB : Hid (cb = decide (1 ≤ K ∧ K ≤ 16 ∧ 0 ≤ M ∧ M ≤ 16 ∧ 1 ≤ dl ∧ dl ≤ 1200))) (R : Int) (HS : Hid (R = if (0 ≤ path ∧ path < 2) ∧ bb = true ∧ B = 0 ∧ decide (0 < dl ∧ AskTo l dl) = true then 0 else 73)) :
    Calls Tryz.prog 62 #[.agg #[.int .i64 4, .int .u32 ses, .int .u32 seq, .int .i64 path, .int .u32 tick, .int .u32 A, .int .u32 B, .int .i64 K, .int .i64 M, .int .i64 ix, .slice da dl dc]] w fun e w' => e = .returned (.int .i64 R) ∧ Below w.heap.size w w' := by
  have HX := dbox_all w ⟨4, ses, seq, path, tick, A, B, K, M, ix, da, dl, dc⟩ 50 l hl
  dsimp only [Dg.cells] at HX
  have hm := hl.max
  clear hl
  go_enter Tryz.func62, Tryz.ntmps62
  go_upto_region 1 with fail
  obtain ⟨⟨_, x0, x1, x2, x3, x4, x5, x6, x7, x8, x9, x10⟩, hl0, hb0⟩ := HX.out _ (Below.refl _ _)
  have HL0 := Lib.hid hl0
  have HB0 := Lib.hid hb0
  clear hl0 hb0 HX
  generalize w.alloc (.cells #[.int .i64 4, .int .u32 ses, .int .u32 seq, .int .i64 path, .int .u32 tick, .int .u32 A, .int .u32 B, .int .i64 K, .int .i64 M, .int .i64 ix, .slice da dl dc] 50) = w0 at *
  go_upto_region 2 with fail
  go_cut [4] (fun s wx => s = .bool bb ∧ w0 = wx)
  case first =>
    obtain ⟨b1, e1⟩ : ∃ b1, (K == 0) = b1 := ⟨_, rfl⟩
    obtain ⟨b2, e2⟩ : ∃ b2, (M == 0) = b2 := ⟨_, rfl⟩
    obtain ⟨b3, e3⟩ : ∃ b3, (ix == 0) = b3 := ⟨_, rfl⟩
    have HEE : Hid (bb = (b1 && (b2 && b3))) := Lib.hid (by rw [HBB.out, ← e1, ← e2, ← e3, Bool.eq_iff_iff]; simp)
    clear HBB
    rcases b1 with _ | _
    case' true => rcases b2 with _ | _
    case' true.true => rcases b3 with _ | _
    all_goals
      go_wp2_with fail
      go_meet
      exact ⟨congrArg Value.bool HEE.out.symm, rfl⟩
  case rest =>
    obtain ⟨rfl, rfl⟩ := hcut
    go_upto_region 18 with fail
    obtain ⟨q, HQ⟩ : ∃ q, Hid (q = decide (bb = true ∧ B = 0 ∧ 1 ≤ dl ∧ dl ≤ 32)) := ⟨_, Lib.hid rfl⟩
    go_cut [5] (fun s wx => s = .bool q ∧ w0 = wx)
    case first =>
      have HS1 : Hid (∀ b : Bool, (b = true ↔ bb = true ∧ B = 0 ∧ 1 ≤ dl ∧ dl ≤ 32) → b = q) := Lib.hid (fun b h => by rw [HQ.out, Bool.eq_iff_iff, decide_eq_true_iff]; exact h)
      clear HQ HS HBB
      obtain ⟨b1, e1⟩ : ∃ b1, (B == 0) = b1 := ⟨_, rfl⟩
      have HE1 : Hid (B = 0 ↔ b1 = true) := Lib.hid (by rw [← e1]; simp)
      rw [HE1.out] at HS1
      clear HE1
      rcases bb with _ | _
      all_goals rcases b1 with _ | _
      all_goals
        go_wp2_with fail
      all_goals
        go_meet
        refine ⟨congrArg Value.bool (HS1.out _ ?_), rfl⟩
        (try simp) <;> omega
    case rest =>
      obtain ⟨rfl, rfl⟩ := hcut
      clear HBB x0 x1 x2 x4 x5 x6 x7 x8 x9
      obtain ⟨F, hF⟩ : ∃ F : Nat → Int, ∀ i, l.getD i 0 = F i := ⟨_, fun _ => rfl⟩
      have HT : Hid (AskTo l dl ↔ ∀ i, i < dl → F i < 32 ∧ (0 < i → F (i - 1) < F i)) := Lib.hid (by unfold AskTo; simp only [hF])
      have HLc : Hid (dl = 0 ∨ ∃ b off, da = some ⟨b, off, none⟩ ∧ b < w0.heap.size ∧ ∀ i, i < dl → w0.cell? ⟨b, off + i, none⟩ = some (.int .u8 (F i))) := Lib.hid (by
        rcases HL0.out.cell with h | ⟨_, b, off, e, hbs, hc⟩
        · exact .inl h
        · simp only [hF] at hc
          exact .inr ⟨b, off, e, hbs, hc⟩)
      have HY : Hid (∀ i, i < dl → 0 ≤ F i ∧ F i ≤ 255) := Lib.hid (fun i hi => by rw [← hF]; exact HL0.out.byte i hi)
      clear hF HL0
      go_wp2_with fail
      have HCC := Lib.hid (show w.heap.size < w0.heap.size ∧ w0.cell? ⟨w.heap.size, 3, none⟩ = some (.int .i64 path) ∧ w0.cell? ⟨w.heap.size, 10, none⟩ = some (.slice da dl dc) from ⟨by assumption, x3, x10⟩)
      clear x3 x10
      go_loopw [5, 6] (fun v i wr => ∃ (k : Nat) (o : Bool), k ≤ dl ∧ Hid (Below w0.heap.size w0 wr) ∧ i = .int .i64 k ∧ v = .bool o ∧ Hid (o = true ↔ q = true ∧ ∀ i, i < k → F i < 32 ∧ (0 < i → F (i - 1) < F i))) (fun _ i _ => dl - (intOf i).toNat)
      case atStart => exact ⟨0, q, by omega, Lib.hid (Below.refl _ _), rfl, rfl, Lib.hid ⟨fun h => ⟨h, fun i hi => absurd hi (by omega)⟩, fun h => h.1⟩⟩
      case round =>
        obtain ⟨k, o, hk, HWR, rfl, rfl, HO⟩ := hrel
        obtain ⟨l0, g3, g10⟩ := HCC.out
        have x3 := (HWR.out.cell (p := ⟨w.heap.size, 3, none⟩) l0).trans g3
        have x10 := (HWR.out.cell (p := ⟨w.heap.size, 10, none⟩) l0).trans g10
        have HBW := Lib.hid (HB0.out.trans (HWR.out.mono HB0.out.size))
        clear g3 g10 l0
        by_cases hlt : k < dl
        case neg =>
          obtain rfl : k = dl := by omega
          have HS2 : Hid (R = if (0 ≤ path ∧ path < 2) ∧ o = true then 0 else 73) := Lib.hid (by
            rw [HS.out]
            have e : (bb = true ∧ B = 0 ∧ decide (0 < k ∧ AskTo l k) = true) ↔ o = true := by
              rw [HO.out, HQ.out, decide_eq_true_iff, decide_eq_true_iff, HT.out]
              constructor
              · rintro ⟨h1, h2, h3, h4⟩
                exact ⟨⟨h1, h2, by omega, ask_few F k (fun i hi => (HY.out i hi).1) h4⟩, h4⟩
              · rintro ⟨⟨h1, h2, h3, _⟩, h4⟩
                exact ⟨h1, h2, by omega, h4⟩
            by_cases h : (0 ≤ path ∧ path < 2) ∧ o = true
            · rw [if_pos h, if_pos ⟨h.1, e.2 h.2⟩]
            · rw [if_neg h, if_neg (fun g => h ⟨g.1, e.1 g.2⟩)])
          clear HS HO HQ HT HY HLc hk hlt
          rcases o with _ | _
          all_goals go_wp2_with fail
          all_goals
            go_ret
            refine ⟨ret_int ?_, HBW.out⟩
            rw [HS2.out]
            first
              | (rw [if_pos (by (try simp) <;> omega)]; done)
              | (rw [if_neg (by (try simp) <;> omega)]; done)
        case pos =>
          obtain ⟨b, off, rfl, hbs, hc⟩ := HLc.out.resolve_left (by omega)
          have c1 := (HWR.out.cell (p := ⟨b, off + k, none⟩) hbs).trans (hc k hlt)
          have c2 := (HWR.out.cell (p := ⟨b, off + (k - 1), none⟩) hbs).trans (hc (k - 1) (by omega))
          have y1 := HY.out k hlt
          have y2 := HY.out (k - 1) (by omega)
          clear hc
          obtain ⟨z, hz⟩ : ∃ z, z = F k := ⟨_, rfl⟩
          rw [← hz] at c1 y1
          obtain ⟨y, hy⟩ : ∃ y, y = F (k - 1) := ⟨_, rfl⟩
          rw [← hy] at c2 y2
          have HZ := Lib.hid hz
          have HYY := Lib.hid hy
          clear hz hy
          have HG : Hid (∀ o', (o' = true ↔ o = true ∧ z < 32 ∧ (0 < k → y < z)) → (o' = true ↔ q = true ∧ ∀ i, i < k + 1 → F i < 32 ∧ (0 < i → F (i - 1) < F i))) := Lib.hid (fun o' h => by
            rw [h, HO.out, HZ.out, HYY.out]
            constructor
            · rintro ⟨⟨h1, h2⟩, h3, h4⟩
              refine ⟨h1, fun i hi => ?_⟩
              rcases Nat.lt_or_ge i k with g | g
              · exact h2 i g
              · obtain rfl : i = k := by omega
                exact ⟨h3, h4⟩
            · rintro ⟨h1, h2⟩
              exact ⟨⟨h1, fun i hi => h2 i (by omega)⟩, h2 k (by omega)⟩)
          clear HO
          clear HS HQ HT HY HLc HZ HYY
          rcases o with _ | _
          · have HG1 := Lib.hid (fun h => Bool.false_ne_true ((HG.out false (by simp)).2 h))
            clear HG
            go_wp2_with fail
            go_quiet (fail)
            go_wp2_with fail
            go_roundw
            case rel => exact ⟨k + 1, false, by omega, Lib.hid (below_drewN HWR.out _), by go_num, rfl, Lib.hid ⟨(fun h => nomatch h), fun h => absurd h HG1.out⟩⟩
            case measure => simp [intOf]; omega
          · by_cases hz32 : z < 32
            case neg =>
              have HG1 := Lib.hid (fun h => Bool.false_ne_true ((HG.out false (by simp [hz32])).2 h))
              have d1 : decide (z < 32) = false := decide_eq_false hz32
              clear HG
              go_wp2_with fail
              go_quiet (fail)
              go_wp2_with fail
              go_roundw
              case rel => exact ⟨k + 1, false, by omega, Lib.hid (below_drewN HWR.out _), by go_num, rfl, Lib.hid ⟨(fun h => nomatch h), fun h => absurd h HG1.out⟩⟩
              case measure => simp [intOf]; omega
            case pos =>
              have d1 : decide (z < 32) = true := decide_eq_true hz32
              by_cases hk0 : k = 0
              · have hmk : ((k : Int) == 0) = true := by simp [hk0]
                have HG1 := Lib.hid ((HG.out true (by simp [hz32, hk0])).1 rfl)
                clear HG hk0
                go_wp2_with fail
                go_quiet (fail)
                go_wp2_with fail
                go_roundw
                case rel => exact ⟨k + 1, true, by omega, Lib.hid (below_drewN HWR.out _), by go_num, rfl, Lib.hid ⟨fun _ => HG1.out, fun _ => rfl⟩⟩
                case measure => simp [intOf]; omega
              · obtain ⟨m, rfl⟩ : ∃ m, k = m + 1 := ⟨k - 1, by omega⟩
                rw [Nat.add_sub_cancel] at c2
                have hmk : (((m + 1 : Nat) : Int) == 0) = false := by simp; omega
                have hml : (m : Int) < dl := by omega
                have hm2 : (m : Int) + 1 < dl := by omega
                have hm3 : (0 : Int) ≤ (m : Int) + 1 := by omega
                have hm5 : wrap64 (m : Int) = m := by unfold wrap64; omega
                have hm6 : IntKind.i64.wrap (m : Int) = m := IntWalk.i64_in _ (by omega)
                have hm7 : (0 : Int) ≤ (m : Int) := by omega
                have hm4 : ((m : Int) + 1).toNat = m + 1 := by omega
                have HK0 : Hid (0 < m + 1) := Lib.hid (by omega)
                clear hk0
                by_cases hyz : y < z
                · have HG1 := Lib.hid ((HG.out true (by simp [hz32, hyz])).1 rfl)
                  have d2 : decide (y < z) = true := decide_eq_true hyz
                  clear HG
                  go_wp2_with fail
                  go_quiet (fail)
                  go_wp2_with fail
                  go_roundw
                  case rel => exact ⟨m + 1 + 1, true, by omega, Lib.hid (below_drewN HWR.out _), by go_num, rfl, Lib.hid ⟨fun _ => HG1.out, fun _ => rfl⟩⟩
                  case measure => simp [intOf]; omega
                · have HG1 := Lib.hid (fun h => Bool.false_ne_true ((HG.out false (by have := HK0.out; simp; omega)).2 h))
                  have d2 : decide (y < z) = false := decide_eq_false hyz
                  clear HG
                  go_wp2_with fail
                  go_quiet (fail)
                  go_wp2_with fail
                  go_roundw
                  case rel => exact ⟨m + 1 + 1, false, by omega, Lib.hid (below_drewN HWR.out _), by go_num, rfl, Lib.hid ⟨(fun h => nomatch h), fun h => absurd h HG1.out⟩⟩
                  case measure => simp [intOf]; omega
end Go.Proofs.YtldhlknmabpanaaGreat
