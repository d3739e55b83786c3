/-
  Own text: Share, walked.
-/
import Derived.Test.YtbbdkkjbcpkplaaPcT
namespace Go.Proofs.Ytbbdkkjbcpkplaa
open Go.RowKit

/-- May it be shared? -/
def Good (r : Int) (n : Nat) (z : Nat → Int) : Prop := OkW z n ∧ 0 < sumZ z n ∧ 0 ≤ r ∧ r ≤ 1048576
set_option maxRecDepth 100000 in
theorem share_bad (r : Int) (a : Option Addr) (n c : Nat) (z : Nat → Int) (hb : ¬ Good r n z) (w : World) (h : Nums w a n z) :
    Calls Try.prog 13 #[.int .i64 r, .slice a n c] w fun e w' => e = .returned (.tuple #[.slice none 0 0, .int .i64 1]) ∧ w = w' := by
  have CT : ∃ s b, (b = true → 0 ≤ r → ¬ r ≤ 1048576) ∧ Calls Try.prog 23 #[.slice a n c] w fun e w' => e = .returned (.tuple #[.int .i64 s, .bool b]) ∧ w = w' := by
    by_cases hk : OkW z n
    · refine ⟨sumZ z n, decide (0 < sumZ z n), fun hs h0 h1 => hb ⟨hk, of_decide_eq_true hs, h0, h1⟩, (total_any a n c z w h).mono fun e w' h => ⟨?_, h.2⟩⟩
      rcases h.1 with h | h
      · exact h.2
      · exact absurd hk h.1
    · refine ⟨0, false, fun hs => (by cases hs), (total_any a n c z w h).mono fun e w' h => ⟨?_, h.2⟩⟩
      rcases h.1 with h | h
      · exact absurd h.1 hk
      · exact h.2
  obtain ⟨s, b, hbb, ct⟩ := CT
  have CTH := Lib.hid ct
  clear ct hb h
  cases b
  · clear hbb
    go_enter Try.func13, Try.ntmps13
    go_wp2_with (first
      | (go_at_call 23; (with_reducible refine (CTH.out).mono ?_); rintro e w1 ⟨rfl, rfl⟩)
      | fail)
    all_goals go_ret2
    all_goals exact ⟨rfl, rfl⟩
  · have hc : r < 0 ∨ (0 ≤ r ∧ 1048576 < r) := by have := hbb rfl; omega
    clear hbb
    rcases hc with hc | ⟨hc, hc2⟩
    all_goals
      go_enter Try.func13, Try.ntmps13
      go_wp2_with (first
        | (go_at_call 23; (with_reducible refine (CTH.out).mono ?_); rintro e w1 ⟨rfl, rfl⟩)
        | fail)
      all_goals go_ret2
      all_goals exact ⟨rfl, rfl⟩
/-- So many noughts, made. -/
theorem made_own (w : World) (n : Nat) (h0 : 0 < n) (hn : n ≤ 256) : OwnI (w.alloc (.cells (madeCells #[.int .i64 0] n) 3)) w.heap.size (.slice (some ⟨w.heap.size, 0, none⟩) n n) n (lst n (fun _ => 0)) := by
  have hb := Go.Deep.blk_alloc_new w (.cells (madeCells #[.int .i64 0] n) 3)
  have e : madeCells #[Value.int .i64 0] n = ((List.replicate n (0 : Int)).map (Value.int .i64)).toArray := by
    apply Array.toList_inj.1
    rw [toList_madeCells_one]
    simp
  refine ⟨by simp [lst_length], .inr ⟨w.heap.size, n, madeCells #[.int .i64 0] n, rfl, Nat.le_refl _, hb, Nat.le_refl _, by unfold maxLen; omega, by rw [e]; simp, ?_⟩⟩
  rw [e, ← lst_zeros]
  simp
set_option maxRecDepth 100000 in
set_option maxHeartbeats 1000000 in
theorem share_good (r : Int) (a : Option Addr) (n c : Nat) (z : Nat → Int) (hg : Good r n z) (w : World) (h : Nums w a n z) :
    Calls Try.prog 13 #[.int .i64 r, .slice a n c] w fun e w' => e = .returned (.tuple #[.slice (some ⟨w.heap.size, 0, none⟩) n n, .int .i64 0]) ∧ Hid (OwnI w' w.heap.size (.slice (some ⟨w.heap.size, 0, none⟩) n n) n (lst n (shp r n z))) ∧ Hid (Below w.heap.size w w') := by
  obtain ⟨hk, hs, r0, r1⟩ := hg
  have hn0 : 0 < n := by
    rcases Nat.eq_zero_or_pos n with e | e
    · subst e; simp [sumZ] at hs
    · exact e
  have hsl := (sumZ_lo z n hk.2).2
  have hn1 := hk.1
  have CT : Hid (Calls Try.prog 23 #[.slice a n c] w fun e w' => e = .returned (.tuple #[.int .i64 (sumZ z n), .bool true]) ∧ w = w') := Lib.hid ((total_any a n c z w h).mono fun e w' h => ⟨by
    rcases h.1 with h | h
    · rw [h.2, decide_eq_true hs]
    · exact absurd hk h.1, h.2⟩)
  have hmk : ∀ w : World, (Instr.makeSlice 40 (.int .i64 (n : Int)) (.int .i64 (n : Int))).run Try.prog w = .ok (.slice (some ⟨w.heap.size, 0, none⟩) n n) (w.alloc (.cells (madeCells #[.int .i64 0] n) 3)) := fun w =>
    run_make_row' (P := Try.prog) 40 3 (.int .i64 0) 8 Try.underlying40 (by kernel_rfl) rfl .i64 .i64 n (by omega) (by omega) w
  have H0 := Lib.hid (made_own w n hn0 hn1)
  have HB0 : Hid (Below w.heap.size w (w.alloc (.cells (madeCells #[.int .i64 0] n) 3))) := Lib.hid ((Below.refl _ _).alloc (Nat.le_refl _) _)
  have HG : Hid (OkW z n ∧ 0 < sumZ z n) := Lib.hid ⟨hk, hs⟩
  have HN1 := Lib.hid hn1
  have HNU := Lib.hid h
  have CF : Hid (∀ (j : Nat) (w' : World), j < n → Calls Try.prog 20 #[.int .i64 (r * z j), .int .i64 (sumZ z n)] w' fun e w1 => e = .returned (.int .i64 (shq r n z j)) ∧ w' = w1) := Lib.hid (fun j w' hj => by
    have hz := hk.2 j hj
    have h1 : 0 ≤ r * z j := Int.mul_nonneg r0 hz.1
    have h2 : r * z j ≤ 1048576 * 65536 := Int.mul_le_mul r1 hz.2 hz.1 (by omega)
    unfold shq
    rw [← floor_div (r * z j) (sumZ z n) (by omega) (by omega) hs (by omega)]
    exact floor_any _ _ _)
  have HW1 : Hid (∀ j, j < n → IntKind.i64.wrap (r * z j) = r * z j) := Lib.hid (fun j hj => by
    have hz := hk.2 j hj
    have h1 : 0 ≤ r * z j := Int.mul_nonneg r0 hz.1
    have h2 : r * z j ≤ 1048576 * 65536 := Int.mul_le_mul r1 hz.2 hz.1 (by omega)
    rw [IntKind.wrap_i64]; omega)
  have HL : Hid (∀ j, j ≤ n → 0 ≤ shl r n z j ∧ shl r n z j ≤ r) := Lib.hid (fun j hj => shl_at r0 hk hs hj)
  have HQ : Hid (∀ j, j < n → 0 ≤ shq r n z j ∧ shq r n z j ≤ r) := Lib.hid (fun j hj => shq_lo r0 hk hs hj)
  have HL2 : Hid (∀ j, sh2 r n z j ≤ r) := Lib.hid (sh2_le r0 hk hs)
  have HZ := Lib.hid (sh2_zero r0 hk hs)
  have HR1 := Lib.hid r1
  have r2 : ¬ r < 0 := by omega
  have r3 : ¬ 1048576 < r := by omega
  clear hk hs r0 r1 hsl hn0 hn1 h
  generalize hsn : sumZ z n = sn at *
  clear hsn
  generalize madeCells #[Value.int .i64 0] n = M at *
  go_enter Try.func13, Try.ntmps13
  go_wp2_with (first
    | (go_at_call 23; (with_reducible refine (CT.out).mono ?_); rintro e w1 ⟨rfl, rfl⟩)
    | fail)
  generalize w.alloc (.cells M 3) = W at *
  clear CT hmk r2 r3
  have HNW : Hid (∀ w', Below w.heap.size w w' → Nums w' a n z) := Lib.hid (fun w' hb => HNU.out.below hb (Nat.le_refl _))
  go_loopw [9, 10, 11, 35] (fun l _ _ i wr => ∃ j : Nat, j ≤ n ∧ i = .int .i64 (j : Int) ∧ l = .int .i64 (shl r n z j) ∧ Hid (OwnI wr w.heap.size (.slice (some ⟨w.heap.size, 0, none⟩) n n) n (lst n (fun i => if i < j then shq r n z i else 0))) ∧ Hid (Below w.heap.size w wr)) (fun _ _ _ i _ => n - (intOf i).toNat)
  case atStart =>
    refine ⟨0, Nat.zero_le _, rfl, ?_, Lib.hid ?_, HB0⟩
    · simp [shl, sumZ]
    · rw [lst_congr n _ (fun _ => 0) (fun i _ => by simp)]; exact H0.out
  case round =>
    obtain ⟨j, hj, rfl, rfl, HO, HB⟩ := hrel
    obtain ⟨wo, ho⟩ : ∃ wo, wo = wr := ⟨_, rfl⟩
    subst ho
    by_cases hlt : j < n
    · obtain ⟨g, off, rfl, hg, c0⟩ := (HNW.out _ HB.out).at_ hlt
      obtain ⟨g2, e2, _, _, p0, pf, _, _, _⟩ := HO.out.at_ j hlt
      simp only [Option.some.injEq, Addr.mk.injEq, and_true] at e2
      subst e2
      rw [lst_getD _ _ _ hlt, if_neg (by omega)] at p0
      have k1 : (j : Int) < n := by omega
      have k2 : (0 : Int) ≤ (j : Int) := by omega
      have hn9 := HN1.out
      have k3 : (j : Int) ≤ 256 := by omega
      have CFJ := Lib.hid (fun w' => CF.out j w' hlt)
      have wr1 := HW1.out j hlt
      obtain ⟨q1, q2⟩ := HQ.out j hlt
      obtain ⟨l1, l2⟩ := HL.out j hj
      have hr1 := HR1.out
      have wr2 : IntKind.i64.wrap (shl r n z j - shq r n z j) = shl r n z j - shq r n z j := by rw [IntKind.wrap_i64]; omega
      have HST : Hid (shl r n z (j + 1) = shl r n z j - shq r n z j) := Lib.hid (by unfold shl; simp only [sumZ]; omega)
      have HJK : Hid (j + 1 ≤ n) := Lib.hid (by omega)
      have HO2 : Hid (OwnI (wo.setCell ⟨w.heap.size, j, none⟩ (.int .i64 (shq r n z j))) w.heap.size (.slice (some ⟨w.heap.size, 0, none⟩) n n) n (lst n (fun i => if i < j + 1 then shq r n z i else 0))) := Lib.hid (by
        have := HO.out.set j (shq r n z j)
        rw [← lst_set n (fun i => if i < j then shq r n z i else 0) (fun i => if i < j + 1 then shq r n z i else 0) j (fun i _ hne => by
          by_cases h : i < j
          · rw [if_pos h, if_pos (by omega)]
          · rw [if_neg h, if_neg (by omega)])]
        rw [if_pos (by omega)]
        exact this)
      have HB2 := Lib.hid (HB.out.setCell (p := ⟨w.heap.size, j, none⟩) (Nat.le_refl _) (.int .i64 (shq r n z j)))
      clear hlt hj hg hr1 l1 l2 HO HB
      generalize z j = y at *
      generalize shq r n z j = q at *
      generalize hl0 : shl r n z j = l0 at *
      clear hl0
      go_wp2_with (first
        | (go_at_call 20; (with_reducible refine (CFJ.out _).mono ?_); rintro e w1 ⟨rfl, rfl⟩)
        | fail)
      go_roundw
      case rel => exact ⟨j + 1, HJK.out, by go_num, by rw [HST.out], HO2, HB2⟩
      case measure => simp [intOf] <;> (have := HJK.out; omega)
    · obtain rfl : j = n := by omega
      have HO1 : Hid (OwnI wo w.heap.size (.slice (some ⟨w.heap.size, 0, none⟩) j j) j (lst j (shq r j z))) := Lib.hid (by
        rw [lst_congr j (shq r j z) (fun i => if i < j then shq r j z i else 0) (fun i hi => by rw [if_pos hi])]
        exact HO.out)
      have HLL : Hid (shl r j z j = sh2 r j z 0) := Lib.hid HZ.out.2.symm
      rw [HLL.out]
      have HL20 := HL2.out 0
      clear HO hlt hj HLL HL20
      generalize hx0 : sh2 r j z 0 = x0 at *
      have HX0 := Lib.hid hx0
      clear hx0
      go_wp2
      go_loopw [9, 12, 13, 57] (fun l _ _ i wr => ∃ k : Nat, k ≤ j ∧ i = .int .i64 (k : Int) ∧ l = .int .i64 (sh2 r j z k) ∧ Hid (OwnI wr w.heap.size (.slice (some ⟨w.heap.size, 0, none⟩) j j) j (lst j (fun i => if i < k then shp r j z i else shq r j z i))) ∧ Hid (Below w.heap.size w wr)) (fun _ _ _ i _ => j - (intOf i).toNat)
      case atStart =>
        refine ⟨0, Nat.zero_le _, rfl, by rw [HX0.out], Lib.hid ?_, HB⟩
        rw [lst_congr j _ (shq r j z) (fun i _ => by simp)]; exact HO1.out
      case round =>
        obtain ⟨k, hk, rfl, rfl, HO, HBB⟩ := hrel
        obtain ⟨wk, ho⟩ : ∃ wk, wk = wr := ⟨_, rfl⟩
        subst ho
        have hn9 := HN1.out
        by_cases hlt : k < j
        · obtain ⟨g, off, rfl, hg, c0⟩ := (HNW.out _ HBB.out).at_ hlt
          obtain ⟨g2, e2, _, _, p0, pf, _, _, _⟩ := HO.out.at_ k hlt
          simp only [Option.some.injEq, Addr.mk.injEq, and_true] at e2
          subst e2
          rw [lst_getD _ _ _ hlt, if_neg (by omega)] at p0
          have k1 : (k : Int) < j := by omega
          have k2 : (0 : Int) ≤ (k : Int) := by omega
          have k3 : (k : Int) ≤ 256 := by omega
          obtain ⟨q1, q2⟩ := HQ.out k hlt
          have l1 := sh2_lo r j z k
          have l2 := HL2.out k
          have hr1 := HR1.out
          obtain ⟨s1, s2⟩ := sh2_step r j z k
          have HJK : Hid (k + 1 ≤ j) := Lib.hid (by omega)
          have HOS : Hid (∀ v, v = shp r j z k → OwnI (wk.setCell ⟨w.heap.size, k, none⟩ (.int .i64 v)) w.heap.size (.slice (some ⟨w.heap.size, 0, none⟩) j j) j (lst j (fun i => if i < k + 1 then shp r j z i else shq r j z i))) := Lib.hid (fun v hv => by
            have := HO.out.set k v
            rw [← lst_set j (fun i => if i < k then shp r j z i else shq r j z i) (fun i => if i < k + 1 then shp r j z i else shq r j z i) k (fun i _ hne => by
              by_cases h : i < k
              · rw [if_pos h, if_pos (by omega)]
              · rw [if_neg h, if_neg (by omega)])]
            rw [if_pos (by omega), ← hv]
            exact this)
          have HON : Hid (shp r j z k = shq r j z k → OwnI wk w.heap.size (.slice (some ⟨w.heap.size, 0, none⟩) j j) j (lst j (fun i => if i < k + 1 then shp r j z i else shq r j z i))) := Lib.hid (fun hv => by
            rw [lst_congr j _ (fun i => if i < k then shp r j z i else shq r j z i) (fun i _ => by
              by_cases h : i < k
              · rw [if_pos h, if_pos (by omega)]
              · by_cases e : i = k
                · subst e; rw [if_pos (by omega), if_neg (by omega)]; exact hv
                · rw [if_neg h, if_neg (by omega)])]
            exact HO.out)
          have HBS : Hid (∀ v, Below w.heap.size w (wk.setCell ⟨w.heap.size, k, none⟩ v)) := Lib.hid (fun v => HBB.out.setCell (p := ⟨w.heap.size, k, none⟩) (Nat.le_refl _) v)
          by_cases h1 : 0 < sh2 r j z k
          · by_cases h2 : 0 < z k
            · obtain ⟨t1, t2⟩ := s1 ⟨h1, h2⟩
              have HT1 := Lib.hid t1
              have HO2 := Lib.hid (HOS.out (shq r j z k + 1) t2.symm)
              have HB2 := Lib.hid (HBS.out (.int .i64 (shq r j z k + 1)))
              have wr1 : IntKind.i64.wrap (shq r j z k + 1) = shq r j z k + 1 := by rw [IntKind.wrap_i64]; omega
              have wr2 : IntKind.i64.wrap (sh2 r j z k - 1) = sh2 r j z k - 1 := by rw [IntKind.wrap_i64]; omega
              clear s1 s2 t1 t2 hlt hk hg hr1 l2 q1 q2 HOS HON HBS HO HBB
              generalize z k = y at *
              generalize shq r j z k = q at *
              generalize hl0 : sh2 r j z k = l0 at *
              clear hl0
              go_wp2
              go_roundw
              case rel => exact ⟨k + 1, HJK.out, by go_num, by rw [HT1.out], HO2, HB2⟩
              case measure => simp [intOf] <;> (have := HJK.out; omega)
            · obtain ⟨t1, t2⟩ := s2 (fun h => h2 h.2)
              have HT1 := Lib.hid t1
              have HO2 := Lib.hid (HON.out t2)
              clear s1 s2 t1 t2 hlt hk hg hr1 l2 q1 q2 HOS HON HBS HO
              generalize z k = y at *
              generalize shq r j z k = q at *
              generalize hl0 : sh2 r j z k = l0 at *
              clear hl0
              go_wp2
              go_roundw
              case rel => exact ⟨k + 1, HJK.out, by go_num, by rw [HT1.out], HO2, HBB⟩
              case measure => simp [intOf] <;> (have := HJK.out; omega)
          · obtain ⟨t1, t2⟩ := s2 (fun h => h1 h.1)
            have HT1 := Lib.hid t1
            have HO2 := Lib.hid (HON.out t2)
            clear s1 s2 t1 t2 hlt hk hg hr1 l2 q1 q2 HOS HON HBS HO
            generalize z k = y at *
            generalize shq r j z k = q at *
            generalize hl0 : sh2 r j z k = l0 at *
            clear hl0
            go_wp2
            go_roundw
            case rel => exact ⟨k + 1, HJK.out, by go_num, by rw [HT1.out], HO2, HBB⟩
            case measure => simp [intOf] <;> (have := HJK.out; omega)
        · obtain rfl : k = j := by omega
          have HO9 : Hid (OwnI wk w.heap.size (.slice (some ⟨w.heap.size, 0, none⟩) k k) k (lst k (shp r k z))) := Lib.hid (by
            rw [lst_congr k (shp r k z) (fun i => if i < k then shp r k z i else shq r k z i) (fun i hi => by rw [if_pos hi])]
            exact HO.out)
          clear HO hlt hk
          generalize sh2 r k z k = l0 at *
          go_wp2
          go_ret2
          exact ⟨rfl, HO9, HBB⟩
end Go.Proofs.Ytbbdkkjbcpkplaa
