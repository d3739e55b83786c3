/-
  Own text: the document's Share, walked.
-/
import Derived.Test.YtbbdkkjbcpkplaaPcU
namespace Go.Proofs.Ytbbdkkjbcpkplaa
open Go.RowKit

theorem own_at0 {w : World} {base : Nat} {A : Option Addr} {n C : Nat} {l : List Int} (h : OwnI w base (.slice A n C) n l) (hn : 0 < n) : ∃ g, A = some ⟨g, 0, none⟩ := by
  obtain ⟨g, e, _⟩ := h.at_ 0 hn
  exact ⟨g, e⟩
theorem box_cell (w : World) (v : Int) : (w.alloc (.cells #[.int .i64 v] 3)).cell? ⟨w.heap.size, 0, none⟩ = some (.int .i64 v) := by
  have hB := Go.Deep.blk_alloc_new w (.cells #[.int .i64 v] 3)
  simp only [World.cell?, hB]; rfl
set_option maxRecDepth 100000 in
set_option maxHeartbeats 1000000 in
theorem rshare_any (r : Int) (a : Option Addr) (n c : Nat) (z : Nat → Int) (hg : Good r n z) (w : World) (h : Nums w a n z) :
    Calls Try.prog 14 #[.int .i64 r, .slice a n c] w fun e w' => ∃ g C, e = .returned (.slice (some ⟨g, 0, none⟩) n C) ∧ Hid (OwnI w' w.heap.size (.slice (some ⟨g, 0, none⟩) n C) n (lst n (shp r n z))) ∧ Hid (Below w.heap.size w w') := by
  obtain ⟨hk, hs, r0, r1⟩ := hg
  have hn0 : 0 < n := by
    rcases Nat.eq_zero_or_pos n with e | e
    · subst e; simp [sumZ] at hs
    · exact e
  have hsl := sumZ_lo z n hk.2
  have hn1 := hk.1
  have HN1 := Lib.hid hn1
  have HN0 := Lib.hid hn0
  have HNU := Lib.hid h
  have HW1 : Hid (∀ j, j < n → IntKind.i64.wrap (r * z j) = r * z j ∧ (r * z j).tdiv (sumZ z n) = shq r n z j) := Lib.hid (fun j hj => by
    have hz := hk.2 j hj
    have h1 : 0 ≤ r * z j := Int.mul_nonneg r0 hz.1
    have h2 : r * z j ≤ 1048576 * 65536 := Int.mul_le_mul r1 hz.2 hz.1 (by omega)
    exact ⟨by rw [IntKind.wrap_i64]; omega, by unfold shq; exact Int.tdiv_eq_ediv_of_nonneg h1⟩)
  have HL : Hid (∀ j, j ≤ n → 0 ≤ shl r n z j ∧ shl r n z j ≤ r) := Lib.hid (fun j hj => shl_at r0 hk hs hj)
  have HQ : Hid (∀ j, j < n → 0 ≤ shq r n z j ∧ shq r n z j ≤ r) := Lib.hid (fun j hj => shq_lo r0 hk hs hj)
  have HL2 : Hid (∀ j, sh2 r n z j ≤ r) := Lib.hid (sh2_le r0 hk hs)
  have HZ := Lib.hid (sh2_zero r0 hk hs)
  have HR1 := Lib.hid r1
  have HSJ : Hid (∀ j, j < n → 0 ≤ sumZ z j ∧ sumZ z j ≤ 65536 * (j : Int) ∧ 0 ≤ z j ∧ z j ≤ 65536) := Lib.hid (fun j hj => ⟨(sumZ_lo z j (fun i hi => hk.2 i (by omega))).1, (sumZ_lo z j (fun i hi => hk.2 i (by omega))).2, hk.2 j hj⟩)
  have HS0 : Hid (¬ sumZ z n = 0) := Lib.hid (by omega)
  clear hk hs r0 r1 hsl hn0 hn1 h
  have HNW : Hid (∀ w', Below w.heap.size w w' → Nums w' a n z) := Lib.hid (fun w' hb => HNU.out.below hb (Nat.le_refl _))
  go_enter Try.func14, Try.ntmps14
  go_wp2
  go_loopw [5, 6] (fun s i wr => ∃ j : Nat, j ≤ n ∧ i = .int .i64 (j : Int) ∧ s = .int .i64 (sumZ z j) ∧ Hid (wr = w)) (fun _ i _ => n - (intOf i).toNat)
  case atStart => exact ⟨0, Nat.zero_le _, rfl, rfl, Lib.hid rfl⟩
  case round =>
    obtain ⟨j, hj, rfl, rfl, HW⟩ := hrel
    have hw := HW.out.symm
    subst hw
    have hn9 := HN1.out
    by_cases hlt : j < n
    · obtain ⟨g, off, rfl, hg, c0⟩ := HNU.out.at_ hlt
      have k1 : (j : Int) < n := by omega
      have k2 : (0 : Int) ≤ (j : Int) := by omega
      have k3 : (j : Int) ≤ 256 := by omega
      obtain ⟨s0, s1, s2, s3⟩ := HSJ.out j hlt
      have HST : Hid (sumZ z (j + 1) = sumZ z j + z j) := Lib.hid rfl
      have HJK : Hid (j + 1 ≤ n) := Lib.hid (by omega)
      have wr1 : IntKind.i64.wrap (sumZ z j + z j) = sumZ z j + z j := by rw [IntKind.wrap_i64]; omega
      clear hg hlt hj s0 s1 s2 s3
      generalize z j = y at *
      generalize hsj : sumZ z j = s at *
      clear hsj
      go_wp2
      go_roundw
      case rel => exact ⟨j + 1, HJK.out, by go_num, by rw [HST.out], by first | exact Lib.hid trivial | exact HW⟩
      case measure => simp [intOf] <;> (have := HJK.out; omega)
    · obtain rfl : j = n := by omega
      have hs0 := HS0.out
      clear hlt hj HSJ HW
      generalize hsn : sumZ z j = sn at *
      clear hsn
      have hs1 : (sn == 0) = false := by simp [hs0]
      have HSS := Lib.hid hs0
      clear hs0
      have HL0 : Hid (r = shl r j z 0) := Lib.hid (by simp [shl, sumZ])
      go_wp2
      go_loopw [7, 8, 9, 10] (fun o l i _ wr => ∃ (k : Nat) (A : Option Addr) (C : Nat), k ≤ j ∧ i = .int .i64 (k : Int) ∧ l = .int .i64 (shl r j z k) ∧ o = .slice A k C ∧ Hid (OwnI wr w.heap.size (.slice A k C) k (lst k (shq r j z))) ∧ Hid (Below w.heap.size w wr)) (fun _ _ i _ _ => j - (intOf i).toNat)
      case atStart => exact ⟨0, none, 0, Nat.zero_le _, rfl, by rw [← HL0.out], rfl, Lib.hid (OwnI.none _ _), Lib.hid (Below.refl _ _)⟩
      case round =>
        obtain ⟨k, A, C, hk, rfl, rfl, rfl, HO, HB⟩ := hrel
        clear HL0
        obtain ⟨wo, ho⟩ : ∃ wo, wo = wr := ⟨_, rfl⟩
        subst ho
        by_cases hlt : k < j
        · obtain ⟨g, off, rfl, hg, c0⟩ := (HNW.out _ HB.out).at_ hlt
          have k1 : (k : Int) < j := by omega
          have k2 : (0 : Int) ≤ (k : Int) := by omega
          have k3 : (k : Int) ≤ 256 := by omega
          obtain ⟨wr1, td1⟩ := HW1.out k hlt
          obtain ⟨q1, q2⟩ := HQ.out k hlt
          obtain ⟨l1, l2⟩ := HL.out k hk
          have hr1 := HR1.out
          have wr2 : IntKind.i64.wrap (shl r j z k - shq r j z k) = shl r j z k - shq r j z k := by rw [IntKind.wrap_i64]; omega
          have wr3 : IntKind.i64.wrap (shq r j z k) = shq r j z k := by rw [IntKind.wrap_i64]; omega
          have HST : Hid (shl r j z (k + 1) = shl r j z k - shq r j z k) := Lib.hid (by unfold shl; simp only [sumZ]; omega)
          have HJK : Hid (k + 1 ≤ j) := Lib.hid (by omega)
          have HK1 : Hid (k + 1 ≤ 100000) := Lib.hid (by omega)
          have HSN : Hid (lst k (shq r j z) ++ [shq r j z k] = lst (k + 1) (shq r j z)) := Lib.hid (lst_snoc _ _)
          have HSZ : Hid (w.heap.size ≤ wo.heap.size) := Lib.hid HB.out.size
          have HOA : Hid (∀ v, OwnI (wo.alloc (.cells #[.int .i64 v] 3)) w.heap.size (.slice A k C) k (lst k (shq r j z))) := Lib.hid (fun v => HO.out.below ((Below.refl wo.heap.size wo).alloc (Nat.le_refl _) _) (Nat.le_refl _))
          have HSA : Hid (∀ v, w.heap.size ≤ (wo.alloc (.cells #[.int .i64 v] 3)).heap.size) := Lib.hid (fun v => by have := HSZ.out; simp; omega)
          have HBA : Hid (∀ v, Below w.heap.size w (wo.alloc (.cells #[.int .i64 v] 3))) := Lib.hid (fun v => HB.out.alloc HSZ.out _)
          clear hlt hk hg hr1 l1 l2 q1 q2 HO HB
          generalize z k = y at *
          generalize shq r j z k = q at *
          generalize hl0 : shl r j z k = l0 at *
          generalize lst k (shq r j z) = L at *
          clear hl0
          have hs0 := HSS.out
          go_wp2_with (first
            | (at_builtin; (with_reducible refine wpList_append_int rfl (.tmp 39) (.tmp 41) rfl w.heap.size A k C rfl L (HOA.out q) wo.heap.size rfl q (box_cell wo q) HK1.out (HSA.out q) ?_); intro A3 C3 w5 HO5 HB5)
            | fail)
          go_roundw
          case rel => exact ⟨k + 1, A3, C3, HJK.out, by go_num, by rw [HST.out], rfl, Lib.hid (by have := HO5.out; rw [HSN.out] at this; exact this), Lib.hid ((HBA.out q).trans HB5.out)⟩
          case measure => simp [intOf] <;> (have := HJK.out; omega)
        · obtain rfl : k = j := by omega
          obtain ⟨g9, rfl⟩ := own_at0 HO.out HN0.out
          have HLP : Hid (0 ≤ shl r k z k) := Lib.hid (HL.out k (Nat.le_refl _)).1
          have HNN : Hid (shl r k z k = 0 → lst k (shq r k z) = lst k (shp r k z)) := Lib.hid (fun h => lst_congr _ _ _ (fun i _ => (shp_none h i).symm))
          clear hlt hk HW1 HL HSS hs1
          generalize hLL : shl r k z k = L0 at *
          have HLE := Lib.hid hLL
          clear hLL
          go_wp2
          go_loopw [8, 11] (fun l _ wr => ∃ b : Bool, l = .int .i64 (if b = true then 0 else L0) ∧ Hid (OwnI wr w.heap.size (.slice (some ⟨g9, 0, none⟩) k C) k (lst k (if b = true then shp r k z else shq r k z))) ∧ Hid (Below w.heap.size w wr)) (fun l _ _ => (intOf l).toNat)
          case atStart => exact ⟨false, rfl, HO, HB⟩
          case round =>
            obtain ⟨b, rfl, HO2, HB2⟩ := hrel
            obtain ⟨wp, ho⟩ : ∃ wp, wp = wr := ⟨_, rfl⟩
            subst ho
            clear HO HB
            have hdone : (b = true ∨ L0 = 0) ∨ (b = false ∧ 0 < L0) := by
              have := HLP.out
              cases b
              · by_cases e : L0 = 0
                · exact .inl (.inr e)
                · exact .inr ⟨rfl, by omega⟩
              · exact .inl (.inl rfl)
            rcases hdone with hdone | ⟨rfl, hpos⟩
            · have e0 : (if b = true then (0 : Int) else L0) = 0 := by
                rcases hdone with h | h
                · rw [if_pos h]
                · split <;> simp [h]
              have HO3 : Hid (OwnI wp w.heap.size (.slice (some ⟨g9, 0, none⟩) k C) k (lst k (shp r k z))) := Lib.hid (by
                have := HO2.out
                cases b
                · rcases hdone with h | h
                  · cases h
                  · simp only [Bool.false_eq_true, if_false] at this; rw [HNN.out h] at this; exact this
                · simpa using this)
              rw [e0]
              clear hdone HO2 e0
              go_wp2
              go_ret
              exact ⟨g9, C, rfl, HO3, HB2⟩
            · simp only [Bool.false_eq_true, if_false] at HO2 ⊢
              have HX0 : Hid (L0 = sh2 r k z 0) := Lib.hid HZ.out.2.symm
              have HPOS := Lib.hid hpos
              go_wp2
              clear hpos
              go_loopw [8, 11] (fun l i wr => ∃ t : Nat, t ≤ k ∧ i = .int .i64 (t : Int) ∧ l = .int .i64 (sh2 r k z t) ∧ Hid (OwnI wr w.heap.size (.slice (some ⟨g9, 0, none⟩) k C) k (lst k (fun i => if i < t then shp r k z i else shq r k z i))) ∧ Hid (Below w.heap.size w wr)) (fun _ i _ => k - (intOf i).toNat)
              case atStart =>
                refine ⟨0, Nat.zero_le _, rfl, by rw [← HX0.out], Lib.hid ?_, HB2⟩
                rw [lst_congr k _ (shq r k z) (fun i _ => by simp)]; exact HO2.out
              case round =>
                obtain ⟨t, ht, rfl, rfl, HO, HBB⟩ := hrel
                obtain ⟨wk, ho⟩ : ∃ wk, wk = wr := ⟨_, rfl⟩
                subst ho
                clear HO2 HB2
                by_cases hlt : t < k
                · obtain ⟨g, off, rfl, hg, c0⟩ := (HNW.out _ HBB.out).at_ hlt
                  obtain ⟨g2, e2, hlo, _, p0, pf, _, _, _⟩ := HO.out.at_ t hlt
                  simp only [Option.some.injEq, Addr.mk.injEq, and_true] at e2
                  subst e2
                  rw [lst_getD _ _ _ hlt, if_neg (by omega)] at p0
                  have k1 : (t : Int) < k := by omega
                  have k2 : (0 : Int) ≤ (t : Int) := by omega
                  have k3 : (t : Int) ≤ 256 := by omega
                  obtain ⟨q1, q2⟩ := HQ.out t hlt
                  have l1 := sh2_lo r k z t
                  have l2 := HL2.out t
                  have hr1 := HR1.out
                  obtain ⟨s1, s2⟩ := sh2_step r k z t
                  have HJK : Hid (t + 1 ≤ k) := Lib.hid (by omega)
                  have HOS : Hid (∀ v, v = shp r k z t → OwnI (wk.setCell ⟨g9, t, none⟩ (.int .i64 v)) w.heap.size (.slice (some ⟨g9, 0, none⟩) k C) k (lst k (fun i => if i < t + 1 then shp r k z i else shq r k z i))) := Lib.hid (fun v hv => by
                    have := HO.out.set t v
                    rw [← lst_set k (fun i => if i < t then shp r k z i else shq r k z i) (fun i => if i < t + 1 then shp r k z i else shq r k z i) t (fun i _ hne => by
                      by_cases h : i < t
                      · rw [if_pos h, if_pos (by omega)]
                      · rw [if_neg h, if_neg (by omega)])]
                    rw [if_pos (by omega), ← hv]
                    exact this)
                  have HON : Hid (shp r k z t = shq r k z t → OwnI wk w.heap.size (.slice (some ⟨g9, 0, none⟩) k C) k (lst k (fun i => if i < t + 1 then shp r k z i else shq r k z i))) := Lib.hid (fun hv => by
                    rw [lst_congr k _ (fun i => if i < t then shp r k z i else shq r k z i) (fun i _ => by
                      by_cases h : i < t
                      · rw [if_pos h, if_pos (by omega)]
                      · by_cases e : i = t
                        · subst e; rw [if_pos (by omega), if_neg (by omega)]; exact hv
                        · rw [if_neg h, if_neg (by omega)])]
                    exact HO.out)
                  have HBS : Hid (∀ v, Below w.heap.size w (wk.setCell ⟨g9, t, none⟩ v)) := Lib.hid (fun v => HBB.out.setCell (p := ⟨g9, t, none⟩) hlo v)
                  by_cases h2 : 0 < z t
                  · by_cases h1 : 0 < sh2 r k z t
                    · obtain ⟨t1, t2⟩ := s1 ⟨h1, h2⟩
                      have HT1 := Lib.hid t1
                      have HO2 := Lib.hid (HOS.out (shq r k z t + 1) t2.symm)
                      have HB2 := Lib.hid (HBS.out (.int .i64 (shq r k z t + 1)))
                      have wr1 : IntKind.i64.wrap (shq r k z t + 1) = shq r k z t + 1 := by rw [IntKind.wrap_i64]; omega
                      have wr2 : IntKind.i64.wrap (sh2 r k z t - 1) = sh2 r k z t - 1 := by rw [IntKind.wrap_i64]; omega
                      clear s1 s2 t1 t2 hlt ht hg hr1 l2 q1 q2 HOS HON HBS HO HBB hlo
                      generalize z t = y at *
                      generalize shq r k z t = q at *
                      generalize hl0 : sh2 r k z t = l0 at *
                      clear hl0
                      go_wp2
                      go_roundw
                      case rel => exact ⟨t + 1, HJK.out, by go_num, by rw [HT1.out], HO2, HB2⟩
                      case measure => simp [intOf] <;> (have := HJK.out; omega)
                    · obtain ⟨t1, t2⟩ := s2 (fun h => h1 h.1)
                      have HT1 := Lib.hid t1
                      have HO2 := Lib.hid (HON.out t2)
                      clear s1 s2 t1 t2 hlt ht hg hr1 l2 q1 q2 HOS HON HBS HO hlo
                      generalize z t = y at *
                      generalize shq r k z t = q at *
                      generalize hl0 : sh2 r k z t = l0 at *
                      clear hl0
                      go_wp2
                      go_roundw
                      case rel => exact ⟨t + 1, HJK.out, by go_num, by rw [HT1.out], HO2, HBB⟩
                      case measure => simp [intOf] <;> (have := HJK.out; omega)
                  · obtain ⟨t1, t2⟩ := s2 (fun h => h2 h.2)
                    have HT1 := Lib.hid t1
                    have HO2 := Lib.hid (HON.out t2)
                    clear s1 s2 t1 t2 hlt ht hg hr1 l2 q1 q2 HOS HON HBS HO hlo
                    generalize z t = y at *
                    generalize shq r k z t = q at *
                    generalize hl0 : sh2 r k z t = l0 at *
                    clear hl0
                    go_wp2
                    go_roundw
                    case rel => exact ⟨t + 1, HJK.out, by go_num, by rw [HT1.out], HO2, HBB⟩
                    case measure => simp [intOf] <;> (have := HJK.out; omega)
                · obtain rfl : t = k := by omega
                  have HO9 : Hid (OwnI wk w.heap.size (.slice (some ⟨g9, 0, none⟩) t C) t (lst t (shp r t z))) := Lib.hid (by
                    rw [lst_congr t (shp r t z) (fun i => if i < t then shp r t z i else shq r t z i) (fun i hi => by rw [if_pos hi])]
                    exact HO.out)
                  have hz0 := HZ.out.1
                  rw [hz0]
                  clear HO hlt ht
                  go_wp2
                  go_roundw
                  case rel => exact ⟨true, rfl, by simpa using HO9, HBB⟩
                  case measure => simp [intOf] <;> (have := HPOS.out; omega)
end Go.Proofs.Ytbbdkkjbcpkplaa
