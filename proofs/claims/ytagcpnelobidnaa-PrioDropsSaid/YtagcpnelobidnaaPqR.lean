/-
  Own text: the document's Push, walked.
-/
import Derived.Test.YtagcpnelobidnaaPqQ
namespace Go.Proofs.Ytagcpnelobidnaa
open Go.RowKit

/-- What the document's Push answers. -/
def dpush (room : Nat) (r v : Int) (l : List DI) : List DI := if l.length + 1 ≤ room then dins r v l else (dins r v l).take l.length
def dgone (room : Nat) (r v : Int) (l : List DI) : Int := if l.length + 1 ≤ room then 0 else ((dins r v l).getD l.length (0, 0)).2
def RPush (w : World) (room : Nat) (l : List DI) (g : Int) (f : Bool) (e : Ending) (w' : World) : Prop :=
  ∃ A C, e = .returned (.tuple #[DV room A l.length C, .int .i64 g, .bool f]) ∧ Hid (DL w' w.heap.size A l.length C l) ∧ Hid (Below w.heap.size w w')
/-- The boxes, in all worlds to come. -/
theorem dboxes {w : World} {B room n C : Nat} {A : Option Addr} {l : List DI} (h : DL w B A n C l) (W : World) (hW : W = (w.alloc (.cells #[.int .i64 (room : Int), .slice A n C] 27)).alloc (.cells #[.int .i64 0, .slice none 0 0] 27)) :
    W.heap.size = w.heap.size + 2 ∧ Below w.heap.size w W ∧ ∀ w', Below W.heap.size W w' → DBx w' w.heap.size room (.slice A n C) ∧ DBx w' (w.heap.size + 1) 0 (.slice none 0 0) ∧ DL w' B A n C l := by
  have hs : W.heap.size = w.heap.size + 2 := by rw [hW]; simp
  have hb : Below w.heap.size w W := by rw [hW]; exact ((Below.refl w.heap.size w).alloc (Nat.le_refl _) _).alloc (by simp) _
  have h1 : DBx W w.heap.size room (.slice A n C) := by rw [hW]; exact (DBx.new w room _).keep (Below.heap_alloc _ _ _ (by simp))
  have h2 : DBx W (w.heap.size + 1) 0 (.slice none 0 0) := by
    rw [hW]
    have := DBx.new (w.alloc (.cells #[.int .i64 (room : Int), .slice A n C] 27)) 0 (.slice none 0 0)
    simpa using this
  exact ⟨hs, hb, fun w' h' => ⟨h1.below h' (by omega), h2.below h' (by omega), (h.below hb (Nat.le_refl _)).below h' (Nat.le_refl _)⟩⟩
set_option maxRecDepth 100000 in
theorem rpush_any (room : Nat) (r v : Int) (B : Nat) (A : Option Addr) (n C : Nat) (l : List DI) (hn : n ≤ 1000) (hroom : room ≤ 1000) (w : World) (h : DL w B A n C l) :
    Calls Try.prog 26 #[DV room A n C, .int .i64 r, .int .i64 v] w (RPush w room (dpush room r v l) (dgone room r v l) (decide (room ≤ l.length))) := by
  obtain ⟨W, hW⟩ : ∃ W, W = (w.alloc (.cells #[.int .i64 (room : Int), .slice A n C] 27)).alloc (.cells #[.int .i64 0, .slice none 0 0] 27) := ⟨_, rfl⟩
  obtain ⟨hs, hb, hall⟩ := dboxes (room := room) h W hW
  obtain ⟨p, hp⟩ : ∃ p, p = dpos r l := ⟨_, rfl⟩
  have hpn : p ≤ n := by rw [hp, ← h.len]; exact dpos_le r l
  have HL := Lib.hid h.len
  have HP := Lib.hid hp
  have HW := Lib.hid hW
  have HS := Lib.hid hs
  have HB := Lib.hid hb
  have HALL := Lib.hid hall
  obtain ⟨D, hD⟩ : ∃ D, D = dins r v l := ⟨_, rfl⟩
  have HD := Lib.hid hD
  have HDL : Hid (D.length = n + 1) := Lib.hid (by rw [hD, dins_length, h.len])
  have HLEN : Hid (dpush room r v l = if n + 1 ≤ room then D else D.take n) := Lib.hid (by unfold dpush; rw [h.len, hD])
  have HGONE : Hid (dgone room r v l = if n + 1 ≤ room then 0 else (D.getD n (0, 0)).2) := Lib.hid (by unfold dgone; rw [h.len, hD])
  have hfar : ∀ (WW W9 : World), WW.heap.size ≥ W.heap.size → (∀ k, k ≠ w.heap.size → k ≠ w.heap.size + 1 → W9.heap[k]? = WW.heap[k]?) → ∀ (A C m L), DL WW W.heap.size A m C L → DL W9 w.heap.size A m C L := fun WW W9 _ hk A C m L hd => (hd.keep (fun g _ _ hg _ => hk g (by omega) (by omega))).low (by omega)
  have HYES : Hid (∀ (WW : World) (A C), OwnD WW W.heap.size (.slice A (n + 1) C) (n + 1) D → Below W.heap.size W WW → n + 1 ≤ room → RPush w room (dpush room r v l) (dgone room r v l) (decide (room ≤ l.length)) (.returned (.tuple #[.agg #[.int .i64 (room : Int), .slice A (n + 1) C], .int .i64 0, .bool false]))
      (((WW.setCell ⟨w.heap.size, 1, none⟩ (.slice A (n + 1) C)).setCell ⟨w.heap.size + 1, 0, none⟩ (.int .i64 (room : Int))).setCell ⟨w.heap.size + 1, 1, none⟩ (.slice A (n + 1) C))) := Lib.hid (fun WW A C ho hb9 hr => by
    rw [HLEN.out, HGONE.out, if_pos hr, if_pos hr, HL.out, decide_eq_false (by omega)]
    refine ⟨A, C, by rw [hD, dins_length, h.len]; rfl, Lib.hid ?_, Lib.hid ?_⟩
    · rw [HDL.out]
      refine hfar WW _ hb9.size (fun k h1 h2 => ?_) A C (n + 1) D ho.dl
      rw [Below.heap_setCell _ ⟨w.heap.size + 1, 1, none⟩ _ k h2, Below.heap_setCell _ ⟨w.heap.size + 1, 0, none⟩ _ k h2, Below.heap_setCell _ ⟨w.heap.size, 1, none⟩ _ k h1]
    · exact (((hb.trans (hb9.mono (by omega))).setCell (p := ⟨w.heap.size, 1, none⟩) (Nat.le_refl _) _).setCell (p := ⟨w.heap.size + 1, 0, none⟩) (Nat.le_succ _) _).setCell (p := ⟨w.heap.size + 1, 1, none⟩) (Nat.le_succ _) _)
  have HNO : Hid (∀ (WW : World) (A C) (z : DI), OwnD WW W.heap.size (.slice A (n + 1) C) (n + 1) D → Below W.heap.size W WW → ¬ n + 1 ≤ room → D[n]? = some z → RPush w room (dpush room r v l) (dgone room r v l) (decide (room ≤ l.length)) (.returned (.tuple #[.agg #[.int .i64 (room : Int), .slice A n C], .int .i64 z.2, .bool true]))
      (((WW.setCell ⟨w.heap.size, 1, none⟩ (.slice A n C)).setCell ⟨w.heap.size + 1, 0, none⟩ (.int .i64 (room : Int))).setCell ⟨w.heap.size + 1, 1, none⟩ (.slice A n C)).drew) := Lib.hid (fun WW A C z ho hb9 hr hz => by
    have e1 : (D.getD n (0, 0)).2 = z.2 := by rw [List.getD_eq_getElem?_getD, hz]; rfl
    have e2 : (D.take n).length = n := by rw [List.length_take, HDL.out]; omega
    rw [HLEN.out, HGONE.out, if_neg hr, if_neg hr, HL.out, decide_eq_true (by omega), e1]
    refine ⟨A, C, by rw [e2]; rfl, Lib.hid ?_, Lib.hid ?_⟩
    · rw [e2]
      refine hfar WW _ hb9.size (fun k h1 h2 => ?_) A C n (D.take n) (ho.dl.front (Nat.le_succ n))
      show ((((WW.setCell ⟨w.heap.size, 1, none⟩ (.slice A n C)).setCell ⟨w.heap.size + 1, 0, none⟩ (.int .i64 (room : Int))).setCell ⟨w.heap.size + 1, 1, none⟩ (.slice A n C))).heap[k]? = _
      rw [Below.heap_setCell _ ⟨w.heap.size + 1, 1, none⟩ _ k h2, Below.heap_setCell _ ⟨w.heap.size + 1, 0, none⟩ _ k h2, Below.heap_setCell _ ⟨w.heap.size, 1, none⟩ _ k h1]
    · exact ((((hb.trans (hb9.mono (by omega))).setCell (p := ⟨w.heap.size, 1, none⟩) (Nat.le_refl _) _).setCell (p := ⟨w.heap.size + 1, 0, none⟩) (Nat.le_succ _) _).setCell (p := ⟨w.heap.size + 1, 1, none⟩) (Nat.le_succ _) _).drew)
  have HN := Lib.hid hn
  have n1 : (n : Int) ≤ 1000 := by omega
  have n2 : (room : Int) ≤ 1000 := by omega
  unfold DV
  clear hW hs hb hall hp hD h
  go_enter Try.func26, Try.ntmps26
  go_upto_region 1 with fail
  rw [← HW.out]
  go_wp2
  go_loopw [9, 10, 11] (fun o inn i wr => ∃ (k m : Nat) (A2 : Option Addr) (C2 : Nat), k ≤ n ∧ i = .int .i64 (k : Int) ∧ inn = .bool (decide (p < k)) ∧ o = .slice A2 m C2 ∧ Hid (m = if p < k then k + 1 else k) ∧ Hid (OwnD wr W.heap.size (.slice A2 m C2) m (D.take m)) ∧ Hid (Below W.heap.size W wr)) (fun _ _ i _ => n - (intOf i).toNat)
  case atStart => exact ⟨0, 0, none, 0, Nat.zero_le _, rfl, by simp, rfl, Lib.hid (by simp), Lib.hid (OwnD.none _ _), Lib.hid (Below.refl _ _)⟩
  case round =>
    obtain ⟨k, m, A2, C2, hk, rfl, rfl, rfl, HM, HO, HBR⟩ := hrel
    obtain ⟨wo, hwo⟩ : ∃ wo, wo = wr := ⟨_, rfl⟩
    subst hwo
    obtain ⟨hx, _, hdl⟩ := HALL.out wo HBR.out
    obtain ⟨d0, d1⟩ := hx.cells
    have HXA : Hid (∀ w', Below wo.heap.size wo w' → DBx w' w.heap.size room (.slice A n C) ∧ DL w' B A n C l) := Lib.hid (fun w' h => by
      obtain ⟨a1, _, a3⟩ := HALL.out w' (HBR.out.trans (h.mono HBR.out.size))
      exact ⟨a1, a3⟩)
    have HSZ := Lib.hid HBR.out.size
    by_cases hlt : k < n
    · obtain ⟨y, hy⟩ : ∃ y, l[k]? = some y := ⟨_, List.getElem?_eq_getElem (by rw [HL.out]; exact hlt)⟩
      obtain ⟨g, off, rfl, hgl, c0, c1⟩ := hdl.at_ k y hy
      have k1 : (k : Int) < (n : Int) := by omega
      have HLT := Lib.hid hlt
      have HB1 : Hid (m + 1 ≤ 100000) := Lib.hid (by have := HM.out; split at this <;> omega)
      rcases Nat.lt_trichotomy k p with hkp | hkp | hkp
      · -- not yet
        have e1 : decide (p < k) = false := decide_eq_false (by omega)
        have e2 : ¬ r < y.1 := by have := dpos_take r l k y (by rw [← HP.out]; exact hkp) hy; omega
        have HMK : Hid (m = k) := Lib.hid (by have := HM.out; rw [if_neg (by omega)] at this; exact this)
        have HT : Hid (D.take m ++ [y] = D.take (m + 1)) := Lib.hid (take_more _ _ _ (by rw [HD.out, HMK.out, dins_lo r v l k (by rw [← HP.out]; exact hkp), hy]))
        have HM2 : Hid (m + 1 = if p < k + 1 then k + 1 + 1 else k + 1) := Lib.hid (by rw [if_neg (by omega), HMK.out])
        have HE : Hid (decide (p < k + 1) = false) := Lib.hid (decide_eq_false (by omega))
        rw [e1]
        clear hy hgl hdl hx hkp e1
        obtain ⟨y0, y1⟩ := y
        dsimp only at c0 c1 e2
        go_wp2_with (first
          | (at_builtin; (with_reducible refine wpList_append_ditem rfl (.tmp 38) (.tmp 44) rfl W.heap.size A2 m C2 rfl (D.take m) (HO.out.below ((Below.refl _ _).alloc (Nat.le_refl _) _) (Nat.le_refl _)) wo.heap.size rfl (y0, y1) (ditem_new wo y0 y1) HB1.out (Nat.le_trans HSZ.out (by simp)) ?_); intro A3 C3 w5 HO5 HB5)
          | fail)
        go_roundw
        case rel => exact ⟨k + 1, m + 1, A3, C3, HLT.out, by go_num, by rw [HE.out], rfl, HM2, Lib.hid (by rw [← HT.out]; exact HO5.out), Lib.hid ((HBR.out.alloc HSZ.out _).trans HB5.out)⟩
        case measure => simp [intOf] <;> (have := HLT.out; omega)
      · -- just here
        have e1 : decide (p < k) = false := decide_eq_false (by omega)
        have hy2 : l[dpos r l]? = some y := by rw [← HP.out, ← hkp]; exact hy
        have e2 : r < y.1 := dpos_next r l y hy2
        have HMK : Hid (m = k) := Lib.hid (by have := HM.out; rw [if_neg (by omega)] at this; exact this)
        have HT1 : Hid (D.take m ++ [(r, v)] = D.take (m + 1)) := Lib.hid (take_more _ _ _ (by rw [HD.out, HMK.out, hkp, HP.out]; exact dins_at r v l))
        have HT : Hid (D.take (m + 1) ++ [y] = D.take (m + 1 + 1)) := Lib.hid (take_more _ _ _ (by rw [HD.out, HMK.out, hkp, HP.out, dins_hi r v l _ (Nat.le_refl _)]; exact hy2))
        have HM2 : Hid (m + 1 + 1 = if p < k + 1 then k + 1 + 1 else k + 1) := Lib.hid (by rw [if_pos (by omega), HMK.out])
        have HE : Hid (decide (p < k + 1) = true) := Lib.hid (decide_eq_true (by omega))
        have HB2 : Hid (m + 1 + 1 ≤ 100000) := Lib.hid (by have := HMK.out; have := HN.out; omega)
        have HGC : Hid (∀ w', Below W.heap.size W w' → w'.cell? ⟨g, off + k * 2, none⟩ = some (.int .i64 y.1) ∧ w'.cell? ⟨g, off + k * 2 + 1, none⟩ = some (.int .i64 y.2)) := Lib.hid (fun w' h => by
          obtain ⟨g', off', e, _, a0, a1⟩ := (HALL.out w' h).2.2.at_ k y hy
          cases e
          exact ⟨a0, a1⟩)
        rw [e1]
        clear hy hgl hdl hx hkp e1 hy2
        obtain ⟨y0, y1⟩ := y
        dsimp only at c0 c1 e2 HGC
        go_wp2_with (first
          | (at_builtin; (with_reducible refine wpList_append_ditem rfl (.tmp 32) (.tmp 36) rfl W.heap.size A2 m C2 rfl (D.take m) (HO.out.below ((Below.refl _ _).alloc (Nat.le_refl _) _) (Nat.le_refl _)) wo.heap.size rfl (r, v) (ditem_new wo r v) HB1.out (Nat.le_trans HSZ.out (by simp)) ?_); intro A3 C3 w5 HO5 HB5; have HB6 := Lib.hid ((HBR.out.alloc HSZ.out _).trans HB5.out); obtain ⟨f0, f1⟩ := (HALL.out w5 HB6.out).1.cells; obtain ⟨g0, g1⟩ := HGC.out w5 HB6.out)
          | (at_builtin; (with_reducible refine wpList_append_ditem rfl (.tmp 38) (.tmp 44) rfl W.heap.size A3 (m + 1) C3 rfl (D.take m ++ [(r, v)]) (HO5.out.below ((Below.refl _ _).alloc (Nat.le_refl _) _) (Nat.le_refl _)) w5.heap.size rfl (y0, y1) (ditem_new w5 y0 y1) HB2.out (Nat.le_trans HB6.out.size (by simp)) ?_); intro A4 C4 w6 HO6 HB7)
          | fail)
        go_roundw
        case rel => exact ⟨k + 1, m + 1 + 1, A4, C4, HLT.out, by go_num, by rw [HE.out], rfl, HM2, Lib.hid (by rw [← HT.out, ← HT1.out]; exact HO6.out), Lib.hid ((HB6.out.alloc HB6.out.size _).trans HB7.out)⟩
        case measure => simp [intOf] <;> (have := HLT.out; omega)
      · -- behind it
        have e1 : decide (p < k) = true := decide_eq_true hkp
        have HMK : Hid (m = k + 1) := Lib.hid (by have := HM.out; rw [if_pos hkp] at this; exact this)
        have HT : Hid (D.take m ++ [y] = D.take (m + 1)) := Lib.hid (take_more _ _ _ (by rw [HD.out, HMK.out, dins_hi r v l k (by rw [← HP.out]; omega), hy]))
        have HM2 : Hid (m + 1 = if p < k + 1 then k + 1 + 1 else k + 1) := Lib.hid (by rw [if_pos (by omega), HMK.out])
        have HE : Hid (decide (p < k + 1) = true) := Lib.hid (decide_eq_true (by omega))
        rw [e1]
        clear hy hgl hdl hx hkp e1
        obtain ⟨y0, y1⟩ := y
        dsimp only at c0 c1
        go_wp2_with (first
          | (at_builtin; (with_reducible refine wpList_append_ditem rfl (.tmp 38) (.tmp 44) rfl W.heap.size A2 m C2 rfl (D.take m) (HO.out.below ((Below.refl _ _).alloc (Nat.le_refl _) _) (Nat.le_refl _)) wo.heap.size rfl (y0, y1) (ditem_new wo y0 y1) HB1.out (Nat.le_trans HSZ.out (by simp)) ?_); intro A3 C3 w5 HO5 HB5)
          | fail)
        go_roundw
        case rel => exact ⟨k + 1, m + 1, A3, C3, HLT.out, by go_num, by rw [HE.out], rfl, HM2, Lib.hid (by rw [← HT.out]; exact HO5.out), Lib.hid ((HBR.out.alloc HSZ.out _).trans HB5.out)⟩
        case measure => simp [intOf] <;> (have := HLT.out; omega)
    · obtain rfl : k = n := by omega
      have HEND : Hid (D.take (k + 1) = D) := Lib.hid (List.take_of_length_le (by rw [HDL.out]; exact Nat.le_refl _))
      have HBND := Lib.hid hn
      by_cases hpk : p < k
      · have e1 : decide (p < k) = true := decide_eq_true hpk
        have HMK : Hid (m = k + 1) := Lib.hid (by have := HM.out; rw [if_pos hpk] at this; exact this)
        rw [e1]
        obtain rfl := HMK.out
        have HO9 : Hid (OwnD wo W.heap.size (.slice A2 (k + 1) C2) (k + 1) D) := Lib.hid (by have := HO.out; rwa [HEND.out] at this)
        have HB9 := HBR
        have n3 : ¬ (k : Int) < (k : Int) := by omega
        clear hdl hx hpk e1 hk
        go_upto_region 12 with fail
        obtain ⟨hx9, hz9, _⟩ := HALL.out wo HB9.out
        obtain ⟨f0, f1⟩ := hx9.cells
        obtain ⟨z0, z1⟩ := hz9.cells
        have ff1 := hx9.frozen 1
        have zf0 := hz9.frozen 0
        have zf1 := hz9.frozen 1
        by_cases hr : k + 1 ≤ room
        · have hr1 : (k : Int) + 1 ≤ (room : Int) := by omega
          have HR := Lib.hid hr
          clear hx9 hz9 hr
          go_wp2
          refine bodyPost_ret (v := .tuple #[.agg #[.int .i64 (room : Int), .slice A2 (k + 1) C2], .int .i64 0, .bool false]) (by simp [results, Try.results26, go_sem, z0, z1]) rfl ?_
          exact HYES.out wo A2 C2 HO9.out HB9.out HR.out
        · have hr1 : ¬ (k : Int) + 1 ≤ (room : Int) := by omega
          obtain ⟨z, hz⟩ : ∃ z, D[k]? = some z := ⟨_, List.getElem?_eq_getElem (by rw [HDL.out]; omega)⟩
          obtain ⟨g, off, rfl, hgl, c0, c1⟩ := HO9.out.dl.at_ k z hz
          have HZ := Lib.hid hz
          have HR := Lib.hid hr
          have hcap : (k : Int) ≤ (C2 : Int) := by have := HO9.out.dl.cap.1; omega
          have hnb : (k : Int) ≤ 1000 := by have := HBND.out; omega
          clear hx9 hz9 hr hz
          obtain ⟨zr, zv⟩ := z
          dsimp only at c0 c1 HZ
          go_upto_region 16 with fail
          obtain ⟨W6, hW6⟩ : ∃ W6, W6 = wo.alloc (.cells #[.int .i64 zr, .int .i64 zv] 49) := ⟨_, rfl⟩
          rw [← hW6]
          have hb6 : Below wo.heap.size wo W6 := by rw [hW6]; exact (Below.refl _ _).alloc (Nat.le_refl _) _
          have hB6 : Below W.heap.size W W6 := HB9.out.trans (hb6.mono HB9.out.size)
          obtain ⟨hx6, hz6, _⟩ := HALL.out W6 hB6
          obtain ⟨q0, q1⟩ := hx6.cells
          obtain ⟨u0, u1⟩ := hz6.cells
          have qf1 := hx6.frozen 1
          have uf0 := hz6.frozen 0
          have uf1 := hz6.frozen 1
          have b1 : W6.cell? ⟨wo.heap.size, 1, none⟩ = some (.int .i64 zv) := by rw [hW6]; exact (ditem_new wo zr zv).2
          have HBB6 := Lib.hid hB6
          have HO6 := Lib.hid (HO9.out.below hb6 (Nat.le_refl _))
          have ne1 : ¬ wo.heap.size = w.heap.size := by have := HB9.out.size; have := HS.out; omega
          have ne2 : ¬ wo.heap.size = w.heap.size + 1 := by have := HB9.out.size; have := HS.out; omega
          clear hW6 hb6 hB6 hx6 hz6 f0 f1 z0 z1 ff1 zf0 zf1 c0 c1
          go_upto_region 17 with fail
          go_region
          go_wp2
          refine bodyPost_ret (v := .tuple #[.agg #[.int .i64 (room : Int), .slice (some ⟨g, off, none⟩) k C2], .int .i64 zv, .bool true]) (by simp [results, Try.results26, go_sem, u0, u1]) rfl ?_
          exact HNO.out W6 (some ⟨g, off, none⟩) C2 (zr, zv) HO6.out HBB6.out HR.out HZ.out
      · have e1 : decide (p < k) = false := decide_eq_false hpk
        have HMK : Hid (m = k) := Lib.hid (by have := HM.out; rw [if_neg hpk] at this; exact this)
        rw [e1]
        obtain rfl := HMK.out
        have HT : Hid (D.take m ++ [(r, v)] = D) := Lib.hid (by
          rw [← HEND.out]
          rw [List.take_take, Nat.min_eq_left (by omega)]
          exact take_more _ _ _ (by rw [HD.out]; have := dins_at r v l; rwa [← HP.out, show p = m by omega] at this))
        have HB1 : Hid (m + 1 ≤ 100000) := Lib.hid (by have := HBND.out; omega)
        have n3 : ¬ (m : Int) < (m : Int) := by omega
        clear hdl hx hpk e1 hk
        go_upto_region 12 with (first
          | (at_builtin; (with_reducible refine wpList_append_ditem rfl (.tmp 48) (.tmp 52) rfl W.heap.size A2 m C2 rfl (D.take m) (HO.out.below ((Below.refl _ _).alloc (Nat.le_refl _) _) (Nat.le_refl _)) wo.heap.size rfl (r, v) (ditem_new wo r v) HB1.out (Nat.le_trans HSZ.out (by simp)) ?_); intro A3 C3 w5 HO5 HB5)
          | fail)
        have HO9 : Hid (OwnD w5 W.heap.size (.slice A3 (m + 1) C3) (m + 1) D) := Lib.hid (by have := HO5.out; rwa [HT.out] at this)
        have HB9 : Hid (Below W.heap.size W w5) := Lib.hid ((HBR.out.alloc HSZ.out _).trans HB5.out)
        clear d0 d1
        obtain ⟨hx9, hz9, _⟩ := HALL.out w5 HB9.out
        obtain ⟨f0, f1⟩ := hx9.cells
        obtain ⟨z0, z1⟩ := hz9.cells
        have ff1 := hx9.frozen 1
        have zf0 := hz9.frozen 0
        have zf1 := hz9.frozen 1
        by_cases hr : m + 1 ≤ room
        · have hr1 : (m : Int) + 1 ≤ (room : Int) := by omega
          have HR := Lib.hid hr
          clear hx9 hz9 hr
          go_wp2
          refine bodyPost_ret (v := .tuple #[.agg #[.int .i64 (room : Int), .slice A3 (m + 1) C3], .int .i64 0, .bool false]) (by simp [results, Try.results26, go_sem, z0, z1]) rfl ?_
          exact HYES.out w5 A3 C3 HO9.out HB9.out HR.out
        · have hr1 : ¬ (m : Int) + 1 ≤ (room : Int) := by omega
          obtain ⟨z, hz⟩ : ∃ z, D[m]? = some z := ⟨_, List.getElem?_eq_getElem (by rw [HDL.out]; omega)⟩
          obtain ⟨g, off, rfl, hgl, c0, c1⟩ := HO9.out.dl.at_ m z hz
          have HZ := Lib.hid hz
          have HR := Lib.hid hr
          have hcap : (m : Int) ≤ (C3 : Int) := by have := HO9.out.dl.cap.1; omega
          have hnb : (m : Int) ≤ 1000 := by have := HBND.out; omega
          clear hx9 hz9 hr hz
          obtain ⟨zr, zv⟩ := z
          dsimp only at c0 c1 HZ
          go_upto_region 16 with fail
          obtain ⟨W6, hW6⟩ : ∃ W6, W6 = w5.alloc (.cells #[.int .i64 zr, .int .i64 zv] 49) := ⟨_, rfl⟩
          rw [← hW6]
          have hb6 : Below w5.heap.size w5 W6 := by rw [hW6]; exact (Below.refl _ _).alloc (Nat.le_refl _) _
          have hB6 : Below W.heap.size W W6 := HB9.out.trans (hb6.mono HB9.out.size)
          obtain ⟨hx6, hz6, _⟩ := HALL.out W6 hB6
          obtain ⟨q0, q1⟩ := hx6.cells
          obtain ⟨u0, u1⟩ := hz6.cells
          have qf1 := hx6.frozen 1
          have uf0 := hz6.frozen 0
          have uf1 := hz6.frozen 1
          have b1 : W6.cell? ⟨w5.heap.size, 1, none⟩ = some (.int .i64 zv) := by rw [hW6]; exact (ditem_new w5 zr zv).2
          have HBB6 := Lib.hid hB6
          have HO6 := Lib.hid (HO9.out.below hb6 (Nat.le_refl _))
          have ne1 : ¬ w5.heap.size = w.heap.size := by have := HB9.out.size; have := HS.out; omega
          have ne2 : ¬ w5.heap.size = w.heap.size + 1 := by have := HB9.out.size; have := HS.out; omega
          clear hW6 hb6 hB6 hx6 hz6 f0 f1 z0 z1 ff1 zf0 zf1 c0 c1
          go_upto_region 17 with fail
          go_region
          go_wp2
          refine bodyPost_ret (v := .tuple #[.agg #[.int .i64 (room : Int), .slice (some ⟨g, off, none⟩) m C3], .int .i64 zv, .bool true]) (by simp [results, Try.results26, go_sem, u0, u1]) rfl ?_
          exact HNO.out W6 (some ⟨g, off, none⟩) C3 (zr, zv) HO6.out HBB6.out HR.out HZ.out
end Go.Proofs.Ytagcpnelobidnaa
