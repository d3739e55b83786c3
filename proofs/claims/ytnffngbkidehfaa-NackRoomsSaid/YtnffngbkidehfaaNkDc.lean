/-
  Own text: the document's Stop, Below, walked.
-/
import Derived.Test.YtnffngbkidehfaaNkDb
namespace Go.Proofs.Ytnffngbkidehfaa.Nk
open Go.RowKit

/-- Those of which a question doesn't hold, as the document keeps them. -/
def dfil (p : Int → Bool) (l : List DI) : List DI := l.filter (fun y => !p y.no)
theorem dfil_step (p : Int → Bool) (l : List DI) (i : Nat) (y : DI) (h : l[i]? = some y) : dfil p (l.take (i + 1)) = if p y.no = true then dfil p (l.take i) else dfil p (l.take i) ++ [y] := by
  unfold dfil
  rw [List.take_add_one, h, List.filter_append]
  cases hk : p y.no <;> simp [hk]
def RFil (w : World) (room asked full : Int) (L : List DI) (e : Ending) (w' : World) : Prop :=
  ∃ A C, e = .returned (.agg #[.int .i64 room, .int .i64 asked, .int .i64 full, .slice A L.length C]) ∧ Hid (DL w' w.heap.size A L.length C L) ∧ Hid (Below w.heap.size w w')
def RFilN (w : World) (room asked full : Int) (n : Nat) (L : List DI) (e : Ending) (w' : World) : Prop :=
  ∃ A C, e = .returned (.tuple #[.agg #[.int .i64 room, .int .i64 asked, .int .i64 full, .slice A L.length C], .int .i64 ((n : Int) - (L.length : Int))]) ∧ Hid (DL w' w.heap.size A L.length C L) ∧ Hid (Below w.heap.size w w')
set_option maxRecDepth 100000 in
theorem rstop_any (room asked full : Int) (k : Int) (B : Nat) (A : Option Addr) (n C : Nat) (l : List DI) (hn : n ≤ 1000) (w : World) (h : DL w B A n C l) :
    Calls Try.prog 55 #[.agg #[.int .i64 room, .int .i64 asked, .int .i64 full, .slice A n C], .int .u32 k] w (RFil w room asked full (dfil (fun z => decide (z = k)) l)) := by
  obtain ⟨W, hW⟩ : ∃ W, W = (w.alloc (.cells #[.int .i64 room, .int .i64 asked, .int .i64 full, .slice A n C] 62)).alloc (.cells #[.int .i64 0, .int .i64 0, .int .i64 0, .slice none 0 0] 62) := ⟨_, rfl⟩
  obtain ⟨hs, hb, hall⟩ := dboxes (room := room) (asked := asked) (full := full) h W hW
  have HL := Lib.hid h.len
  have HW := Lib.hid hW
  have HS := Lib.hid hs
  have HALL := Lib.hid hall
  have HN := Lib.hid hn
  have n1 : (n : Int) ≤ 1000 := by omega
  obtain ⟨pz, hpz⟩ : ∃ pz : Int → Bool, pz = (fun z => decide (z = k)) := ⟨_, rfl⟩
  have HPZ : Hid (∀ z, pz z = decide (z = k)) := Lib.hid (fun z => by rw [hpz])
  rw [← hpz]
  clear hpz
  have HYES : Hid (∀ (WW : World) (A : Option Addr) (C m : Nat), OwnD WW W.heap.size (.slice A m C) m (dfil pz l) → Below W.heap.size W WW → RFil w room asked full (dfil pz l) (.returned (.agg #[.int .i64 room, .int .i64 asked, .int .i64 full, .slice A m C]))
      (((((WW.setCell ⟨w.heap.size, 3, none⟩ (.slice A m C)).setCell ⟨w.heap.size + 1, 0, none⟩ (.int .i64 room)).setCell ⟨w.heap.size + 1, 1, none⟩ (.int .i64 asked)).setCell ⟨w.heap.size + 1, 2, none⟩ (.int .i64 full)).setCell ⟨w.heap.size + 1, 3, none⟩ (.slice A m C))) := Lib.hid (fun WW A C m ho hb9 => by
    have e : (dfil pz l).length = m := ho.length
    refine ⟨A, C, by rw [e], Lib.hid ?_, Lib.hid ?_⟩
    · rw [e]
      refine (ho.dl.keep (fun g _ _ hg _ => ?_)).low (by omega)
      rw [four_far _ _ _ _ _ _ g (by omega), Below.heap_setCell _ ⟨w.heap.size, 3, none⟩ _ g (by show g ≠ w.heap.size; omega)]
    · exact four_below ((hb.trans (hb9.mono (by omega))).setCell (p := ⟨w.heap.size, 3, none⟩) (Nat.le_refl _) _) _ (Nat.le_succ _) _ _ _ _)
  have HLN : Hid (∀ j, (dfil pz (l.take j)).length ≤ j) := Lib.hid (fun j => Nat.le_trans (List.length_filter_le _ _) (by rw [List.length_take]; exact Nat.min_le_left _ _))
  clear hW hs hb hall h
  go_enter Try.func55, Try.ntmps55
  go_upto_region 1 with fail
  rw [← HW.out]
  go_wp2
  go_loopw [5, 6] (fun o i wr => ∃ (j m : Nat) (A2 : Option Addr) (C2 : Nat), j ≤ n ∧ i = .int .i64 (j : Int) ∧ o = .slice A2 m C2 ∧ m ≤ j ∧ Hid (OwnD wr W.heap.size (.slice A2 m C2) m (dfil pz (l.take j))) ∧ Hid (Below W.heap.size W wr)) (fun _ i _ => n - (intOf i).toNat)
  case atStart => exact ⟨0, 0, none, 0, Nat.zero_le _, rfl, rfl, Nat.le_refl _, Lib.hid (OwnD.none _ _), Lib.hid (Below.refl _ _)⟩
  case round =>
    obtain ⟨j, m, A2, C2, hj, rfl, rfl, hm, HO, HBR⟩ := hrel
    obtain ⟨wo, hwo⟩ : ∃ wo, wo = wr := ⟨_, rfl⟩
    subst hwo
    obtain ⟨hx, hz9, hdl⟩ := HALL.out wo HBR.out
    obtain ⟨d0, d1, d2, d3⟩ := hx.cells
    have HSZ := Lib.hid HBR.out.size
    by_cases hlt : j < n
    · obtain ⟨y, hy⟩ : ∃ y, l[j]? = some y := ⟨_, List.getElem?_eq_getElem (by rw [HL.out]; exact hlt)⟩
      obtain ⟨g, off, rfl, hgl, c0, c1, c2⟩ := hdl.at_ j y hy
      have k1 : (j : Int) < (n : Int) := by omega
      have HLT := Lib.hid hlt
      have HB1 : Hid (m + 1 ≤ 100000) := Lib.hid (by have := HN.out; omega)
      have HT := Lib.hid (dfil_step pz l j y hy)
      have HMM := Lib.hid hm

      obtain ⟨y0, y1, y2⟩ := y
      dsimp only at *
      by_cases hkp : pz y0 = true
      · have e1 : (y0 != k) = false := by have := HPZ.out y0; rw [hkp] at this; have := of_decide_eq_true this.symm; simp [this]
        have HT2 : Hid (dfil pz (l.take (j + 1)) = dfil pz (l.take j)) := Lib.hid (by have := HT.out; rwa [if_pos hkp] at this)
        clear hy hgl hdl hx hz9 HT hkp hm
        go_wp2
        go_roundw
        case rel => exact ⟨j + 1, m, A2, C2, HLT.out, by go_num, rfl, Nat.le_succ_of_le HMM.out, Lib.hid (by rw [HT2.out]; exact HO.out), HBR⟩
        case measure => simp [intOf] <;> (have := HLT.out; omega)
      · have e1 : (y0 != k) = true := by have := HPZ.out y0; rw [Bool.eq_false_iff.2 hkp] at this; have := of_decide_eq_false this.symm; simp [this]
        have HT2 : Hid (dfil pz (l.take (j + 1)) = dfil pz (l.take j) ++ [⟨y0, y1, y2⟩]) := Lib.hid (by have := HT.out; rwa [if_neg hkp] at this)
        clear hy hgl hdl hx hz9 HT hkp hm
        go_wp2_with (first
          | (at_builtin; (with_reducible refine wpList_append_di rfl (.tmp 22) (.tmp 28) rfl W.heap.size A2 m C2 rfl (dfil pz (l.take j)) (HO.out.below ((Below.refl _ _).alloc (Nat.le_refl _) _) (Nat.le_refl _)) wo.heap.size rfl ⟨y0, y1, y2⟩ (di_new wo ⟨y0, y1, y2⟩) HB1.out (Nat.le_trans HSZ.out (Nat.le_of_lt (lt_alloc _ _))) ?_); intro A3 C3 w5 HO5 HG5 _)
          | fail)
        go_roundw
        case rel => exact ⟨j + 1, m + 1, A3, C3, HLT.out, by go_num, rfl, Nat.succ_le_succ HMM.out, Lib.hid (by rw [HT2.out]; exact HO5.out), Lib.hid ((HBR.out.alloc HSZ.out _).trans HG5.out.bel)⟩
        case measure => simp [intOf] <;> (have := HLT.out; omega)
    · obtain rfl : j = n := by omega
      have HEND : Hid (l.take j = l) := Lib.hid (List.take_of_length_le (by rw [HL.out]; exact Nat.le_refl _))
      have HO9 : Hid (OwnD wo W.heap.size (.slice A2 m C2) m (dfil pz l)) := Lib.hid (by have := HO.out; rwa [HEND.out] at this)
      have n3 : ¬ (j : Int) < (j : Int) := by omega
      have n4 : (m : Int) ≤ 1000 := by omega
      obtain ⟨z0, z1, z2, z3⟩ := hz9.cells
      have df := hx.frozen 3
      have zf0 := hz9.frozen 0
      have zf1 := hz9.frozen 1
      have zf2 := hz9.frozen 2
      have zf3 := hz9.frozen 3
      clear hx hz9 hdl hj hm
      go_wp2
      refine bodyPost_ret (v := (.agg #[.int .i64 room, .int .i64 asked, .int .i64 full, .slice A2 m C2])) (by simp [results, Try.results55, go_sem, z0, z1, z2, z3]) rfl ?_
      exact HYES.out wo A2 C2 m HO9.out HBR.out
set_option maxRecDepth 100000 in
theorem rbelow_any (room asked full : Int) (no : Int) (B : Nat) (A : Option Addr) (n C : Nat) (l : List DI) (hn : n ≤ 1000) (hno : 0 ≤ no ∧ no ≤ 4294967295) (hkey : ∀ y ∈ l, 0 ≤ y.no ∧ y.no ≤ 4294967295) (w : World) (h : DL w B A n C l) :
    Calls Try.prog 56 #[.agg #[.int .i64 room, .int .i64 asked, .int .i64 full, .slice A n C], .int .u32 no] w (RFilN w room asked full n (dfil (fun z => decide (behindZ z no < 0)) l)) := by
  obtain ⟨W, hW⟩ : ∃ W, W = (w.alloc (.cells #[.int .i64 room, .int .i64 asked, .int .i64 full, .slice A n C] 62)).alloc (.cells #[.int .i64 0, .int .i64 0, .int .i64 0, .slice none 0 0] 62) := ⟨_, rfl⟩
  obtain ⟨hs, hb, hall⟩ := dboxes (room := room) (asked := asked) (full := full) h W hW
  have HL := Lib.hid h.len
  have HW := Lib.hid hW
  have HS := Lib.hid hs
  have HALL := Lib.hid hall
  have HN := Lib.hid hn
  have n1 : (n : Int) ≤ 1000 := by omega
  obtain ⟨pz, hpz⟩ : ∃ pz : Int → Bool, pz = (fun z => decide (behindZ z no < 0)) := ⟨_, rfl⟩
  have HPZ : Hid (∀ z, pz z = decide (behindZ z no < 0)) := Lib.hid (fun z => by rw [hpz])
  rw [← hpz]
  clear hpz
  have HYES : Hid (∀ (WW : World) (A : Option Addr) (C m : Nat), OwnD WW W.heap.size (.slice A m C) m (dfil pz l) → Below W.heap.size W WW → RFilN w room asked full n (dfil pz l) (.returned (.tuple #[.agg #[.int .i64 room, .int .i64 asked, .int .i64 full, .slice A m C], .int .i64 ((n : Int) - (m : Int))]))
      (((((WW.setCell ⟨w.heap.size, 3, none⟩ (.slice A m C)).setCell ⟨w.heap.size + 1, 0, none⟩ (.int .i64 room)).setCell ⟨w.heap.size + 1, 1, none⟩ (.int .i64 asked)).setCell ⟨w.heap.size + 1, 2, none⟩ (.int .i64 full)).setCell ⟨w.heap.size + 1, 3, none⟩ (.slice A m C))) := Lib.hid (fun WW A C m ho hb9 => by
    have e : (dfil pz l).length = m := ho.length
    refine ⟨A, C, by rw [e], Lib.hid ?_, Lib.hid ?_⟩
    · rw [e]
      refine (ho.dl.keep (fun g _ _ hg _ => ?_)).low (by omega)
      rw [four_far _ _ _ _ _ _ g (by omega), Below.heap_setCell _ ⟨w.heap.size, 3, none⟩ _ g (by show g ≠ w.heap.size; omega)]
    · exact four_below ((hb.trans (hb9.mono (by omega))).setCell (p := ⟨w.heap.size, 3, none⟩) (Nat.le_refl _) _) _ (Nat.le_succ _) _ _ _ _)
  have HLN : Hid (∀ j, (dfil pz (l.take j)).length ≤ j) := Lib.hid (fun j => Nat.le_trans (List.length_filter_le _ _) (by rw [List.length_take]; exact Nat.min_le_left _ _))
  clear hW hs hb hall h
  go_enter Try.func56, Try.ntmps56
  go_upto_region 1 with fail
  rw [← HW.out]
  go_wp2
  go_loopw [6, 7] (fun o i wr => ∃ (j m : Nat) (A2 : Option Addr) (C2 : Nat), j ≤ n ∧ i = .int .i64 (j : Int) ∧ o = .slice A2 m C2 ∧ m ≤ j ∧ Hid (OwnD wr W.heap.size (.slice A2 m C2) m (dfil pz (l.take j))) ∧ Hid (Below W.heap.size W wr)) (fun _ i _ => n - (intOf i).toNat)
  case atStart => exact ⟨0, 0, none, 0, Nat.zero_le _, rfl, rfl, Nat.le_refl _, Lib.hid (OwnD.none _ _), Lib.hid (Below.refl _ _)⟩
  case round =>
    obtain ⟨j, m, A2, C2, hj, rfl, rfl, hm, HO, HBR⟩ := hrel
    obtain ⟨wo, hwo⟩ : ∃ wo, wo = wr := ⟨_, rfl⟩
    subst hwo
    obtain ⟨hx, hz9, hdl⟩ := HALL.out wo HBR.out
    obtain ⟨d0, d1, d2, d3⟩ := hx.cells
    have HSZ := Lib.hid HBR.out.size
    by_cases hlt : j < n
    · obtain ⟨y, hy⟩ : ∃ y, l[j]? = some y := ⟨_, List.getElem?_eq_getElem (by rw [HL.out]; exact hlt)⟩
      obtain ⟨g, off, rfl, hgl, c0, c1, c2⟩ := hdl.at_ j y hy
      have k1 : (j : Int) < (n : Int) := by omega
      have HLT := Lib.hid hlt
      have HB1 : Hid (m + 1 ≤ 100000) := Lib.hid (by have := HN.out; omega)
      have HT := Lib.hid (dfil_step pz l j y hy)
      have HMM := Lib.hid hm
      have HBH := Lib.hid (rbehind_any y.no no wo (hkey y (List.mem_of_getElem? hy)).1 (hkey y (List.mem_of_getElem? hy)).2 hno.1 hno.2)
      obtain ⟨bz, hbz⟩ : ∃ bz, bz = behindZ y.no no := ⟨_, rfl⟩
      have HP1 : Hid (pz y.no = decide (bz < 0)) := Lib.hid (by rw [HPZ.out, hbz])
      rw [← hbz] at HBH
      clear hbz
      obtain ⟨y0, y1, y2⟩ := y
      dsimp only at *
      by_cases hkp : pz y0 = true
      · have e1 : bz < 0 := of_decide_eq_true (HP1.out.symm.trans hkp)
        have HT2 : Hid (dfil pz (l.take (j + 1)) = dfil pz (l.take j)) := Lib.hid (by have := HT.out; rwa [if_pos hkp] at this)
        clear hy hgl hdl hx hz9 HT hkp hm
        go_wp2_with (first
          | (go_at_call 68; (with_reducible refine (HBH.out).mono ?_); rintro e w1 ⟨rfl, rfl⟩)
          | fail)
        go_roundw
        case rel => exact ⟨j + 1, m, A2, C2, HLT.out, by go_num, rfl, Nat.le_succ_of_le HMM.out, Lib.hid (by rw [HT2.out]; exact HO.out), HBR⟩
        case measure => simp [intOf] <;> (have := HLT.out; omega)
      · have e1 : ¬ bz < 0 := of_decide_eq_false (HP1.out.symm.trans (Bool.eq_false_iff.2 hkp))
        have HT2 : Hid (dfil pz (l.take (j + 1)) = dfil pz (l.take j) ++ [⟨y0, y1, y2⟩]) := Lib.hid (by have := HT.out; rwa [if_neg hkp] at this)
        clear hy hgl hdl hx hz9 HT hkp hm
        go_wp2_with (first
          | (go_at_call 68; (with_reducible refine (HBH.out).mono ?_); rintro e w1 ⟨rfl, rfl⟩)
          | (at_builtin; (with_reducible refine wpList_append_di rfl (.tmp 25) (.tmp 31) rfl W.heap.size A2 m C2 rfl (dfil pz (l.take j)) (HO.out.below ((Below.refl _ _).alloc (Nat.le_refl _) _) (Nat.le_refl _)) wo.heap.size rfl ⟨y0, y1, y2⟩ (di_new wo ⟨y0, y1, y2⟩) HB1.out (Nat.le_trans HSZ.out (Nat.le_of_lt (lt_alloc _ _))) ?_); intro A3 C3 w5 HO5 HG5 _)
          | fail)
        go_roundw
        case rel => exact ⟨j + 1, m + 1, A3, C3, HLT.out, by go_num, rfl, Nat.succ_le_succ HMM.out, Lib.hid (by rw [HT2.out]; exact HO5.out), Lib.hid ((HBR.out.alloc HSZ.out _).trans HG5.out.bel)⟩
        case measure => simp [intOf] <;> (have := HLT.out; omega)
    · obtain rfl : j = n := by omega
      have HEND : Hid (l.take j = l) := Lib.hid (List.take_of_length_le (by rw [HL.out]; exact Nat.le_refl _))
      have HO9 : Hid (OwnD wo W.heap.size (.slice A2 m C2) m (dfil pz l)) := Lib.hid (by have := HO.out; rwa [HEND.out] at this)
      have n3 : ¬ (j : Int) < (j : Int) := by omega
      have n4 : (m : Int) ≤ 1000 := by omega
      obtain ⟨z0, z1, z2, z3⟩ := hz9.cells
      have df := hx.frozen 3
      have zf0 := hz9.frozen 0
      have zf1 := hz9.frozen 1
      have zf2 := hz9.frozen 2
      have zf3 := hz9.frozen 3
      clear hx hz9 hdl hj hm
      go_wp2
      refine bodyPost_ret (v := (.tuple #[.agg #[.int .i64 room, .int .i64 asked, .int .i64 full, .slice A2 m C2], .int .i64 ((j : Int) - (m : Int))])) (by simp [results, Try.results56, go_sem, z0, z1, z2, z3]) rfl ?_
      exact HYES.out wo A2 C2 m HO9.out HBR.out
end Go.Proofs.Ytnffngbkidehfaa.Nk
