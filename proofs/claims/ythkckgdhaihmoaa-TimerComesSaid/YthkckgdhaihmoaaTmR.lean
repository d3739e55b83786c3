/-
  Own text: the document's Without, walked.
-/
import Derived.Test.YthkckgdhaihmoaaTmQ
namespace Go.Proofs.Ythkckgdhaihmoaa
open Go.RowKit

/-- All but that key, as the document keeps them. -/
def dwo (k : Int) (l : List It) : List It := l.filter (fun x => !decide (x.key = k))
theorem dwo_step (k : Int) (l : List It) (i : Nat) (y : It) (h : l[i]? = some y) : dwo k (l.take (i + 1)) = if y.key = k then dwo k (l.take i) else dwo k (l.take i) ++ [y] := by
  unfold dwo
  rw [List.take_add_one, h, List.filter_append]
  by_cases hk : y.key = k <;> simp [hk]
theorem dwo_length (k : Int) (l : List It) : (dwo k l).length ≤ l.length := List.length_filter_le _ _
def RWithout (w : World) (room : Nat) (now : Int) (n : Nat) (l : List It) (e : Ending) (w' : World) : Prop :=
  ∃ A C, e = .returned (.tuple #[DV room now A l.length C, .bool (decide ((l.length : Int) < (n : Int)))]) ∧ Hid (DL w' w.heap.size A l.length C l) ∧ Hid (Below w.heap.size w w')
set_option maxRecDepth 100000 in
theorem rwithout_any (room : Nat) (now k : Int) (B : Nat) (A : Option Addr) (n C : Nat) (l : List It) (hn : n ≤ 1000) (w : World) (h : DL w B A n C l) :
    Calls Try.prog 28 #[DV room now A n C, .int .i64 k] w (RWithout w room now n (dwo k l)) := by
  obtain ⟨W, hW⟩ : ∃ W, W = (w.alloc (.cells #[.int .i64 (room : Int), .int .i64 now, .slice A n C] 27)).alloc (.cells #[.int .i64 0, .int .i64 0, .slice none 0 0] 27) := ⟨_, rfl⟩
  obtain ⟨hs, hb, hall⟩ := dboxes (room := room) (now := now) h W hW
  have HL := Lib.hid h.len
  have HW := Lib.hid hW
  have HS := Lib.hid hs
  have HALL := Lib.hid hall
  have HN := Lib.hid hn
  have n1 : (n : Int) ≤ 1000 := by omega
  have HYES : Hid (∀ (WW : World) (A : Option Addr) (C m : Nat), OwnD WW W.heap.size (.slice A m C) m (dwo k l) → Below W.heap.size W WW → RWithout w room now n (dwo k l) (.returned (.tuple #[.agg #[.int .i64 (room : Int), .int .i64 now, .slice A m C], .bool (decide ((m : Int) < (n : Int)))]))
      ((((WW.setCell ⟨w.heap.size, 2, none⟩ (.slice A m C)).setCell ⟨w.heap.size + 1, 0, none⟩ (.int .i64 (room : Int))).setCell ⟨w.heap.size + 1, 1, none⟩ (.int .i64 now)).setCell ⟨w.heap.size + 1, 2, none⟩ (.slice A m C))) := Lib.hid (fun WW A C m ho hb9 => by
    have e : (dwo k l).length = m := ho.length
    refine ⟨A, C, by rw [e]; rfl, Lib.hid ?_, Lib.hid ?_⟩
    · rw [e]
      refine (ho.dl.keep (fun g _ _ hg _ => ?_)).low (by omega)
      rw [three_far _ _ _ _ _ g (by omega), Below.heap_setCell _ ⟨w.heap.size, 2, none⟩ _ g (by show g ≠ w.heap.size; omega)]
    · exact three_below ((hb.trans (hb9.mono (by omega))).setCell (p := ⟨w.heap.size, 2, none⟩) (Nat.le_refl _) _) _ (Nat.le_succ _) _ _ _)
  unfold DV
  clear hW hs hb hall h
  go_enter Try.func28, Try.ntmps28
  go_upto_region 1 with fail
  rw [← HW.out]
  go_wp2
  go_loopw [6, 7] (fun o i wr => ∃ (j m : Nat) (A2 : Option Addr) (C2 : Nat), j ≤ n ∧ i = .int .i64 (j : Int) ∧ o = .slice A2 m C2 ∧ m ≤ j ∧ Hid (OwnD wr W.heap.size (.slice A2 m C2) m (dwo k (l.take j))) ∧ Hid (Below W.heap.size W wr)) (fun _ i _ => n - (intOf i).toNat)
  case atStart => exact ⟨0, 0, none, 0, Nat.zero_le _, rfl, rfl, Nat.le_refl _, Lib.hid (OwnD.none _ _), Lib.hid (Below.refl _ _)⟩
  case round =>
    obtain ⟨j, m, A2, C2, hj, rfl, rfl, hm, HO, HBR⟩ := hrel
    obtain ⟨wo, hwo⟩ : ∃ wo, wo = wr := ⟨_, rfl⟩
    subst hwo
    obtain ⟨hx, hz9, hdl⟩ := HALL.out wo HBR.out
    obtain ⟨d0, d1, d2⟩ := hx.cells
    have HSZ := Lib.hid HBR.out.size
    by_cases hlt : j < n
    · obtain ⟨y, hy⟩ : ∃ y, l[j]? = some y := ⟨_, List.getElem?_eq_getElem (by rw [HL.out]; exact hlt)⟩
      obtain ⟨g, off, rfl, hgl, c0, c1⟩ := hdl.at_ j y hy
      have k1 : (j : Int) < (n : Int) := by omega
      have HLT := Lib.hid hlt
      have HB1 : Hid (m + 1 ≤ 100000) := Lib.hid (by have := HN.out; omega)
      have HT := Lib.hid (dwo_step k l j y hy)
      have HMM := Lib.hid hm
      obtain ⟨y0, y1⟩ := y
      dsimp only at c0 c1 HT
      by_cases hkp : y0 = k
      · have hne : (y0 != k) = false := by simp [hkp]
        have HT2 : Hid (dwo k (l.take (j + 1)) = dwo k (l.take j)) := Lib.hid (by have := HT.out; rwa [if_pos hkp] at this)
        clear hy hgl hdl hx hz9 HT hkp hm
        go_wp2
        go_roundw
        case rel => exact ⟨j + 1, m, A2, C2, HLT.out, by go_num, rfl, Nat.le_succ_of_le HMM.out, Lib.hid (by rw [HT2.out]; exact HO.out), HBR⟩
        case measure => simp [intOf] <;> (have := HLT.out; omega)
      · have hne : (y0 != k) = true := by simp [hkp]
        have HT2 : Hid (dwo k (l.take (j + 1)) = dwo k (l.take j) ++ [⟨y0, y1⟩]) := Lib.hid (by have := HT.out; rwa [if_neg hkp] at this)
        clear hy hgl hdl hx hz9 HT hkp hm
        go_wp2_with (first
          | (at_builtin; (with_reducible refine wpList_append_ditem rfl (.tmp 24) (.tmp 30) rfl W.heap.size A2 m C2 rfl (dwo k (l.take j)) (HO.out.below ((Below.refl _ _).alloc (Nat.le_refl _) _) (Nat.le_refl _)) wo.heap.size rfl ⟨y0, y1⟩ (ditem_new wo y0 y1) HB1.out (Nat.le_trans HSZ.out (by simp)) ?_); intro A3 C3 w5 HO5 HB5)
          | fail)
        go_roundw
        case rel => exact ⟨j + 1, m + 1, A3, C3, HLT.out, by go_num, rfl, Nat.succ_le_succ HMM.out, Lib.hid (by rw [HT2.out]; exact HO5.out), Lib.hid ((HBR.out.alloc HSZ.out _).trans HB5.out)⟩
        case measure => simp [intOf] <;> (have := HLT.out; omega)
    · obtain rfl : j = n := by omega
      have HEND : Hid (l.take j = l) := Lib.hid (List.take_of_length_le (by rw [HL.out]; exact Nat.le_refl _))
      have HO9 : Hid (OwnD wo W.heap.size (.slice A2 m C2) m (dwo k l)) := Lib.hid (by have := HO.out; rwa [HEND.out] at this)
      have n3 : ¬ (j : Int) < (j : Int) := by omega
      obtain ⟨z0, z1, z2⟩ := hz9.cells
      have df := hx.frozen 2
      have zf0 := hz9.frozen 0
      have zf1 := hz9.frozen 1
      have zf2 := hz9.frozen 2
      clear hx hz9 hdl hj hm
      go_wp2
      refine bodyPost_ret (v := .tuple #[.agg #[.int .i64 (room : Int), .int .i64 now, .slice A2 m C2], .bool (decide ((m : Int) < (j : Int)))]) (by simp [results, Try.results28, go_sem, z0, z1, z2]) rfl ?_
      exact HYES.out wo A2 C2 m HO9.out HBR.out
end Go.Proofs.Ythkckgdhaihmoaa
