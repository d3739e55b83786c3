/-
  Own text: the document's Filter, walked.
-/
import Derived.Test.YtagcpnelobidnaaPqR
import Derived.Test.YtagcpnelobidnaaPqI
namespace Go.Proofs.Ytagcpnelobidnaa
open Go.RowKit

def dkeep (d : Int) (l : List DI) : List DI := l.filter (fun x => keeps d x.2)
theorem dkeep_step (d : Int) (l : List DI) (k : Nat) (y : DI) (h : l[k]? = some y) : dkeep d (l.take (k + 1)) = if keeps d y.2 then dkeep d (l.take k) ++ [y] else dkeep d (l.take k) := by
  unfold dkeep
  rw [List.take_add_one, h, List.filter_append]
  cases hk : keeps d y.2 <;> simp [hk]
theorem dkeep_length (d : Int) (l : List DI) : (dkeep d l).length ≤ l.length := List.length_filter_le _ _
def RFilter (w : World) (room n : Nat) (l : List DI) (e : Ending) (w' : World) : Prop :=
  ∃ A C, e = .returned (.tuple #[DV room A l.length C, .int .i64 ((n : Int) - (l.length : Int))]) ∧ Hid (DL w' w.heap.size A l.length C l) ∧ Hid (Below w.heap.size w w')
set_option maxRecDepth 100000 in
theorem rfilter_any (room : Nat) (d : Int) (B : Nat) (A : Option Addr) (n C : Nat) (l : List DI) (hn : n ≤ 1000) (hd : 1 ≤ d) (w : World) (h : DL w B A n C l) :
    Calls Try.prog 29 #[DV room A n C, .int .i64 d] w (RFilter w room n (dkeep d l)) := by
  obtain ⟨W, hW⟩ : ∃ W, W = (w.alloc (.cells #[.int .i64 (room : Int), .slice A n C] 27)).alloc (.cells #[.int .i64 0, .slice none 0 0] 27) := ⟨_, rfl⟩
  obtain ⟨hs, hb, hall⟩ := dboxes (room := room) h W hW
  have HL := Lib.hid h.len
  have HW := Lib.hid hW
  have HS := Lib.hid hs
  have HALL := Lib.hid hall
  have HN := Lib.hid hn
  have hd0 : ¬ d = 0 := by omega
  have hd1 : ¬ d = -1 := by omega
  have n1 : (n : Int) ≤ 1000 := by omega
  have hfar : ∀ (WW W9 : World), (∀ k, k ≠ w.heap.size → k ≠ w.heap.size + 1 → W9.heap[k]? = WW.heap[k]?) → ∀ (A C m L), DL WW W.heap.size A m C L → DL W9 w.heap.size A m C L := fun WW W9 hk A C m L hd => (hd.keep (fun g _ _ hg _ => hk g (by omega) (by omega))).low (by omega)
  have HYES : Hid (∀ (WW : World) (A : Option Addr) (C m : Nat), OwnD WW W.heap.size (.slice A m C) m (dkeep d l) → Below W.heap.size W WW → RFilter w room n (dkeep d l) (.returned (.tuple #[.agg #[.int .i64 (room : Int), .slice A m C], .int .i64 ((n : Int) - (m : Int))]))
      (((WW.setCell ⟨w.heap.size, 1, none⟩ (.slice A m C)).setCell ⟨w.heap.size + 1, 0, none⟩ (.int .i64 (room : Int))).setCell ⟨w.heap.size + 1, 1, none⟩ (.slice A m C))) := Lib.hid (fun WW A C m ho hb9 => by
    have e : (dkeep d l).length = m := ho.length
    refine ⟨A, C, by rw [e]; rfl, Lib.hid ?_, Lib.hid ?_⟩
    · rw [e]
      refine hfar WW _ (fun k h1 h2 => ?_) A C m _ ho.dl
      rw [Below.heap_setCell _ ⟨w.heap.size + 1, 1, none⟩ _ k h2, Below.heap_setCell _ ⟨w.heap.size + 1, 0, none⟩ _ k h2, Below.heap_setCell _ ⟨w.heap.size, 1, none⟩ _ k h1]
    · exact (((hb.trans (hb9.mono (by omega))).setCell (p := ⟨w.heap.size, 1, none⟩) (Nat.le_refl _) _).setCell (p := ⟨w.heap.size + 1, 0, none⟩) (Nat.le_succ _) _).setCell (p := ⟨w.heap.size + 1, 1, none⟩) (Nat.le_succ _) _)
  unfold DV
  clear hW hs hb hall h hfar
  go_enter Try.func29, Try.ntmps29
  go_upto_region 1 with fail
  rw [← HW.out]
  go_wp2
  go_loopw [6, 7] (fun o i wr => ∃ (k m : Nat) (A2 : Option Addr) (C2 : Nat), k ≤ n ∧ i = .int .i64 (k : Int) ∧ o = .slice A2 m C2 ∧ m ≤ k ∧ Hid (OwnD wr W.heap.size (.slice A2 m C2) m (dkeep d (l.take k))) ∧ Hid (Below W.heap.size W wr)) (fun _ i _ => n - (intOf i).toNat)
  case atStart => exact ⟨0, 0, none, 0, Nat.zero_le _, rfl, rfl, Nat.le_refl _, Lib.hid (OwnD.none _ _), Lib.hid (Below.refl _ _)⟩
  case round =>
    obtain ⟨k, m, A2, C2, hk, rfl, rfl, hm, HO, HBR⟩ := hrel
    obtain ⟨wo, hwo⟩ : ∃ wo, wo = wr := ⟨_, rfl⟩
    subst hwo
    obtain ⟨hx, hz9, hdl⟩ := HALL.out wo HBR.out
    obtain ⟨d0, d1⟩ := hx.cells
    have HSZ := Lib.hid HBR.out.size
    by_cases hlt : k < n
    · obtain ⟨y, hy⟩ : ∃ y, l[k]? = some y := ⟨_, List.getElem?_eq_getElem (by rw [HL.out]; exact hlt)⟩
      obtain ⟨g, off, rfl, hgl, c0, c1⟩ := hdl.at_ k y hy
      have k1 : (k : Int) < (n : Int) := by omega
      have HLT := Lib.hid hlt
      have HB1 : Hid (m + 1 ≤ 100000) := Lib.hid (by have := HN.out; omega)
      have HT := Lib.hid (dkeep_step d l k y hy)
      have HMM := Lib.hid hm
      obtain ⟨y0, y1⟩ := y
      dsimp only at c0 c1 HT
      cases hkp : keeps d y1 with
      | true =>
        have hm0 : ¬ y1.tmod d = 0 := by unfold keeps at hkp; simpa using hkp
        have HT2 : Hid (dkeep d (l.take (k + 1)) = dkeep d (l.take k) ++ [(y0, y1)]) := Lib.hid (by have := HT.out; rw [hkp] at this; simpa using this)
        clear hy hgl hdl hx hz9 HT hkp hm
        go_wp2_with (first
          | (at_builtin; (with_reducible refine wpList_append_ditem rfl (.tmp 25) (.tmp 31) rfl W.heap.size A2 m C2 rfl (dkeep d (l.take k)) (HO.out.below ((Below.refl _ _).alloc (Nat.le_refl _) _) (Nat.le_refl _)) wo.heap.size rfl (y0, y1) (ditem_new wo y0 y1) HB1.out (Nat.le_trans HSZ.out (by simp)) ?_); intro A3 C3 w5 HO5 HB5)
          | fail)
        go_roundw
        case rel => exact ⟨k + 1, m + 1, A3, C3, HLT.out, by go_num, rfl, Nat.succ_le_succ HMM.out, Lib.hid (by rw [HT2.out]; exact HO5.out), Lib.hid ((HBR.out.alloc HSZ.out _).trans HB5.out)⟩
        case measure => simp [intOf] <;> (have := HLT.out; omega)
      | false =>
        have hm0 : y1.tmod d = 0 := by unfold keeps at hkp; simpa using hkp
        have HT2 : Hid (dkeep d (l.take (k + 1)) = dkeep d (l.take k)) := Lib.hid (by have := HT.out; rw [hkp] at this; simpa using this)
        clear hy hgl hdl hx hz9 HT hkp hm
        go_wp2
        go_roundw
        case rel => exact ⟨k + 1, m, A2, C2, HLT.out, by go_num, rfl, Nat.le_succ_of_le HMM.out, Lib.hid (by rw [HT2.out]; exact HO.out), HBR⟩
        case measure => simp [intOf] <;> (have := HLT.out; omega)
    · obtain rfl : k = n := by omega
      have HEND : Hid (l.take k = l) := Lib.hid (List.take_of_length_le (by rw [HL.out]; exact Nat.le_refl _))
      have HO9 : Hid (OwnD wo W.heap.size (.slice A2 m C2) m (dkeep d l)) := Lib.hid (by have := HO.out; rwa [HEND.out] at this)
      have n3 : ¬ (k : Int) < (k : Int) := by omega
      have n4 : (m : Int) ≤ (k : Int) := by omega
      obtain ⟨z0, z1⟩ := hz9.cells
      have df := hx.frozen 1
      have zf0 := hz9.frozen 0
      have zf1 := hz9.frozen 1
      clear hx hz9 hdl hk
      go_wp2
      refine bodyPost_ret (v := .tuple #[.agg #[.int .i64 (room : Int), .slice A2 m C2], .int .i64 ((k : Int) - (m : Int))]) (by simp [results, Try.results29, go_sem, z0, z1]) rfl ?_
      exact HYES.out wo A2 C2 m HO9.out HBR.out
end Go.Proofs.Ytagcpnelobidnaa
