/-
  Own text: the document's Tick, walked: those that are told, those that stay.
-/
import Derived.Test.YtnffngbkidehfaaNkDe
namespace Go.Proofs.Ytnffngbkidehfaa.Nk
open Go.RowKit

theorem T1.below {w : World} {B : Nat} {N : Nl} {A : Option Addr} {C : Nat} {W0 W W' : World} (h : T1 w B N A C W0 W) (hb : Below W0.heap.size W W') (h0 : W0.heap.size = w.heap.size + 2) (hB : ∀ g, A.map Addr.block = some g → g < w.heap.size) : T1 w B N A C W0 W' :=
  ⟨h.x.keep (hb.block _ (by omega)), h.z.keep (hb.block _ (by omega)), h.l.keep (fun g _ e _ _ => hb.block g (by have := hB g e; omega)), h.bel.trans (hb.mono (by omega)), Nat.le_trans h.size hb.size⟩
theorem dl_low {w : World} {B n C : Nat} {A : Option Addr} {l : List DI} (h : DL w B A n C l) (hn : n ≠ 0) : ∀ g, A.map Addr.block = some g → g < w.heap.size := by
  intro g hg
  rcases h.cell with h0 | ⟨g', off, cur, rfl, _, hc, _⟩
  · exact absurd h0 hn
  · simp at hg
    subst hg
    exact (Array.getElem?_eq_some_iff.1 hc).1
set_option maxRecDepth 100000 in
set_option maxHeartbeats 2000000 in
theorem rntick_any (t : Int) (N : Nl) (j : Nat) (hf : N.fit j) (hj : j ≤ 1000000) (B : Nat) (A : Option Addr) (C : Nat) (w : World) (hB : B ≤ w.heap.size) (h : DL w B A N.q.l.length C N.ref) :
    Calls Try.prog 58 #[NV N A C, .int .i64 t] w (RTick w B (N.tick t) (N.q.came 1)) := by
  have hn : N.q.l.length ≤ 64 := by have := hf.q.len; have := hf.room; omega
  obtain ⟨t1, t2⟩ := hd_in t
  obtain ⟨W, hW⟩ : ∃ W, W = (w.alloc (.cells #[.int .i64 (N.q.room : Int), .int .i64 (N.asked : Int), .int .i64 (N.full : Int), .slice A N.q.l.length C] 62)).alloc (.cells #[.int .i64 0, .int .i64 0, .int .i64 0, .slice none 0 0] 62) := ⟨_, rfl⟩
  obtain ⟨hs, hb, hall⟩ := dboxes (room := N.q.room) (asked := N.asked) (full := N.full) h W hW
  have HW := Lib.hid hW
  have HS := Lib.hid hs
  have HALL : Hid (∀ w', Below W.heap.size W w' → DBx w' w.heap.size N.q.room N.asked N.full (.slice A N.q.l.length C) ∧ DBx w' (w.heap.size + 1) 0 0 0 (.slice none 0 0) ∧ DL w' B A N.q.l.length C N.ref ∧ Below w.heap.size w w') := Lib.hid (fun w' h' => by
    obtain ⟨a1, a2, a3⟩ := hall w' h'
    exact ⟨a1, a2, a3, hb.trans (h'.mono (by omega))⟩)
  obtain ⟨k1, k2, k3, k4⟩ := Nl.tick_asked (t := t) hf hj
  have href := Nl.tick_ref (t := t) hf hj
  have hcame := Nl.tick_came hf hj
  have hlen : (dtold N.ref).length + (drest N.ref).length = N.q.l.length := by
    unfold dtold drest
    rw [List.length_map, List.length_map, ← Nl.ref_length]
    exact (show ((N.ref.filter (fun y => decide (y.left - 1 ≤ 0))).length + (N.ref.filter (fun y => !decide (y.left - 1 ≤ 0))).length = N.ref.length) from by
      generalize N.ref = l
      induction l with
      | nil => rfl
      | cons x l ih =>
        rw [List.filter_cons, List.filter_cons]
        cases decide (x.left - 1 ≤ 0) <;> simp <;> omega)
  have hak : N.asked ≤ 64000000 := by have := hf.asked; omega
  have HRES : Hid (∀ (W9 : World) (A7 : Option Addr) (C7 : Nat) (A10 : Option Addr) (C10 : Nat), DL W9 W.heap.size A7 (N.tick t).ref.length C7 (N.tick t).ref → OwnW W9 W.heap.size (.slice A10 (dtold N.ref).length C10) (dtold N.ref).length ((dtold N.ref).map (fun y => y.no)) → Below w.heap.size w W9 →
      RTick w B (N.tick t) (N.q.came 1) (.returned (.tuple #[.agg #[.int .i64 (N.q.room : Int), .int .i64 ((N.asked : Int) + ((dtold N.ref).length : Int)), .int .i64 (N.full : Int), .slice A7 N.q.l.length C7], .slice A10 (dtold N.ref).length C10]))
        (((((W9.setCell ⟨w.heap.size, 3, none⟩ (.slice A7 N.q.l.length C7)).setCell ⟨w.heap.size + 1, 0, none⟩ (.int .i64 (N.q.room : Int))).setCell ⟨w.heap.size + 1, 1, none⟩ (.int .i64 ((N.asked : Int) + ((dtold N.ref).length : Int)))).setCell ⟨w.heap.size + 1, 2, none⟩ (.int .i64 (N.full : Int))).setCell ⟨w.heap.size + 1, 3, none⟩ (.slice A7 N.q.l.length C7))) := Lib.hid (fun W9 A7 C7 A10 C10 hd ho hbel => by
    have hl : (N.tick t).ref.length = N.q.l.length := by rw [Nl.ref_length, k4]
    have hc : (N.q.came 1).length = (dtold N.ref).length := by rw [hcame, List.length_map]
    have hkk : ∀ g, W.heap.size ≤ g → (((((W9.setCell ⟨w.heap.size, 3, none⟩ (.slice A7 N.q.l.length C7)).setCell ⟨w.heap.size + 1, 0, none⟩ (.int .i64 (N.q.room : Int))).setCell ⟨w.heap.size + 1, 1, none⟩ (.int .i64 ((N.asked : Int) + ((dtold N.ref).length : Int)))).setCell ⟨w.heap.size + 1, 2, none⟩ (.int .i64 (N.full : Int))).setCell ⟨w.heap.size + 1, 3, none⟩ (.slice A7 N.q.l.length C7)).heap[g]? = W9.heap[g]? := fun g hg => by
      rw [four_far _ _ _ _ _ _ g (by omega), Below.heap_setCell _ ⟨w.heap.size, 3, none⟩ _ g (by show g ≠ w.heap.size; omega)]
    refine ⟨A7, C7, A10, C10, ?_, Lib.hid ?_, Lib.hid ?_, Lib.hid (four_below (hbel.setCell (p := ⟨w.heap.size, 3, none⟩) (Nat.le_refl _) _) _ (Nat.le_succ _) _ _ _ _)⟩
    · unfold NV
      rw [k1, k2, k3, k4, hc, show ((N.asked + (dtold N.ref).length : Nat) : Int) = (N.asked : Int) + ((dtold N.ref).length : Int) by omega]
    · rw [hl] at hd
      rw [k4]
      exact (hd.keep (fun g _ _ hg _ => hkk g hg)).low (by omega)
    · rw [hc, hcame]
      exact OwnW.low (ho.keep (fun g hg => hkk g (ho.lt g hg).1)) (by omega))
  have HREF : Hid ((N.tick t).ref = (dtold N.ref).foldl (dagain (hd t)) (drest N.ref)) := Lib.hid href
  have HT : Hid (1 ≤ hd t ∧ hd t ≤ 4096) := Lib.hid ⟨t1, t2⟩
  have HLE : Hid ((dtold N.ref).length + (drest N.ref).length ≤ 64) := Lib.hid (by omega)
  have HTR : Hid (∀ y ∈ dtold N.ref, y.tries ≤ 5) := Lib.hid (fun y hy => by
    obtain ⟨x, hx, rfl⟩ := List.mem_map.1 hy
    obtain ⟨hx1, _⟩ := List.mem_filter.1 hx
    obtain ⟨z, _, rfl⟩ := List.mem_map.1 hx1
    exact hf.tries z.key)
  have HLF : Hid (∀ y ∈ N.ref, -1 ≤ y.left ∧ y.left ≤ 131072) := Lib.hid (fun y hy => by
    obtain ⟨x, hx, rfl⟩ := List.mem_map.1 hy
    have := hf.ahead x hx
    show -1 ≤ x.due - N.q.now ∧ x.due - N.q.now ≤ 131072
    omega)
  have HTL := Lib.hid (fun i y h => dtold_step N.ref i y h)
  have HLN : Hid (N.ref.length = N.q.l.length) := Lib.hid N.ref_length
  obtain ⟨n, hnn⟩ : ∃ n, n = N.q.l.length := ⟨_, rfl⟩
  have HBW := Lib.hid hB
  have n1 : (n : Int) ≤ 64 := by omega
  have HAK : Hid ((0 : Int) ≤ (N.asked : Int) ∧ (N.asked : Int) ≤ 64000000) := Lib.hid (by omega)
  unfold NV
  obtain ⟨d0, d1, d2, d3⟩ := (HALL.out W (Below.refl _ _)).1.cells
  have HN64 : Hid (n ≤ 64) := Lib.hid (by omega)
  have HFLN : Hid ((N.tick t).ref.length = n) := Lib.hid (by rw [Nl.ref_length, k4, hnn])
  rw [← hnn] at HALL HRES HLN d3 HW ⊢
  clear hW hs hb hall h hf hj hn t1 t2 k1 k2 k3 k4 href hcame hlen hak hB hnn
  generalize hRR : RTick w B (N.tick t) (N.q.came 1) = RR at *
  have HRR := Lib.hid hRR
  clear hRR
  generalize (N.tick t).ref = FIN at *
  generalize hTT : dtold N.ref = T at *
  generalize hR0 : drest N.ref = R0 at *
  have HTT := Lib.hid hTT
  have HR0 := Lib.hid hR0
  clear hTT hR0
  go_enter Try.func58, Try.ntmps58
  go_upto_region 1 with fail
  rw [← HW.out]
  go_wp2
  go_loopw [6, 7, 8] (fun o1 o2 i wr => ∃ (j q r : Nat) (A3 : Option Addr) (C3 : Nat) (A2 : Option Addr) (C2 : Nat), j ≤ n ∧ q ≤ j ∧ r ≤ j ∧ i = .int .i64 (j : Int) ∧ o1 = .slice A3 q C3 ∧ o2 = .slice A2 r C2 ∧ Hid (OwnD wr W.heap.size (.slice A3 q C3) q (dtold (N.ref.take j))) ∧ Hid (OwnD wr W.heap.size (.slice A2 r C2) r (drest (N.ref.take j)) ∧ ∀ k, A3.map Addr.block = some k → A2.map Addr.block = some k → False) ∧ Hid (Below W.heap.size W wr)) (fun _ _ i _ => n - (intOf i).toNat)
  case atStart => exact ⟨0, 0, 0, none, 0, none, 0, Nat.zero_le _, Nat.le_refl _, Nat.le_refl _, rfl, rfl, rfl, Lib.hid (OwnD.none _ _), Lib.hid ⟨OwnD.none _ _, fun k h => by simp at h⟩, Lib.hid (Below.refl _ _)⟩
  case round =>
    obtain ⟨j, q, r, A3, C3, A2, C2, hj, hq, hr, rfl, rfl, rfl, HI, HO, HBR⟩ := hrel
    clear d0 d1 d2 d3
    obtain ⟨wo, hwo⟩ : ∃ wo, wo = wr := ⟨_, rfl⟩
    subst hwo
    obtain ⟨hx, hz, hdl, _⟩ := HALL.out wo HBR.out
    obtain ⟨d0, d1, d2, d3⟩ := hx.cells
    have HSZ := Lib.hid HBR.out.size
    by_cases hlt : j < n
    · obtain ⟨y, hy⟩ : ∃ y, N.ref[j]? = some y := ⟨_, List.getElem?_eq_getElem (by rw [HLN.out]; exact hlt)⟩
      obtain ⟨g, off, eA, hgl, c0, c1, c2⟩ := hdl.at_ j y hy
      subst eA
      have k1 : (j : Int) < (n : Int) := by omega
      have HLT := Lib.hid (⟨hlt, hq, hr⟩ : j < n ∧ q ≤ j ∧ r ≤ j)
      have HB1 : Hid (q + 1 ≤ 100000 ∧ r + 1 ≤ 100000) := Lib.hid (by have := HN64.out; omega)
      have HST := Lib.hid (HTL.out j y hy)
      have ylf := HLF.out y (List.mem_of_getElem? hy)
      have yl1 : -1 ≤ y.left := ylf.1
      have yl2 : y.left ≤ 131072 := ylf.2
      obtain ⟨y0, y1, y2⟩ := y
      dsimp only at c0 c1 c2 HST yl1 yl2
      have HBX : Hid (Below wo.heap.size wo (wo.alloc (.cells #[.int .u32 y0, .int .i64 (y1 - 1), .int .i64 (y2 : Int)] 125))) := Lib.hid ((Below.refl _ _).alloc (Nat.le_refl _) _)
      have hxb := XB.new wo y0 y1 (y2 : Int)
      obtain ⟨b0, b1, b2⟩ := hxb.cells
      have bf := hxb.frozen 1
      have HXB2 := Lib.hid (XB.new wo y0 (y1 - 1) (y2 : Int))
      clear hy hgl hdl hx hz hlt hq hr hj ylf hxb
      go_upto_region 8 with fail
      have hb8 := HBX.out
      obtain ⟨e0, e1, e2⟩ := HXB2.out.cells
      clear b0 b1 b2 bf c0 c1 c2 d0 d1 d2 d3
      generalize wo.alloc (.cells #[.int .u32 y0, .int .i64 (y1 - 1), .int .i64 (y2 : Int)] 125) = w8 at *
      have HB8 : Hid (Below wo.heap.size wo w8) := Lib.hid hb8
      have HI8 := Lib.hid (HI.out.below hb8 (Nat.le_refl _))
      have HO8 := Lib.hid (HO.out.1.below hb8 (Nat.le_refl _))
      have HSZ8 : Hid (W.heap.size ≤ w8.heap.size) := Lib.hid (Nat.le_trans HSZ.out hb8.size)
      have HBR8 : Hid (Below W.heap.size W w8) := Lib.hid (HBR.out.trans (hb8.mono HSZ.out))
      have HAL : Hid (∀ o, Below w8.heap.size w8 (w8.alloc o) ∧ W.heap.size ≤ (w8.alloc o).heap.size ∧ (w8.alloc o).heap.size = w8.heap.size + 1) := Lib.hid (fun o => ⟨(Below.refl _ _).alloc (Nat.le_refl _) _, by have := HSZ8.out; simp; omega, by simp⟩)
      have HAPT := Lib.hid HO.out.2
      clear hb8 HBX HXB2 HI HO
      by_cases hdue : y1 - 1 ≤ 0
      · have HT2 : Hid (dtold (N.ref.take (j + 1)) = dtold (N.ref.take j) ++ [⟨y0, y1 - 1, y2⟩] ∧ drest (N.ref.take (j + 1)) = drest (N.ref.take j)) := Lib.hid (by obtain ⟨p1, p2⟩ := HST.out; rw [if_pos hdue] at p1 p2; exact ⟨p1, p2⟩)
        clear HST
        go_wp2_with (first
          | (at_builtin; (with_reducible refine wpList_append_diL rfl (.tmp 33) (.tmp 35) rfl W.heap.size A3 q C3 rfl (dtold (N.ref.take j)) (HI8.out.below (HAL.out _).1 (Nat.le_refl _)) w8.heap.size rfl ⟨y0, y1 - 1, y2⟩ (di_new w8 ⟨y0, y1 - 1, y2⟩) HB1.out.1 (HAL.out _).2.1 ?_); intro A4 C4 w5 HO5 HG5 HP5)
          | fail)
        go_roundw
        case rel =>
          have hal := HAL.out (.cells #[.int .u32 y0, .int .i64 (y1 - 1), .int .i64 (y2 : Int)] 125)
          refine ⟨j + 1, q + 1, r, A4, C4, A2, C2, HLT.out.1, Nat.succ_le_succ HLT.out.2.1, Nat.le_succ_of_le HLT.out.2.2, by go_num, rfl, rfl, Lib.hid (by rw [HT2.out.1]; exact HO5.out), Lib.hid ⟨?_, fun k h4 h2 => ?_⟩, Lib.hid ?_⟩
          · rw [HT2.out.2]
            refine (HO8.out.below hal.1 (Nat.le_refl _)).keep (fun g hg => HG5.out.block g (by have := (HO8.out.lt g hg).2; omega) (fun e => ?_))
            rw [own_block] at hg
            exact HAPT.out g e.symm hg
          · rcases HP5.out with e | e
            · exact HAPT.out k (by rw [← e]; exact h4) h2
            · rw [e] at h4
              have := (HO8.out.lt k (by rw [own_block]; exact h2)).2
              simp at h4
              omega
          · exact below_grown (HBR8.out.trans (hal.1.mono HSZ8.out)) HG5.out hal.2.1 (fun k e => (HI8.out.lt k (by rw [own_block]; exact e)).1)
        case measure => simp [intOf] <;> (have := HLT.out; omega)
      · have HT2 : Hid (dtold (N.ref.take (j + 1)) = dtold (N.ref.take j) ∧ drest (N.ref.take (j + 1)) = drest (N.ref.take j) ++ [⟨y0, y1 - 1, y2⟩]) := Lib.hid (by obtain ⟨p1, p2⟩ := HST.out; rw [if_neg hdue] at p1 p2; exact ⟨p1, p2⟩)
        clear HST
        go_wp2_with (first
          | (at_builtin; (with_reducible refine wpList_append_diL rfl (.tmp 37) (.tmp 39) rfl W.heap.size A2 r C2 rfl (drest (N.ref.take j)) (HO8.out.below (HAL.out _).1 (Nat.le_refl _)) w8.heap.size rfl ⟨y0, y1 - 1, y2⟩ (di_new w8 ⟨y0, y1 - 1, y2⟩) HB1.out.2 (HAL.out _).2.1 ?_); intro A4 C4 w5 HO5 HG5 HP5)
          | fail)
        go_roundw
        case rel =>
          have hal := HAL.out (.cells #[.int .u32 y0, .int .i64 (y1 - 1), .int .i64 (y2 : Int)] 125)
          refine ⟨j + 1, q, r + 1, A3, C3, A4, C4, HLT.out.1, Nat.le_succ_of_le HLT.out.2.1, Nat.succ_le_succ HLT.out.2.2, by go_num, rfl, rfl, Lib.hid ?_, Lib.hid ⟨by rw [HT2.out.2]; exact HO5.out, fun k h3 h4 => ?_⟩, Lib.hid ?_⟩
          · rw [HT2.out.1]
            refine (HI8.out.below hal.1 (Nat.le_refl _)).keep (fun g hg => HG5.out.block g (by have := (HI8.out.lt g hg).2; omega) (fun e => ?_))
            rw [own_block] at hg
            exact HAPT.out g hg e.symm
          · rcases HP5.out with e | e
            · exact HAPT.out k h3 (by rw [← e]; exact h4)
            · rw [e] at h4
              have := (HI8.out.lt k (by rw [own_block]; exact h3)).2
              simp at h4
              omega
          · exact below_grown (HBR8.out.trans (hal.1.mono HSZ8.out)) HG5.out hal.2.1 (fun k e => (HO8.out.lt k (by rw [own_block]; exact e)).1)
        case measure => simp [intOf] <;> (have := HLT.out; omega)
    · obtain rfl : j = n := by omega
      have HEND : Hid (N.ref.take j = N.ref) := Lib.hid (List.take_of_length_le (by rw [HLN.out]; exact Nat.le_refl _))
      have HI9 : Hid (DL wo W.heap.size A3 q C3 T) := Lib.hid (by have := HI.out; rw [HEND.out, HTT.out] at this; exact this.dl)
      have HO9 : Hid (DL wo W.heap.size A2 r C2 R0) := Lib.hid (by have := HO.out.1; rw [HEND.out, HR0.out] at this; exact this.dl)
      have hq2 : q = T.length := HI9.out.len.symm
      have hr2 : r = R0.length := HO9.out.len.symm
      have hbo := (HALL.out wo HBR.out)
      have n3 : ¬ (j : Int) < (j : Int) := by omega
      have q64 : (q : Int) ≤ 64 := by omega
      have HST2 : Hid (T2 w W N.q.room N.full j A C (N.asked : Int) A3 C3 T A2 C2 R0 none 0 0 wo) := Lib.hid ⟨hbo.1, hbo.2.1, by rw [← hq2]; exact HI9.out, by rw [← hr2]; exact HO9.out, OwnW.none _ _, hbo.2.2.2, HSZ.out, by rw [HS.out]; omega⟩
      have HQR : Hid (q = T.length ∧ r = R0.length) := Lib.hid ⟨hq2, hr2⟩
      have q64 : (q : Int) ≤ 64 := by have := HN64.out; omega
      clear hx hz hdl hj hq hr hbo hq2 hr2 HI HO HI9 HO9 HALL HTL HLF HBR HSZ HEND HLN
      generalize (N.q.room : Int) = rm at *
      generalize (N.full : Int) = fl at *
      generalize hAA : (N.asked : Int) = ak at *
      clear hAA
      go_wp2
      clear d0 d1 d2 d3
      go_loopw [7, 10, 11] (fun sr so si w2 => ∃ (k m : Nat) (A7 : Option Addr) (C7 : Nat) (A10 : Option Addr) (C10 : Nat), k ≤ q ∧ si = .int .i64 (k : Int) ∧ sr = .slice A7 m C7 ∧ so = .slice A10 k C10 ∧ Hid (m = ((T.take k).foldl (dagain (hd t)) R0).length) ∧ Hid (T2 w W rm fl j A C (ak + (k : Int)) A3 C3 T A7 C7 ((T.take k).foldl (dagain (hd t)) R0) A10 C10 k w2)) (fun _ _ i _ => q - (intOf i).toNat)
      case atStart => exact ⟨0, r, A2, C2, none, 0, Nat.zero_le _, rfl, rfl, rfl, Lib.hid HQR.out.2, Lib.hid (by have := HST2.out; simpa using this)⟩
      case round =>
        obtain ⟨k, m, A7, C7, A10, C10, hkq, rfl, rfl, rfl, HMM, H2⟩ := hrel
        obtain ⟨wp, hwp⟩ : ∃ wp, wp = wr := ⟨_, rfl⟩
        subst hwp
        obtain ⟨d0, d1, d2, d3⟩ := H2.out.x.cells
        by_cases hlt2 : k < q
        · obtain ⟨y, hy⟩ : ∃ y, T[k]? = some y := ⟨_, List.getElem?_eq_getElem (by have := HQR.out; omega)⟩
          obtain ⟨g, off, eA, hgl, c0, c1, c2⟩ := H2.out.told.at_ k y hy
          subst eA
          have k1 : (k : Int) < (q : Int) := by omega
          have HLT := Lib.hid hlt2
          have htr := HTR.out y (List.mem_of_getElem? hy)
          obtain ⟨nn, hnn⟩ : ∃ nn, nn = min (y.tries + 1) 5 := ⟨_, rfl⟩
          have HNN : Hid (nn ≤ 5) := Lib.hid (by omega)
          have mt : (if (5 : Int) < (y.tries : Int) + 1 then (5 : Int) else (y.tries : Int) + 1) = (nn : Int) := by split <;> omega
          have tr5 : (y.tries : Int) ≤ 5 := by omega
          have tr0 : (0 : Int) ≤ (y.tries : Int) := by omega
          have HDA : Hid (dagain (hd t) ((T.take k).foldl (dagain (hd t)) R0) y = dput ⟨y.no, agn (hd t) nn, nn⟩ ((T.take k).foldl (dagain (hd t)) R0)) := Lib.hid (by rw [hnn]; rfl)
          have HFS := Lib.hid (fold_step (hd t) T R0 k y hy)
          have HNEXT : Hid (∀ {w9 w10 : World} {A' A11 : Option Addr} {C' C11 : Nat}, T3 W wp (A10.map Addr.block) wp.heap.size y.no (agn (hd t) nn) nn A' C' (k + 1) ((T.take k).map (fun y => y.no) ++ [y.no]) w9 → OwnD w10 w9.heap.size (.slice A11 (((T.take k).foldl (dagain (hd t)) R0).length + 1) C11) (((T.take k).foldl (dagain (hd t)) R0).length + 1) (dput ⟨y.no, agn (hd t) nn, nn⟩ ((T.take k).foldl (dagain (hd t)) R0)) → Below w9.heap.size w9 w10 →
              (w10.cell? ⟨w.heap.size, 1, none⟩ = some (.int .i64 (ak + (k : Int))) ∧ w10.frozen? ⟨w.heap.size, 1, none⟩ = false) ∧ T2 w W rm fl j A C (ak + (k : Int) + 1) (some ⟨g, off, none⟩) C3 T A11 C11 (dput ⟨y.no, agn (hd t) nn, nn⟩ ((T.take k).foldl (dagain (hd t)) R0)) A' C' (k + 1) (w10.setCell ⟨w.heap.size, 1, none⟩ (.int .i64 (ak + (k : Int) + 1)))) := Lib.hid (fun t3 ho hb => H2.out.next hy t3 ho hb)
          have HRL : Hid (((T.take k).foldl (dagain (hd t)) R0).length ≤ 64) := Lib.hid (by rw [fold_length, List.length_take]; have := HLE.out; have := Nat.min_le_right k T.length; omega)
          have HGR : Hid (∀ W', wp.grownBy W' (A10.map Addr.block) → DL W' W.heap.size A7 ((T.take k).foldl (dagain (hd t)) R0).length C7 ((T.take k).foldl (dagain (hd t)) R0)) := Lib.hid (fun W' hg => (H2.out.grow hg).2.2.2.1)
          have HOUT := Lib.hid H2.out.out
          have HSZ2 := Lib.hid H2.out.size
          have HXN := Lib.hid (XB.new wp y.no y.left (y.tries : Int))
          have HK100 : Hid (k + 1 ≤ 100000) := Lib.hid (by omega)
          obtain ⟨b0, b1, b2⟩ := HXN.out.cells
          have HSL : Hid (wp.heap.size < (wp.alloc (.cells #[.int .u32 y.no, .int .i64 y.left, .int .i64 (y.tries : Int)] 125)).heap.size ∧ Below wp.heap.size wp (wp.alloc (.cells #[.int .u32 y.no, .int .i64 y.left, .int .i64 (y.tries : Int)] 125))) := Lib.hid ⟨by simp, (Below.refl _ _).alloc (Nat.le_refl _) _⟩
          have HMR : Hid (m = ((T.take k).foldl (dagain (hd t)) R0).length) := HMM
          clear hy hgl hnn htr H2
          generalize (T.take k).foldl (dagain (hd t)) R0 = R at *
          generalize (T.take k).map (fun y => y.no) = L0 at *
          obtain ⟨y0, y1, y2⟩ := y
          dsimp only at *
          have HRED := Lib.hid HDA.out
          go_upto_region 16 with fail
          generalize wp.alloc (.cells #[.int .u32 y0, .int .i64 y1, .int .i64 (y2 : Int)] 125) = wq at *
          clear c0 c1 c2
          have HOQ := Lib.hid (HOUT.out.below HSL.out.2 (Nat.le_refl _))
          have HSQ : Hid (W.heap.size ≤ wq.heap.size) := Lib.hid (by have := HSL.out.1; have := HSZ2.out; omega)
          have HFIN5 : Hid (∀ A5 C5 w5, OwnW w5 W.heap.size (.slice A5 (k + 1) C5) (k + 1) (L0 ++ [y0]) → (wq.alloc (.cells #[.int .u32 y0] 28)).grownBy w5 (A10.map Addr.block) → T3 W wp (A10.map Addr.block) wp.heap.size y0 y1 y2 A5 C5 (k + 1) (L0 ++ [y0]) w5) := Lib.hid (fun A5 C5 w5 ho hg => by
            have hq := HSL.out
            have hb1 : Below wq.heap.size wq (wq.alloc (.cells #[.int .u32 y0] 28)) := (Below.refl _ _).alloc (Nat.le_refl _) _
            have hb2 : Below wp.heap.size wp (wq.alloc (.cells #[.int .u32 y0] 28)) := hq.2.trans (hb1.mono (by omega))
            have hne : some wp.heap.size ≠ A10.map Addr.block := fun e => by have := (HOUT.out.lt wp.heap.size (by rw [own_block]; exact e.symm)).2; omega
            refine ⟨⟨hg.os.trans hb2.os, hg.tape.trans hb2.tape, hg.output.trans hb2.output, Nat.le_trans hb2.size hg.size, fun i hi hr => (hg.block i (Nat.lt_of_lt_of_le hi hb2.size) hr).trans (hb2.block i hi)⟩, ?_, ho, Nat.le_refl _⟩
            exact HXN.out.keep ((hg.block _ (by have := hb1.size; omega) hne).trans (hb1.block _ hq.1)))
          go_upto_region 17 with (first
            | (at_builtin; (with_reducible refine wpList_append_wG rfl (.tmp 51) (.tmp 54) rfl W.heap.size A10 k C10 rfl L0 (HOQ.out.below ((Below.refl _ _).alloc (Nat.le_refl _) _) (Nat.le_refl _)) wq.heap.size rfl y0 (by simp [go_sem]) HK100.out (Nat.le_trans HSQ.out (Nat.le_of_lt (lt_alloc _ _))) ?_); intro A5 C5 w5 HO5 HB5 HG5)
            | fail)
          have HT5 := Lib.hid (HFIN5.out A5 C5 w5 HO5.out HG5.out)
          clear b0 b1 b2 HFIN5 HO5 HB5 HG5 HOQ HSQ
          obtain ⟨b0, b1, b2⟩ := HT5.out.box.cells
          have bf := HT5.out.box.frozen 2
          go_upto_region 18 with fail
          have HT6 := Lib.hid (HT5.out.setTries (nn : Int))
          clear b0 b1 b2 bf mt tr5 tr0
          generalize w5.setCell ⟨wp.heap.size, 2, none⟩ (.int .i64 (nn : Int)) = w6 at *
          obtain ⟨b0, b1, b2⟩ := HT6.out.box.cells
          have bf := HT6.out.box.frozen 1
          have CHD := Lib.hid (fun w => rheld_any t w)
          have HAGN : Hid (∀ z, z = hd t * 2 ^ nn → max (hd t) (min z 100) = agn (hd t) nn) := Lib.hid (fun z hz => by rw [hz]; exact agn_ref HT.out.1 HNN.out)
          have HPW : Hid (∀ kk : Nat, kk ≤ nn → 1 ≤ hd t * 2 ^ kk ∧ hd t * 2 ^ kk ≤ 131072) := Lib.hid (fun kk hkk => by
            obtain ⟨p1, p2⟩ := two_pow_in kk (by have := HNN.out; omega)
            have h1 := HT.out
            have c1 : hd t * 1 ≤ hd t * 2 ^ kk := Int.mul_le_mul_of_nonneg_left p1 (by omega)
            have c2 : hd t * 2 ^ kk ≤ 4096 * 32 := Int.mul_le_mul h1.2 p2 (by omega) (by omega)
            omega)
          go_upto_region 19 with (first
            | (go_at_call 82; (with_reducible refine (CHD.out _).mono ?_); rintro e w7 ⟨rfl, rfl⟩)
            | fail)
          have HT7 := Lib.hid (HT6.out.setLeft (hd t))
          clear b0 b1 b2 bf
          generalize w7.setCell ⟨wp.heap.size, 1, none⟩ (.int .i64 (hd t)) = w8 at *
          have nn5 : (nn : Int) ≤ 5 := by have := HNN.out; omega
          go_wp2
          go_loopw [13] (fun sk w9 => ∃ kk : Nat, kk ≤ nn ∧ sk = .int .i64 (kk : Int) ∧ Hid (T3 W wp (A10.map Addr.block) wp.heap.size y0 (hd t * 2 ^ kk) nn A5 C5 (k + 1) (L0 ++ [y0]) w9)) (fun i _ => nn - (intOf i).toNat)
          case atStart => exact ⟨0, Nat.zero_le _, rfl, Lib.hid (by have := HT7.out; rw [show hd t * 2 ^ 0 = hd t by omega]; exact this)⟩
          case round =>
            obtain ⟨kk, hkk, rfl, H9⟩ := hrel
            obtain ⟨wt, hwt⟩ : ∃ wt, wt = wr := ⟨_, rfl⟩
            subst hwt
            obtain ⟨b0, b1, b2⟩ := H9.out.box.cells
            have bf := H9.out.box.frozen 1
            have hpw := HPW.out kk hkk
            obtain ⟨zk, hzk⟩ : ∃ zk, zk = hd t * 2 ^ kk := ⟨_, rfl⟩
            rw [← hzk] at hpw b1
            by_cases hlt3 : kk < nn
            · have hi : (kk : Int) < (nn : Int) := by omega
              have z1 : zk ≤ 131072 := hpw.2
              have z0 : 1 ≤ zk := hpw.1
              have HS9 : Hid (T3 W wp (A10.map Addr.block) wp.heap.size y0 (hd t * 2 ^ (kk + 1)) nn A5 C5 (k + 1) (L0 ++ [y0]) (wt.setCell ⟨wp.heap.size, 1, none⟩ (.int .i64 (zk * 2)))) := Lib.hid (by
                have := H9.out.setLeft (zk * 2)
                rwa [show zk * 2 = hd t * 2 ^ (kk + 1) by rw [hzk, Int.pow_succ, Int.mul_assoc]] at this ⊢)
              have HLT3 := Lib.hid hlt3
              clear hpw hzk hlt3
              go_wp2
              go_roundw
              case rel => exact ⟨kk + 1, HLT3.out, by go_num, HS9⟩
              case measure => simp [intOf] <;> (have := HLT3.out; omega)
            · obtain rfl : kk = nn := by omega
              have hi : ¬ (kk : Int) < (kk : Int) := by omega
              have HAZ := Lib.hid (HAGN.out zk hzk)
              have z1 : zk ≤ 131072 := hpw.2
              have z0 : 1 ≤ zk := hpw.1
              have H9b : Hid (T3 W wp (A10.map Addr.block) wp.heap.size y0 zk kk A5 C5 (k + 1) (L0 ++ [y0]) wt) := Lib.hid (by rw [hzk]; exact H9.out)
              clear hpw hzk hlt3 H9 b0 b1 b2 bf
              obtain ⟨b0, b1, b2⟩ := H9b.out.box.cells
              go_upto_region 23 with fail
              obtain ⟨m1, hm1⟩ : ∃ m1, m1 = min zk 100 := ⟨_, rfl⟩
              obtain ⟨zz, hzz⟩ : ∃ zz, zz = agn (hd t) kk := ⟨_, rfl⟩
              have mn1 : (if (100 : Int) < zk then (100 : Int) else zk) = m1 := by rw [hm1]; split <;> omega
              have mx1 : (if hd t < m1 then m1 else hd t) = zz := by rw [hzz, ← HAZ.out, ← hm1]; split <;> omega
              have CHT : Hid (∀ w', Below wt.heap.size wt w' → Calls Try.prog 82 #[.int .i64 t] w' fun e w1 => e = .returned (.int .i64 (hd t)) ∧ Below wt.heap.size wt w1) := Lib.hid (fun w' hb => (rheld_any t w').mono fun _ _ hh => ⟨hh.1, by rw [hh.2]; exact hb⟩)
              have HLB : Hid (∀ w', Below wt.heap.size wt w' → w'.cell? ⟨wp.heap.size, 1, none⟩ = some (.int .i64 zk)) := Lib.hid (fun w' hb => (H9b.out.below hb).box.cells.2.1)
              rw [← hzz] at HRED HNEXT
              clear b0 b1 b2 hm1 HAZ HAGN HPW
              clear hzz
              refine (wpIn_wide (n := 3)).1 ?_
              refine wpIn_grow_take (fun w' => Below wt.heap.size wt w') (Below.refl _ _).drew 7 rfl (by kernel_rfl) (by kernel_rfl) (by kernel_rfl) ?_
              simp only [List.take_succ_cons, List.take_zero]
              (refine wpQuietIn_step (fun _ _ _ _ => trivial) (fun K hK => ?_); go_simp; refine ⟨_, fun _ _ => rfl, hK _ ?_⟩; clear hK K)
              refine wpQuietIn_step (fun _ _ _ _ => trivial) (fun K hK => ?_)
              go_simp
              refine ⟨.int .i64 (hd t), fun w' hw => callsIn_wide.2 (CHT.out w' hw), hK _ ?_⟩
              clear hK K
              (refine wpQuietIn_step (fun _ _ _ _ => trivial) (fun K hK => ?_); go_simp; refine ⟨_, fun _ _ => rfl, hK _ ?_⟩; clear hK K)
              refine wpQ_readw (.int .i64 zk) (fun _ _ _ _ => trivial) rfl (fun w' hw => ?_) ?_
              · have e1 := HLB.out w' hw
                unfold Oper.quietAtIn
                go_simp
              simp only [Act.put, List.setIfInBounds_toArray, List.set_cons_zero, List.set_cons_succ]
              refine wpQ_readw (.int .i64 m1) (fun _ _ _ _ => trivial) rfl (fun w' hw => ?_) ?_
              · unfold Oper.quietAtIn
                go_simp
              simp only [Act.put, List.setIfInBounds_toArray, List.set_cons_zero, List.set_cons_succ]
              refine wpQ_readw (.int .i64 zz) (fun _ _ _ _ => trivial) rfl (fun w' hw => ?_) ?_
              · unfold Oper.quietAtIn
                go_simp
              simp only [Act.put, List.setIfInBounds_toArray, List.set_cons_zero, List.set_cons_succ]
              (refine wpQuietIn_step (fun _ _ _ _ => trivial) (fun K hK => ?_); go_simp; refine ⟨_, fun _ _ => rfl, hK _ ?_⟩; clear hK K)
              refine wpQuietIn_nil ?_
              rintro wu hwu
              have H10 := Lib.hid (H9b.out.below hwu)
              have bc := H10.out.box.cells.2.1
              have bf := H10.out.box.frozen 1
              clear hwu mn1 mx1 z0 z1
              gi_wp2
              have H11 := Lib.hid (H10.out.setLeft zz)
              clear bc bf H9b H10 CHT HLB
              generalize wu.setCell ⟨wp.heap.size, 1, none⟩ (.int .i64 zz) = wv at *
              obtain ⟨b0, b1, b2⟩ := H11.out.box.cells
              have CP : Hid (Calls Try.prog 81 #[.slice A7 m C7, .agg #[.int .u32 y0, .int .i64 zz, .int .i64 (kk : Int)]] wv fun e w1 => ∃ A11 C11, e = .returned (.slice A11 (m + 1) C11) ∧ Hid (OwnD w1 wv.heap.size (.slice A11 (R.length + 1) C11) (R.length + 1) (dput ⟨y0, zz, kk⟩ R) ∧ Below wv.heap.size wv w1)) := Lib.hid (by
                have hr := rput_any ⟨y0, zz, kk⟩ W.heap.size A7 R.length C7 R (by have := HRL.out; omega) wv (HGR.out wv H11.out.grown)
                rw [HMR.out]
                refine hr.mono ?_
                rintro e w1 ⟨A11, C11, rfl, ho, hb⟩
                exact ⟨A11, C11, rfl, Lib.hid ⟨ho.out, hb.out⟩⟩)
              have ak0 : (0 : Int) ≤ ak + (k : Int) := by have := HAK.out; omega
              have ak1 : ak + (k : Int) ≤ 65000000 := by have := HAK.out; omega
              obtain ⟨av, hav⟩ : ∃ av, av = ak + (k : Int) := ⟨_, rfl⟩
              have HAV := Lib.hid hav
              rw [← hav] at ak0 ak1 HNEXT
              clear hav
              go_wp2_with (first
                | (go_at_call 81; (with_reducible refine (CP.out).mono ?_); rintro e wx ⟨A11, C11, rfl, HPO⟩; obtain ⟨⟨xc, xf⟩, hnx⟩ := HNEXT.out H11.out HPO.out.1 HPO.out.2; have HNX := Lib.hid hnx; clear hnx b0 b1 b2)
                | fail)
              go_roundw
              case rel =>
                refine ⟨k + 1, m + 1, A11, C11, A5, C5, HLT.out, by go_num, rfl, rfl, Lib.hid ?_, Lib.hid ?_⟩
                · rw [HFS.out, HRED.out, dput_length, HMR.out]
                · rw [HFS.out, HRED.out]
                  have := HNX.out
                  rw [HAV.out] at this ⊢
                  rw [show ak + ((k + 1 : Nat) : Int) = ak + (k : Int) + 1 by omega]
                  exact this
              case measure => simp [intOf] <;> (have := HLT.out; omega)
        · obtain rfl : k = q := by omega
          have HTK : Hid (T.take k = T) := Lib.hid (List.take_of_length_le (by rw [HQR.out.1]; exact Nat.le_refl _))
          have HMF : Hid (m = FIN.length) := Lib.hid (by rw [HMM.out, HTK.out, HREF.out])
          have HF2 : Hid (T2 w W rm fl j A C (ak + (k : Int)) A3 C3 T A7 C7 FIN A10 C10 k wp) := Lib.hid (by
            have := H2.out
            rw [HTK.out, ← HREF.out] at this
            exact this)
          have hx := HF2.out.x
          have hz := HF2.out.z
          have hi : ¬ (k : Int) < (k : Int) := by omega
          obtain ⟨z0, z1, z2, z3⟩ := hz.cells
          have df := hx.frozen 3
          have zf0 := hz.frozen 0
          have zf1 := hz.frozen 1
          have zf2 := hz.frozen 2
          have zf3 := hz.frozen 3
          clear hx hz
          go_wp2
          obtain rfl : m = j := by rw [HMF.out, HFLN.out]
          obtain rfl := HQR.out.1
          refine bodyPost_ret (v := .tuple #[.agg #[.int .i64 rm, .int .i64 (ak + (T.length : Int)), .int .i64 fl, .slice A7 m C7], .slice A10 T.length C10]) (by simp [results, Try.results58, go_sem, z0, z1, z2, z3]) rfl ?_
          exact HRES.out wp A7 C7 A10 C10 HF2.out.rest (by have := HF2.out.out; rwa [HTK.out] at this) HF2.out.bel
end Go.Proofs.Ytnffngbkidehfaa.Nk
