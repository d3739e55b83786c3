/-
  Own text: the document's Start, walked.
-/
import Derived.Test.YthkckgdhaihmoaaTmR
import Derived.Deep.DeepCutAuto
namespace Go.Proofs.Ythkckgdhaihmoaa
open Go.RowKit

/-- What the document's Start answers. -/
def RStart (w : World) (B : Nat) (Q : Qn) (c : Int) (e : Ending) (w' : World) : Prop :=
  ∃ A C, e = .returned (.tuple #[DV Q.room Q.now A Q.l.length C, .int .i64 c]) ∧ Hid (DL w' B A Q.l.length C Q.l) ∧ Hid (Below w.heap.size w w')
/-- A struct is answered as it came. -/
theorem rsame_fin {w W : World} {B n C : Nat} {A : Option Addr} {l : List It} (h : DL W B A n C l) (hbx : DBx W (w.heap.size + 1) 0 0 (.slice none 0 0)) (hb : Below w.heap.size w W) (x y z : Value) :
    DL (((W.setCell ⟨w.heap.size + 1, 0, none⟩ x).setCell ⟨w.heap.size + 1, 1, none⟩ y).setCell ⟨w.heap.size + 1, 2, none⟩ z) B A n C l ∧ Below w.heap.size w (((W.setCell ⟨w.heap.size + 1, 0, none⟩ x).setCell ⟨w.heap.size + 1, 1, none⟩ y).setCell ⟨w.heap.size + 1, 2, none⟩ z) := by
  refine ⟨h.keep (fun g cur _ _ hg => three_far _ _ _ _ _ g (fun e => ?_)), three_below hb _ (Nat.le_succ _) _ _ _⟩
  subst e
  unfold DBx at hbx
  rw [hg] at hbx
  simp at hbx
set_option maxRecDepth 100000 in
theorem rstart_range (k t : Int) (ht : t < 1 ∨ 1099511627776 < t) (Q : Qn) (B : Nat) (A : Option Addr) (C : Nat) (w : World) (h : DL w B A Q.l.length C Q.l) :
    Calls Try.prog 27 #[DV Q.room Q.now A Q.l.length C, .int .i64 k, .int .i64 t] w (RStart w B Q 1) := by
  obtain ⟨W, hW⟩ : ∃ W, W = (w.alloc (.cells #[.int .i64 (Q.room : Int), .int .i64 Q.now, .slice A Q.l.length C] 27)).alloc (.cells #[.int .i64 0, .int .i64 0, .slice none 0 0] 27) := ⟨_, rfl⟩
  obtain ⟨hs, hb, hall⟩ := dboxes (room := Q.room) (now := Q.now) h W hW
  obtain ⟨hx, hz, hd⟩ := hall W (Below.refl _ _)
  have HFIN := Lib.hid (fun x y z => rsame_fin hd hz hb x y z)
  obtain ⟨d0, d1, d2⟩ := hx.cells
  obtain ⟨z0, z1, z2⟩ := hz.cells
  have zf0 := hz.frozen 0
  have zf1 := hz.frozen 1
  have zf2 := hz.frozen 2
  have HW := Lib.hid hW
  unfold DV
  clear hW hs hb hall hx hz hd h
  by_cases h1 : t < 1
  · clear ht
    go_enter Try.func27, Try.ntmps27
    go_upto_region 1 with fail
    rw [← HW.out]
    go_wp2
    refine bodyPost_ret (v := .tuple #[.agg #[.int .i64 (Q.room : Int), .int .i64 Q.now, .slice A Q.l.length C], .int .i64 1]) (by simp [results, Try.results27, go_sem, z0, z1, z2]) rfl ?_
    exact ⟨A, C, rfl, Lib.hid (HFIN.out _ _ _).1, Lib.hid (HFIN.out _ _ _).2⟩
  · have h2 : 1099511627776 < t := by omega
    clear ht
    go_enter Try.func27, Try.ntmps27
    go_upto_region 1 with fail
    rw [← HW.out]
    go_wp2
    refine bodyPost_ret (v := .tuple #[.agg #[.int .i64 (Q.room : Int), .int .i64 Q.now, .slice A Q.l.length C], .int .i64 1]) (by simp [results, Try.results27, go_sem, z0, z1, z2]) rfl ?_
    exact ⟨A, C, rfl, Lib.hid (HFIN.out _ _ _).1, Lib.hid (HFIN.out _ _ _).2⟩
/-- What Without tells, as the code has it. -/
theorem dwo_cut {k : Int} {l : List It} (h : l.Pairwise (fun a b => a.key ≠ b.key)) : dwo k l = cutK k l := (cutK_filter h).symm
theorem was_has {k : Int} {l : List It} : (decide (((cutK k l).length : Int) < (l.length : Int))) = hasK k l := by
  unfold hasK
  rw [cutK_length]
  by_cases h : fidx k l < l.length
  · rw [if_pos h, decide_eq_true h]
    exact decide_eq_true (by omega)
  · rw [if_neg h, decide_eq_false h]
    exact decide_eq_false (by omega)
/-- Without's answer, on a set. -/
theorem rwo_any (k : Int) (Q : Qn) (hf : Q.fit) (B : Nat) (A : Option Addr) (C : Nat) (w : World) (h : DL w B A Q.l.length C Q.l) :
    Calls Try.prog 28 #[DV Q.room Q.now A Q.l.length C, .int .i64 k] w fun e w' => ∃ A2 C2, e = .returned (.tuple #[DV Q.room Q.now A2 (cutK k Q.l).length C2, .bool (hasK k Q.l)]) ∧ Hid (DL w' w.heap.size A2 (cutK k Q.l).length C2 (cutK k Q.l)) ∧ Hid (Below w.heap.size w w') := by
  have := rwithout_any Q.room Q.now k B A Q.l.length C Q.l (by have := hf.len; have := hf.hi; omega) w h
  unfold RWithout at this
  rw [dwo_cut hf.apart, was_has] at this
  exact this
set_option maxRecDepth 100000 in
theorem rstart_full (k t : Int) (h1 : 1 ≤ t) (h2 : t ≤ 1099511627776) (Q : Qn) (hf : Q.fit) (hk : hasK k Q.l = false) (hfull : Q.l.length = Q.room) (B : Nat) (A : Option Addr) (C : Nat) (w : World) (h : DL w B A Q.l.length C Q.l) :
    Calls Try.prog 27 #[DV Q.room Q.now A Q.l.length C, .int .i64 k, .int .i64 t] w (RStart w B Q 2) := by
  obtain ⟨W, hW⟩ : ∃ W, W = (w.alloc (.cells #[.int .i64 (Q.room : Int), .int .i64 Q.now, .slice A Q.l.length C] 27)).alloc (.cells #[.int .i64 0, .int .i64 0, .slice none 0 0] 27) := ⟨_, rfl⟩
  obtain ⟨hs, hb, hall⟩ := dboxes (room := Q.room) (now := Q.now) h W hW
  obtain ⟨hx, hz, hd⟩ := hall W (Below.refl _ _)
  have CW := Lib.hid (rwo_any k Q hf B A C W hd)
  rw [hk] at CW
  have HALL : Hid (∀ w', Below W.heap.size W w' → DBx w' w.heap.size Q.room Q.now (.slice A Q.l.length C) ∧ DBx w' (w.heap.size + 1) 0 0 (.slice none 0 0) ∧ (∀ x y z, DL (((w'.setCell ⟨w.heap.size + 1, 0, none⟩ x).setCell ⟨w.heap.size + 1, 1, none⟩ y).setCell ⟨w.heap.size + 1, 2, none⟩ z) B A Q.l.length C Q.l ∧ Below w.heap.size w (((w'.setCell ⟨w.heap.size + 1, 0, none⟩ x).setCell ⟨w.heap.size + 1, 1, none⟩ y).setCell ⟨w.heap.size + 1, 2, none⟩ z))) := Lib.hid (fun w' h' => by
    obtain ⟨a1, a2, a3⟩ := hall w' h'
    exact ⟨a1, a2, fun x y z => rsame_fin a3 a2 (hb.trans (h'.mono (by omega))) x y z⟩)
  obtain ⟨d0, d1, d2⟩ := hx.cells
  have HW := Lib.hid hW
  have i1 : (Q.room : Int) ≤ (Q.l.length : Int) := by omega
  unfold DV at *
  clear hW hs hb hall hx hz hd h hf hk hfull
  generalize (cutK k Q.l).length = n2 at *
  go_enter Try.func27, Try.ntmps27
  go_upto_region 1 with fail
  rw [← HW.out]
  go_upto_region 4 with (first
    | (go_at_call 28; (with_reducible refine (CW.out).mono ?_); rintro e w2 ⟨A2, C2, rfl, HD2, HB2⟩)
    | fail)
  obtain ⟨W3, hW3⟩ : ∃ W3, W3 = w2.alloc (.cells #[.int .i64 (Q.room : Int), .int .i64 Q.now, .slice A2 n2 C2] 27) := ⟨_, rfl⟩
  rw [← hW3]
  obtain ⟨hx3, hz3, hfin⟩ := HALL.out W3 (by rw [hW3]; exact HB2.out.alloc HB2.out.size _)
  clear hW3 d0 d1 d2
  obtain ⟨d0, d1, d2⟩ := hx3.cells
  obtain ⟨z0, z1, z2⟩ := hz3.cells
  have zf0 := hz3.frozen 0
  have zf1 := hz3.frozen 1
  have zf2 := hz3.frozen 2
  have HFIN := Lib.hid hfin
  clear hx3 hz3 hfin
  go_wp2
  refine bodyPost_ret (v := .tuple #[.agg #[.int .i64 (Q.room : Int), .int .i64 Q.now, .slice A Q.l.length C], .int .i64 2]) (by simp [results, Try.results27, go_sem, z0, z1, z2]) rfl ?_
  exact ⟨A, C, rfl, Lib.hid (HFIN.out _ _ _).1, Lib.hid (HFIN.out _ _ _).2⟩
set_option maxRecDepth 100000 in
set_option maxHeartbeats 1000000 in
theorem rstart_ok (k t : Int) (Q : Qn) (hc : Q.code k t = 0) (hf : Q.fit) (B : Nat) (A : Option Addr) (C : Nat) (w : World) (hB : B ≤ w.heap.size) (h : DL w B A Q.l.length C Q.l) :
    Calls Try.prog 27 #[DV Q.room Q.now A Q.l.length C, .int .i64 k, .int .i64 t] w (RStart w B (Q.start k t) 0) := by
  obtain ⟨h1, h2, h3⟩ := Qn.code_ok hc
  have hst : Q.start k t = ⟨Q.room, Q.now, ins ⟨k, Q.now + t⟩ (cutK k Q.l)⟩ := by unfold Qn.start; rw [if_pos hc]
  have m1 := hf.now0
  have m2 := hf.now1
  have hn : Q.l.length ≤ 256 := by have := hf.len; have := hf.hi; omega
  have hn2 : (cutK k Q.l).length ≤ 256 := Nat.le_trans (cutK_sub k Q.l).length_le hn
  obtain ⟨W, hW⟩ : ∃ W, W = (w.alloc (.cells #[.int .i64 (Q.room : Int), .int .i64 Q.now, .slice A Q.l.length C] 27)).alloc (.cells #[.int .i64 0, .int .i64 0, .slice none 0 0] 27) := ⟨_, rfl⟩
  obtain ⟨hs, hb, hall⟩ := dboxes (room := Q.room) (now := Q.now) h W hW
  obtain ⟨hx, hz, hd⟩ := hall W (Below.refl _ _)
  have CW := Lib.hid (rwo_any k Q hf B A C W hd)
  obtain ⟨l, hl⟩ : ∃ l, l = cutK k Q.l := ⟨_, rfl⟩
  obtain ⟨n, hnn⟩ : ∃ n, n = l.length := ⟨_, rfl⟩
  obtain ⟨d, hdd⟩ : ∃ d, d = Q.now + t := ⟨_, rfl⟩
  obtain ⟨p, hp⟩ : ∃ p, p = dpos d l := ⟨_, rfl⟩
  obtain ⟨D, hD⟩ : ∃ D, D = ins ⟨k, d⟩ l := ⟨_, rfl⟩
  have hpn : p ≤ n := by rw [hp, hnn]; exact dpos_le d l
  rw [← hl] at CW hn2
  rw [← hnn] at CW hn2
  have HST : Hid (Q.start k t = ⟨Q.room, Q.now, D⟩) := Lib.hid (by rw [hst, ← hdd, ← hl, hD])
  have HL : Hid (l.length = n) := Lib.hid hnn.symm
  have HP := Lib.hid hp
  have HD := Lib.hid hD
  have HDL : Hid (D.length = n + 1) := Lib.hid (by rw [hD, ins_length, hnn])
  have HALL0 := Lib.hid hall
  have HS := Lib.hid hs
  have HB := Lib.hid hb
  have HBW := Lib.hid hB
  obtain ⟨d0, d1, d2⟩ := hx.cells
  have HW := Lib.hid hW
  have hnt : Q.now + t = d := hdd.symm
  have b1 : (0 : Int) ≤ d := by omega
  have b2 : d ≤ 2199023255552 := by omega
  have n1 : (n : Int) ≤ 1000 := by omega
  have HN : Hid (n ≤ 1000) := Lib.hid (by omega)
  have H3 := Lib.hid h3
  have HROOM : Hid (hasK k Q.l = false → Q.l.length < Q.room) := Lib.hid (fun e => by have := hf.len; have : ¬ Q.l.length = Q.room := fun e2 => h3 ⟨e, e2⟩; omega)
  unfold DV at *
  clear hW hs hb hall hx hz hd h hf hst hl hnn hp hD hn hn2 hc h3 hdd hB
  clear H3
  generalize Q.l.length = n0 at *
  generalize hasK k Q.l = f at *
  go_enter Try.func27, Try.ntmps27
  go_upto_region 1 with fail
  rw [← HW.out]
  go_upto_region 4 with (first
    | (go_at_call 28; (with_reducible refine (CW.out).mono ?_); rintro e w2 ⟨A2, C2, rfl, HD2, HB2⟩)
    | fail)
  obtain ⟨W3, hW3⟩ : ∃ W3, W3 = w2.alloc (.cells #[.int .i64 (Q.room : Int), .int .i64 Q.now, .slice A2 n C2] 27) := ⟨_, rfl⟩
  rw [← hW3]
  have hb3 : Below W.heap.size W W3 := by rw [hW3]; exact HB2.out.alloc HB2.out.size _
  have hbn : Below w2.heap.size w2 W3 := by rw [hW3]; exact (Below.refl _ _).alloc (Nat.le_refl _) _
  have hs3 : w2.heap.size < W3.heap.size := by rw [hW3]; simp
  have hx3 : DBx W3 w2.heap.size Q.room Q.now (.slice A2 n C2) := by rw [hW3]; exact DBx.new w2 _ _ _
  have hd3 : DL W3 W.heap.size A2 n C2 l := HD2.out.below hbn (Nat.le_refl _)
  have HALL : Hid (∀ w', Below W3.heap.size W3 w' → DBx w' w.heap.size Q.room Q.now (.slice A n0 C) ∧ DBx w' (w.heap.size + 1) 0 0 (.slice none 0 0) ∧ DBx w' w2.heap.size Q.room Q.now (.slice A2 n C2) ∧ DL w' W.heap.size A2 n C2 l ∧ Below w.heap.size w w') := Lib.hid (fun w' h' => by
    have hb' := hb3.trans (h'.mono hb3.size)
    obtain ⟨a1, a2, _⟩ := HALL0.out w' hb'
    exact ⟨a1, a2, hx3.below h' hs3, hd3.below h' (Nat.le_refl _), HB.out.trans (hb'.mono (by have := HS.out; omega))⟩)
  have HYES : Hid (∀ (WW : World) (A : Option Addr) (C : Nat), OwnD WW W3.heap.size (.slice A (n + 1) C) (n + 1) D → Below W3.heap.size W3 WW → RStart w B (Q.start k t) 0 (.returned (.tuple #[.agg #[.int .i64 (Q.room : Int), .int .i64 Q.now, .slice A (n + 1) C], .int .i64 0]))
      ((((WW.setCell ⟨w2.heap.size, 2, none⟩ (.slice A (n + 1) C)).setCell ⟨w.heap.size + 1, 0, none⟩ (.int .i64 (Q.room : Int))).setCell ⟨w.heap.size + 1, 1, none⟩ (.int .i64 Q.now)).setCell ⟨w.heap.size + 1, 2, none⟩ (.slice A (n + 1) C))) := Lib.hid (fun WW A C ho h' => by
    have hww := (HALL.out WW h').2.2.2.2
    have hsz := HB2.out.size
    have h9 := HS.out
    have hB9 := HBW.out
    rw [HST.out]
    refine ⟨A, C, ?_, Lib.hid ?_, Lib.hid ?_⟩
    · show _ = Ending.returned (.tuple #[DV Q.room Q.now A D.length C, .int .i64 0])
      rw [HDL.out]
      rfl
    · show DL _ B A D.length C D
      rw [HDL.out]
      refine (ho.dl.keep (fun g _ _ hg _ => ?_)).low (by omega)
      rw [three_far _ _ _ _ _ g (by omega), Below.heap_setCell _ ⟨w2.heap.size, 2, none⟩ _ g (by show g ≠ w2.heap.size; omega)]
    · exact three_below (hww.setCell (p := ⟨w2.heap.size, 2, none⟩) (by show w.heap.size ≤ w2.heap.size; omega) _) _ (Nat.le_succ _) _ _ _)
  clear hW3
  go_cut [36] (fun s wx => s = .bool false ∧ Hid (wx = W3))
  case first =>
    obtain ⟨a1, _, _⟩ := HALL.out W3 (Below.refl _ _)
    obtain ⟨e0, e1, e2⟩ := a1.cells
    clear d0 d1 d2
    cases f with
    | true =>
      go_wp2
      go_meet
      exact ⟨rfl, Lib.hid rfl⟩
    | false =>
      have hr := HROOM.out rfl
      have i1 : ¬ (Q.room : Int) ≤ (n0 : Int) := by omega
      go_wp2
      go_meet
      exact ⟨rfl, Lib.hid rfl⟩
  case rest =>
    obtain ⟨rfl, HWC⟩ := hcut
    obtain rfl := HWC.out
    clear hb3 hbn hx3 hd3 CW d0 d1 d2
    obtain ⟨a1, a2, a3, a4, _⟩ := HALL.out wc (Below.refl _ _)
    obtain ⟨d0, d1, d2⟩ := a1.cells
    obtain ⟨e0, e1, e2⟩ := a3.cells
    clear a1 a2 a3 a4
    go_wp2
    go_loopw [11, 12, 13] (fun o inn i wr => ∃ (j m : Nat) (A3 : Option Addr) (C3 : Nat), j ≤ n ∧ i = .int .i64 (j : Int) ∧ inn = .bool (decide (p < j)) ∧ o = .slice A3 m C3 ∧ Hid (m = if p < j then j + 1 else j) ∧ Hid (OwnD wr wc.heap.size (.slice A3 m C3) m (D.take m)) ∧ Hid (Below wc.heap.size wc wr)) (fun _ _ i _ => n - (intOf i).toNat)
    case atStart => exact ⟨0, 0, none, 0, Nat.zero_le _, rfl, by simp, rfl, Lib.hid (by simp), Lib.hid (OwnD.none _ _), Lib.hid (Below.refl _ _)⟩
    case round =>
      obtain ⟨j, m, A3, C3, hj, rfl, rfl, rfl, HM, HO, HBR⟩ := hrel
      clear d0 d1 d2 e0 e1 e2
      obtain ⟨wo, hwo⟩ : ∃ wo, wo = wr := ⟨_, rfl⟩
      subst hwo
      obtain ⟨_, _, hx, hdl, _⟩ := HALL.out wo HBR.out
      obtain ⟨d0, d1, d2⟩ := hx.cells
      have HSZ := Lib.hid HBR.out.size
      by_cases hlt : j < n
      · obtain ⟨y, hy⟩ : ∃ y, l[j]? = some y := ⟨_, List.getElem?_eq_getElem (by rw [HL.out]; exact hlt)⟩
        obtain ⟨g, off, eA, hgl, c0, c1⟩ := hdl.at_ j y hy
        subst eA
        have k1 : (j : Int) < (n : Int) := by omega
        have HLT := Lib.hid hlt
        have HB1 : Hid (m + 1 ≤ 100000) := Lib.hid (by have := HM.out; split at this <;> omega)
        rcases Nat.lt_trichotomy j p with hkp | hkp | hkp
        · -- not yet
          have e1 : decide (p < j) = false := decide_eq_false (by omega)
          have e2 : ¬ d < y.due := by have := dpos_take d l j y (by rw [← HP.out]; exact hkp) hy; omega
          have HMK : Hid (m = j) := Lib.hid (by have := HM.out; rw [if_neg (by omega)] at this; exact this)
          have HT : Hid (D.take m ++ [y] = D.take (m + 1)) := Lib.hid (take_more _ _ _ (by rw [HD.out, HMK.out, ins_lo ⟨k, d⟩ l j (by show j < dpos d l; rw [← HP.out]; exact hkp), hy]))
          have HM2 : Hid (m + 1 = if p < j + 1 then j + 1 + 1 else j + 1) := Lib.hid (by rw [if_neg (by omega), HMK.out])
          have HE : Hid (decide (p < j + 1) = false) := Lib.hid (decide_eq_false (by omega))
          rw [e1]
          clear hy hgl hdl hx hkp e1
          obtain ⟨y0, y1⟩ := y
          dsimp only at c0 c1 e2
          go_wp2_with (first
            | (at_builtin; (with_reducible refine wpList_append_ditem rfl (.tmp 67) (.tmp 73) rfl wc.heap.size A3 m C3 rfl (D.take m) (HO.out.below ((Below.refl _ _).alloc (Nat.le_refl _) _) (Nat.le_refl _)) wo.heap.size rfl ⟨y0, y1⟩ (ditem_new wo y0 y1) HB1.out (Nat.le_trans HSZ.out (Nat.le_of_lt (lt_alloc _ _))) ?_); intro A5 C5 w5 HO5 HB5)
            | fail)
          go_roundw
          case rel => exact ⟨j + 1, m + 1, A5, C5, HLT.out, by go_num, by rw [HE.out], rfl, HM2, Lib.hid (by rw [← HT.out]; exact HO5.out), Lib.hid ((HBR.out.alloc HSZ.out _).trans HB5.out)⟩
          case measure => simp [intOf] <;> (have := HLT.out; omega)
        · -- just here
          have e1 : decide (p < j) = false := decide_eq_false (by omega)
          have hy2 : l[dpos d l]? = some y := by rw [← HP.out, ← hkp]; exact hy
          have e2 : d < y.due := dpos_next d l y hy2
          have HMK : Hid (m = j) := Lib.hid (by have := HM.out; rw [if_neg (by omega)] at this; exact this)
          have HT1 : Hid (D.take m ++ [⟨k, d⟩] = D.take (m + 1)) := Lib.hid (take_more _ _ _ (by rw [HD.out, HMK.out, hkp, HP.out]; exact ins_at ⟨k, d⟩ l))
          have HT : Hid (D.take (m + 1) ++ [y] = D.take (m + 1 + 1)) := Lib.hid (take_more _ _ _ (by rw [HD.out, HMK.out, hkp, HP.out, ins_hi ⟨k, d⟩ l _ (Nat.le_refl _)]; exact hy2))
          have HM2 : Hid (m + 1 + 1 = if p < j + 1 then j + 1 + 1 else j + 1) := Lib.hid (by rw [if_pos (by omega), HMK.out])
          have HE : Hid (decide (p < j + 1) = true) := Lib.hid (decide_eq_true (by omega))
          have HB2 : Hid (m + 1 + 1 ≤ 100000) := Lib.hid (by have := HMK.out; have := HN.out; omega)
          have HGC : Hid (∀ w', Below wc.heap.size wc w' → w'.cell? ⟨g, off + j * 2, none⟩ = some (.int .i64 y.key) ∧ w'.cell? ⟨g, off + j * 2 + 1, none⟩ = some (.int .i64 y.due)) := Lib.hid (fun w' h => by
            obtain ⟨g', off', e, _, a0, a1⟩ := (HALL.out w' h).2.2.2.1.at_ j y hy
            cases e
            exact ⟨a0, a1⟩)
          rw [e1]
          clear hy hgl hdl hx hkp e1 hy2
          obtain ⟨y0, y1⟩ := y
          dsimp only at c0 c1 e2 HGC
          go_wp2_with (first
            | (at_builtin; (with_reducible refine wpList_append_ditem rfl (.tmp 61) (.tmp 65) rfl wc.heap.size A3 m C3 rfl (D.take m) (HO.out.below ((Below.refl _ _).alloc (Nat.le_refl _) _) (Nat.le_refl _)) wo.heap.size rfl ⟨k, d⟩ (ditem_new wo k d) HB1.out (Nat.le_trans HSZ.out (Nat.le_of_lt (lt_alloc _ _))) ?_); intro A5 C5 w5 HO5 HB5; have HB6 := Lib.hid ((HBR.out.alloc HSZ.out _).trans HB5.out); obtain ⟨f0, f1, f2⟩ := (HALL.out w5 HB6.out).2.2.1.cells; obtain ⟨g0, g1⟩ := HGC.out w5 HB6.out)
            | (at_builtin; (with_reducible refine wpList_append_ditem rfl (.tmp 67) (.tmp 73) rfl wc.heap.size A5 (m + 1) C5 rfl (D.take m ++ [⟨k, d⟩]) (HO5.out.below ((Below.refl _ _).alloc (Nat.le_refl _) _) (Nat.le_refl _)) w5.heap.size rfl ⟨y0, y1⟩ (ditem_new w5 y0 y1) HB2.out (Nat.le_trans HB6.out.size (Nat.le_of_lt (lt_alloc _ _))) ?_); intro A6 C6 w6 HO6 HB7)
            | fail)
          go_roundw
          case rel => exact ⟨j + 1, m + 1 + 1, A6, C6, HLT.out, by go_num, by rw [HE.out], rfl, HM2, Lib.hid (by rw [← HT.out, ← HT1.out]; exact HO6.out), Lib.hid ((HB6.out.alloc HB6.out.size _).trans HB7.out)⟩
          case measure => simp [intOf] <;> (have := HLT.out; omega)
        · -- behind it
          have e1 : decide (p < j) = true := decide_eq_true hkp
          have HMK : Hid (m = j + 1) := Lib.hid (by have := HM.out; rw [if_pos hkp] at this; exact this)
          have HT : Hid (D.take m ++ [y] = D.take (m + 1)) := Lib.hid (take_more _ _ _ (by rw [HD.out, HMK.out, ins_hi ⟨k, d⟩ l j (by show dpos d l ≤ j; rw [← HP.out]; omega), hy]))
          have HM2 : Hid (m + 1 = if p < j + 1 then j + 1 + 1 else j + 1) := Lib.hid (by rw [if_pos (by omega), HMK.out])
          have HE : Hid (decide (p < j + 1) = true) := Lib.hid (decide_eq_true (by omega))
          rw [e1]
          clear hy hgl hdl hx hkp e1
          obtain ⟨y0, y1⟩ := y
          dsimp only at c0 c1
          go_wp2_with (first
            | (at_builtin; (with_reducible refine wpList_append_ditem rfl (.tmp 67) (.tmp 73) rfl wc.heap.size A3 m C3 rfl (D.take m) (HO.out.below ((Below.refl _ _).alloc (Nat.le_refl _) _) (Nat.le_refl _)) wo.heap.size rfl ⟨y0, y1⟩ (ditem_new wo y0 y1) HB1.out (Nat.le_trans HSZ.out (Nat.le_of_lt (lt_alloc _ _))) ?_); intro A5 C5 w5 HO5 HB5)
            | fail)
          go_roundw
          case rel => exact ⟨j + 1, m + 1, A5, C5, HLT.out, by go_num, by rw [HE.out], rfl, HM2, Lib.hid (by rw [← HT.out]; exact HO5.out), Lib.hid ((HBR.out.alloc HSZ.out _).trans HB5.out)⟩
          case measure => simp [intOf] <;> (have := HLT.out; omega)
      · obtain rfl : j = n := by omega
        have HEND : Hid (D.take (j + 1) = D) := Lib.hid (List.take_of_length_le (by rw [HDL.out]; exact Nat.le_refl _))
        by_cases hpk : p < j
        · have e1 : decide (p < j) = true := decide_eq_true hpk
          have HMK : Hid (m = j + 1) := Lib.hid (by have := HM.out; rw [if_pos hpk] at this; exact this)
          rw [e1]
          obtain rfl := HMK.out
          have HO9 : Hid (OwnD wo wc.heap.size (.slice A3 (j + 1) C3) (j + 1) D) := Lib.hid (by have := HO.out; rwa [HEND.out] at this)
          have n3 : ¬ (j : Int) < (j : Int) := by omega
          have HXX := Lib.hid (HALL.out wo HBR.out)
          clear hdl hx hpk e1 hj d0 d1 d2
          obtain ⟨d0, d1, d2⟩ := HXX.out.2.2.1.cells
          have df := HXX.out.2.2.1.frozen 2
          obtain ⟨z0, z1, z2⟩ := HXX.out.2.1.cells
          have zf0 := HXX.out.2.1.frozen 0
          have zf1 := HXX.out.2.1.frozen 1
          have zf2 := HXX.out.2.1.frozen 2
          have ne1 : ¬ w2.heap.size = w.heap.size + 1 := by have := HB2.out.size; have := HS.out; omega
          have ne2 : ¬ w.heap.size + 1 = w2.heap.size := fun e => ne1 e.symm
          go_wp2
          refine bodyPost_ret (v := .tuple #[.agg #[.int .i64 (Q.room : Int), .int .i64 Q.now, .slice A3 (j + 1) C3], .int .i64 0]) (by simp [results, Try.results27, go_sem, z0, z1, z2]) rfl ?_
          exact HYES.out wo A3 C3 HO9.out HBR.out
        · have e1 : decide (p < j) = false := decide_eq_false hpk
          have HMK : Hid (m = j) := Lib.hid (by have := HM.out; rw [if_neg hpk] at this; exact this)
          rw [e1]
          obtain rfl := HMK.out
          have HT : Hid (D.take m ++ [⟨k, d⟩] = D) := Lib.hid (by
            rw [← HEND.out]
            rw [List.take_take, Nat.min_eq_left (by omega)]
            exact take_more _ _ _ (by rw [HD.out]; have := ins_at ⟨k, d⟩ l; dsimp only at this; rwa [← HP.out, show p = m by omega] at this))
          have HB1 : Hid (m + 1 ≤ 100000) := Lib.hid (by have := HN.out; omega)
          have n3 : ¬ (m : Int) < (m : Int) := by omega
          have ne1 : ¬ w2.heap.size = w.heap.size + 1 := by have := HB2.out.size; have := HS.out; omega
          have ne2 : ¬ w.heap.size + 1 = w2.heap.size := fun e => ne1 e.symm
          clear hdl hx hpk e1 hj
          go_wp2_with (first
            | (at_builtin; (with_reducible refine wpList_append_ditem rfl (.tmp 77) (.tmp 81) rfl wc.heap.size A3 m C3 rfl (D.take m) (HO.out.below ((Below.refl _ _).alloc (Nat.le_refl _) _) (Nat.le_refl _)) wo.heap.size rfl ⟨k, d⟩ (ditem_new wo k d) HB1.out (Nat.le_trans HSZ.out (Nat.le_of_lt (lt_alloc _ _))) ?_); intro A5 C5 w5 HO5 HB5; have HB9 := Lib.hid ((HBR.out.alloc HSZ.out _).trans HB5.out); have HXX := Lib.hid (HALL.out w5 HB9.out); obtain ⟨f0, f1, f2⟩ := HXX.out.2.2.1.cells; have ff := HXX.out.2.2.1.frozen 2; obtain ⟨z0, z1, z2⟩ := HXX.out.2.1.cells; have zf0 := HXX.out.2.1.frozen 0; have zf1 := HXX.out.2.1.frozen 1; have zf2 := HXX.out.2.1.frozen 2)
            | fail)
          refine bodyPost_ret (v := .tuple #[.agg #[.int .i64 (Q.room : Int), .int .i64 Q.now, .slice A5 (m + 1) C5], .int .i64 0]) (by simp [results, Try.results27, go_sem, z0, z1, z2]) rfl ?_
          have HO9 : Hid (OwnD w5 wc.heap.size (.slice A5 (m + 1) C5) (m + 1) D) := Lib.hid (by have := HO5.out; rwa [HT.out] at this)
          exact HYES.out w5 A5 C5 HO9.out HB9.out
/-- Start's answer, whatever is asked. -/
theorem rstart_any (k t : Int) (Q : Qn) (hf : Q.fit) (B : Nat) (A : Option Addr) (C : Nat) (w : World) (hB : B ≤ w.heap.size) (h : DL w B A Q.l.length C Q.l) :
    Calls Try.prog 27 #[DV Q.room Q.now A Q.l.length C, .int .i64 k, .int .i64 t] w (RStart w B (Q.start k t) (Q.code k t)) := by
  by_cases hr : t < 1 ∨ 1099511627776 < t
  · obtain ⟨e1, e2⟩ := Qn.code_range (Q := Q) (k := k) hr
    rw [e1, e2]
    exact rstart_range k t hr Q B A C w h
  · by_cases hc : Q.code k t = 0
    · rw [hc]
      exact rstart_ok k t Q hc hf B A C w hB h
    · have h2 : hasK k Q.l = false ∧ Q.l.length = Q.room := by
        unfold Qn.code at hc
        rw [if_neg hr] at hc
        split at hc
        · assumption
        · omega
      have e1 : Q.code k t = 2 := by unfold Qn.code; rw [if_neg hr, if_pos h2]
      have e2 : Q.start k t = Q := by unfold Qn.start; rw [if_neg hc]
      rw [e1, e2]
      exact rstart_full k t (by omega) (by omega) Q hf h2.1 h2.2 B A C w h
end Go.Proofs.Ythkckgdhaihmoaa
