/-
  Own text: the document's Choose, walked. (Written by gen_mra.py.)
-/
import Derived.Test.YtldhlknmabpanaaGreatK28
namespace Go.Proofs.YtldhlknmabpanaaGreat.Mp
open Go.RowKit

/-- The numbers that the document's Choose tells. -/
def RChose (w : World) (l : List Nat) (e : Ending) (w' : World) : Prop := ∃ g C, e = .returned (.slice (some ⟨g, 0, none⟩) l.length C) ∧ Hid ((∀ (i j : Nat), l[i]? = some j → w'.cell? ⟨g, i, none⟩ = some (.int .i64 (j : Int))) ∧ w.heap.size ≤ g ∧ ∃ cur : Array Value, w'.heap[g]? = some (.cells cur 3 (0, 0))) ∧ Hid (Below w.heap.size w w')
set_option maxRecDepth 100000 in
set_option maxHeartbeats 2000000 in
theorem rchoose_any (r : Int) (t : Sd) (A : Option Addr) (C k : Nat) (hf : t.fit k) (w : World) :
    Calls Tryz.prog 70 #[.agg (dsa t A C), .int .i64 r] w (RChose w (t.choose r)) := by
  obtain ⟨W, hW⟩ : ∃ W, W = w.alloc (.cells (dsa t A C) 40) := ⟨_, rfl⟩
  have hd : DB W w.heap.size t A C := by rw [hW]; exact db_new w t A C _ (Below.refl _ _)
  have hb : Below w.heap.size w W := by rw [hW]; exact (Below.refl _ _).alloc (Nat.le_refl _) _
  have CO := Lib.hid (rorder_any (K := k) (some ⟨w.heap.size, 0, none⟩) 2 2 t.wy (fun i hi => hf.wy i hi) (by decide) W hd.rways)
  have HD := Lib.hid hd
  have HB := Lib.hid hb
  have CS0 : Hid (∀ w', Calls Tryz.prog 60 #[.agg (rowOf 78 (t.wy t.d0).dc)] w' fun e w'' => e = .returned (.int .i64 (t.wy t.d0).state) ∧ Below w'.heap.size w' w'') := Lib.hid (fun w' => rstate_any _ w')
  have CS1 : Hid (∀ w', Calls Tryz.prog 60 #[.agg (rowOf 78 (t.wy t.d1).dc)] w' fun e w'' => e = .returned (.int .i64 (t.wy t.d1).state) ∧ Below w'.heap.size w' w'') := Lib.hid (fun w' => rstate_any _ w')
  have HC1 : Hid (r > 1 → t.choose r = [t.d0]) := Lib.hid (fun h => if_neg (fun hb => by
    rcases hb.1 with h1 | h1
    · omega
    · omega))
  have HC2 : Hid (r = 1 → (t.wy t.d0).st.lo < 6553 → (t.wy t.d0).state = 0 → t.choose r = [t.d0]) := Lib.hid (fun h hl hs => if_neg (fun hb => by
    rcases hb.1 with h1 | h1
    · omega
    · rcases h1.2 with h2 | h2
      · omega
      · exact h2 hs))
  have HCB : Hid ((r ≤ 0 ∨ (r = 1 ∧ (6553 ≤ (t.wy t.d0).st.lo ∨ (t.wy t.d0).state ≠ 0))) → (((t.wy t.d0).state = 2 ∨ (t.wy t.d1).state ≠ 2) → t.choose r = [t.d0, t.d1]) ∧ ((t.wy t.d0).state ≠ 2 → (t.wy t.d1).state = 2 → t.choose r = [t.d0]) ∧ True) := Lib.hid (fun h =>
    ⟨fun h1 => if_pos ⟨h, fun hh => by
      rcases h1 with h1 | h1
      · exact hh.1 h1
      · exact h1 hh.2⟩, fun h0 h1 => if_neg (fun hb => hb.2 ⟨h0, h1⟩), trivial⟩)
  have HD0 := Lib.hid t.d0_lt
  have HD1 := Lib.hid t.d1_lt
  obtain ⟨V, hV⟩ : ∃ V, V = dsa t A C := ⟨_, rfl⟩
  rw [← hV] at hW ⊢
  have hsrt := Lib.hid (srt_two t)
  obtain ⟨L, hL⟩ : ∃ L, L = t.choose r := ⟨_, rfl⟩
  rw [← hL] at HC1 HC2 HCB ⊢
  clear hV hL hd hb hf
  have zz := zero37
  obtain ⟨ZZ, hZZ⟩ : ∃ ZZ, ZZ = rowOf 78 Pn.zero.dc := ⟨_, rfl⟩
  have HZ : Hid (∀ p : Pn, (rowOf 78 p.dc).size = ZZ.size) := Lib.hid (fun p => by rw [hZZ, rowOf_size, rowOf_size])
  rw [← hZZ] at zz
  clear hZZ
  go_enter Tryz.func70, Tryz.ntmps70
  go_upto_region 1 with fail
  rw [← hW]
  clear hW
  go_upto_region 2 with (first
    | (go_at_call 97; (with_reducible refine (CO.out).mono ?_); rintro e w2 ⟨A2, C', O, rfl, HS, HO, HB2⟩)
    | fail)
  have hs2 := hsrt.out O HS.out
  obtain ⟨g, rfl, hg0, hg1, -, -, -, -, hgc⟩ := HO.out.at_ 0 (by decide)
  have HGC : Hid (∃ cur : Array Value, w2.heap[g]? = some (.cells cur 3 (0, 0))) := Lib.hid hgc
  clear hgc
  have HG0 : Hid (w2.cell? ⟨g, 0, none⟩ = some (.int .i64 (t.d0 : Int)) ∧ w2.cell? ⟨g, 1, none⟩ = some (.int .i64 (t.d1 : Int))) := Lib.hid ⟨by rw [← hs2.1, ← chs_get O 2 0 (by decide)]; exact HO.out.cell 0 (by decide), by rw [← hs2.2, ← chs_get O 2 1 (by decide)]; exact HO.out.cell 1 (by decide)⟩
  have HCC : Hid (2 ≤ C') := Lib.hid (by
    obtain ⟨_, _, _, _, _, _, h, _⟩ := HO.out.at_ 0 (by decide)
    exact h)
  have HGW : Hid (w.heap.size ≤ g) := Lib.hid (Nat.le_trans HB.out.size hg0)
  have HBW : Hid (Below w.heap.size w w2) := Lib.hid (HB.out.trans (HB2.out.mono HB.out.size))
  have HDQ : Hid (DB w2 w.heap.size t A C) := Lib.hid (HD.out.below HB2.out HD.out.lt)
  have HGL := Lib.hid hg1
  clear hs2 hg0 hg1 hsrt HS CO HO HD
  generalize t.d0 = d0 at *
  generalize t.d1 = d1 at *
  have i0 : (0 : Int) ≤ (d0 : Int) := by omega
  have i1 : (d0 : Int) < 2 := by have := HD0.out; omega
  have hc2 : (2 : Int) ≤ (C' : Int) := by have := HCC.out; omega
  have hc1 : (1 : Int) ≤ (C' : Int) := by omega
  have c0 := HG0.out.1
  have HLW := Lib.hid (HDQ.out.way HD0.out)
  go_upto_region 3 with (first
    | ((with_reducible refine wpList_load_liesW 34 (.tmp 14) rfl w.heap.size (d0 * 78) rfl (rowOf 78 (t.wy d0).dc) HLW.out _ Tryz.underlying34 rfl (infoP14 (t.wy d0)) ?_ ?_); · rfl)
    | ((with_reducible refine wpList_store_lies rfl 34 (.tmp 6) (.tmp 15) rfl w2.heap.size 0 rfl (rowOf 78 (t.wy d0).dc) rfl ZZ (Lies.new w2 ZZ 34 (Below.refl _ _)) (HZ.out _) (infoP14 (t.wy d0)) (oneP14 (t.wy d0)) ?_); intro w4 N1 N2 N3)
    | fail)
  have HB4 : Hid (Below w2.heap.size w2 w4) := Lib.hid (N2.out.bel ((Below.refl w2.heap.size w2).alloc (Nat.le_refl _) (.cells ZZ 34)) (by simp) (Nat.le_refl _))
  have HB24 : Hid (w2.heap.size = w2.heap.size) := Lib.hid rfl
  obtain ⟨g4, hg4⟩ : ∃ g4, g4 = w2.heap.size := ⟨_, rfl⟩
  rw [← hg4] at N1 ⊢
  have HPX : Hid (∀ w', Below w4.heap.size w4 w' → Lies w' g4 0 (rowOf 78 (t.wy d0).dc)) := Lib.hid (fun w' h => N1.out.below h N1.out.lt)
  have HDX : Hid (∀ w', Below w4.heap.size w4 w' → Lies w' w.heap.size (d1 * 78) (rowOf 78 (t.wy d1).dc)) := Lib.hid (fun w' h => ((HDQ.out.below HB4.out HDQ.out.lt).below h (HDQ.out.below HB4.out HDQ.out.lt).lt).way HD1.out)
  have HGX : Hid (∀ w', Below w4.heap.size w4 w' → ∀ (i j : Nat), [d0, d1][i]? = some j → w'.cell? ⟨g, i, none⟩ = some (.int .i64 (j : Int))) := Lib.hid (fun w' h i j hij => by
    have hb := HB4.out.trans (h.mono HB4.out.size)
    rw [hb.cell (p := ⟨g, i, none⟩) HGL.out]
    match i, hij with
    | 0, hij => obtain rfl : d0 = j := by simpa using hij
                exact HG0.out.1
    | 1, hij => obtain rfl : d1 = j := by simpa using hij
                exact HG0.out.2
    | i + 2, hij => simp at hij)
  have HBW4 : Hid (Below w.heap.size w w4) := Lib.hid (HBW.out.trans (HB4.out.mono HBW.out.size))
  have c4 : w4.cell? ⟨g4, 0, none⟩ = some (.int .i64 (t.wy d0).st.lo) := by
    have := N1.out.cell 0 (by rw [rowOf_size]; decide)
    rw [rowOf_get _ _ _ (by decide)] at this
    exact this
  have j0 : (0 : Int) ≤ (d1 : Int) := by omega
  have j1 : (d1 : Int) < 2 := by have := HD1.out; omega
  clear c0 HBW HDQ HG0 HLW N1 N2 N3 hg4 HB2 HB HB24 HZ zz
  generalize (t.wy d0).st.lo = lo at *
  generalize (t.wy d0).state = s0 at *
  generalize (t.wy d1).state = s1 at *
  by_cases hr1 : r > 1
  · have HCL := Lib.hid (HC1.out hr1)
    have r1 : (1 < r) = True := eq_true hr1
    clear HC1 HC2 HCB hr1 CS0 CS1 c4 HPX HDX
    go_upto_region 4 with fail
    go_wp2
    go_ret
    exact ⟨g, C', by rw [HCL.out]; rfl, Lib.hid ⟨fun i j hij => by
      rw [HCL.out] at hij
      exact HGX.out w4 (Below.refl _ _) _ _ (by first | exact hij | (match i, hij with
        | 0, hij => exact hij
        | i + 1, hij => simp at hij)), HGW.out, HGC.out.elim fun cur hc => ⟨cur, ((HB4.out.trans (((Below.refl _ _)).mono HB4.out.size)).block g HGL.out).trans hc⟩⟩, Lib.hid (HBW4.out.trans (((Below.refl _ _)).mono HBW4.out.size))⟩
  · have r0 : (1 < r) = False := eq_false hr1
    by_cases hr : r = 1
    · by_cases hl : lo < 6553
      · by_cases hs : s0 = 0
        · have HCL := Lib.hid (HC2.out hr hl hs)
          have l1 : (lo < 6553) = True := eq_true hl
          have L4 := Lib.hid (HPX.out w4 (Below.refl _ _))
          subst hr hs
          clear HC1 HC2 HCB hr1 CS1 HDX hl
          go_upto_region 4 with (first
            | ((with_reducible refine wpList_load_liesW 34 (.tmp 6) rfl g4 0 rfl (rowOf 78 (t.wy d0).dc) L4.out _ Tryz.underlying34 rfl (infoP14 (t.wy d0)) ?_ ?_); · rfl)
            | (go_at_call 60; (with_reducible refine (CS0.out _).mono ?_); rintro e w5 ⟨rfl, hb5⟩; have HB5 := Lib.hid hb5; clear hb5)
            | fail)
          go_wp2
          go_ret
          exact ⟨g, C', by rw [HCL.out]; rfl, Lib.hid ⟨fun i j hij => by
            rw [HCL.out] at hij
            exact HGX.out w5 HB5.out _ _ (by first | exact hij | (match i, hij with
              | 0, hij => exact hij
              | i + 1, hij => simp at hij)), HGW.out, HGC.out.elim fun cur hc => ⟨cur, ((HB4.out.trans ((HB5.out).mono HB4.out.size)).block g HGL.out).trans hc⟩⟩, Lib.hid (HBW4.out.trans ((HB5.out).mono HBW4.out.size))⟩
        · have HQ := Lib.hid (HCB.out (.inr ⟨hr, .inr hs⟩))
          have l1 : (lo < 6553) = True := eq_true hl
          have L4 := Lib.hid (HPX.out w4 (Below.refl _ _))
          have hs0 : (s0 == 0) = false := by simp [hs]
          subst hr
          clear HC1 HC2 HCB hr1 hl hs
          go_upto_region 5 with (first
            | ((with_reducible refine wpList_load_liesW 34 (.tmp 6) rfl g4 0 rfl (rowOf 78 (t.wy d0).dc) L4.out _ Tryz.underlying34 rfl (infoP14 (t.wy d0)) ?_ ?_); · rfl)
            | (go_at_call 60; (with_reducible refine (CS0.out _).mono ?_); rintro e w5 ⟨rfl, hb5⟩; have HB5 := Lib.hid hb5; clear hb5)
            | fail)
          clear c4 L4 l1 r0 hs0
          obtain ⟨wx, hwx⟩ : ∃ wx, wx = w5 := ⟨_, rfl⟩
          subst hwx
          have HBX := HB5
          clear HB5
          have L5 := Lib.hid (HPX.out wx HBX.out)
          have D5 := Lib.hid (HDX.out wx HBX.out)
          by_cases h0 : s0 = 2
          · have HCL := Lib.hid (HQ.out.1 (.inl h0))
            have h0' : (s0 != 2) = false := by simp [h0]
            clear HQ h0 D5 CS1
            go_upto_region 7 with (first
              | ((with_reducible refine wpList_load_liesW 34 (.tmp 6) rfl g4 0 rfl (rowOf 78 (t.wy d0).dc) L5.out _ Tryz.underlying34 rfl (infoP14 (t.wy d0)) ?_ ?_); · rfl)
              | (go_at_call 60; (with_reducible refine (CS0.out _).mono ?_); rintro e w6 ⟨rfl, hb5⟩; have HB5 := Lib.hid hb5; clear hb5)
              | fail)
            have HBR := Lib.hid (HBX.out.trans (HB5.out.mono HBX.out.size))
            go_wp2
            go_ret
            exact ⟨g, C', by rw [HCL.out]; rfl, Lib.hid ⟨fun i j hij => by
              rw [HCL.out] at hij
              exact HGX.out w6 HBR.out _ _ (by first | exact hij | (match i, hij with
                | 0, hij => exact hij
                | i + 1, hij => simp at hij)), HGW.out, HGC.out.elim fun cur hc => ⟨cur, ((HB4.out.trans ((HBR.out).mono HB4.out.size)).block g HGL.out).trans hc⟩⟩, Lib.hid (HBW4.out.trans ((HBR.out).mono HBW4.out.size))⟩
          · have h0n : (s0 != 2) = true := by simp [h0]
            by_cases h1 : s1 = 2
            · have HCL := Lib.hid (HQ.out.2.1 h0 h1)
              have h1' : (s1 == 2) = true := by simp [h1]
              clear HQ h0 h1
              go_upto_region 6 with (first
                | ((with_reducible refine wpList_load_liesW 34 (.tmp 6) rfl g4 0 rfl (rowOf 78 (t.wy d0).dc) L5.out _ Tryz.underlying34 rfl (infoP14 (t.wy d0)) ?_ ?_); · rfl)
                | (((with_reducible refine wpList_load_liesW 34 (.tmp 43) rfl w.heap.size (d1 * 78) rfl (rowOf 78 (t.wy d1).dc) (HDX.out w6 HBR.out) _ Tryz.underlying34 rfl (infoP14 (t.wy d1)) ?_ ?_); · rfl))
                | ((go_at_call 60; (with_reducible refine (CS0.out _).mono ?_); rintro e w6 ⟨rfl, hb5⟩; have HB5 := Lib.hid hb5; clear hb5); have HBR := Lib.hid (HBX.out.trans (HB5.out.mono HBX.out.size)); clear HB5; have g1 := (HGX.out w6 HBR.out 1 d1 rfl))
                | (go_at_call 60; (with_reducible refine (CS1.out _).mono ?_); rintro e w7 ⟨rfl, hb5⟩; have HB5 := Lib.hid hb5; clear hb5)
                | fail)
              have HBS := Lib.hid (HBR.out.trans (HB5.out.mono HBR.out.size))
              go_wp2
              go_ret
              exact ⟨g, C', by rw [HCL.out]; rfl, Lib.hid ⟨fun i j hij => by
                rw [HCL.out] at hij
                exact HGX.out w7 HBS.out _ _ (by first | exact hij | (match i, hij with
                  | 0, hij => exact hij
                  | i + 1, hij => simp at hij)), HGW.out, HGC.out.elim fun cur hc => ⟨cur, ((HB4.out.trans ((HBS.out).mono HB4.out.size)).block g HGL.out).trans hc⟩⟩, Lib.hid (HBW4.out.trans ((HBS.out).mono HBW4.out.size))⟩
            · have HCL := Lib.hid (HQ.out.1 (.inr h1))
              have h1' : (s1 == 2) = false := by simp [h1]
              clear HQ h0 h1
              go_upto_region 7 with (first
                | ((with_reducible refine wpList_load_liesW 34 (.tmp 6) rfl g4 0 rfl (rowOf 78 (t.wy d0).dc) L5.out _ Tryz.underlying34 rfl (infoP14 (t.wy d0)) ?_ ?_); · rfl)
                | (((with_reducible refine wpList_load_liesW 34 (.tmp 43) rfl w.heap.size (d1 * 78) rfl (rowOf 78 (t.wy d1).dc) (HDX.out w6 HBR.out) _ Tryz.underlying34 rfl (infoP14 (t.wy d1)) ?_ ?_); · rfl))
                | ((go_at_call 60; (with_reducible refine (CS0.out _).mono ?_); rintro e w6 ⟨rfl, hb5⟩; have HB5 := Lib.hid hb5; clear hb5); have HBR := Lib.hid (HBX.out.trans (HB5.out.mono HBX.out.size)); clear HB5; have g1 := (HGX.out w6 HBR.out 1 d1 rfl))
                | (go_at_call 60; (with_reducible refine (CS1.out _).mono ?_); rintro e w7 ⟨rfl, hb5⟩; have HB5 := Lib.hid hb5; clear hb5)
                | fail)
              have HBS := Lib.hid (HBR.out.trans (HB5.out.mono HBR.out.size))
              go_wp2
              go_ret
              exact ⟨g, C', by rw [HCL.out]; rfl, Lib.hid ⟨fun i j hij => by
                rw [HCL.out] at hij
                exact HGX.out w7 HBS.out _ _ (by first | exact hij | (match i, hij with
                  | 0, hij => exact hij
                  | i + 1, hij => simp at hij)), HGW.out, HGC.out.elim fun cur hc => ⟨cur, ((HB4.out.trans ((HBS.out).mono HB4.out.size)).block g HGL.out).trans hc⟩⟩, Lib.hid (HBW4.out.trans ((HBS.out).mono HBW4.out.size))⟩
      · have HQ := Lib.hid (HCB.out (.inr ⟨hr, .inl (by omega)⟩))
        have l1 : (lo < 6553) = False := eq_false hl
        subst hr
        clear HC1 HC2 HCB hr1 hl
        go_upto_region 5 with fail
        clear c4 l1 r0
        obtain ⟨wx, hwx⟩ : ∃ wx, wx = w4 := ⟨_, rfl⟩
        have HBX : Hid (Below w4.heap.size w4 wx) := Lib.hid (by rw [hwx]; exact Below.refl _ _)
        rw [← hwx]
        clear hwx
        have L5 := Lib.hid (HPX.out wx HBX.out)
        have D5 := Lib.hid (HDX.out wx HBX.out)
        by_cases h0 : s0 = 2
        · have HCL := Lib.hid (HQ.out.1 (.inl h0))
          have h0' : (s0 != 2) = false := by simp [h0]
          clear HQ h0 D5 CS1
          go_upto_region 7 with (first
            | ((with_reducible refine wpList_load_liesW 34 (.tmp 6) rfl g4 0 rfl (rowOf 78 (t.wy d0).dc) L5.out _ Tryz.underlying34 rfl (infoP14 (t.wy d0)) ?_ ?_); · rfl)
            | (go_at_call 60; (with_reducible refine (CS0.out _).mono ?_); rintro e w6 ⟨rfl, hb5⟩; have HB5 := Lib.hid hb5; clear hb5)
            | fail)
          have HBR := Lib.hid (HBX.out.trans (HB5.out.mono HBX.out.size))
          go_wp2
          go_ret
          exact ⟨g, C', by rw [HCL.out]; rfl, Lib.hid ⟨fun i j hij => by
            rw [HCL.out] at hij
            exact HGX.out w6 HBR.out _ _ (by first | exact hij | (match i, hij with
              | 0, hij => exact hij
              | i + 1, hij => simp at hij)), HGW.out, HGC.out.elim fun cur hc => ⟨cur, ((HB4.out.trans ((HBR.out).mono HB4.out.size)).block g HGL.out).trans hc⟩⟩, Lib.hid (HBW4.out.trans ((HBR.out).mono HBW4.out.size))⟩
        · have h0n : (s0 != 2) = true := by simp [h0]
          by_cases h1 : s1 = 2
          · have HCL := Lib.hid (HQ.out.2.1 h0 h1)
            have h1' : (s1 == 2) = true := by simp [h1]
            clear HQ h0 h1
            go_upto_region 6 with (first
              | ((with_reducible refine wpList_load_liesW 34 (.tmp 6) rfl g4 0 rfl (rowOf 78 (t.wy d0).dc) L5.out _ Tryz.underlying34 rfl (infoP14 (t.wy d0)) ?_ ?_); · rfl)
              | (((with_reducible refine wpList_load_liesW 34 (.tmp 43) rfl w.heap.size (d1 * 78) rfl (rowOf 78 (t.wy d1).dc) (HDX.out w6 HBR.out) _ Tryz.underlying34 rfl (infoP14 (t.wy d1)) ?_ ?_); · rfl))
              | ((go_at_call 60; (with_reducible refine (CS0.out _).mono ?_); rintro e w6 ⟨rfl, hb5⟩; have HB5 := Lib.hid hb5; clear hb5); have HBR := Lib.hid (HBX.out.trans (HB5.out.mono HBX.out.size)); clear HB5; have g1 := (HGX.out w6 HBR.out 1 d1 rfl))
              | (go_at_call 60; (with_reducible refine (CS1.out _).mono ?_); rintro e w7 ⟨rfl, hb5⟩; have HB5 := Lib.hid hb5; clear hb5)
              | fail)
            have HBS := Lib.hid (HBR.out.trans (HB5.out.mono HBR.out.size))
            go_wp2
            go_ret
            exact ⟨g, C', by rw [HCL.out]; rfl, Lib.hid ⟨fun i j hij => by
              rw [HCL.out] at hij
              exact HGX.out w7 HBS.out _ _ (by first | exact hij | (match i, hij with
                | 0, hij => exact hij
                | i + 1, hij => simp at hij)), HGW.out, HGC.out.elim fun cur hc => ⟨cur, ((HB4.out.trans ((HBS.out).mono HB4.out.size)).block g HGL.out).trans hc⟩⟩, Lib.hid (HBW4.out.trans ((HBS.out).mono HBW4.out.size))⟩
          · have HCL := Lib.hid (HQ.out.1 (.inr h1))
            have h1' : (s1 == 2) = false := by simp [h1]
            clear HQ h0 h1
            go_upto_region 7 with (first
              | ((with_reducible refine wpList_load_liesW 34 (.tmp 6) rfl g4 0 rfl (rowOf 78 (t.wy d0).dc) L5.out _ Tryz.underlying34 rfl (infoP14 (t.wy d0)) ?_ ?_); · rfl)
              | (((with_reducible refine wpList_load_liesW 34 (.tmp 43) rfl w.heap.size (d1 * 78) rfl (rowOf 78 (t.wy d1).dc) (HDX.out w6 HBR.out) _ Tryz.underlying34 rfl (infoP14 (t.wy d1)) ?_ ?_); · rfl))
              | ((go_at_call 60; (with_reducible refine (CS0.out _).mono ?_); rintro e w6 ⟨rfl, hb5⟩; have HB5 := Lib.hid hb5; clear hb5); have HBR := Lib.hid (HBX.out.trans (HB5.out.mono HBX.out.size)); clear HB5; have g1 := (HGX.out w6 HBR.out 1 d1 rfl))
              | (go_at_call 60; (with_reducible refine (CS1.out _).mono ?_); rintro e w7 ⟨rfl, hb5⟩; have HB5 := Lib.hid hb5; clear hb5)
              | fail)
            have HBS := Lib.hid (HBR.out.trans (HB5.out.mono HBR.out.size))
            go_wp2
            go_ret
            exact ⟨g, C', by rw [HCL.out]; rfl, Lib.hid ⟨fun i j hij => by
              rw [HCL.out] at hij
              exact HGX.out w7 HBS.out _ _ (by first | exact hij | (match i, hij with
                | 0, hij => exact hij
                | i + 1, hij => simp at hij)), HGW.out, HGC.out.elim fun cur hc => ⟨cur, ((HB4.out.trans ((HBS.out).mono HB4.out.size)).block g HGL.out).trans hc⟩⟩, Lib.hid (HBW4.out.trans ((HBS.out).mono HBW4.out.size))⟩
    · have HQ := Lib.hid (HCB.out (.inl (by omega)))
      have hr' : (r == 1) = false := by simp [hr]
      clear HC1 HC2 HCB hr1 hr
      go_upto_region 5 with fail
      clear c4 r0 hr'
      obtain ⟨wx, hwx⟩ : ∃ wx, wx = w4 := ⟨_, rfl⟩
      have HBX : Hid (Below w4.heap.size w4 wx) := Lib.hid (by rw [hwx]; exact Below.refl _ _)
      rw [← hwx]
      clear hwx
      have L5 := Lib.hid (HPX.out wx HBX.out)
      have D5 := Lib.hid (HDX.out wx HBX.out)
      by_cases h0 : s0 = 2
      · have HCL := Lib.hid (HQ.out.1 (.inl h0))
        have h0' : (s0 != 2) = false := by simp [h0]
        clear HQ h0 D5 CS1
        go_upto_region 7 with (first
          | ((with_reducible refine wpList_load_liesW 34 (.tmp 6) rfl g4 0 rfl (rowOf 78 (t.wy d0).dc) L5.out _ Tryz.underlying34 rfl (infoP14 (t.wy d0)) ?_ ?_); · rfl)
          | (go_at_call 60; (with_reducible refine (CS0.out _).mono ?_); rintro e w6 ⟨rfl, hb5⟩; have HB5 := Lib.hid hb5; clear hb5)
          | fail)
        have HBR := Lib.hid (HBX.out.trans (HB5.out.mono HBX.out.size))
        go_wp2
        go_ret
        exact ⟨g, C', by rw [HCL.out]; rfl, Lib.hid ⟨fun i j hij => by
          rw [HCL.out] at hij
          exact HGX.out w6 HBR.out _ _ (by first | exact hij | (match i, hij with
            | 0, hij => exact hij
            | i + 1, hij => simp at hij)), HGW.out, HGC.out.elim fun cur hc => ⟨cur, ((HB4.out.trans ((HBR.out).mono HB4.out.size)).block g HGL.out).trans hc⟩⟩, Lib.hid (HBW4.out.trans ((HBR.out).mono HBW4.out.size))⟩
      · have h0n : (s0 != 2) = true := by simp [h0]
        by_cases h1 : s1 = 2
        · have HCL := Lib.hid (HQ.out.2.1 h0 h1)
          have h1' : (s1 == 2) = true := by simp [h1]
          clear HQ h0 h1
          go_upto_region 6 with (first
            | ((with_reducible refine wpList_load_liesW 34 (.tmp 6) rfl g4 0 rfl (rowOf 78 (t.wy d0).dc) L5.out _ Tryz.underlying34 rfl (infoP14 (t.wy d0)) ?_ ?_); · rfl)
            | (((with_reducible refine wpList_load_liesW 34 (.tmp 43) rfl w.heap.size (d1 * 78) rfl (rowOf 78 (t.wy d1).dc) (HDX.out w6 HBR.out) _ Tryz.underlying34 rfl (infoP14 (t.wy d1)) ?_ ?_); · rfl))
            | ((go_at_call 60; (with_reducible refine (CS0.out _).mono ?_); rintro e w6 ⟨rfl, hb5⟩; have HB5 := Lib.hid hb5; clear hb5); have HBR := Lib.hid (HBX.out.trans (HB5.out.mono HBX.out.size)); clear HB5; have g1 := (HGX.out w6 HBR.out 1 d1 rfl))
            | (go_at_call 60; (with_reducible refine (CS1.out _).mono ?_); rintro e w7 ⟨rfl, hb5⟩; have HB5 := Lib.hid hb5; clear hb5)
            | fail)
          have HBS := Lib.hid (HBR.out.trans (HB5.out.mono HBR.out.size))
          go_wp2
          go_ret
          exact ⟨g, C', by rw [HCL.out]; rfl, Lib.hid ⟨fun i j hij => by
            rw [HCL.out] at hij
            exact HGX.out w7 HBS.out _ _ (by first | exact hij | (match i, hij with
              | 0, hij => exact hij
              | i + 1, hij => simp at hij)), HGW.out, HGC.out.elim fun cur hc => ⟨cur, ((HB4.out.trans ((HBS.out).mono HB4.out.size)).block g HGL.out).trans hc⟩⟩, Lib.hid (HBW4.out.trans ((HBS.out).mono HBW4.out.size))⟩
        · have HCL := Lib.hid (HQ.out.1 (.inr h1))
          have h1' : (s1 == 2) = false := by simp [h1]
          clear HQ h0 h1
          go_upto_region 7 with (first
            | ((with_reducible refine wpList_load_liesW 34 (.tmp 6) rfl g4 0 rfl (rowOf 78 (t.wy d0).dc) L5.out _ Tryz.underlying34 rfl (infoP14 (t.wy d0)) ?_ ?_); · rfl)
            | (((with_reducible refine wpList_load_liesW 34 (.tmp 43) rfl w.heap.size (d1 * 78) rfl (rowOf 78 (t.wy d1).dc) (HDX.out w6 HBR.out) _ Tryz.underlying34 rfl (infoP14 (t.wy d1)) ?_ ?_); · rfl))
            | ((go_at_call 60; (with_reducible refine (CS0.out _).mono ?_); rintro e w6 ⟨rfl, hb5⟩; have HB5 := Lib.hid hb5; clear hb5); have HBR := Lib.hid (HBX.out.trans (HB5.out.mono HBX.out.size)); clear HB5; have g1 := (HGX.out w6 HBR.out 1 d1 rfl))
            | (go_at_call 60; (with_reducible refine (CS1.out _).mono ?_); rintro e w7 ⟨rfl, hb5⟩; have HB5 := Lib.hid hb5; clear hb5)
            | fail)
          have HBS := Lib.hid (HBR.out.trans (HB5.out.mono HBR.out.size))
          go_wp2
          go_ret
          exact ⟨g, C', by rw [HCL.out]; rfl, Lib.hid ⟨fun i j hij => by
            rw [HCL.out] at hij
            exact HGX.out w7 HBS.out _ _ (by first | exact hij | (match i, hij with
              | 0, hij => exact hij
              | i + 1, hij => simp at hij)), HGW.out, HGC.out.elim fun cur hc => ⟨cur, ((HB4.out.trans ((HBS.out).mono HB4.out.size)).block g HGL.out).trans hc⟩⟩, Lib.hid (HBW4.out.trans ((HBS.out).mono HBW4.out.size))⟩
end Go.Proofs.YtldhlknmabpanaaGreat.Mp
