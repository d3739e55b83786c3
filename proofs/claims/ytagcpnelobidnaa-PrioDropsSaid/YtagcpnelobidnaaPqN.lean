/-
  Own text: slices.DeleteFunc, the walk.
-/
import Derived.Test.YtagcpnelobidnaaPqL
namespace Go.Proofs.Ytagcpnelobidnaa
open Go.RowKit

/-- What is left of them. -/
def LeftTo (w : World) (A : Option Addr) (C : Nat) (l : List It) (e : Ending) (w' : World) : Prop := e = .returned (.slice A l.length C) ∧ Hid (OwnT w' 0 (.slice A l.length C) l.length l) ∧ Hid (w.grownBy w' (A.map Addr.block))
theorem stay_length (S : Int → Bool) (l : List It) : (stay S l).length ≤ l.length := List.length_filter_le _ _
set_option maxRecDepth 100000 in
theorem delfunc_any (S : Int → Bool) (A : Option Addr) (n C c m N : Nat) (l : List It) (hn : n ≤ 1000) (hw : ∀ y ∈ l, (Lit.int .i64 y.num).wf = true) (w : World) (h : OwnT w 0 (.slice A n C) n l) (ha : Ask w c m N S) (hc : some c ≠ A.map Addr.block) (hm : some m ≠ A.map Addr.block) :
    Calls Try.prog 38 #[.slice A n C, .func (.func 39) #[] #[.pointer (some ⟨c, 0, none⟩)]] w (LeftTo w A C (stay S l)) := by
  have hl := h.length
  rcases hits_or S l with hno | ⟨i, hit⟩
  · have CX := Lib.hid (index_none S A n C c m N l hn hw hno w h ha)
    have HO := Lib.hid h
    have HE : Hid (stay S l = l) := Lib.hid (stay_all hno)
    have HL := Lib.hid hl
    clear h ha hno hw hl hc hm
    go_enter Try.func38, Try.ntmps38
    go_wp2_with (first
      | (go_at_call 43; (with_reducible refine (CX.out).mono ?_); rintro e w1 ⟨rfl, hb⟩; have HB1 := Lib.hid hb; clear hb)
      | fail)
    go_ret
    unfold LeftTo
    rw [HE.out, HL.out]
    exact ⟨rfl, Lib.hid (HO.out.below HB1.out (Nat.le_refl _)), Lib.hid (grown_below HB1.out)⟩
  · have CX := Lib.hid (index_some S A n C c m N i l hn hw hit w h ha)
    obtain ⟨_, y0, hy0, _⟩ := id hit
    have hin := (List.getElem?_eq_some_iff.1 hy0).1
    rcases h.form with ⟨_, h0, _, _⟩ | ⟨g, R, rfl, _, hgl, hg, hR, hCm⟩
    · omega
    have HG0 := Lib.hid hg
    have HA := Lib.hid ha
    have HL := Lib.hid hl
    have HW := Lib.hid hw
    have HH := Lib.hid hit
    have HGL := Lib.hid hgl
    have HC : Hid (some c ≠ some g ∧ some m ≠ some g) := Lib.hid ⟨by simpa using hc, by simpa using hm⟩
    have hnC : n ≤ C := by omega
    have HR : Hid (n * 3 + R.length = C * 3 ∧ C ≤ maxLen) := Lib.hid ⟨hR, hCm⟩
    have i1 : ((i : Int) == -1) = false := by rw [beq_eq_false_iff_ne]; omega
    have i2 : (i : Int) ≤ 1000 := by omega
    have hin2 : i < n := by omega
    have n1 : (n : Int) ≤ 1000 := by omega
    have n2 : (n : Int) ≤ (C : Int) := by omega
    clear h ha hit hw hl hc hm hg hgl hR hCm hy0 hin
    go_enter Try.func38, Try.ntmps38
    go_wp2_with (first
      | (go_at_call 43; (with_reducible refine (CX.out).mono ?_); rintro e w1 ⟨rfl, hb⟩; have HB1 := Lib.hid hb; clear hb)
      | fail)
    go_loopw [5, 6, 7] (fun s5 s6 _ wr => ∃ (p q : Nat) (d : List It), q ≤ n ∧ s5 = .int .i64 (p : Int) ∧ s6 = .int .i64 (q : Int) ∧ Hid (Upto S l d p q) ∧ Hid (TBlk wr g (icells d ++ R)) ∧ Hid (w.grownBy wr (some g))) (fun _ s6 _ _ => n - (intOf s6).toNat)
    case atStart => exact ⟨i, i + 1, l, by omega, rfl, by go_num, Lib.hid (Upto.start HH.out), Lib.hid ((HB1.out.block g HGL.out).trans HG0.out), Lib.hid (grown_below HB1.out)⟩
    case round =>
      obtain ⟨p, q, d, hq, rfl, rfl, HU, HT, HG⟩ := hrel
      by_cases hlt : q < n
      · obtain ⟨y, hy⟩ : ∃ y, l[q]? = some y := ⟨_, List.getElem?_eq_getElem (by rw [HL.out]; exact hlt)⟩
        have hdl : d.length = n := by rw [HU.out.len, HL.out]
        have hpq := HU.out.pq
        obtain ⟨z, hz⟩ : ∃ z, d[p]? = some z := ⟨_, List.getElem?_eq_getElem (by omega)⟩
        have hyd := HU.out.at_ hy
        obtain ⟨t0, t1, t2⟩ := icells_get d q y hyd
        have c0 : wr.cell? ⟨g, q * 3, none⟩ = some (.int .i64 y.rank) := by rw [HT.out.cell, List.getElem?_append_left (List.getElem?_eq_some_iff.1 t0).1, t0]
        have c1 : wr.cell? ⟨g, q * 3 + 1, none⟩ = some (.int .i64 y.num) := by rw [HT.out.cell, List.getElem?_append_left (List.getElem?_eq_some_iff.1 t1).1, t1]
        have c2 : wr.cell? ⟨g, q * 3 + 2, none⟩ = some (.int .i64 y.v) := by rw [HT.out.cell, List.getElem?_append_left (List.getElem?_eq_some_iff.1 t2).1, t2]
        obtain ⟨u0, u1, u2⟩ := icells_get d p z hz
        obtain ⟨W, hW⟩ : ∃ W, W = wr.alloc (.cells #[.int .i64 y.rank, .int .i64 y.num, .int .i64 y.v] 62) := ⟨_, rfl⟩
        have hbW : Below wr.heap.size wr W := by rw [hW]; exact (Below.refl _ _).alloc (Nat.le_refl _) _
        have hsW : W.heap.size = wr.heap.size + 1 := by rw [hW]; simp
        have haW : Ask W c m N S := (HA.out.grown HG.out HC.out.1 HC.out.2).below hbW
        have hgr : g < wr.heap.size := Nat.lt_of_lt_of_le HGL.out HG.out.size
        have CG := Lib.hid (gone_any y (HW.out y (List.mem_of_getElem? hy)) c m N S W haW)
        have HLAT : Hid (∀ w1, Below W.heap.size W w1 → TBlk w1 g (icells d ++ R) ∧ TBlk w1 wr.heap.size (icells [y]) ∧ w.grownBy w1 (some g)) := Lib.hid (fun w1 hb => by
          refine ⟨(hb.block g (by omega)).trans ((hbW.block g hgr).trans HT.out), (hb.block wr.heap.size (by omega)).trans ?_, grown_trans HG.out (grown_trans (grown_below hbW) (grown_below hb))⟩
          rw [hW]
          exact one_new wr y _ rfl)
        have HPU : Hid ((icells d ++ R)[p * 3]? = some (.int .i64 z.rank) ∧ (icells d ++ R)[p * 3 + 1]? = some (.int .i64 z.num) ∧ (icells d ++ R)[p * 3 + 2]? = some (.int .i64 z.v)) := Lib.hid ⟨by rw [List.getElem?_append_left (List.getElem?_eq_some_iff.1 u0).1, u0], by rw [List.getElem?_append_left (List.getElem?_eq_some_iff.1 u1).1, u1], by rw [List.getElem?_append_left (List.getElem?_eq_some_iff.1 u2).1, u2]⟩
        have HSET : Hid (∀ w1, TBlk w1 g (icells d ++ R) → TBlk (((w1.setCell ⟨g, p * 3, none⟩ (.int .i64 y.rank)).setCell ⟨g, p * 3 + 1, none⟩ (.int .i64 y.num)).setCell ⟨g, p * 3 + 2, none⟩ (.int .i64 y.v)) g (icells (d.set p y) ++ R)) := Lib.hid (fun w1 h => h.setItem p (by omega) y)
        have HWW := Lib.hid hW
        have j1 : (q : Int) < (n : Int) := by omega
        have j2 : (p : Int) < (n : Int) := by omega
        have HPQ := Lib.hid hpq
        have HNE : Hid (wr.heap.size ≠ g) := Lib.hid (by omega)
        have HLAT2 : Hid (∀ w1, Below W.heap.size W w1 → TBlk w1 g (icells d ++ R) ∧ (w1.cell? ⟨wr.heap.size, 0, none⟩ = some (.int .i64 y.rank) ∧ w1.cell? ⟨wr.heap.size, 1, none⟩ = some (.int .i64 y.num) ∧ w1.cell? ⟨wr.heap.size, 2, none⟩ = some (.int .i64 y.v)) ∧ w.grownBy w1 (some g)) := Lib.hid (fun w1 h => by
          have h2 := (HLAT.out w1 h).2.1
          exact ⟨(HLAT.out w1 h).1, ⟨h2.cell 0, h2.cell 1, h2.cell 2⟩, (HLAT.out w1 h).2.2⟩)
        have hx := (HLAT2.out W (Below.refl _ _)).2.1
        clear HLAT
        cases hs : S y.num with
        | true =>
          have HU2 := Lib.hid (HU.out.skip hy hs)
          rw [hs] at CG
          clear hy hyd hz hdl t0 t1 t2 u0 u1 u2 hW hbW hsW haW hgr hs hpq HSET HPU
          unfold It.val at CG
          obtain ⟨x0, x1, x2⟩ := hx
          generalize y.rank = yr at *
          generalize y.num = yn at *
          generalize y.v = yv at *
          go_upto_region 8 with fail
          rw [← HWW.out]
          go_wp2_with (first
            | (go_at_call 39; (with_reducible refine (CG.out).mono ?_); rintro e w2 ⟨rfl, hb⟩; have HB2 := Lib.hid hb; clear hb)
            | fail)
          go_roundw
          case rel => exact ⟨p, q + 1, d, by omega, rfl, by go_num, HU2, Lib.hid (HLAT2.out w2 HB2.out).1, Lib.hid (HLAT2.out w2 HB2.out).2.2⟩
          case measure => simp [intOf] <;> omega
        | false =>
          have HU2 := Lib.hid (HU.out.take hy hs)
          obtain ⟨d2, hd2⟩ : ∃ d2, d2 = d.set p y := ⟨_, rfl⟩
          rw [← hd2] at HU2 HSET
          rw [hs] at CG
          clear hy hyd hz hdl t0 t1 t2 u0 u1 u2 hW hbW hsW haW hgr hs hpq hd2
          unfold It.val at CG
          obtain ⟨x0, x1, x2⟩ := hx
          generalize y.rank = yr at *
          generalize y.num = yn at *
          generalize y.v = yv at *
          go_upto_region 8 with fail
          rw [← HWW.out]
          go_wp2_with (first
            | (go_at_call 39; (with_reducible refine (CG.out).mono ?_); rintro e w2 ⟨rfl, hb⟩; have HB2 := Lib.hid hb; clear hb; have HL2 := Lib.hid (HLAT2.out w2 HB2.out); obtain ⟨y0, y1, y2⟩ := HL2.out.2.1; have f0 := HL2.out.1.frozen (p * 3); have f1 := HL2.out.1.frozen (p * 3 + 1); have f2 := HL2.out.1.frozen (p * 3 + 2); have e0 := (HL2.out.1.cell (p * 3)).trans HPU.out.1; have e1 := (HL2.out.1.cell (p * 3 + 1)).trans HPU.out.2.1; have e2 := (HL2.out.1.cell (p * 3 + 2)).trans HPU.out.2.2)
            | fail)
          go_roundw
          case rel => exact ⟨p + 1, q + 1, d2, by omega, by go_num, by go_num, HU2, Lib.hid (HSET.out w2 HL2.out.1), Lib.hid (grown_trans HL2.out.2.2 (grown_trans (grown_set _ _ _) (grown_trans (grown_set _ _ _) (grown_set _ _ _))))⟩
          case measure => simp [intOf] <;> omega
      · obtain rfl : q = n := by omega
        have hpq := HU.out.pq
        have hdl : d.length = q := by rw [HU.out.len, HL.out]
        have hst : d.take p = stay S l := by have := HU.out.front; rwa [List.take_of_length_le (l := l) (by rw [HL.out]; exact Nat.le_refl _)] at this
        have hsl : (stay S l).length = p := by rw [← hst, List.length_take]; omega
        have HF2 : Hid (p * 3 + (q - p) * 3 ≤ (icells d ++ R).length) := Lib.hid (by rw [List.length_append, icells_length]; omega)
        have HQ : Hid (0 < q - p) := Lib.hid (by omega)
        have HFIN : Hid (∀ (w3 : World) (Z : List Value), Z.length = (q - p) * 3 → TBlk w3 g (splice (icells d ++ R) (p * 3) Z) → wr.grownBy w3 (some g) → LeftTo w (some ⟨g, 0, none⟩) C (stay S l) (.returned (.slice (some ⟨g, 0, none⟩) p C)) w3) := Lib.hid (fun w3 Z hZ h3 hg3 => by
          refine ⟨by rw [hsl], Lib.hid ?_, Lib.hid (grown_trans HG.out hg3)⟩
          have e : icells d ++ R = icells (d.take p) ++ (icells (d.drop p) ++ R) := by rw [← List.append_assoc, ← icells_append, List.take_append_drop]
          rw [e, splice_at _ _ _ _ (by rw [icells_length, List.length_take]; omega), hst] at h3
          rw [hsl]
          refine OwnT.of (R := Z ++ (icells (d.drop p) ++ R).drop Z.length) hsl (Nat.zero_le _) h3 ?_ HR.out.2
          have := HR.out.1
          simp only [List.length_append, List.length_drop, icells_length]
          omega)
        have j2 : (p : Int) < (q : Int) := by omega
        have j3 : ¬ C = p := by omega
        have j4 : (p : Int) ≤ (q : Int) := by omega
        clear hst hsl hdl hpq
        go_wp2_with (first
          | ((with_reducible refine wpList_clear_items rfl (.tmp 38) rfl g (p * 3) (q - p) (C - p) rfl HQ.out _ HT.out HF2.out ?_); intro w3 Z HZ HG3 HW3)
          | fail)
        go_ret
        exact HFIN.out w3 Z HZ.out HG3.out HW3.out
end Go.Proofs.Ytagcpnelobidnaa
