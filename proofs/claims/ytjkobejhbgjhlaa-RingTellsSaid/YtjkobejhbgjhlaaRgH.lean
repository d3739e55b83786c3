/-
  Own text: the document's Drop and Cut, walked.
-/
import Derived.Test.YtjkobejhbgjhlaaRgG
namespace Go.Proofs.Ytjkobejhbgjhlaa
open Go.RowKit

/-- A list of the call's own does not lie in a ring's box. -/
theorem OwnI.notBox {w : World} {base : Nat} {v : Value} {n : Nat} {l : List Int} (h : OwnI w base v n l) {c room first : Nat} {s : Value} (hx : DBx w c room first s) : ∀ g, v.ownBlock = some g → g ≠ c := by
  intro g hg e
  rcases h.2 with ⟨rfl, _⟩ | ⟨g', cap, cur, rfl, _, hg', _⟩
  · simp [Value.ownBlock] at hg
  · simp [Value.ownBlock] at hg
    subst hg
    subst e
    unfold DBx at hx
    rw [hg'] at hx
    simp at hx
theorem OwnI.setOff {w : World} {base : Nat} {v : Value} {n : Nat} {l : List Int} (h : OwnI w base v n l) {c : Nat} (hc : ∀ g, v.ownBlock = some g → g ≠ c) (i : Nat) (u : Value) : OwnI (w.setCell ⟨c, i, Option.none⟩ u) base v n l :=
  h.keep (fun g hg => Below.heap_setCell w ⟨c, i, Option.none⟩ u g (hc g hg))
/-- How many entries a box tells. -/
def lenAt (w : World) (c : Nat) : Nat := match w.cell? ⟨c, 2, none⟩ with | some (.slice _ n _) => n | _ => 0
theorem DBx.lenAt {w : World} {c room first n C : Nat} {A : Option Addr} (h : DBx w c room first (.slice A n C)) : lenAt w c = n := by
  unfold Go.Proofs.Ytjkobejhbgjhlaa.lenAt
  rw [h.cells.2.2]
/-- A state of the document's dropping. -/
structure DSt (A0 : Option Addr) (w : World) (c : Nat) (R : Rn) (d m : Nat) (A : Option Addr) (C : Nat) (w0 : World) : Prop where
  sum : d + m = R.l.length
  box : DBx w c R.room (R.first + d) (.slice A m C)
  own : OwnI w 0 (.slice A m C) m (R.l.drop d)
  res : DBx w (c + 1) 0 0 (.slice none 0 0)
  bel : Below c w0 w
  org : Dest w0.heap.size A0 A
theorem DSt.step {A0 : Option Addr} {w w' w0 : World} {c : Nat} {R : Rn} {d q : Nat} {A A2 : Option Addr} {C C2 : Nat} (h : DSt A0 w c R d (q + 1) A C w0) (hb : Below w.heap.size w w') (ho : OwnI w' w.heap.size (.slice A2 q C2) q (((R.l.drop d).drop 1).take q)) (hc : c ≤ w.heap.size) :
    DSt A0 ((w'.setCell ⟨c, 2, none⟩ (.slice A2 q C2)).setCell ⟨c, 1, none⟩ (.int .i64 ((R.first + (d + 1) : Nat) : Int))) c R (d + 1) q A2 C2 w0 := by
  have hs := h.sum
  have e : ((R.l.drop d).drop 1).take q = R.l.drop (d + 1) := by
    rw [List.drop_drop, List.take_of_length_le (by rw [List.length_drop]; omega)]
  rw [e] at ho
  have hx := h.box.below hb h.box.lt
  have hr := h.res.below hb h.res.lt
  have hn := ho.notBox hx
  refine ⟨by omega, (hx.setL _).setFirst _, ((ho.low (Nat.zero_le _)).setOff hn _ _).setOff hn _ _, (hr.other (p := ⟨c, 2, none⟩) (by show c + 1 ≠ c; omega) _).other (p := ⟨c, 1, none⟩) (by show c + 1 ≠ c; omega) _, ?_, Dest.own ho h.bel.size⟩
  exact ((h.bel.trans (hb.mono hc)).setCell (p := ⟨c, 2, none⟩) (Nat.le_refl _) _).setCell (p := ⟨c, 1, none⟩) (Nat.le_refl _) _
theorem res_off {w : World} {base : Nat} {v : Value} {n : Nat} {l : List Int} (h : OwnI w base v n l) (c : Nat) (hc : ∀ g, v.ownBlock = some g → g ≠ c + 1) (x y z : Value) : OwnI (((w.setCell ⟨c + 1, 0, none⟩ x).setCell ⟨c + 1, 1, none⟩ y).setCell ⟨c + 1, 2, none⟩ z) base v n l :=
  ((h.setOff hc 0 x).setOff hc 1 y).setOff hc 2 z
/-- The answer, at last. -/
theorem DSt.done {A0 : Option Addr} {w w0 : World} {R : Rn} {m : Nat} {A : Option Addr} {C : Nat} {x : Int} (h : DSt A0 w w0.heap.size R (R.pos x) m A C w0) :
    DTo w0 A0 (R.drop x) (.returned (.agg #[.int .i64 (R.room : Int), .int .i64 ((R.first + R.pos x : Nat) : Int), .slice A m C])) (((w.setCell ⟨w0.heap.size + 1, 0, none⟩ (.int .i64 (R.room : Int))).setCell ⟨w0.heap.size + 1, 1, none⟩ (.int .i64 ((R.first + R.pos x : Nat) : Int))).setCell ⟨w0.heap.size + 1, 2, none⟩ (.slice A m C)) := by
  have hm : (R.drop x).l.length = m := by have := h.sum; unfold Rn.drop; simp only [List.length_drop]; omega
  refine ⟨A, C, ?_, Lib.hid ?_, Lib.hid (res_below h.bel _ _ _), Lib.hid h.org⟩
  · unfold DV
    rw [hm]
    rfl
  · unfold DL
    rw [hm]
    exact res_off h.own _ (h.own.notBox h.res) _ _ _
set_option maxRecDepth 100000 in
theorem rdrop_any (x : Int) (R : Rn) (A : Option Addr) (C k : Nat) (hf : R.fit k) (hk : k ≤ 1000000) (w : World) (h : DL w R A C) :
    Calls Try.prog 26 #[DV R A C, .int .i64 x] w (DTo w A (R.drop x)) := by
  have hlen := hf.len
  have hhi := hf.hi
  have hnx : R.first + R.l.length ≤ 1099512627776 := by have := hf.next; unfold Rn.next at this; omega
  have CW := Lib.hid (boxes_later R.room R.first (.slice A R.l.length C) h)
  unfold DV
  go_enter Try.func26, Try.ntmps26
  go_upto_region 1 with fail
  obtain ⟨W, hW⟩ : ∃ W, W = (w.alloc (.cells #[.int .i64 (R.room : Int), .int .i64 (R.first : Int), .slice A R.l.length C] 27)).alloc (.cells #[.int .i64 0, .int .i64 0, .slice none 0 0] 27) := ⟨_, rfl⟩
  rw [← hW]
  obtain ⟨hs, hb, hall⟩ := CW.out W hW
  obtain ⟨hx, hz, hl⟩ := hall W (Below.refl _ _)
  have H0 : Hid (DSt A W w.heap.size R 0 R.l.length A C w) := Lib.hid ⟨by omega, hx, by simpa using hl, hz, hb, Dest.same _ _⟩
  clear hW CW hs hb hall hx hz hl h
  obtain ⟨c, hc⟩ : ∃ c, c = w.heap.size := ⟨_, rfl⟩
  rw [← hc] at H0 ⊢
  have HC := Lib.hid hc
  clear hc
  have HP := Lib.hid (R.pos_le x)
  have HE1 : Hid (∀ d : Nat, d < R.l.length → ((R.first : Int) + d < x ↔ d < R.pos x)) := Lib.hid (fun d hd => by unfold Rn.pos Rn.next; omega)
  have HF : Hid (R.first + R.l.length ≤ 1099512627776 ∧ R.l.length ≤ 4096) := Lib.hid ⟨hnx, by omega⟩
  clear hlen hhi hnx hf hk
  go_loopw [] (fun wr => ∃ (d m : Nat) (A2 : Option Addr) (C2 : Nat), d ≤ R.pos x ∧ Hid (DSt A wr c R d m A2 C2 w)) (fun wr => lenAt wr c)
  case atStart => exact ⟨0, R.l.length, A, C, Nat.zero_le _, H0⟩
  case round =>
    obtain ⟨d, m, A2, C2, hd, HS⟩ := hrel
    obtain ⟨wo, hwo⟩ : ∃ wo, wo = wr := ⟨_, rfl⟩
    subst hwo
    obtain ⟨r0, r1, r2⟩ := HS.out.box.cells
    have hsum := HS.out.sum
    have HSM := Lib.hid hsum
    have hf1 : R.first + d ≤ 1099512627776 := by have := HF.out; omega
    have CP1 := Lib.hid (fun (q : Nat) (hq : m = q + 1) => part1_any A2 (q + 1) C2 (R.l.drop d) q (Nat.le_refl _) (by have := HF.out; omega) wo (by have := HS.out.own; rwa [hq] at this))
    have HLA : Hid (lenAt wo c = m) := Lib.hid HS.out.box.lenAt
    rcases Nat.eq_zero_or_pos m with h0 | h0
    · subst h0
      have hdp : d = R.pos x := by have := HP.out; omega
      have HDP := Lib.hid hdp
      obtain ⟨z0, z1, z2⟩ := HS.out.res.cells
      have zf0 := HS.out.res.frozen 0
      have zf1 := HS.out.res.frozen 1
      have zf2 := HS.out.res.frozen 2
      clear hdp hsum CP1
      go_wp2
      refine bodyPost_ret (v := .agg #[.int .i64 (R.room : Int), .int .i64 ((R.first + d : Nat) : Int), .slice A2 0 C2]) (by simp [results, Try.results26, go_sem, z0, z1, z2]) rfl ?_
      have hfin := HS.out
      rw [HC.out, HDP.out] at hfin
      have := hfin.done
      rw [← HC.out, ← HDP.out] at this
      simpa using this
    · obtain ⟨q, rfl⟩ : ∃ q, m = q + 1 := ⟨m - 1, by omega⟩
      by_cases hlt : (R.first : Int) + d < x
      · have hdp := ((HE1.out d (by omega)).1 hlt)
        have HDP := Lib.hid hdp
        have CP := Lib.hid (CP1.out q rfl)
        have HCW : Hid (c ≤ wo.heap.size) := Lib.hid (Nat.le_of_lt HS.out.box.lt)
        clear hdp hsum CP1
        go_wp2_with (first
          | (go_at_call 34; (with_reducible refine (CP.out).mono ?_); rintro e w1 ⟨⟨A3, C3, rfl, HL3⟩, HB1⟩; have HN := Lib.hid (HS.out.step HB1.out HL3.out HCW.out); have HX1 := Lib.hid (HS.out.box.below HB1.out HS.out.box.lt); obtain ⟨p0, p1, p2⟩ := HX1.out.cells; have pf1 := HX1.out.frozen 1; have pf2 := HX1.out.frozen 2)
          | fail)
        have hn := HN.out
        rw [show ((R.first + (d + 1) : Nat) : Int) = (R.first : Int) + (d : Int) + 1 by omega] at hn
        have HNN := Lib.hid hn
        have HNL := Lib.hid hn.box.lenAt
        clear hn
        go_roundw
        case rel => exact ⟨d + 1, q, A3, C3, HDP.out, HNN⟩
        case measure => rw [HLA.out, HNL.out]; exact Nat.lt_succ_self q
      · have hdp : d = R.pos x := by
          have h1 := HE1.out d (by omega)
          omega
        have HDP := Lib.hid hdp
        obtain ⟨z0, z1, z2⟩ := HS.out.res.cells
        have zf0 := HS.out.res.frozen 0
        have zf1 := HS.out.res.frozen 1
        have zf2 := HS.out.res.frozen 2
        clear hdp hsum CP1
        go_wp2
        refine bodyPost_ret (v := .agg #[.int .i64 (R.room : Int), .int .i64 ((R.first + d : Nat) : Int), .slice A2 (q + 1) C2]) (by simp [results, Try.results26, go_sem, z0, z1, z2]) rfl ?_
        have hfin := HS.out
        rw [HC.out, HDP.out] at hfin
        have := hfin.done
        rw [← HC.out, ← HDP.out] at this
        simpa using this
set_option maxRecDepth 100000 in
theorem rcut_any (x : Int) (R : Rn) (A : Option Addr) (C k : Nat) (hf : R.fit k) (hk : k ≤ 1000000) (w : World) (h : DL w R A C) :
    Calls Try.prog 28 #[DV R A C, .int .i64 x] w (DTo w A (R.cut x)) := by
  have hlen := hf.len
  have hhi := hf.hi
  have hnx : R.first + R.l.length ≤ 1099512627776 := by have := hf.next; unfold Rn.next at this; omega
  have CW := Lib.hid (boxes_later R.room R.first (.slice A R.l.length C) h)
  unfold DV
  go_enter Try.func28, Try.ntmps28
  go_upto_region 1 with fail
  obtain ⟨W, hW⟩ : ∃ W, W = (w.alloc (.cells #[.int .i64 (R.room : Int), .int .i64 (R.first : Int), .slice A R.l.length C] 27)).alloc (.cells #[.int .i64 0, .int .i64 0, .slice none 0 0] 27) := ⟨_, rfl⟩
  rw [← hW]
  obtain ⟨hs, hb, hall⟩ := CW.out W hW
  have HS := Lib.hid hs
  have HB := Lib.hid hb
  have HALL := Lib.hid hall
  obtain ⟨hx, hz, hl⟩ := hall W (Below.refl _ _)
  have HL : Hid (DL W R A C) := Lib.hid hl
  obtain ⟨q0, q1, q2⟩ := hx.cells
  clear hW CW hs hb hall hx hz hl h
  have HP := Lib.hid (R.pos_le x)
  have HE1 : Hid (∀ d : Nat, d < R.l.length → ((R.first : Int) + d < x ↔ d < R.pos x)) := Lib.hid (fun d hd => by unfold Rn.pos Rn.next; omega)
  have CP0 := Lib.hid (fun (q : Nat) (hq : q ≤ R.l.length) => part0_any A R.l.length C R.l q hq (by omega) W HL.out)
  have hl4 : R.l.length ≤ 4096 := by omega
  clear hlen hhi hf hk
  go_wp2
  go_loop [5] (fun i => ∃ d : Nat, d ≤ R.pos x ∧ i = .int .i64 (d : Int)) (fun i => R.pos x - (intOf i).toNat)
  case atStart => exact ⟨0, Nat.zero_le _, rfl⟩
  case round =>
    obtain ⟨d, hd, rfl⟩ := hrel
    have hp := HP.out
    have he := HE1.out d
    have b1 : R.first + d ≤ 1099512627776 := by omega
    by_cases hlt : d < R.pos x
    · have k1 : (d : Int) < R.l.length := by omega
      have k2 : (R.first : Int) + d < x := (he (by omega)).2 hlt
      clear he hp
      go_wp2
      go_round
      case rel => exact ⟨d + 1, by omega, by go_num⟩
      case measure => simp [intOf]; omega
    · obtain rfl : d = R.pos x := by omega
      have CP := Lib.hid (CP0.out (R.pos x) hp)
      by_cases hl : R.pos x < R.l.length
      · have k1 : (R.pos x : Int) < R.l.length := by omega
        have k2 : ¬ (R.first : Int) + R.pos x < x := fun h => hlt ((he hl).1 h)
        have HLT : Hid ((R.l.take (R.pos x)).length = R.pos x) := Lib.hid (by rw [List.length_take]; omega)
        clear he hp hd hlt hl CP0
        generalize hD : R.pos x = D at *
        have HD := Lib.hid hD
        clear hD
        go_wp2_with (first
          | (go_at_call 34; (with_reducible refine (CP.out).mono ?_); rintro e w1 ⟨⟨A3, C3, rfl, HL3⟩, HB1⟩; have HX3 := Lib.hid (HALL.out w1 HB1.out); obtain ⟨r0, r1, r2⟩ := HX3.out.1.cells; have rf2 := HX3.out.1.frozen 2; obtain ⟨z0, z1, z2⟩ := HX3.out.2.1.cells; have zf0 := HX3.out.2.1.frozen 0; have zf1 := HX3.out.2.1.frozen 1; have zf2 := HX3.out.2.1.frozen 2)
          | fail)
        refine bodyPost_ret (v := .agg #[.int .i64 (R.room : Int), .int .i64 (R.first : Int), .slice A3 D C3]) (by simp [results, Try.results28, go_sem, z0, z1, z2]) rfl ?_
        have hcl : (R.cut x).l.length = D := by unfold Rn.cut; rw [HD.out]; exact HLT.out
        refine ⟨A3, C3, ?_, Lib.hid ?_, Lib.hid ?_, Lib.hid (Dest.own HL3.out (by have := HS.out; omega))⟩
        · unfold DV
          rw [hcl]
          rfl
        · unfold DL
          rw [hcl]
          have h3 := HL3.out
          have hs := HS.out
          have := res_own (h3.far (p := ⟨w.heap.size, 2, none⟩) (by show w.heap.size < _; omega) (.slice A3 D C3)) w.heap.size (by omega) (.int .i64 (R.room : Int)) (.int .i64 (R.first : Int)) (.slice A3 D C3)
          unfold Rn.cut
          rw [HD.out]
          exact this
        · have hb := HB.out.trans (HB1.out.mono (by have := HS.out; omega))
          exact res_below (hb.setCell (p := ⟨w.heap.size, 2, none⟩) (Nat.le_refl _) _) _ _ _
      · have k1 : ¬ (R.pos x : Int) < R.l.length := by omega
        have HLT : Hid ((R.l.take (R.pos x)).length = R.pos x) := Lib.hid (by rw [List.length_take]; omega)
        clear he hp hd hlt hl CP0
        generalize hD : R.pos x = D at *
        have HD := Lib.hid hD
        clear hD
        go_wp2_with (first
          | (go_at_call 34; (with_reducible refine (CP.out).mono ?_); rintro e w1 ⟨⟨A3, C3, rfl, HL3⟩, HB1⟩; have HX3 := Lib.hid (HALL.out w1 HB1.out); obtain ⟨r0, r1, r2⟩ := HX3.out.1.cells; have rf2 := HX3.out.1.frozen 2; obtain ⟨z0, z1, z2⟩ := HX3.out.2.1.cells; have zf0 := HX3.out.2.1.frozen 0; have zf1 := HX3.out.2.1.frozen 1; have zf2 := HX3.out.2.1.frozen 2)
          | fail)
        refine bodyPost_ret (v := .agg #[.int .i64 (R.room : Int), .int .i64 (R.first : Int), .slice A3 D C3]) (by simp [results, Try.results28, go_sem, z0, z1, z2]) rfl ?_
        have hcl : (R.cut x).l.length = D := by unfold Rn.cut; rw [HD.out]; exact HLT.out
        refine ⟨A3, C3, ?_, Lib.hid ?_, Lib.hid ?_, Lib.hid (Dest.own HL3.out (by have := HS.out; omega))⟩
        · unfold DV
          rw [hcl]
          rfl
        · unfold DL
          rw [hcl]
          have h3 := HL3.out
          have hs := HS.out
          have := res_own (h3.far (p := ⟨w.heap.size, 2, none⟩) (by show w.heap.size < _; omega) (.slice A3 D C3)) w.heap.size (by omega) (.int .i64 (R.room : Int)) (.int .i64 (R.first : Int)) (.slice A3 D C3)
          unfold Rn.cut
          rw [HD.out]
          exact this
        · have hb := HB.out.trans (HB1.out.mono (by have := HS.out; omega))
          exact res_below (hb.setCell (p := ⟨w.heap.size, 2, none⟩) (Nat.le_refl _) _) _ _ _
end Go.Proofs.Ytjkobejhbgjhlaa
