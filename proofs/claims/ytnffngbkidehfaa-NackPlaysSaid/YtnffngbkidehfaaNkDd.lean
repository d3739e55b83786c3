/-
  Own text: the document's Wait, walked; its calls over lists in plain numbers.
-/
import Derived.Test.YtnffngbkidehfaaNkDc
import Derived.Deep.RegionLaw
namespace Go.Proofs.Ytnffngbkidehfaa.Nk
open Go.RowKit

/-- What the document's call answers: its list, by value. -/
def NV (N : Nl) (A : Option Addr) (C : Nat) : Value := .agg #[.int .i64 (N.q.room : Int), .int .i64 (N.asked : Int), .int .i64 (N.full : Int), .slice A N.q.l.length C]
def RAns (w : World) (B : Nat) (N : Nl) (e : Ending) (w' : World) : Prop :=
  ∃ A C, e = .returned (NV N A C) ∧ Hid (DL w' B A N.q.l.length C N.ref) ∧ Hid (Below w.heap.size w w')
/-- Stop, over lists in plain numbers. -/
theorem rnstop_any (k : Int) (N : Nl) (j : Nat) (hf : N.fit j) (B : Nat) (A : Option Addr) (C : Nat) (w : World) (hB : B ≤ w.heap.size) (h : DL w B A N.q.l.length C N.ref) :
    Calls Try.prog 55 #[NV N A C, .int .u32 k] w (RAns w B (N.stop k)) := by
  have hn : N.q.l.length ≤ 1000 := by have := hf.q.len; have := hf.room; omega
  refine (rstop_any N.q.room N.asked N.full k B A N.q.l.length C N.ref hn w h).mono ?_
  rintro e w' ⟨A', C', rfl, h1, h2⟩
  have e1 : dfil (fun z => decide (z = k)) N.ref = (N.stop k).ref := by rw [Nl.stop_strike hf, Nl.strike_ref]; rfl
  rw [e1, Nl.ref_length] at h1 ⊢
  exact ⟨A', C', rfl, Lib.hid (h1.out.low hB), h2⟩
/-- Below, over lists in plain numbers. -/
theorem rnbelow_any (no : Int) (hno : 0 ≤ no ∧ no ≤ 4294967295) (N : Nl) (j : Nat) (hf : N.fit j) (B : Nat) (A : Option Addr) (C : Nat) (w : World) (hB : B ≤ w.heap.size) (h : DL w B A N.q.l.length C N.ref) :
    Calls Try.prog 56 #[NV N A C, .int .u32 no] w fun e w' => ∃ A' C', e = .returned (.tuple #[NV (N.strike (fun z => decide (behindZ z no < 0))) A' C', .int .i64 ((N.q.l.length : Int) - ((N.strike (fun z => decide (behindZ z no < 0))).q.l.length : Int))]) ∧ Hid (DL w' B A' (N.strike (fun z => decide (behindZ z no < 0))).q.l.length C' (N.strike (fun z => decide (behindZ z no < 0))).ref) ∧ Hid (Below w.heap.size w w') := by
  have hn : N.q.l.length ≤ 1000 := by have := hf.q.len; have := hf.room; omega
  have hk : ∀ y ∈ N.ref, 0 ≤ y.no ∧ y.no ≤ 4294967295 := fun y hy => by
    obtain ⟨x, hx, rfl⟩ := List.mem_map.1 hy
    exact hf.key x hx
  refine (rbelow_any N.q.room N.asked N.full no B A N.q.l.length C N.ref hn hno hk w h).mono ?_
  rintro e w' ⟨A', C', rfl, h1, h2⟩
  have e1 : dfil (fun z => decide (behindZ z no < 0)) N.ref = (N.strike (fun z => decide (behindZ z no < 0))).ref := by rw [Nl.strike_ref]; rfl
  rw [e1, Nl.ref_length] at h1 ⊢
  exact ⟨A', C', rfl, Lib.hid (h1.out.low hB), h2⟩
theorem rnhas_any (k : Int) (N : Nl) (j : Nat) (hf : N.fit j) (B : Nat) (A : Option Addr) (C : Nat) (w : World) (h : DL w B A N.q.l.length C N.ref) :
    Calls Try.prog 23 #[NV N A C, .int .u32 k] w fun e w' => e = .returned (.bool (N.has k)) ∧ Below w.heap.size w w' := by
  have hn : N.q.l.length ≤ 1000 := by have := hf.q.len; have := hf.room; omega
  have := rhas_any N.q.room N.asked N.full k B A N.q.l.length C N.ref hn w h
  rwa [dhas_ref] at this
set_option maxRecDepth 100000 in
theorem rnwait_any (k t : Int) (N : Nl) (j : Nat) (hf : N.fit j) (hj : j ≤ 1000000) (B : Nat) (A : Option Addr) (C : Nat) (w : World) (hB : B ≤ w.heap.size) (h : DL w B A N.q.l.length C N.ref) :
    Calls Try.prog 54 #[NV N A C, .int .u32 k, .int .i64 t] w (RAns w B (N.wait k t)) := by
  have hn : N.q.l.length ≤ 1000 := by have := hf.q.len; have := hf.room; omega
  have ht := hd_in t
  obtain ⟨W, hW⟩ : ∃ W, W = (w.alloc (.cells #[.int .i64 (N.q.room : Int), .int .i64 (N.asked : Int), .int .i64 (N.full : Int), .slice A N.q.l.length C] 62)).alloc (.cells #[.int .i64 0, .int .i64 0, .int .i64 0, .slice none 0 0] 62) := ⟨_, rfl⟩
  obtain ⟨hs, hb, hall⟩ := dboxes (room := N.q.room) (asked := N.asked) (full := N.full) h W hW
  obtain ⟨hx, hz, hdl0⟩ := hall W (Below.refl _ _)
  have CH := Lib.hid (rnhas_any k N j hf B A C W hdl0)
  obtain ⟨d0, d1, d2, d3⟩ := hx.cells
  obtain ⟨z0, z1, z2, z3⟩ := hz.cells
  have HW := Lib.hid hW
  have HS := Lib.hid hs
  have HB := Lib.hid hb
  have HBW := Lib.hid hB
  have HALL : Hid (∀ w', Below W.heap.size W w' → DBx w' w.heap.size N.q.room N.asked N.full (.slice A N.q.l.length C) ∧ DBx w' (w.heap.size + 1) 0 0 0 (.slice none 0 0) ∧ DL w' B A N.q.l.length C N.ref ∧ Below w.heap.size w w') := Lib.hid (fun w' h' => by
    obtain ⟨a1, a2, a3⟩ := hall w' h'
    exact ⟨a1, a2, a3, hb.trans (h'.mono (by omega))⟩)
  have hlen := hf.q.len
  obtain ⟨sw, hsw⟩ : ∃ sw, sw = N.has k := ⟨_, rfl⟩
  rw [← hsw] at CH
  -- the same list, its counts perhaps others
  have HSAME : Hid (∀ (w' : World) (a f : Int), DL w' B A N.q.l.length C N.ref → DBx w' (w.heap.size + 1) 0 0 0 (.slice none 0 0) → Below w.heap.size w w' → ∀ N2 : Nl, N2.q = N.q → N2.ref = N.ref → (N2.asked : Int) = a → (N2.full : Int) = f → RAns w B N2 (.returned (.agg #[.int .i64 (N.q.room : Int), .int .i64 a, .int .i64 f, .slice A N.q.l.length C]))
      ((((w'.setCell ⟨w.heap.size + 1, 0, none⟩ (.int .i64 (N.q.room : Int))).setCell ⟨w.heap.size + 1, 1, none⟩ (.int .i64 a)).setCell ⟨w.heap.size + 1, 2, none⟩ (.int .i64 f)).setCell ⟨w.heap.size + 1, 3, none⟩ (.slice A N.q.l.length C))) := Lib.hid (fun w' a f hdl hbx hbel N2 hq hr ha hff => by
    refine ⟨A, C, ?_, Lib.hid ?_, Lib.hid (four_below hbel _ (Nat.le_succ _) _ _ _ _)⟩
    · unfold NV
      rw [hq, ha, hff]
    · rw [hq, hr]
      refine hdl.keep (fun g cur _ _ hg => four_far _ _ _ _ _ _ g (fun e => ?_))
      subst e
      unfold DBx at hbx
      rw [hg] at hbx
      simp at hbx)
  cases sw with
  | true =>
    have e : N.wait k t = N := by unfold Nl.wait; rw [if_pos hsw.symm]
    rw [e]
    have HR : Hid (∀ w', Below W.heap.size W w' → DBx w' w.heap.size N.q.room N.asked N.full (.slice A N.q.l.length C) ∧ DBx w' (w.heap.size + 1) 0 0 0 (.slice none 0 0) ∧ RAns w B N (.returned (.agg #[.int .i64 (N.q.room : Int), .int .i64 (N.asked : Int), .int .i64 (N.full : Int), .slice A N.q.l.length C])) ((((w'.setCell ⟨w.heap.size + 1, 0, none⟩ (.int .i64 (N.q.room : Int))).setCell ⟨w.heap.size + 1, 1, none⟩ (.int .i64 (N.asked : Int))).setCell ⟨w.heap.size + 1, 2, none⟩ (.int .i64 (N.full : Int))).setCell ⟨w.heap.size + 1, 3, none⟩ (.slice A N.q.l.length C))) := Lib.hid (fun w' h' => by
      obtain ⟨a1, a2, a3, a4⟩ := HALL.out w' h'
      exact ⟨a1, a2, HSAME.out w' _ _ a3 a2 a4 N rfl rfl rfl rfl⟩)
    unfold NV at *
    clear hW hs hb hall hx hz hdl0 h hf hj hn ht e hsw hB hlen
    generalize (N.q.room : Int) = r0 at *
    generalize (N.asked : Int) = a0 at *
    generalize (N.full : Int) = f0 at *
    generalize N.q.l.length = n at *
    go_enter Try.func54, Try.ntmps54
    go_upto_region 1 with fail
    rw [← HW.out]
    clear z0 z1 z2 z3
    go_wp2_with (first
      | (go_at_call 23; (with_reducible refine (CH.out).mono ?_); rintro e w1 ⟨rfl, hb1⟩; obtain ⟨y1, y2, y3⟩ := HR.out w1 hb1; have HR1 := Lib.hid y3; clear d0 d1 d2 d3; obtain ⟨d0, d1, d2, d3⟩ := y1.cells; obtain ⟨z0, z1, z2, z3⟩ := y2.cells; have zf0 := y2.frozen 0; have zf1 := y2.frozen 1; have zf2 := y2.frozen 2; have zf3 := y2.frozen 3; clear y1 y2 y3 hb1)
      | fail)
    refine bodyPost_ret (v := .agg #[.int .i64 r0, .int .i64 a0, .int .i64 f0, .slice A n C]) (by simp [results, Try.results54, go_sem, z0, z1, z2, z3]) rfl ?_
    exact HR1.out
  | false =>
    by_cases hfull : N.q.l.length = N.q.room
    · have e : N.wait k t = ⟨N.q, N.t, N.asked, N.full + 1⟩ := by unfold Nl.wait; rw [if_neg (by rw [← hsw]; decide), if_pos hfull]
      rw [e]
      have HR : Hid (∀ w', Below W.heap.size W w' → DBx w' w.heap.size N.q.room N.asked N.full (.slice A N.q.l.length C) ∧ DBx (w'.setCell ⟨w.heap.size, 2, none⟩ (.int .i64 ((N.full : Int) + 1))) (w.heap.size + 1) 0 0 0 (.slice none 0 0) ∧ DBx (w'.setCell ⟨w.heap.size, 2, none⟩ (.int .i64 ((N.full : Int) + 1))) w.heap.size N.q.room N.asked ((N.full : Int) + 1) (.slice A N.q.l.length C) ∧ RAns w B ⟨N.q, N.t, N.asked, N.full + 1⟩ (.returned (.agg #[.int .i64 (N.q.room : Int), .int .i64 (N.asked : Int), .int .i64 ((N.full : Int) + 1), .slice A N.q.l.length C]))
          (((((w'.setCell ⟨w.heap.size, 2, none⟩ (.int .i64 ((N.full : Int) + 1))).setCell ⟨w.heap.size + 1, 0, none⟩ (.int .i64 (N.q.room : Int))).setCell ⟨w.heap.size + 1, 1, none⟩ (.int .i64 (N.asked : Int))).setCell ⟨w.heap.size + 1, 2, none⟩ (.int .i64 ((N.full : Int) + 1))).setCell ⟨w.heap.size + 1, 3, none⟩ (.slice A N.q.l.length C))) := Lib.hid (fun w' h' => by
        obtain ⟨a1, a2, a3, a4⟩ := HALL.out w' h'
        have b1 := a1.setFull ((N.full : Int) + 1)
        have b2 := a2.other (p := ⟨w.heap.size, 2, none⟩) (by show w.heap.size + 1 ≠ w.heap.size; omega) (.int .i64 ((N.full : Int) + 1))
        refine ⟨a1, b2, b1, HSAME.out _ _ _ (a3.keep (fun g cur _ _ hg => Below.heap_setCell _ _ _ g (fun e => ?_))) b2 (a4.setCell (p := ⟨w.heap.size, 2, none⟩) (Nat.le_refl _) _) ⟨N.q, N.t, N.asked, N.full + 1⟩ rfl rfl rfl (by simp)⟩
        have e' : g = w.heap.size := e
        subst e'
        unfold DBx at a1
        rw [hg] at a1
        simp at a1)
      have i1 : (N.q.room : Int) ≤ (N.q.l.length : Int) := by omega
      have hfl := hf.full
      have n1 : (N.full : Int) ≤ 1000000 := by omega
      have n0 : (0 : Int) ≤ (N.full : Int) := by omega
      have n2 : (N.q.l.length : Int) ≤ 1000 := by omega
      have n3 : (0 : Int) ≤ (N.q.l.length : Int) := by omega
      unfold NV at *
      clear hW hs hb hall hx hz hdl0 h hf hj hn ht e hsw hB hlen hfull hfl
      generalize (N.q.room : Int) = r0 at *
      generalize (N.asked : Int) = a0 at *
      generalize (N.full : Int) = f0 at *
      generalize N.q.l.length = n at *
      go_enter Try.func54, Try.ntmps54
      go_upto_region 1 with fail
      rw [← HW.out]
      clear z0 z1 z2 z3
      go_wp2_with (first
        | (go_at_call 23; (with_reducible refine (CH.out).mono ?_); rintro e w1 ⟨rfl, hb1⟩; obtain ⟨y1, y2, y4, y3⟩ := HR.out w1 hb1; have HR1 := Lib.hid y3; clear d0 d1 d2 d3; obtain ⟨d0, d1, d2, d3⟩ := y1.cells; have df2 := y1.frozen 2; obtain ⟨e0, e1, e2, e3⟩ := y4.cells; obtain ⟨z0, z1, z2, z3⟩ := y2.cells; have zf0 := y2.frozen 0; have zf1 := y2.frozen 1; have zf2 := y2.frozen 2; have zf3 := y2.frozen 3; clear y1 y2 y3 y4 hb1)
        | fail)
      refine bodyPost_ret (v := .agg #[.int .i64 r0, .int .i64 a0, .int .i64 (f0 + 1), .slice A n C]) (by simp [results, Try.results54, go_sem, z0, z1, z2, z3]) rfl ?_
      exact HR1.out
    · have hlen2 : N.q.l.length < N.q.room := by omega
      have hno : N.has k = false := hsw.symm
      have e : N.wait k t = ⟨N.q.start k (hd t), put N.t k 0, N.asked, N.full⟩ := by unfold Nl.wait; rw [if_neg (by rw [← hsw]; decide), if_neg hfull]
      have hst := (start_new hno hlen2 (t := hd t) (by omega) (by omega)).2
      have href : (N.wait k t).ref = dput ⟨k, hd t, 0⟩ N.ref := by rw [e]; exact Nl.wait_new hno hlen2 (by omega) (by omega)
      have hlq : (N.wait k t).q.l.length = N.q.l.length + 1 := by rw [← Nl.ref_length, href, dput_length, Nl.ref_length]
      have hroom : (N.wait k t).q.room = N.q.room := by rw [e]; dsimp only; rw [hst]
      have hak : (N.wait k t).asked = N.asked ∧ (N.wait k t).full = N.full := by rw [e]; exact ⟨rfl, rfl⟩
      have CHD := Lib.hid (fun w => rheld_any t w)
      have CP : Hid (∀ w', Below W.heap.size W w' → Calls Try.prog 81 #[.slice A N.q.l.length C, .agg #[.int .u32 k, .int .i64 (hd t), .int .i64 0]] w' fun e w1 => ∃ A5 C5, e = .returned (.slice A5 (N.q.l.length + 1) C5) ∧ Hid (Below w'.heap.size w' w1 ∧ w1.cell? ⟨w.heap.size, 3, none⟩ = some (.slice A N.q.l.length C) ∧ w1.frozen? ⟨w.heap.size, 3, none⟩ = false) ∧ Hid (DBx (w1.setCell ⟨w.heap.size, 3, none⟩ (.slice A5 (N.q.l.length + 1) C5)) w.heap.size N.q.room N.asked N.full (.slice A5 (N.q.l.length + 1) C5) ∧ DBx (w1.setCell ⟨w.heap.size, 3, none⟩ (.slice A5 (N.q.l.length + 1) C5)) (w.heap.size + 1) 0 0 0 (.slice none 0 0) ∧
          RAns w B (N.wait k t) (.returned (.agg #[.int .i64 (N.q.room : Int), .int .i64 (N.asked : Int), .int .i64 (N.full : Int), .slice A5 (N.q.l.length + 1) C5])) (((((w1.setCell ⟨w.heap.size, 3, none⟩ (.slice A5 (N.q.l.length + 1) C5)).setCell ⟨w.heap.size + 1, 0, none⟩ (.int .i64 (N.q.room : Int))).setCell ⟨w.heap.size + 1, 1, none⟩ (.int .i64 (N.asked : Int))).setCell ⟨w.heap.size + 1, 2, none⟩ (.int .i64 (N.full : Int))).setCell ⟨w.heap.size + 1, 3, none⟩ (.slice A5 (N.q.l.length + 1) C5)))) := Lib.hid (fun w' h' => by
        obtain ⟨a1, a2, a3, a4⟩ := HALL.out w' h'
        refine (rput_any ⟨k, hd t, 0⟩ B A N.q.l.length C N.ref hn w' a3).mono ?_
        rintro e1 w1 ⟨A5, C5, rfl, ho, hb1⟩
        obtain ⟨b1, b2, b3, b4⟩ := HALL.out w1 (h'.trans (hb1.out.mono h'.size))
        have hs5 := h'.size
        have hs6 := HS.out
        have hbw := HBW.out
        refine ⟨A5, C5, rfl, Lib.hid ⟨hb1.out, b1.cells.2.2.2, b1.frozen 3⟩, Lib.hid ⟨b1.setList _, b2.other (by show w.heap.size + 1 ≠ w.heap.size; omega) _, A5, C5, ?_, Lib.hid ?_, Lib.hid (four_below (b4.setCell (p := ⟨w.heap.size, 3, none⟩) (Nat.le_refl _) _) _ (Nat.le_succ _) _ _ _ _)⟩⟩
        · unfold NV
          rw [hlq, hroom, hak.1, hak.2]
        · rw [hlq, href]
          refine (ho.out.dl.keep (fun g _ _ hg _ => ?_)).low (by omega)
          rw [four_far _ _ _ _ _ _ g (by omega), Below.heap_setCell _ ⟨w.heap.size, 3, none⟩ _ g (by show g ≠ w.heap.size; omega)])
      have i1 : ¬ (N.q.room : Int) ≤ (N.q.l.length : Int) := by omega
      have n2 : (N.q.l.length : Int) ≤ 1000 := by omega
      have n3 : (0 : Int) ≤ (N.q.l.length : Int) := by omega
      have HFR : Hid (∀ w', Below W.heap.size W w' → DBx w' w.heap.size N.q.room N.asked N.full (.slice A N.q.l.length C)) := Lib.hid (fun w' h' => (HALL.out w' h').1)
      unfold NV at *
      clear hW hs hb hall hx hz hdl0 h hf hj hn ht hsw hB hlen hfull hno e hst href hlq hroom hak hlen2
      generalize N.wait k t = N2 at *
      generalize (N.q.room : Int) = r0 at *
      generalize (N.asked : Int) = a0 at *
      generalize (N.full : Int) = f0 at *
      generalize N.q.l.length = n at *
      generalize hd t = ht at *
      go_enter Try.func54, Try.ntmps54
      go_upto_region 1 with fail
      rw [← HW.out]
      clear z0 z1 z2 z3
      go_upto_region 6 with (first
        | (go_at_call 23; (with_reducible refine (CH.out).mono ?_); rintro e w1 ⟨rfl, hb1⟩; have HB1 := Lib.hid hb1; clear d0 d1 d2 d3; obtain ⟨d0, d1, d2, d3⟩ := (HFR.out w1 hb1).cells; clear hb1)
        | fail)
      have HB1d : Hid (Below W.heap.size W w1.drew) := Lib.hid HB1.out.drew
      go_region_law (first
        | (go_simp; go_at_call 82; (with_reducible refine (CHD.out _).mono ?_); rintro e w2 ⟨rfl, rfl⟩)
        | (go_simp; go_at_call 81; (with_reducible refine (CP.out _ HB1d.out).mono ?_); rintro e w5 ⟨A5, C5, rfl, H5, HR5⟩; obtain ⟨_, c3, f3⟩ := H5.out)
        | fail)
      all_goals
        obtain ⟨y1, y2, y3⟩ := HR5.out
        have HR6 := Lib.hid y3
        clear d0 d1 d2 d3
        obtain ⟨d0, d1, d2, d3⟩ := y1.cells
        obtain ⟨z0, z1, z2, z3⟩ := y2.cells
        have zf0 := y2.frozen 0
        have zf1 := y2.frozen 1
        have zf2 := y2.frozen 2
        have zf3 := y2.frozen 3
        clear y1 y2 y3
        go_wp2
        refine bodyPost_ret (v := .agg #[.int .i64 r0, .int .i64 a0, .int .i64 f0, .slice A5 (n + 1) C5]) (by simp [results, Try.results54, go_sem, z0, z1, z2, z3]) rfl ?_
        exact HR6.out
end Go.Proofs.Ytnffngbkidehfaa.Nk
