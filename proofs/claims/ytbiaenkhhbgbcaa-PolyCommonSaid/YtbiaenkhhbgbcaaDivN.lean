/-
  Own text: Divide by nothing, walked.
-/
import Derived.Test.YtbiaenkhhbgbcaaDivW
namespace Go.Proofs.Ytbiaenkhhbgbcaa
open Go.RowKit Go.Shelf
attribute [local go_sem] Oper.semAt_some

set_option maxRecDepth 100000 in
set_option maxHeartbeats 20000000 in
theorem divide_none (t : Nat) (a b : Option Addr) (n m c d : Nat) (x y : List Int) (w : World) (ht : IsTab w t) (hx : Sl w a n c x) (hy : Sl w b m d y) (hn : n ≤ 10000) (hm : m ≤ 10000) (h0 : dn y = 0) :
    Calls Try.prog 24 #[.pointer (some ⟨t, 0, none⟩), .slice a n c, .slice b m d] w fun e w' => e = .returned (.tuple #[.slice none 0 0, .slice none 0 0, .int .i64 30]) ∧ Below w.heap.size w w' := by
  refine (callsIn_wide (n := 3)).1 ?_
  have hro : Fence.wide.round = none := rfl
  refine callsIn_of_wp_marks Try.func24 rfl trivial ?_ hro
  simp only [Try.ntmps24, List.size_toArray, List.length_cons, List.length_nil, Nat.reduceAdd, Nat.reduceSub, Array.replicate_succ, Array.replicate_zero, List.push_toArray, List.append_toArray, List.nil_append, List.cons_append]
  rw [wpIn_wide]
  go_upto_region 1 with fail
  obtain ⟨W, hW⟩ : ∃ W, W = (w.alloc (.cells #[.pointer (some ⟨t, 0, none⟩)] 25)).alloc (.cells #[.slice b m d] 22) := ⟨_, rfl⟩
  have b3 : Boxed W w.heap.size 25 (.pointer (some ⟨t, 0, none⟩)) := by rw [hW]; exact (Boxed.new w _ _).alloc _
  have b5 : Boxed W (w.heap.size + 1) 22 (.slice b m d) := by
    rw [hW]
    have := Boxed.new (w.alloc (.cells #[.pointer (some ⟨t, 0, none⟩)] 25)) 22 (.slice b m d)
    rwa [World.size_alloc] at this
  have hb : Below w.heap.size w W := by rw [hW]; exact ((Below.refl _ w).alloc (Nat.le_refl _) _).alloc (by simp) _
  rw [← hW]
  clear hW
  obtain ⟨B3, e3⟩ : ∃ B3, B3 = w.heap.size := ⟨_, rfl⟩
  obtain ⟨B5, e5⟩ : ∃ B5, B5 = w.heap.size + 1 := ⟨_, rfl⟩
  rw [← e3] at b3
  rw [← e5] at b5
  rw [← e5, ← e3]
  have c5 := b5.cell
  have f5 := b5.frozen
  have C1 := Lib.hid (cutn_any a n c x W.drew ((hx.below hb (Nat.le_refl _)).below (Below.refl W.heap.size W).drew (Nat.le_refl _)))
  have HY0 : Hid (Sl W.drew b m d y) := Lib.hid ((hy.below hb (Nat.le_refl _)).below (Below.refl W.heap.size W).drew (Nat.le_refl _))
  have HB5 := Lib.hid b5
  have HB3 := Lib.hid b3
  have HLOW : Hid (Below w.heap.size w W.drew) := Lib.hid hb.drew
  have HT := Lib.hid ht
  have HLT := Lib.hid ht.lt
  have C2 := Lib.hid (fun w' h => cutn_any b m d y w' h)
  have HBX : Hid (∀ w1, Below W.drew.heap.size W.drew w1 → w1.cell? ⟨B5, 0, none⟩ = some (.slice b m d) ∧ w1.frozen? ⟨B5, 0, none⟩ = false) := Lib.hid (fun w1 h => by
    have h1 : Boxed w1 B5 22 (.slice b m d) := (h.block B5 (show B5 < W.drew.heap.size from b5.lt)).trans b5
    exact ⟨h1.cell, h1.frozen⟩)
  have bX : By (tr x) := tr_by hx.bytes.range
  have bY : By (tr y) := tr_by hy.bytes.range
  have lX := tr_length x
  have lY := tr_length y
  have pn : dn x ≤ n := by have := dn_le x; rwa [hx.bytes.size] at this
  have qm : dn y ≤ m := by have := dn_le y; rwa [hy.bytes.size] at this
  generalize dn x = p at *
  generalize dn y = q at *
  generalize tr x = X at *
  generalize tr y = Y at *
  have E3 := Lib.hid e3
  have E5 := Lib.hid e5
  clear b3 b5 ht hx hy e3 e5
  have HZ0 := Lib.hid h0
  clear h0
  refine Code.wp_mono (Q := fun e a' w' => e = .normal ∧ ∃ (A1 : Option Addr) (D1 : Nat) (A2 : Option Addr) (D2 : Nat), a' = { tmps := #[.pointer (some ⟨t, 0, none⟩), .slice A1 p D1, .slice b m d, .pointer (some ⟨B3, 0, none⟩), undef, .pointer (some ⟨B5, 0, none⟩), .slice none 0 0, .slice none 0 0, .int .i64 0, undef, undef, undef, undef, undef, undef, undef, .slice a n c, .slice A1 p D1, .slice b m d, .slice A2 q D2, undef, undef, undef, undef, undef, undef, undef, undef, undef, undef, undef, undef, undef, undef, undef, undef, undef, undef, undef, undef, undef, undef, undef, undef, undef, undef, undef, undef, undef, undef, undef, undef, undef, undef, undef, undef, undef, undef, undef, undef, undef, undef, undef, undef, undef, undef, undef, undef, undef, undef, undef, undef, undef, undef, undef, undef, undef], defers := [] } ∧ Sl w' A1 p D1 X ∧ Sl w' A2 q D2 Y ∧ Boxed w' B5 22 (.slice A2 q D2) ∧ Boxed w' B3 25 (.pointer (some ⟨t, 0, none⟩)) ∧ Below w.heap.size w w') ?post ?reg
  case reg =>
    refine wp_region_noPanic ?_
    go_region_law (first
      | (go_simp; go_at_call 28; (with_reducible refine C1.out.mono ?_); rintro e w1 ⟨A1, D1, rfl, h1, h2⟩; have H1 := Lib.hid h1; have H2 := Lib.hid h2; have HY1 := Lib.hid (HY0.out.below h2 (Nat.le_refl _)); obtain ⟨c51, f51⟩ := HBX.out w1 h2; clear h1 h2)
      | (go_simp; go_at_call 28; (with_reducible refine (C2.out _ HY1.out).mono ?_); rintro e w2 ⟨A2, D2, rfl, h3, h4⟩; have H3 := Lib.hid h3; have H4 := Lib.hid h4; have HB12 := Lib.hid (H2.out.trans (h4.mono H2.out.size)); obtain ⟨c52, f52⟩ := HBX.out w2 HB12.out; clear h3 h4))
    all_goals
      have hbx1 : Boxed w2 B5 22 (.slice b m d) := (HB12.out.block B5 (show B5 < W.drew.heap.size from HB5.out.lt)).trans HB5.out
      have hbx3 : Boxed w2 B3 25 (.pointer (some ⟨t, 0, none⟩)) := (HB12.out.block B3 (show B3 < W.drew.heap.size from HB3.out.lt)).trans HB3.out
      have h3 := H3.out.set (u := .slice A2 q D2) hbx1 (fun z h => nomatch h)
      have h1 := (H1.out.below H4.out (Nat.le_refl _)).set (u := .slice A2 q D2) hbx1 (fun z h => nomatch h)
      have hlow : Below w.heap.size w (w2.setCell ⟨B5, 0, none⟩ (.slice A2 q D2)) := (HLOW.out.trans (HB12.out.mono HLOW.out.size)).setCell (p := ⟨B5, 0, none⟩) (show w.heap.size ≤ B5 by rw [E5.out]; omega) _
      have g5 := hbx1.set (.slice A2 q D2)
      have g3 : Boxed (w2.setCell ⟨B5, 0, none⟩ (.slice A2 q D2)) B3 25 (.pointer (some ⟨t, 0, none⟩)) := hbx3.kept (grownBy_setCell' _ _ _) (by rw [E5.out, E3.out]; simp)
      exact NoPanic.normal ⟨rfl, A1, D1, A2, D2, rfl, h1, h3, g5, g3, hlow⟩
  case post =>
  rintro e a' W1 ⟨rfl, A1, D1, A2, D2, rfl, h1, h3, g5, g3, hlow⟩
  dsimp only
  have g5c := Boxed.cell g5
  obtain rfl : q = 0 := HZ0.out
  have HLOW1 := Lib.hid hlow
  clear hlow h1 h3 g3 c5 f5
  go_wp2
  refine ⟨.tuple #[.slice none 0 0, .slice none 0 0, .int .i64 30], ?_, rfl, HLOW1.out⟩
  simp [results, Try.f24, go_sem]
end Go.Proofs.Ytbiaenkhhbgbcaa
