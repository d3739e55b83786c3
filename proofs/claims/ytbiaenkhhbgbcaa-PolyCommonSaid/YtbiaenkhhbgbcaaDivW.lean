/-
  Own text: Divide, walked.
-/
import Derived.Test.YtbiaenkhhbgbcaaDivM
import Derived.Test.YtbiaenkhhbgbcaaRound
import Derived.Deep.RegionLaw
import Derived.Sort.CutIn
namespace Go.Proofs.Ytbiaenkhhbgbcaa
open Go.RowKit Go.Shelf
attribute [local go_sem] Oper.semAt_some

theorem box_apart {W : World} {B b o : Nat} {t : TypeId} {v : Value} {z : Int} (h : Boxed W B t v) (hv : ∀ z, v ≠ .int .u8 z) (hc : W.cell? ⟨b, o, none⟩ = some (.int .u8 z)) : b ≠ B := fun e => by
  subst e
  simp only [World.cell?] at hc
  rw [show W.heap[b]? = _ from h] at hc
  cases o with
  | zero => exact hv z (by simpa using hc)
  | succ o => simp at hc
theorem Sl.set {W : World} {B : Nat} {t : TypeId} {v u : Value} {a : Option Addr} {n c : Nat} {l : List Int} (h : Sl W a n c l) (hB : Boxed W B t v) (hv : ∀ z, v ≠ .int .u8 z) : Sl (W.setCell ⟨B, 0, none⟩ u) a n c l := by
  refine ⟨⟨h.bytes.size, h.bytes.max, h.bytes.byte, ?_⟩, h.cap, h.top, h.nilc⟩
  rcases h.bytes.cell with g | ⟨g, b, off, e, hl, hc⟩
  · exact .inl g
  · refine .inr ⟨g, b, off, e, by simpa using hl, fun i hi => ?_⟩
    have := box_apart hB hv (hc i hi)
    rw [cell_far (p := ⟨B, 0, none⟩) this]; exact hc i hi
theorem Own8.turn {A B : World} {base : Nat} {v : Value} {n : Nat} {l : List Int} {row : Option Nat} (h : Own8 A base v n l) (hg : A.grownBy B row) (hr : ∀ r, row = some r → ∃ o : Obj, A.heap[r]? = some o ∧ o.isCells = false) : Own8 B base v n l := by
  refine World.ownsRow.kept h hg ?_
  rcases h.2 with ⟨rfl, _⟩ | ⟨g, cap, cur, rfl, _, hgb, _⟩
  · exact .inl rfl
  · refine .inr fun e' => ?_
    obtain ⟨o, ho, hc⟩ := hr g (by simpa [Value.ownBlock] using e'.symm)
    rw [hgb] at ho; cases ho; cases hc
theorem Boxed.turn {A B : World} {b : Nat} {t : TypeId} {v : Value} {row : Option Nat} (h : Boxed A b t v) (hg : A.grownBy B row) (hr : ∀ r, row = some r → ∃ o : Obj, A.heap[r]? = some o ∧ o.isCells = false) : Boxed B b t v :=
  h.kept hg (fun e => by
    obtain ⟨o, ho, hc⟩ := hr b e.symm
    rw [show A.heap[b]? = _ from h] at ho; cases ho; cases hc)
theorem Sl.turn {w : World} {a : Option Addr} {n c : Nat} {l : List Int} (h : Sl w a n c l) {D : Nat} {o o' : Obj} (hD : w.heap[D]? = some o) (ho : o.isCells = false := by rfl) : Sl (w.putObj D o') a n c l := by
  refine ⟨⟨h.bytes.size, h.bytes.max, h.bytes.byte, h.bytes.cell.imp id ?_⟩, h.cap, h.top, h.nilc⟩
  rintro ⟨h0, b, off, e, hl, hc⟩
  exact ⟨h0, b, off, e, by simpa using hl, fun i hi => cell_kept (hc i hi) (grownBy_putObj' w D o') (fun r e => by cases e; exact ⟨_, hD, ho⟩)⟩
/-- Between two rounds of Divide's loop: its variables, and the two rows that it writes. -/
structure DivI (B3 B5 B9 B10 R base t top inv p q L Cc D2 : Nat) (Ac A2 : Option Addr) (X Y : List Int) {V : Nat → Int → Prop} (pre : List (Spot L V)) (W : World) : Prop where
  b3 : Boxed W B3 25 (.pointer (some ⟨t, 0, none⟩))
  b5 : Boxed W B5 22 (.slice A2 q D2)
  b9 : Boxed W B9 3 (.int .i64 top)
  b10 : Boxed W B10 5 (.int .u8 inv)
  b12 : Boxed W R 22 (.slice Ac p Cc)
  b13 : Boxed W (R + 1 + 1) 22 (.slice (some ⟨R + 1, 0, none⟩) L L)
  rest : Own8 W base (.slice Ac p Cc) p (dfold Y top inv (X, List.replicate L 0) (placesOf pre)).1
  quot : Own8 W (R + 1) (.slice (some ⟨R + 1, 0, none⟩) L L) L (dfold Y top inv (X, List.replicate L 0) (placesOf pre)).2
theorem DivI.own {B3 B5 B9 B10 R base t top inv p q L Cc D2 : Nat} {Ac A2 : Option Addr} {X Y : List Int} {V : Nat → Int → Prop} : Own (fun (pre : List (Spot L V)) W => DivI B3 B5 B9 B10 R base t top inv p q L Cc D2 Ac A2 X Y pre W) := by
  rintro s A B row ⟨h1, h2, h3, h4, h5, h6, h7, h8⟩ hg hr
  exact ⟨Boxed.turn h1 hg hr, Boxed.turn h2 hg hr, Boxed.turn h3 hg hr, Boxed.turn h4 hg hr, Boxed.turn h5 hg hr, Boxed.turn h6 hg hr, Own8.turn h7 hg hr, Own8.turn h8 hg hr⟩
/-- What Divide leaves. -/
def Divided (x y : List Int) (w : World) (e : Ending) (w' : World) : Prop :=
  ∃ A k C A' k' C' q r, e = .returned (.tuple #[.slice A k C, .slice A' k' C', .int .i64 0]) ∧ Sl w' A k C q ∧ Sl w' A' k' C' r ∧ DivOK x y q r ∧ Below w.heap.size w w'
theorem div_lay (w : World) (v12 v13 : Value) (M : Array Value) (Z : List Int) (hM : Row8 ((w.alloc (.cells #[v12] 22)).alloc (.cells M 5)) (w.heap.size + 1) 5 Z) (W8 : World) (h8 : W8 = (((w.alloc (.cells #[v12] 22)).alloc (.cells M 5)).alloc (.cells #[v13] 22)).alloc (.cells #[v13] 22)) :
    Boxed W8 w.heap.size 22 v12 ∧ Row8 W8 (w.heap.size + 1) 5 Z ∧ Boxed W8 (w.heap.size + 1 + 1) 22 v13 ∧ Boxed W8 (w.heap.size + 1 + 1 + 1) 22 v13 ∧ Below w.heap.size w W8 ∧ W8.heap.size = w.heap.size + 1 + 1 + 1 + 1 := by
  subst h8
  have n1 := Boxed.new w 22 v12
  have n3 := Boxed.new ((w.alloc (.cells #[v12] 22)).alloc (.cells M 5)) 22 v13
  have n4 := Boxed.new (((w.alloc (.cells #[v12] 22)).alloc (.cells M 5)).alloc (.cells #[v13] 22)) 22 v13
  simp only [World.size_alloc] at n3 n4
  have hr : ∀ (W : World) (o : Obj), Row8 W (w.heap.size + 1) 5 Z → Row8 (W.alloc o) (w.heap.size + 1) 5 Z := fun W o h => h.below ((Below.refl W.heap.size W).alloc (Nat.le_refl _) o) h.lt
  refine ⟨((n1.alloc _).alloc _).alloc _, hr _ _ (hr _ _ hM), n3.alloc _, n4, ?_, by simp⟩
  exact ((((Below.refl _ w).alloc (Nat.le_refl _) _).alloc (by simp) _).alloc (by simp; omega) _).alloc (by simp; omega) _
set_option maxRecDepth 100000 in
set_option maxHeartbeats 20000000 in
theorem divide_some (t : Nat) (a b : Option Addr) (n m c d : Nat) (x y : List Int) (w : World) (ht : IsTab w t) (hx : Sl w a n c x) (hy : Sl w b m d y) (hn : n ≤ 10000) (hm : m ≤ 10000) (h0 : dn y ≠ 0) :
    Calls Try.prog 24 #[.pointer (some ⟨t, 0, none⟩), .slice a n c, .slice b m d] w (Divided x y w) := by
  refine (callsIn_wide (n := 3)).1 ?_
  have hro : Fence.wide.round = none := rfl
  have HOK := Lib.hid (fun top inv L h1 h2 h3 h4 => div_ok (x := x) (y := y) hx.bytes.range hy.bytes.range (top := top) h1 (inv := inv) (L := L) h2 h3 h4)
  refine callsIn_of_wp_marks Try.func24 rfl trivial ?_ hro
  simp only [Try.ntmps24, List.size_toArray, List.length_cons, List.length_nil, Nat.reduceAdd, Nat.reduceSub, Array.replicate_succ, Array.replicate_zero, List.push_toArray, List.append_toArray, List.nil_append, List.cons_append]
  rw [wpIn_wide]
  go_upto_region 1 with fail
  obtain ⟨W, hW⟩ : ∃ W, W = (w.alloc (.cells #[.pointer (some ⟨t, 0, none⟩)] 25)).alloc (.cells #[.slice b m d] 22) := ⟨_, rfl⟩
  have b3 : Boxed W w.heap.size 25 (.pointer (some ⟨t, 0, none⟩)) := by rw [hW]; exact (Boxed.new w _ _).alloc _
  have b5 : Boxed W (w.heap.size + 1) 22 (.slice b m d) := by
    rw [hW]
    have := Boxed.new (w.alloc (.cells #[.pointer (some ⟨t, 0, none⟩)] 25)) 22 (.slice b m d)
    rwa [World.size_alloc] at this
  have hb : Below w.heap.size w W := by rw [hW]; exact ((Below.refl _ w).alloc (Nat.le_refl _) _).alloc (by simp) _
  rw [← hW]
  clear hW
  obtain ⟨B3, e3⟩ : ∃ B3, B3 = w.heap.size := ⟨_, rfl⟩
  obtain ⟨B5, e5⟩ : ∃ B5, B5 = w.heap.size + 1 := ⟨_, rfl⟩
  rw [← e3] at b3
  rw [← e5] at b5
  rw [← e5, ← e3]
  have c5 := b5.cell
  have f5 := b5.frozen
  have C1 := Lib.hid (cutn_any a n c x W.drew ((hx.below hb (Nat.le_refl _)).below (Below.refl W.heap.size W).drew (Nat.le_refl _)))
  have HY0 : Hid (Sl W.drew b m d y) := Lib.hid ((hy.below hb (Nat.le_refl _)).below (Below.refl W.heap.size W).drew (Nat.le_refl _))
  have HB5 := Lib.hid b5
  have HB3 := Lib.hid b3
  have HLOW : Hid (Below w.heap.size w W.drew) := Lib.hid hb.drew
  have HT := Lib.hid ht
  have HLT := Lib.hid ht.lt
  have C2 := Lib.hid (fun w' h => cutn_any b m d y w' h)
  have HBX : Hid (∀ w1, Below W.drew.heap.size W.drew w1 → w1.cell? ⟨B5, 0, none⟩ = some (.slice b m d) ∧ w1.frozen? ⟨B5, 0, none⟩ = false) := Lib.hid (fun w1 h => by
    have h1 : Boxed w1 B5 22 (.slice b m d) := (h.block B5 (show B5 < W.drew.heap.size from b5.lt)).trans b5
    exact ⟨h1.cell, h1.frozen⟩)
  have bX : By (tr x) := tr_by hx.bytes.range
  have bY : By (tr y) := tr_by hy.bytes.range
  have lX := tr_length x
  have lY := tr_length y
  have pn : dn x ≤ n := by have := dn_le x; rwa [hx.bytes.size] at this
  have qm : dn y ≤ m := by have := dn_le y; rwa [hy.bytes.size] at this
  have hlast := co_last hy.bytes.range h0
  rw [← co_tr] at hlast
  generalize dn x = p at *
  generalize dn y = q at *
  generalize tr x = X at *
  generalize tr y = Y at *
  have E3 := Lib.hid e3
  have E5 := Lib.hid e5
  clear b3 b5 ht hx hy e3 e5
  refine Code.wp_mono (Q := fun e a' w' => e = .normal ∧ ∃ (A1 : Option Addr) (D1 : Nat) (A2 : Option Addr) (D2 : Nat), a' = { tmps := #[.pointer (some ⟨t, 0, none⟩), .slice A1 p D1, .slice b m d, .pointer (some ⟨B3, 0, none⟩), undef, .pointer (some ⟨B5, 0, none⟩), .slice none 0 0, .slice none 0 0, .int .i64 0, undef, undef, undef, undef, undef, undef, undef, .slice a n c, .slice A1 p D1, .slice b m d, .slice A2 q D2, undef, undef, undef, undef, undef, undef, undef, undef, undef, undef, undef, undef, undef, undef, undef, undef, undef, undef, undef, undef, undef, undef, undef, undef, undef, undef, undef, undef, undef, undef, undef, undef, undef, undef, undef, undef, undef, undef, undef, undef, undef, undef, undef, undef, undef, undef, undef, undef, undef, undef, undef, undef, undef, undef, undef, undef, undef], defers := [] } ∧ Sl w' A1 p D1 X ∧ Sl w' A2 q D2 Y ∧ Boxed w' B5 22 (.slice A2 q D2) ∧ Boxed w' B3 25 (.pointer (some ⟨t, 0, none⟩)) ∧ Below w.heap.size w w') ?post ?reg
  case reg =>
    refine wp_region_noPanic ?_
    go_region_law (first
      | (go_simp; go_at_call 28; (with_reducible refine C1.out.mono ?_); rintro e w1 ⟨A1, D1, rfl, h1, h2⟩; have H1 := Lib.hid h1; have H2 := Lib.hid h2; have HY1 := Lib.hid (HY0.out.below h2 (Nat.le_refl _)); obtain ⟨c51, f51⟩ := HBX.out w1 h2; clear h1 h2)
      | (go_simp; go_at_call 28; (with_reducible refine (C2.out _ HY1.out).mono ?_); rintro e w2 ⟨A2, D2, rfl, h3, h4⟩; have H3 := Lib.hid h3; have H4 := Lib.hid h4; have HB12 := Lib.hid (H2.out.trans (h4.mono H2.out.size)); obtain ⟨c52, f52⟩ := HBX.out w2 HB12.out; clear h3 h4))
    all_goals
      have hbx1 : Boxed w2 B5 22 (.slice b m d) := (HB12.out.block B5 (show B5 < W.drew.heap.size from HB5.out.lt)).trans HB5.out
      have hbx3 : Boxed w2 B3 25 (.pointer (some ⟨t, 0, none⟩)) := (HB12.out.block B3 (show B3 < W.drew.heap.size from HB3.out.lt)).trans HB3.out
      have h3 := H3.out.set (u := .slice A2 q D2) hbx1 (fun z h => nomatch h)
      have h1 := (H1.out.below H4.out (Nat.le_refl _)).set (u := .slice A2 q D2) hbx1 (fun z h => nomatch h)
      have hlow : Below w.heap.size w (w2.setCell ⟨B5, 0, none⟩ (.slice A2 q D2)) := (HLOW.out.trans (HB12.out.mono HLOW.out.size)).setCell (p := ⟨B5, 0, none⟩) (show w.heap.size ≤ B5 by rw [E5.out]; omega) _
      have g5 := hbx1.set (.slice A2 q D2)
      have g3 : Boxed (w2.setCell ⟨B5, 0, none⟩ (.slice A2 q D2)) B3 25 (.pointer (some ⟨t, 0, none⟩)) := hbx3.kept (grownBy_setCell' _ _ _) (by rw [E5.out, E3.out]; simp)
      exact NoPanic.normal ⟨rfl, A1, D1, A2, D2, rfl, h1, h3, g5, g3, hlow⟩
  case post =>
  rintro e a' W1 ⟨rfl, A1, D1, A2, D2, rfl, h1, h3, g5, g3, hlow⟩
  dsimp only
  clear c5 f5
  have HT1 := Lib.hid (HT.out.below hlow HLT.out)
  have HX1 := Lib.hid h1
  have HY1b := Lib.hid h3
  have G5 := Lib.hid g5
  have G3 := Lib.hid g3
  have HLOW1 := Lib.hid hlow
  clear h1 h3 hlow HBX HB5 HY0 C1 C2
  clear g5 g3
  have hq0 : ((q : Int) == 0) = false := by rw [beq_eq_false_iff_ne]; omega
  have c5 := G5.out.cell
  have c3 := G3.out.cell
  go_upto_region 5 with fail
  obtain ⟨top, htop⟩ : ∃ top, top + 1 = q := ⟨q - 1, by omega⟩
  rw [show (q : Int) - 1 = (top : Int) by omega]
  obtain ⟨W4, hW4⟩ : ∃ W4, W4 = W1.alloc (.cells #[.int .i64 (top : Int)] 3) := ⟨_, rfl⟩
  obtain ⟨B9, hB9⟩ : ∃ B9, B9 = W1.heap.size := ⟨_, rfl⟩
  have g9 : Boxed W4 B9 3 (.int .i64 (top : Int)) := by rw [hW4, hB9]; exact Boxed.new _ _ _
  have h14 : Below W1.heap.size W1 W4 := by rw [hW4]; exact (Below.refl _ _).alloc (Nat.le_refl _) _
  have l9 : B9 < W4.heap.size := g9.lt
  rw [← hB9, ← hW4]
  have HB9 := Lib.hid hB9
  clear hW4 c5 c3 hB9
  have g3 : Boxed W4 B3 25 (.pointer (some ⟨t, 0, none⟩)) := (h14.block B3 G3.out.lt).trans G3.out
  have g5 : Boxed W4 B5 22 (.slice A2 q D2) := (h14.block B5 G5.out.lt).trans G5.out
  obtain ⟨b2, o2, rfl, hb2, ck⟩ : ∃ b o, A2 = some ⟨b, o, none⟩ ∧ b < W1.heap.size ∧ W1.cell? ⟨b, o + top, none⟩ = some (.int .u8 (Y.getD top 0)) := by
    rcases HY1b.out.bytes.cell with h | ⟨_, b, off, e, hb, h⟩
    · omega
    · exact ⟨b, off, e, hb, h top (by omega)⟩
  rw [bY.get top] at ck
  have hlt : co Y top ≠ 0 := by rw [show q - 1 = top by omega] at hlast; exact hlast
  have HS : Hid (∀ w', Below W4.heap.size W4 w' → Below W4.heap.size W4 w' ∧ w'.cell? ⟨B3, 0, none⟩ = some (.pointer (some ⟨t, 0, none⟩)) ∧ w'.cell? ⟨B5, 0, none⟩ = some (.slice (some ⟨b2, o2, none⟩) q D2) ∧ w'.cell? ⟨B9, 0, none⟩ = some (.int .i64 (top : Int)) ∧ w'.cell? ⟨b2, o2 + top, none⟩ = some (.int .u8 (co Y top))) := Lib.hid (fun w' h =>
    ⟨h, (h.cell (p := ⟨B3, 0, none⟩) g3.lt).trans g3.cell, (h.cell (p := ⟨B5, 0, none⟩) g5.lt).trans g5.cell, (h.cell (p := ⟨B9, 0, none⟩) g9.lt).trans g9.cell, (h.cell (p := ⟨b2, o2 + top, none⟩) (Nat.lt_of_lt_of_le hb2 h14.size)).trans ((h14.cell (p := ⟨b2, o2 + top, none⟩) hb2).trans ck)⟩)
  have CI := Lib.hid (fun w' (h : Below W4.heap.size W4 w') => inv_some t (co Y top) (bY.lt top) hlt w' ((HT1.out.below h14 (Nat.lt_of_lt_of_le HLT.out HLOW1.out.size)).below h (Nat.lt_of_lt_of_le (Nat.lt_of_lt_of_le HLT.out HLOW1.out.size) h14.size)))
  obtain ⟨inv, hinv⟩ : ∃ inv, gi (co Y top) = inv := ⟨_, rfl⟩
  rw [hinv] at CI
  have hone : mu inv (co Y top) = 1 := by rw [← hinv, mu_comm]; exact mu_gi (bY.lt top) hlt
  have linv : inv < 256 := by rw [← hinv]; exact gi_lt _
  have HONE := Lib.hid hone
  have t0 : (0 : Int) ≤ top := by omega
  have t1 : (top : Int) < q := by omega
  obtain ⟨c3, c5', c9, ck4⟩ := (HS.out W4 (Below.refl _ _)).2
  have G39 := Lib.hid g3
  have G59 := Lib.hid g5
  have G99 := Lib.hid g9
  have H14 := Lib.hid h14
  clear hone hinv hlast hlt ck g3 g5 g9 h14
  refine Code.wp_mono (Q := fun e a' w' => e = .normal ∧ ∃ B10, a' = { tmps := #[.pointer (some ⟨t, 0, none⟩), .slice A1 p D1, .slice b m d, .pointer (some ⟨B3, 0, none⟩), undef, .pointer (some ⟨B5, 0, none⟩), .slice none 0 0, .slice none 0 0, .int .i64 0, .pointer (some ⟨B9, 0, none⟩), .pointer (some ⟨B10, 0, none⟩), .int .i64 0, undef, undef, undef, undef, .slice a n c, .slice A1 p D1, .slice b m d, .slice (some ⟨b2, o2, none⟩) q D2, .slice (some ⟨b2, o2, none⟩) q D2, .int .i64 q, .bool false, .slice (some ⟨b2, o2, none⟩) q D2, .int .i64 q, .int .i64 top, .tuple #[.int .u8 inv, .int .i64 0], .pointer (some ⟨t, 0, none⟩), .slice (some ⟨b2, o2, none⟩) q D2, .int .i64 top, .pointer (some ⟨b2, o2 + top, none⟩), .int .u8 (co Y top), .tuple #[.int .u8 inv, .int .i64 0], .int .u8 inv, .int .i64 0, undef, undef, undef, undef, undef, undef, undef, undef, undef, undef, undef, undef, undef, undef, undef, undef, undef, undef, undef, undef, undef, undef, undef, undef, undef, undef, undef, undef, undef, undef, undef, undef, undef, undef, undef, undef, undef, undef, undef, undef, undef, undef], defers := [] } ∧ Below W4.heap.size W4 w' ∧ Boxed w' B10 5 (.int .u8 inv)) ?post5 ?reg5
  case reg5 =>
    go_region_held3 (fun w' => Below W4.heap.size W4 w' ∧ w'.cell? ⟨B3, 0, none⟩ = some (.pointer (some ⟨t, 0, none⟩)) ∧ w'.cell? ⟨B5, 0, none⟩ = some (.slice (some ⟨b2, o2, none⟩) q D2) ∧ w'.cell? ⟨B9, 0, none⟩ = some (.int .i64 (top : Int)) ∧ w'.cell? ⟨b2, o2 + top, none⟩ = some (.int .u8 (co Y top)))
      (first
        | exact HS.out _ (Below.refl _ _)
        | exact HS.out _ (Below.refl _ _).drew
        | exact HS.out _ ((Below.refl _ _).drew.alloc (Nat.le_refl _) _)
        | exact HS.out _ ((Below.refl _ _).alloc (Nat.le_refl _) _).drew
        | exact HS.out _ (((Below.refl _ _).drew.alloc (Nat.le_refl _) _).setCell (p := ⟨W4.heap.size, 0, none⟩) (Nat.le_refl _) _)
        | exact HS.out _ (((Below.refl _ _).alloc (Nat.le_refl _) _).drew.setCell (p := ⟨W4.heap.size, 0, none⟩) (Nat.le_refl _) _))
      (first
        | (go_at_call 34; refine (CI.out _ (And.left (by assumption))).mono ?_; rintro e w5 ⟨rfl, rfl⟩))
    all_goals
      rename_i hHeld
      exact ⟨rfl, _, rfl, hHeld.1, Boxed.new _ _ _⟩
  case post5 =>
  rintro e a' W5 ⟨rfl, B10, rfl, h5, g10⟩
  dsimp only
  have h15 : Below W1.heap.size W1 W5 := H14.out.trans (h5.mono H14.out.size)
  have c95 : W5.cell? ⟨B9, 0, none⟩ = some (.int .i64 (top : Int)) := (h5.cell (p := ⟨B9, 0, none⟩) G99.out.lt).trans G99.out.cell
  have G35 : Hid (Boxed W5 B3 25 (.pointer (some ⟨t, 0, none⟩))) := Lib.hid ((h5.block B3 G39.out.lt).trans G39.out)
  have G55 : Hid (Boxed W5 B5 22 (.slice (some ⟨b2, o2, none⟩) q D2)) := Lib.hid ((h5.block B5 G59.out.lt).trans G59.out)
  have G95 : Hid (Boxed W5 B9 3 (.int .i64 (top : Int))) := Lib.hid ((h5.block B9 G99.out.lt).trans G99.out)
  have G10 := Lib.hid g10
  have HB5W : Hid (Below w.heap.size w W5) := Lib.hid (HLOW1.out.trans (h15.mono HLOW1.out.size))
  have HY5 : Hid (Sl W5 (some ⟨b2, o2, none⟩) q D2 Y) := Lib.hid (HY1b.out.below h15 (Nat.le_refl _))
  have HT5 : Hid (IsTab W5 t) := Lib.hid (HT.out.below HB5W.out HLT.out)
  have HCL := Lib.hid (clone_any A1 p D1 X W5 (HX1.out.below h15 (Nat.le_refl _)) (by omega))
  clear h5 h15 g10 HS CI G39 G59 G99 H14 HX1 HY1b HT1 c5' c9 ck4 c3 G5 G3
  obtain ⟨L, hL⟩ : ∃ L, p - top = L := ⟨_, rfl⟩
  have hmk : ∀ w : World, (Instr.makeSlice 22 (.int .i64 (L : Int)) (.int .i64 (L : Int))).run Try.prog w = .ok (.slice (some ⟨w.heap.size, 0, none⟩) L L) (w.alloc (.cells (madeCells #[.int .u8 0] L) 5)) := fun w =>
    run_make_row' (P := Try.prog) 22 5 (.int .u8 0) 1 Try.underlying22 (by kernel_rfl) rfl .i64 .i64 L (by omega) (by omega) w
  have HM := Lib.hid (fun w => made_row w L 5)
  generalize madeCells #[Value.int .u8 0] L = M at *
  have h3 : p < top ∨ p = top ∨ top < p := by omega
  rcases h3 with hpt | hpt | hpt
  case inl =>
    have hpm : (p : Int) ≤ top := by omega
    have hpm2 : ((top : Int) < (p : Int)) = False := by simp; omega
    have hpm3 : (top < p) = False := by simp; omega
    have hpm4 : ((p : Int) ≤ (top : Int)) = True := by simp; omega
    have hpm5 : (p ≤ top) = True := by simp; omega
    have hr : (p : Int) - top < 0 := by omega
    have hr2 : ¬ 0 ≤ (p : Int) - top := by omega
    have hmk3 : ∀ w : World, (Instr.makeSlice 22 (.int .i64 0) (.int .i64 0)).run Try.prog w = .ok (.slice (some ⟨w.heap.size, 0, none⟩) L L) (w.alloc (.cells M 5)) := fun w => by
      have := hmk w
      rw [show L = 0 by omega] at this ⊢; exact this
    clear hmk
    go_wp2_with (first
      | (go_at_call 29; (with_reducible refine HCL.out.mono ?_); rintro e w6 ⟨Ac, Cc, rfl, h6, hb6⟩; have H6 := Lib.hid h6; have HB6 := Lib.hid hb6; have c96 : (w6.alloc (.cells #[.slice Ac p Cc] 22)).cell? ⟨B9, 0, none⟩ = some (.int .i64 (top : Int)) := ((Boxed.kept G95.out (grown_below hb6 Option.none) (by simp)).alloc _).cell; clear h6 hb6)
      | (go_at_call 32; refine (callsIn_wide.1 (back_in Fence.wide 2 trivial rfl _ _ _ _)).mono ?_; rintro e w' ⟨rfl, rfl⟩))
    obtain ⟨W8, h8⟩ : ∃ W8, W8 = (((w6.alloc (.cells #[.slice Ac p Cc] 22)).alloc (.cells M 5)).alloc (.cells #[.slice (some ⟨w6.heap.size + 1, 0, none⟩) L L] 22)).alloc (.cells #[.slice (some ⟨w6.heap.size + 1, 0, none⟩) L L] 22) := ⟨_, rfl⟩
    have hrow : Row8 ((w6.alloc (.cells #[.slice Ac p Cc] 22)).alloc (.cells M 5)) (w6.heap.size + 1) 5 (List.replicate L 0) := by
      have := HM.out (w6.alloc (.cells #[.slice Ac p Cc] 22))
      rwa [World.size_alloc] at this
    obtain ⟨d12, dq, d13, ds, hb68, hz8⟩ := div_lay w6 _ _ M _ hrow W8 h8
    rw [← h8]
    have h58 : Below W5.heap.size W5 W8 := HB6.out.trans (hb68.mono HB6.out.size)
    have hAc : ∀ g, Ac = some ⟨g, 0, none⟩ → 0 < p → W5.heap.size ≤ g ∧ g < w6.heap.size := fun g e hp => by
      obtain ⟨g', e', h1, h2, _⟩ := H6.out.at_ hp
      rw [e] at e'
      obtain rfl : g = g' := by simpa using e'
      exact ⟨h1, h2⟩
    have h68 := H6.out.below hb68 (Nat.le_refl _)
    have h56 := HB6.out.size
    have hq8 : Own8 W8 (w6.heap.size + 1) (.slice (some ⟨w6.heap.size + 1, 0, none⟩) L L) L (List.replicate L 0) := Own8.row dq (Nat.le_refl _) (by simp) (by unfold maxLen; omega)
    obtain ⟨R, hR⟩ : ∃ R, w6.heap.size = R := ⟨_, rfl⟩
    rw [hR] at d12 dq d13 ds hz8 hAc h56 hq8
    rw [hR]
    clear hR h8 hrow hb68 c96 HM hmk3 H6 HB6
    have HR3 : Hid (B3 < W5.heap.size ∧ B5 < W5.heap.size ∧ B9 < W5.heap.size ∧ B10 < W5.heap.size) := Lib.hid ⟨G35.out.lt, G55.out.lt, G95.out.lt, G10.out.lt⟩
    have hI0 : DivI B3 B5 B9 B10 R W5.heap.size t top inv p q L Cc D2 Ac (some ⟨b2, o2, none⟩) X Y ([] : List (Spot L (fun _ z => 0 ≤ z ∧ z ≤ 255))) W8 :=
      ⟨(h58.block B3 G35.out.lt).trans G35.out, (h58.block B5 G55.out.lt).trans G55.out, (h58.block B9 G95.out.lt).trans G95.out, (h58.block B10 G10.out.lt).trans G10.out, d12, d13, h68, hq8⟩
    have HDS := Lib.hid ds
    have HAC := Lib.hid hAc
    have HH58 := Lib.hid h58
    refine (wpIn_wide (n := 3)).1 ?_
    refine wpIn_rangeFunc_ownG hro (by omega) (gf := 37) (lb := #[.pointer (some ⟨R + 1 + 1 + 1, 0, none⟩)]) rfl trivial (enters_of Try.func37 (by kernel_rfl) rfl)
      (back_stops Fence.wide 2 trivial hro (by omega) (R + 1 + 1 + 1) (R + 1) 0 L L (fun _ z => 0 ≤ z ∧ z ≤ 255) (by omega) (.slice (some ⟨R + 1, 0, none⟩) L L) (.inl rfl) _ (by omega) (.inr (by omega)) ds.cell (fun j hj => ⟨0, by omega, by
        have := dq.cell j (by simpa using hj)
        rw [Nat.zero_add, this]
        simp [List.getD_eq_getElem?_getD, List.getElem?_replicate, hj]⟩))
      Kp.trans' (fun W l o o' _ h2 h3 _ => Kp.obj W l o o' h2 h3) (Below.refl _ _) (fun _ => rfl)
      (fun pre W => DivI B3 B5 B9 B10 R W5.heap.size t top inv p q L Cc D2 Ac (some ⟨b2, o2, none⟩) X Y pre W ∧ Below W5.heap.size W5 W)
      (fun c pre W => False)
      (OwnFrom.and (Own.from DivI.own _) (ownFrom_below (Nat.le_refl _) (by omega)))
      (fun c _ _ _ _ hs _ _ => hs)
      ⟨hI0, h58⟩
      (fun x => { tmps := #[.pointer (some ⟨t, 0, none⟩), .slice A1 p D1, .slice b m d, .pointer (some ⟨B3, 0, none⟩), undef, .pointer (some ⟨B5, 0, none⟩), .slice none 0 0, .slice none 0 0, .int .i64 0, .pointer (some ⟨B9, 0, none⟩), .pointer (some ⟨B10, 0, none⟩), .int .i64 0, .pointer (some ⟨R, 0, none⟩), .pointer (some ⟨R + 1 + 1, 0, none⟩), .int .i64 (x.1.1 : Int), undef, .slice a n c, .slice A1 p D1, .slice b m d, .slice (some ⟨b2, o2, none⟩) q D2, .slice (some ⟨b2, o2, none⟩) q D2, .int .i64 q, .bool false, .slice (some ⟨b2, o2, none⟩) q D2, .int .i64 q, .int .i64 top, .tuple #[.int .u8 inv, .int .i64 0], .pointer (some ⟨t, 0, none⟩), .slice (some ⟨b2, o2, none⟩) q D2, .int .i64 top, .pointer (some ⟨b2, o2 + top, none⟩), .int .u8 (co Y top), .tuple #[.int .u8 inv, .int .i64 0], .int .u8 inv, .int .i64 0, .slice A1 p D1, .slice Ac p Cc, .slice A1 p D1, .int .i64 p, .int .i64 top, .int .i64 ((p : Int) - top), .int .i64 0, .slice (some ⟨R + 1, 0, none⟩) L L, .slice (some ⟨R + 1, 0, none⟩) L L, .func (.func 37) #[] #[.pointer (some ⟨R + 1 + 1 + 1, 0, none⟩)], .int .i64 (x.1.1 : Int), .int .u8 x.1.2, undef, undef, undef, undef, undef, undef, undef, undef, undef, undef, undef, undef, undef, undef, undef, undef, undef, undef, undef, undef, undef, undef, undef, undef, undef, undef, undef, undef, undef, undef], defers := [] }) ?assign ?body ?done ?stop
    case assign =>
      intro l x W K hK
      gi_wp2
      exact hK
    case body =>
      rintro l0 pre x W _ _
      exact absurd x.2.1 (by omega)
    case done =>
      rintro D ys W hD hys ⟨hI, hB⟩ hK
      have bz : By (List.replicate L (0 : Int)) := fun z hz => by rw [(List.mem_replicate.1 hz).2]; omega
      obtain ⟨bR, bQ, lR, lQ⟩ := dfold_inv bY top linv (s := (X, List.replicate L 0)) bX bz (placesOf ys)
      have hrest := hI.rest
      have hquot := hI.quot
      rw [show placesOf ys = down L L from hys] at hrest hquot bR bQ lR lQ
      have HOKL := Lib.hid (HOK.out top inv L htop.symm linv HONE.out hL.symm)
      generalize dfold Y top inv (X, List.replicate L 0) (down L L) = RQ at *
      have hsl := hrest.sl bR
      have HSQ := Lib.hid (hquot.sl bQ)
      have c9 := hI.b9.cell
      have c12 := hI.b12.cell
      have c13 := hI.b13.cell
      have HSA : Hid (∀ w', Below W.heap.size W w' → Below W.heap.size W w' ∧ w'.cell? ⟨B9, 0, none⟩ = some (.int .i64 (top : Int)) ∧ w'.cell? ⟨R, 0, none⟩ = some (.slice Ac p Cc) ∧ w'.cell? ⟨R + 1 + 1, 0, none⟩ = some (.slice (some ⟨R + 1, 0, none⟩) L L)) := Lib.hid (fun w' h =>
        ⟨h, (h.cell (p := ⟨B9, 0, none⟩) hI.b9.lt).trans c9, (h.cell (p := ⟨R, 0, none⟩) hI.b12.lt).trans c12, (h.cell (p := ⟨R + 1 + 1, 0, none⟩) hI.b13.lt).trans c13⟩)
      have hmm : p ≤ p := by omega
      have hmin : min p top = p := by omega
      rw [hmin] at HOKL
      have HDK := HOKL
      have CT := Lib.hid (trim_any Ac p Cc (RQ.1.take p) W.drew ((hsl.front hmm).below (Below.refl W.heap.size W).drew (Nat.le_refl _)) (by omega))
      have HTR := Lib.hid (show (RQ.1.take p).take (dn (RQ.1.take p)) = tr (RQ.1.take p) from rfl)
      have hCc := hsl.cap
      have hcb : ((p : Nat) : Int) ≤ Cc := by omega
      have hcb0 : (0 : Int) ≤ ((p : Nat) : Int) := by omega
      have hct : ((p : Nat) : Int).toNat = p := by omega
      have hAn : (Ac = Option.none ∧ p = 0 ∧ Cc = 0) ∨ ∃ z, Ac = some z := by
        cases hA : Ac with
        | none =>
          have := hsl.nilc hA
          exact .inl ⟨rfl, by omega, this⟩
        | some z => exact .inr ⟨z, rfl⟩
      have HB := Lib.hid hB
      have HK := Lib.hid hK
      have HD := Lib.hid hD
      have hlD : D < W.heap.size := (Array.getElem?_eq_some_iff.1 hK).1
      clear hrest hquot hsl hI hB hK hD
      rcases hAn with ⟨rfl, hp0, rfl⟩ | ⟨z, rfl⟩
      case inl =>
        subst hp0
        have z1 : ((top : Int) < 0) = False := by simp
        have z2 : ((0 : Int) ≤ top) = True := by simp
        go_upto_region 13 with fail
        go_region_held3 (fun w' => Below W.heap.size W w' ∧ w'.cell? ⟨B9, 0, none⟩ = some (.int .i64 (top : Int)) ∧ w'.cell? ⟨R, 0, none⟩ = some (.slice Option.none 0 0) ∧ w'.cell? ⟨R + 1 + 1, 0, none⟩ = some (.slice (some ⟨R + 1, 0, none⟩) L L))
          (first
            | exact HSA.out _ (Below.refl _ _)
            | exact HSA.out _ (Below.refl _ _).drew
            | exact HSA.out _ ((Below.refl _ _).drew.trans hb9))
          (first
            | (go_at_call 18; refine CT.out.mono ?_; rintro e w9 ⟨A9, n9, C9, rfl, h9, hb9⟩))
        all_goals
          go_wp2
          have hbW : Below W.heap.size W w9 := (Below.refl _ _).drew.trans hb9
          have hK' : w9.heap[D]? = some (.deferred (some [])) := (hbW.block D hlD).trans HK.out
          have h9' : Sl w9 A9 n9 C9 (tr (RQ.1.take 0)) := by rw [← HTR.out]; exact h9
          refine ⟨by simp, .inl ⟨_, _, rfl, run_takeDeferred hK', ?_⟩⟩
          refine ⟨.tuple #[.slice (some ⟨R + 1, 0, none⟩) L L, .slice A9 n9 C9, .int .i64 0], ?_, _, _, _, _, _, _, _, _, rfl, (HSQ.out.below hbW (Nat.le_refl _)).turn hK', h9'.turn hK', HDK.out, ?_⟩
          · simp [results, Try.f24, go_sem]
          · exact (HB5W.out.trans ((HB.out.trans (hbW.mono HB.out.size)).mono HB5W.out.size)).trans (belowK_b (w := w) (Nat.le_refl _) w9 D _ _ (by have := HD.out; have := HH58.out.size; have := HB5W.out.size; omega) hK' rfl rfl)
      case inr =>
        go_upto_region 13 with fail
        go_region_held3 (fun w' => Below W.heap.size W w' ∧ w'.cell? ⟨B9, 0, none⟩ = some (.int .i64 (top : Int)) ∧ w'.cell? ⟨R, 0, none⟩ = some (.slice (some z) p Cc) ∧ w'.cell? ⟨R + 1 + 1, 0, none⟩ = some (.slice (some ⟨R + 1, 0, none⟩) L L))
          (first
            | exact HSA.out _ (Below.refl _ _)
            | exact HSA.out _ (Below.refl _ _).drew
            | exact HSA.out _ ((Below.refl _ _).drew.trans hb9))
          (first
            | (go_at_call 18; refine CT.out.mono ?_; rintro e w9 ⟨A9, n9, C9, rfl, h9, hb9⟩))
        all_goals
          go_wp2
          have hbW : Below W.heap.size W w9 := (Below.refl _ _).drew.trans hb9
          have hK' : w9.heap[D]? = some (.deferred (some [])) := (hbW.block D hlD).trans HK.out
          have h9' : Sl w9 A9 n9 C9 (tr (RQ.1.take p)) := by rw [← HTR.out]; exact h9
          refine ⟨by simp, .inl ⟨_, _, rfl, run_takeDeferred hK', ?_⟩⟩
          refine ⟨.tuple #[.slice (some ⟨R + 1, 0, none⟩) L L, .slice A9 n9 C9, .int .i64 0], ?_, _, _, _, _, _, _, _, _, rfl, (HSQ.out.below hbW (Nat.le_refl _)).turn hK', h9'.turn hK', HDK.out, ?_⟩
          · simp [results, Try.f24, go_sem]
          · exact (HB5W.out.trans ((HB.out.trans (hbW.mono HB.out.size)).mono HB5W.out.size)).trans (belowK_b (w := w) (Nat.le_refl _) w9 D _ _ (by have := HD.out; have := HH58.out.size; have := HB5W.out.size; omega) hK' rfl rfl)
    case stop =>
      rintro D c pre W _ _ h _
      exact h.elim
  case inr.inl =>
    have hpt1 : p ≤ top := by omega
    have hpt2 : top ≤ p := by omega
    clear hpt
    have hpm : (p : Int) ≤ top := by omega
    have hpm2 : ((top : Int) < (p : Int)) = False := by simp; omega
    have hpm3 : (top < p) = False := by simp; omega
    have hpm4 : ((p : Int) ≤ (top : Int)) = True := by simp; omega
    have hpm5 : (p ≤ top) = True := by simp; omega
    have hr : (0 : Int) ≤ (p : Int) - top := by omega
    have hr2 : ¬ (p : Int) - top < 0 := by omega
    have hmk3 : ∀ w : World, (Instr.makeSlice 22 (.int .i64 ((p : Int) - top)) (.int .i64 ((p : Int) - top))).run Try.prog w = .ok (.slice (some ⟨w.heap.size, 0, none⟩) L L) (w.alloc (.cells M 5)) := fun w => by
      have := hmk w
      rw [show (p : Int) - top = (L : Int) by omega]; exact this
    clear hmk
    go_wp2_with (first
      | (go_at_call 29; (with_reducible refine HCL.out.mono ?_); rintro e w6 ⟨Ac, Cc, rfl, h6, hb6⟩; have H6 := Lib.hid h6; have HB6 := Lib.hid hb6; have c96 : (w6.alloc (.cells #[.slice Ac p Cc] 22)).cell? ⟨B9, 0, none⟩ = some (.int .i64 (top : Int)) := ((Boxed.kept G95.out (grown_below hb6 Option.none) (by simp)).alloc _).cell; clear h6 hb6)
      | (go_at_call 32; refine (callsIn_wide.1 (back_in Fence.wide 2 trivial rfl _ _ _ _)).mono ?_; rintro e w' ⟨rfl, rfl⟩))
    obtain ⟨W8, h8⟩ : ∃ W8, W8 = (((w6.alloc (.cells #[.slice Ac p Cc] 22)).alloc (.cells M 5)).alloc (.cells #[.slice (some ⟨w6.heap.size + 1, 0, none⟩) L L] 22)).alloc (.cells #[.slice (some ⟨w6.heap.size + 1, 0, none⟩) L L] 22) := ⟨_, rfl⟩
    have hrow : Row8 ((w6.alloc (.cells #[.slice Ac p Cc] 22)).alloc (.cells M 5)) (w6.heap.size + 1) 5 (List.replicate L 0) := by
      have := HM.out (w6.alloc (.cells #[.slice Ac p Cc] 22))
      rwa [World.size_alloc] at this
    obtain ⟨d12, dq, d13, ds, hb68, hz8⟩ := div_lay w6 _ _ M _ hrow W8 h8
    rw [← h8]
    have h58 : Below W5.heap.size W5 W8 := HB6.out.trans (hb68.mono HB6.out.size)
    have hAc : ∀ g, Ac = some ⟨g, 0, none⟩ → 0 < p → W5.heap.size ≤ g ∧ g < w6.heap.size := fun g e hp => by
      obtain ⟨g', e', h1, h2, _⟩ := H6.out.at_ hp
      rw [e] at e'
      obtain rfl : g = g' := by simpa using e'
      exact ⟨h1, h2⟩
    have h68 := H6.out.below hb68 (Nat.le_refl _)
    have h56 := HB6.out.size
    have hq8 : Own8 W8 (w6.heap.size + 1) (.slice (some ⟨w6.heap.size + 1, 0, none⟩) L L) L (List.replicate L 0) := Own8.row dq (Nat.le_refl _) (by simp) (by unfold maxLen; omega)
    obtain ⟨R, hR⟩ : ∃ R, w6.heap.size = R := ⟨_, rfl⟩
    rw [hR] at d12 dq d13 ds hz8 hAc h56 hq8
    rw [hR]
    clear hR h8 hrow hb68 c96 HM hmk3 H6 HB6
    have HR3 : Hid (B3 < W5.heap.size ∧ B5 < W5.heap.size ∧ B9 < W5.heap.size ∧ B10 < W5.heap.size) := Lib.hid ⟨G35.out.lt, G55.out.lt, G95.out.lt, G10.out.lt⟩
    have hI0 : DivI B3 B5 B9 B10 R W5.heap.size t top inv p q L Cc D2 Ac (some ⟨b2, o2, none⟩) X Y ([] : List (Spot L (fun _ z => 0 ≤ z ∧ z ≤ 255))) W8 :=
      ⟨(h58.block B3 G35.out.lt).trans G35.out, (h58.block B5 G55.out.lt).trans G55.out, (h58.block B9 G95.out.lt).trans G95.out, (h58.block B10 G10.out.lt).trans G10.out, d12, d13, h68, hq8⟩
    have HDS := Lib.hid ds
    have HAC := Lib.hid hAc
    have HH58 := Lib.hid h58
    refine (wpIn_wide (n := 3)).1 ?_
    refine wpIn_rangeFunc_ownG hro (by omega) (gf := 37) (lb := #[.pointer (some ⟨R + 1 + 1 + 1, 0, none⟩)]) rfl trivial (enters_of Try.func37 (by kernel_rfl) rfl)
      (back_stops Fence.wide 2 trivial hro (by omega) (R + 1 + 1 + 1) (R + 1) 0 L L (fun _ z => 0 ≤ z ∧ z ≤ 255) (by omega) (.slice (some ⟨R + 1, 0, none⟩) L L) (.inl rfl) _ (by omega) (.inr (by omega)) ds.cell (fun j hj => ⟨0, by omega, by
        have := dq.cell j (by simpa using hj)
        rw [Nat.zero_add, this]
        simp [List.getD_eq_getElem?_getD, List.getElem?_replicate, hj]⟩))
      Kp.trans' (fun W l o o' _ h2 h3 _ => Kp.obj W l o o' h2 h3) (Below.refl _ _) (fun _ => rfl)
      (fun pre W => DivI B3 B5 B9 B10 R W5.heap.size t top inv p q L Cc D2 Ac (some ⟨b2, o2, none⟩) X Y pre W ∧ Below W5.heap.size W5 W)
      (fun c pre W => False)
      (OwnFrom.and (Own.from DivI.own _) (ownFrom_below (Nat.le_refl _) (by omega)))
      (fun c _ _ _ _ hs _ _ => hs)
      ⟨hI0, h58⟩
      (fun x => { tmps := #[.pointer (some ⟨t, 0, none⟩), .slice A1 p D1, .slice b m d, .pointer (some ⟨B3, 0, none⟩), undef, .pointer (some ⟨B5, 0, none⟩), .slice none 0 0, .slice none 0 0, .int .i64 0, .pointer (some ⟨B9, 0, none⟩), .pointer (some ⟨B10, 0, none⟩), .int .i64 0, .pointer (some ⟨R, 0, none⟩), .pointer (some ⟨R + 1 + 1, 0, none⟩), .int .i64 (x.1.1 : Int), undef, .slice a n c, .slice A1 p D1, .slice b m d, .slice (some ⟨b2, o2, none⟩) q D2, .slice (some ⟨b2, o2, none⟩) q D2, .int .i64 q, .bool false, .slice (some ⟨b2, o2, none⟩) q D2, .int .i64 q, .int .i64 top, .tuple #[.int .u8 inv, .int .i64 0], .pointer (some ⟨t, 0, none⟩), .slice (some ⟨b2, o2, none⟩) q D2, .int .i64 top, .pointer (some ⟨b2, o2 + top, none⟩), .int .u8 (co Y top), .tuple #[.int .u8 inv, .int .i64 0], .int .u8 inv, .int .i64 0, .slice A1 p D1, .slice Ac p Cc, .slice A1 p D1, .int .i64 p, .int .i64 top, .int .i64 ((p : Int) - top), .int .i64 ((p : Int) - top), .slice (some ⟨R + 1, 0, none⟩) L L, .slice (some ⟨R + 1, 0, none⟩) L L, .func (.func 37) #[] #[.pointer (some ⟨R + 1 + 1 + 1, 0, none⟩)], .int .i64 (x.1.1 : Int), .int .u8 x.1.2, undef, undef, undef, undef, undef, undef, undef, undef, undef, undef, undef, undef, undef, undef, undef, undef, undef, undef, undef, undef, undef, undef, undef, undef, undef, undef, undef, undef, undef, undef], defers := [] }) ?assign ?body ?done ?stop
    case assign =>
      intro l x W K hK
      gi_wp2
      exact hK
    case body =>
      rintro l0 pre x W _ _
      exact absurd x.2.1 (by omega)
    case done =>
      rintro D ys W hD hys ⟨hI, hB⟩ hK
      have bz : By (List.replicate L (0 : Int)) := fun z hz => by rw [(List.mem_replicate.1 hz).2]; omega
      obtain ⟨bR, bQ, lR, lQ⟩ := dfold_inv bY top linv (s := (X, List.replicate L 0)) bX bz (placesOf ys)
      have hrest := hI.rest
      have hquot := hI.quot
      rw [show placesOf ys = down L L from hys] at hrest hquot bR bQ lR lQ
      have HOKL := Lib.hid (HOK.out top inv L htop.symm linv HONE.out hL.symm)
      generalize dfold Y top inv (X, List.replicate L 0) (down L L) = RQ at *
      have hsl := hrest.sl bR
      have HSQ := Lib.hid (hquot.sl bQ)
      have c9 := hI.b9.cell
      have c12 := hI.b12.cell
      have c13 := hI.b13.cell
      have HSA : Hid (∀ w', Below W.heap.size W w' → Below W.heap.size W w' ∧ w'.cell? ⟨B9, 0, none⟩ = some (.int .i64 (top : Int)) ∧ w'.cell? ⟨R, 0, none⟩ = some (.slice Ac p Cc) ∧ w'.cell? ⟨R + 1 + 1, 0, none⟩ = some (.slice (some ⟨R + 1, 0, none⟩) L L)) := Lib.hid (fun w' h =>
        ⟨h, (h.cell (p := ⟨B9, 0, none⟩) hI.b9.lt).trans c9, (h.cell (p := ⟨R, 0, none⟩) hI.b12.lt).trans c12, (h.cell (p := ⟨R + 1 + 1, 0, none⟩) hI.b13.lt).trans c13⟩)
      have hmm : p ≤ p := by omega
      have hmin : min p top = p := by omega
      rw [hmin] at HOKL
      have HDK := HOKL
      have CT := Lib.hid (trim_any Ac p Cc (RQ.1.take p) W.drew ((hsl.front hmm).below (Below.refl W.heap.size W).drew (Nat.le_refl _)) (by omega))
      have HTR := Lib.hid (show (RQ.1.take p).take (dn (RQ.1.take p)) = tr (RQ.1.take p) from rfl)
      have hCc := hsl.cap
      have hcb : ((p : Nat) : Int) ≤ Cc := by omega
      have hcb0 : (0 : Int) ≤ ((p : Nat) : Int) := by omega
      have hct : ((p : Nat) : Int).toNat = p := by omega
      have hAn : (Ac = Option.none ∧ p = 0 ∧ Cc = 0) ∨ ∃ z, Ac = some z := by
        cases hA : Ac with
        | none =>
          have := hsl.nilc hA
          exact .inl ⟨rfl, by omega, this⟩
        | some z => exact .inr ⟨z, rfl⟩
      have HB := Lib.hid hB
      have HK := Lib.hid hK
      have HD := Lib.hid hD
      have hlD : D < W.heap.size := (Array.getElem?_eq_some_iff.1 hK).1
      clear hrest hquot hsl hI hB hK hD
      rcases hAn with ⟨rfl, hp0, rfl⟩ | ⟨z, rfl⟩
      case inl =>
        subst hp0
        have z1 : ((top : Int) < 0) = False := by simp
        have z2 : ((0 : Int) ≤ top) = True := by simp
        go_upto_region 13 with fail
        go_region_held3 (fun w' => Below W.heap.size W w' ∧ w'.cell? ⟨B9, 0, none⟩ = some (.int .i64 (top : Int)) ∧ w'.cell? ⟨R, 0, none⟩ = some (.slice Option.none 0 0) ∧ w'.cell? ⟨R + 1 + 1, 0, none⟩ = some (.slice (some ⟨R + 1, 0, none⟩) L L))
          (first
            | exact HSA.out _ (Below.refl _ _)
            | exact HSA.out _ (Below.refl _ _).drew
            | exact HSA.out _ ((Below.refl _ _).drew.trans hb9))
          (first
            | (go_at_call 18; refine CT.out.mono ?_; rintro e w9 ⟨A9, n9, C9, rfl, h9, hb9⟩))
        all_goals
          go_wp2
          have hbW : Below W.heap.size W w9 := (Below.refl _ _).drew.trans hb9
          have hK' : w9.heap[D]? = some (.deferred (some [])) := (hbW.block D hlD).trans HK.out
          have h9' : Sl w9 A9 n9 C9 (tr (RQ.1.take 0)) := by rw [← HTR.out]; exact h9
          refine ⟨by simp, .inl ⟨_, _, rfl, run_takeDeferred hK', ?_⟩⟩
          refine ⟨.tuple #[.slice (some ⟨R + 1, 0, none⟩) L L, .slice A9 n9 C9, .int .i64 0], ?_, _, _, _, _, _, _, _, _, rfl, (HSQ.out.below hbW (Nat.le_refl _)).turn hK', h9'.turn hK', HDK.out, ?_⟩
          · simp [results, Try.f24, go_sem]
          · exact (HB5W.out.trans ((HB.out.trans (hbW.mono HB.out.size)).mono HB5W.out.size)).trans (belowK_b (w := w) (Nat.le_refl _) w9 D _ _ (by have := HD.out; have := HH58.out.size; have := HB5W.out.size; omega) hK' rfl rfl)
      case inr =>
        go_upto_region 13 with fail
        go_region_held3 (fun w' => Below W.heap.size W w' ∧ w'.cell? ⟨B9, 0, none⟩ = some (.int .i64 (top : Int)) ∧ w'.cell? ⟨R, 0, none⟩ = some (.slice (some z) p Cc) ∧ w'.cell? ⟨R + 1 + 1, 0, none⟩ = some (.slice (some ⟨R + 1, 0, none⟩) L L))
          (first
            | exact HSA.out _ (Below.refl _ _)
            | exact HSA.out _ (Below.refl _ _).drew
            | exact HSA.out _ ((Below.refl _ _).drew.trans hb9))
          (first
            | (go_at_call 18; refine CT.out.mono ?_; rintro e w9 ⟨A9, n9, C9, rfl, h9, hb9⟩))
        all_goals
          go_wp2
          have hbW : Below W.heap.size W w9 := (Below.refl _ _).drew.trans hb9
          have hK' : w9.heap[D]? = some (.deferred (some [])) := (hbW.block D hlD).trans HK.out
          have h9' : Sl w9 A9 n9 C9 (tr (RQ.1.take p)) := by rw [← HTR.out]; exact h9
          refine ⟨by simp, .inl ⟨_, _, rfl, run_takeDeferred hK', ?_⟩⟩
          refine ⟨.tuple #[.slice (some ⟨R + 1, 0, none⟩) L L, .slice A9 n9 C9, .int .i64 0], ?_, _, _, _, _, _, _, _, _, rfl, (HSQ.out.below hbW (Nat.le_refl _)).turn hK', h9'.turn hK', HDK.out, ?_⟩
          · simp [results, Try.f24, go_sem]
          · exact (HB5W.out.trans ((HB.out.trans (hbW.mono HB.out.size)).mono HB5W.out.size)).trans (belowK_b (w := w) (Nat.le_refl _) w9 D _ _ (by have := HD.out; have := HH58.out.size; have := HB5W.out.size; omega) hK' rfl rfl)
    case stop =>
      rintro D c pre W _ _ h _
      exact h.elim
  case inr.inr =>
    have hpm : ¬ (p : Int) ≤ top := by omega
    have hpm2 : (top : Int) < p := by omega
    have hr : (0 : Int) ≤ (p : Int) - top := by omega
    have hr2 : ¬ (p : Int) - top < 0 := by omega
    have hmk3 : ∀ w : World, (Instr.makeSlice 22 (.int .i64 ((p : Int) - top)) (.int .i64 ((p : Int) - top))).run Try.prog w = .ok (.slice (some ⟨w.heap.size, 0, none⟩) L L) (w.alloc (.cells M 5)) := fun w => by
      have := hmk w
      rw [show (p : Int) - top = (L : Int) by omega]; exact this
    clear hmk
    go_wp2_with (first
      | (go_at_call 29; (with_reducible refine HCL.out.mono ?_); rintro e w6 ⟨Ac, Cc, rfl, h6, hb6⟩; have H6 := Lib.hid h6; have HB6 := Lib.hid hb6; have c96 : (w6.alloc (.cells #[.slice Ac p Cc] 22)).cell? ⟨B9, 0, none⟩ = some (.int .i64 (top : Int)) := ((Boxed.kept G95.out (grown_below hb6 Option.none) (by simp)).alloc _).cell; clear h6 hb6)
      | (go_at_call 32; refine (callsIn_wide.1 (back_in Fence.wide 2 trivial rfl _ _ _ _)).mono ?_; rintro e w' ⟨rfl, rfl⟩))
    obtain ⟨W8, h8⟩ : ∃ W8, W8 = (((w6.alloc (.cells #[.slice Ac p Cc] 22)).alloc (.cells M 5)).alloc (.cells #[.slice (some ⟨w6.heap.size + 1, 0, none⟩) L L] 22)).alloc (.cells #[.slice (some ⟨w6.heap.size + 1, 0, none⟩) L L] 22) := ⟨_, rfl⟩
    have hrow : Row8 ((w6.alloc (.cells #[.slice Ac p Cc] 22)).alloc (.cells M 5)) (w6.heap.size + 1) 5 (List.replicate L 0) := by
      have := HM.out (w6.alloc (.cells #[.slice Ac p Cc] 22))
      rwa [World.size_alloc] at this
    obtain ⟨d12, dq, d13, ds, hb68, hz8⟩ := div_lay w6 _ _ M _ hrow W8 h8
    rw [← h8]
    have h58 : Below W5.heap.size W5 W8 := HB6.out.trans (hb68.mono HB6.out.size)
    have hAc : ∀ g, Ac = some ⟨g, 0, none⟩ → 0 < p → W5.heap.size ≤ g ∧ g < w6.heap.size := fun g e hp => by
      obtain ⟨g', e', h1, h2, _⟩ := H6.out.at_ hp
      rw [e] at e'
      obtain rfl : g = g' := by simpa using e'
      exact ⟨h1, h2⟩
    have h68 := H6.out.below hb68 (Nat.le_refl _)
    have h56 := HB6.out.size
    have hq8 : Own8 W8 (w6.heap.size + 1) (.slice (some ⟨w6.heap.size + 1, 0, none⟩) L L) L (List.replicate L 0) := Own8.row dq (Nat.le_refl _) (by simp) (by unfold maxLen; omega)
    obtain ⟨R, hR⟩ : ∃ R, w6.heap.size = R := ⟨_, rfl⟩
    rw [hR] at d12 dq d13 ds hz8 hAc h56 hq8
    rw [hR]
    clear hR h8 hrow hb68 c96 HM hmk3 H6 HB6
    have HR3 : Hid (B3 < W5.heap.size ∧ B5 < W5.heap.size ∧ B9 < W5.heap.size ∧ B10 < W5.heap.size) := Lib.hid ⟨G35.out.lt, G55.out.lt, G95.out.lt, G10.out.lt⟩
    have hI0 : DivI B3 B5 B9 B10 R W5.heap.size t top inv p q L Cc D2 Ac (some ⟨b2, o2, none⟩) X Y ([] : List (Spot L (fun _ z => 0 ≤ z ∧ z ≤ 255))) W8 :=
      ⟨(h58.block B3 G35.out.lt).trans G35.out, (h58.block B5 G55.out.lt).trans G55.out, (h58.block B9 G95.out.lt).trans G95.out, (h58.block B10 G10.out.lt).trans G10.out, d12, d13, h68, hq8⟩
    have HDS := Lib.hid ds
    have HAC := Lib.hid hAc
    have HH58 := Lib.hid h58
    refine (wpIn_wide (n := 3)).1 ?_
    refine wpIn_rangeFunc_ownG hro (by omega) (gf := 37) (lb := #[.pointer (some ⟨R + 1 + 1 + 1, 0, none⟩)]) rfl trivial (enters_of Try.func37 (by kernel_rfl) rfl)
      (back_stops Fence.wide 2 trivial hro (by omega) (R + 1 + 1 + 1) (R + 1) 0 L L (fun _ z => 0 ≤ z ∧ z ≤ 255) (by omega) (.slice (some ⟨R + 1, 0, none⟩) L L) (.inl rfl) _ (by omega) (.inr (by omega)) ds.cell (fun j hj => ⟨0, by omega, by
        have := dq.cell j (by simpa using hj)
        rw [Nat.zero_add, this]
        simp [List.getD_eq_getElem?_getD, List.getElem?_replicate, hj]⟩))
      Kp.trans' (fun W l o o' _ h2 h3 _ => Kp.obj W l o o' h2 h3) (Below.refl _ _) (fun _ => rfl)
      (fun pre W => DivI B3 B5 B9 B10 R W5.heap.size t top inv p q L Cc D2 Ac (some ⟨b2, o2, none⟩) X Y pre W ∧ Below W5.heap.size W5 W)
      (fun c pre W => False)
      (OwnFrom.and (Own.from DivI.own _) (ownFrom_below (Nat.le_refl _) (by omega)))
      (fun c _ _ _ _ hs _ _ => hs)
      ⟨hI0, h58⟩
      (fun x => { tmps := #[.pointer (some ⟨t, 0, none⟩), .slice A1 p D1, .slice b m d, .pointer (some ⟨B3, 0, none⟩), undef, .pointer (some ⟨B5, 0, none⟩), .slice none 0 0, .slice none 0 0, .int .i64 0, .pointer (some ⟨B9, 0, none⟩), .pointer (some ⟨B10, 0, none⟩), .int .i64 0, .pointer (some ⟨R, 0, none⟩), .pointer (some ⟨R + 1 + 1, 0, none⟩), .int .i64 (x.1.1 : Int), undef, .slice a n c, .slice A1 p D1, .slice b m d, .slice (some ⟨b2, o2, none⟩) q D2, .slice (some ⟨b2, o2, none⟩) q D2, .int .i64 q, .bool false, .slice (some ⟨b2, o2, none⟩) q D2, .int .i64 q, .int .i64 top, .tuple #[.int .u8 inv, .int .i64 0], .pointer (some ⟨t, 0, none⟩), .slice (some ⟨b2, o2, none⟩) q D2, .int .i64 top, .pointer (some ⟨b2, o2 + top, none⟩), .int .u8 (co Y top), .tuple #[.int .u8 inv, .int .i64 0], .int .u8 inv, .int .i64 0, .slice A1 p D1, .slice Ac p Cc, .slice A1 p D1, .int .i64 p, .int .i64 top, .int .i64 ((p : Int) - top), .int .i64 ((p : Int) - top), .slice (some ⟨R + 1, 0, none⟩) L L, .slice (some ⟨R + 1, 0, none⟩) L L, .func (.func 37) #[] #[.pointer (some ⟨R + 1 + 1 + 1, 0, none⟩)], .int .i64 (x.1.1 : Int), .int .u8 x.1.2, undef, undef, undef, undef, undef, undef, undef, undef, undef, undef, undef, undef, undef, undef, undef, undef, undef, undef, undef, undef, undef, undef, undef, undef, undef, undef, undef, undef, undef, undef], defers := [] }) ?assign ?body ?done ?stop
    case assign =>
      intro l x W K hK
      gi_wp2
      exact hK
    case body =>
      rintro l0 pre x W ⟨hI, hB⟩ _
      have hi := x.2.1
      have bz : By (List.replicate L (0 : Int)) := fun z hz => by rw [(List.mem_replicate.1 hz).2]; omega
      obtain ⟨bR, bQ, lR, lQ⟩ := dfold_inv bY top linv (s := (X, List.replicate L 0)) bX bz (placesOf pre)
      have lR' : (dfold Y top inv (X, List.replicate L 0) (placesOf pre)).1.length = p := lR.trans lX
      have lQ' : (dfold Y top inv (X, List.replicate L 0) (placesOf pre)).2.length = L := lQ.trans (by simp)
      obtain ⟨i, hix⟩ : ∃ i, x.1.1 = i := ⟨_, rfl⟩
      have HIX := Lib.hid hix
      rw [hix] at hi ⊢
      have hip : i + top < p := by omega
      obtain ⟨g, hg, hg0, hg1, hgc, hgf, hgs⟩ := hI.rest.at_ (by omega)
      obtain ⟨gx, hgx0, hgx1⟩ : ∃ gx, W5.heap.size ≤ g ∧ g < R := ⟨0, HAC.out g hg (by omega)⟩
      subst hg
      obtain ⟨q', hq', _, _, hqc, hqf, hqs⟩ := hI.quot.at_ (by omega)
      obtain rfl : R + 1 = q' := by simpa using hq'
      have c3 := hI.b3.cell
      have c5 := hI.b5.cell
      have c9 := hI.b9.cell
      have c10 := hI.b10.cell
      have c12 := hI.b12.cell
      have c13 := hI.b13.cell
      have ck := hgc (i + top) hip
      have cq := hqc i hi
      have fq := hqf i
      have HQS := Lib.hid (hqs i)
      clear hgc hgf hgs hqc hqf hqs hq'
      have HI := Lib.hid hI
      have HB := Lib.hid hB
      generalize hRQ : dfold Y top inv (X, List.replicate L 0) (placesOf pre) = RQ at *
      rw [bR.get (i + top)] at ck
      have lr := bR.lt (i + top)
      have HTW := Lib.hid (HT5.out.below hB HT5.out.lt)
      have CM := Lib.hid (fun w h => mul_any t (co RQ.1 (i + top)) inv lr linv w h)
      obtain ⟨cc, hcc⟩ : ∃ cc, gm (co RQ.1 (i + top)) inv = cc := ⟨_, rfl⟩
      have lc : cc < 256 := by rw [← hcc]; exact gm_lt lr linv
      rw [hcc] at CM
      have HCC := Lib.hid hcc
      have HRQ := Lib.hid hRQ
      have HCK := Lib.hid ck
      have i0 : (0 : Int) ≤ i := by omega
      have i1 : (i : Int) < L := by omega
      have i2 : (i : Int) + top < p := by omega
      have i3 : (0 : Int) ≤ (i : Int) + top := by omega
      have hwr : IntKind.i64.wrap ((i : Int) + top) = (i : Int) + top := IntWalk.i64_in _ (by omega)
      have htn : ((i : Int) + top).toNat = i + top := by omega
      clear hcc hRQ hI hB
      gi_upto_region 10 with fail
      refine wpIn_round_take 9 rfl (by kernel_rfl) (by kernel_rfl) (by kernel_rfl) ?_
      simp only [List.take_succ_cons, List.take_zero, List.drop_succ_cons, List.drop_zero]
      iterate 8 (refine wpQuietIn_step (fun _ _ _ _ => trivial) (fun K hK => ?_); go_simp; refine hK _ ?_; clear hK K)
      refine wpQuietIn_step (fun _ _ _ _ => trivial) (fun K hK => ?_)
      go_simp
      refine ⟨_, fun j => CallsIn.inRound l0 (callsIn_wide.2 ((CM.out (W.drewN j) HTW.out).mono (R' := fun e w' => e = .returned (.int .u8 cc) ∧ ∃ n, w' = W.drewN n) fun e w' ⟨he, m, hm⟩ => ⟨he, j + m, by rw [hm, World.drewN_drewN]⟩)), hK _ ?_⟩
      clear hK K
      refine wpQuietIn_nil ?_
      rintro _ ⟨nq, rfl⟩
      gi_upto_region 12 with fail
      obtain ⟨W2, hW2⟩ : ∃ W2, W2 = (W.drewN nq).setCell ⟨R + 1, i, none⟩ (.int .u8 (cc : Int)) := ⟨_, rfl⟩
      have hq2 : Own8 W2 (R + 1) (.slice (some ⟨R + 1, 0, none⟩) L L) L (RQ.2.set i (cc : Int)) := by rw [hW2]; exact HQS.out (cc : Int)
      have h12 : W.grownBy W2 (some (R + 1)) := by rw [hW2]; exact grown_trans (grown_below (below_drewN (Below.refl _ W) nq) _) (grown_set _ _ _ _)
      have k12 : KeepsOthers W W2 := by rw [hW2]; exact (keeps_below (below_drewN (Below.refl _ W) nq)).trans (KeepsOthers.setCell _ _ _)
      rw [← hW2]
      clear hW2
      have hne3 := HR3.out
      have hbx : ∀ {B : Nat} {ty : TypeId} {v : Value}, Boxed W B ty v → B ≠ R + 1 → Boxed W2 B ty v := fun h hn => Boxed.kept h h12 (fun e => hn (by simpa using e))
      have d3 := hbx HI.out.b3 (by omega)
      have d5 := hbx HI.out.b5 (by omega)
      have d9 := hbx HI.out.b9 (by omega)
      have d10 := hbx HI.out.b10 (by omega)
      have d12 := hbx HI.out.b12 (by omega)
      have d13 := hbx HI.out.b13 (by omega)
      have r2 : Own8 W2 W5.heap.size (.slice (some ⟨g, 0, none⟩) p Cc) p RQ.1 := by
        have := HI.out.rest
        rw [HRQ.out] at this
        exact World.ownsRow.kept this h12 (.inr (by simp [Value.ownBlock]; omega))
      have hb2 : Below W5.heap.size W5 W2 := HB.out.trans (below_grows h12 (by omega) HB.out.size)
      clear c3 c5 c9 c10 c12 c13 ck cq fq
      have c3 := d3.cell
      have c5 := d5.cell
      have c9 := d9.cell
      have c12 := d12.cell
      have D3 := Lib.hid d3
      have D5 := Lib.hid d5
      have D9 := Lib.hid d9
      have D10 := Lib.hid d10
      have D12 := Lib.hid d12
      have D13 := Lib.hid d13
      have HR2 := Lib.hid r2
      have HQ2 := Lib.hid hq2
      have HB2 := Lib.hid hb2
      have H12 := Lib.hid h12
      have K12 := Lib.hid k12
      have hti : (i : Int).toNat = i := by omega
      have i4 : (i : Int) ≤ p := by omega
      have hD2 := HY5.out.cap
      have hCc : p ≤ Cc := by
        obtain ⟨A', C', e, h1, _⟩ := HR2.out.slice
        simp only [Value.slice.injEq, true_and] at e
        obtain ⟨_, rfl⟩ := e
        exact h1
      have hCi : ¬ Cc = i := by omega
      have t2 : (top : Int) ≤ D2 := by omega
      have htt : (top : Int).toNat = top := by omega
      have CX := Lib.hid (fun W' (hW' : Below W2.heap.size W2 W') => mixo_any t cc g i p (p - i) Cc (Cc - i) RQ.1 (some ⟨b2, o2, none⟩) top D2 (Y.take top) W' W5.heap.size lc (HT5.out.below (HB2.out.trans (hW'.mono HB2.out.size)) HT5.out.lt) (HR2.out.below hW' (Nat.le_refl _)) ((HY5.out.below (HB2.out.trans (hW'.mono HB2.out.size)) (Nat.le_refl _)).bytes.front (by omega)) (by omega) (by omega) (by omega) (by omega) (by omega) bR)
      clear d3 d5 d9 d10 d12 d13 r2 hq2 hb2 h12 k12 hbx
      refine wpIn_round_take 8 rfl (by kernel_rfl) (by kernel_rfl) (by kernel_rfl) ?_
      simp only [List.take_succ_cons, List.take_zero, List.drop_succ_cons, List.drop_zero]
      iterate 8 (refine wpQuietIn_step (fun _ _ _ _ => trivial) (fun K hK => ?_); go_simp; refine hK _ ?_; clear hK K)
      refine wpQuietIn_nil ?_
      rintro _ ⟨nq2, rfl⟩
      gi_wp2_with (refine ⟨trivial, ?_⟩; gi_at_call 31; refine (CallsIn.inRound l0 (callsIn_wide.2 (CX.out _ (below_drewN (Below.refl _ W2) nq2)))).mono ?_; rintro e W3 ⟨rfl, h7, h8⟩)
      have h13 : W2.grownBy W3 (some g) := grown_trans (grown_below (below_drewN (Below.refl _ W2) nq2) _) h8
      have hbx3 : ∀ {B : Nat} {ty : TypeId} {v : Value}, Boxed W2 B ty v → B ≠ g → Boxed W3 B ty v := fun h hn => Boxed.kept h h13 (fun e => hn (by simpa using e))
      have hq3 : Own8 W3 (R + 1) (.slice (some ⟨R + 1, 0, none⟩) L L) L (RQ.2.set i (cc : Int)) := World.ownsRow.kept HQ2.out h13 (.inr (by simp [Value.ownBlock]; omega))
      have k13 : KeepsOthers W2 W3 := KeepsOthers.of_grownBy h13 (fun j o ej hj => by
        obtain rfl : g = j := by simpa using ej
        rcases HR2.out.2 with ⟨e, _⟩ | ⟨g', cap, cur, e, _, hgb, _⟩
        · simp at e
        · obtain ⟨rfl, _⟩ : g = g' ∧ Cc = cap := by simpa using e
          rw [hgb] at hj; cases hj; rfl)
      have hst : dfold Y top inv (X, List.replicate L 0) (placesOf (pre ++ [x])) = (mixO RQ.1 i (sc cc (Y.take top)) top, RQ.2.set i (cc : Int)) := by
        rw [placesOf_snoc, HIX.out, dfold_snoc, HRQ.out]
        unfold dstep
        rw [HCC.out]
      refine ⟨(K12.out.trans k13).from _, ⟨fun e => ?_, fun _ j hj => ?_⟩, ?_, HB2.out.trans (below_grows h13 hgx0 HB2.out.size)⟩
      · have hlt : R + 1 + 1 + 1 < W.heap.size := cell_lt e
        refine (World.cell?_of_block (h13.block (R + 1 + 1 + 1) (Nat.lt_of_lt_of_le hlt H12.out.size) (fun e => by have := Option.some.inj e; omega))).trans ?_
        exact (World.cell?_of_block (H12.out.block (R + 1 + 1 + 1) hlt (fun e => by have := Option.some.inj e; omega))).trans e
      · obtain ⟨q', hq', _, _, hqc, _⟩ := hq3.at_ (by omega)
        obtain rfl : R + 1 = q' := by simpa using hq'
        have hby := set_by bQ i lc
        exact ⟨_, hby.at_ j, by rw [Nat.zero_add]; exact hqc j hj⟩
      · refine ⟨hbx3 D3.out (by omega), hbx3 D5.out (by omega), hbx3 D9.out (by omega), hbx3 D10.out (by omega), hbx3 D12.out (by omega), hbx3 D13.out (by omega), ?_, ?_⟩
        · rw [hst]; exact h7
        · rw [hst]; exact hq3
    case done =>
      rintro D ys W hD hys ⟨hI, hB⟩ hK
      have bz : By (List.replicate L (0 : Int)) := fun z hz => by rw [(List.mem_replicate.1 hz).2]; omega
      obtain ⟨bR, bQ, lR, lQ⟩ := dfold_inv bY top linv (s := (X, List.replicate L 0)) bX bz (placesOf ys)
      have hrest := hI.rest
      have hquot := hI.quot
      rw [show placesOf ys = down L L from hys] at hrest hquot bR bQ lR lQ
      have HOKL := Lib.hid (HOK.out top inv L htop.symm linv HONE.out hL.symm)
      generalize dfold Y top inv (X, List.replicate L 0) (down L L) = RQ at *
      have hsl := hrest.sl bR
      have HSQ := Lib.hid (hquot.sl bQ)
      have c9 := hI.b9.cell
      have c12 := hI.b12.cell
      have c13 := hI.b13.cell
      have HSA : Hid (∀ w', Below W.heap.size W w' → Below W.heap.size W w' ∧ w'.cell? ⟨B9, 0, none⟩ = some (.int .i64 (top : Int)) ∧ w'.cell? ⟨R, 0, none⟩ = some (.slice Ac p Cc) ∧ w'.cell? ⟨R + 1 + 1, 0, none⟩ = some (.slice (some ⟨R + 1, 0, none⟩) L L)) := Lib.hid (fun w' h =>
        ⟨h, (h.cell (p := ⟨B9, 0, none⟩) hI.b9.lt).trans c9, (h.cell (p := ⟨R, 0, none⟩) hI.b12.lt).trans c12, (h.cell (p := ⟨R + 1 + 1, 0, none⟩) hI.b13.lt).trans c13⟩)
      have hmm : top ≤ p := by omega
      have hmin : min p top = top := by omega
      rw [hmin] at HOKL
      have HDK := HOKL
      have CT := Lib.hid (trim_any Ac top Cc (RQ.1.take top) W.drew ((hsl.front hmm).below (Below.refl W.heap.size W).drew (Nat.le_refl _)) (by omega))
      have HTR := Lib.hid (show (RQ.1.take top).take (dn (RQ.1.take top)) = tr (RQ.1.take top) from rfl)
      have hCc := hsl.cap
      have hcb : ((top : Nat) : Int) ≤ Cc := by omega
      have hcb0 : (0 : Int) ≤ ((top : Nat) : Int) := by omega
      have hct : ((top : Nat) : Int).toNat = top := by omega
      have hAn : (Ac = Option.none ∧ p = 0 ∧ Cc = 0) ∨ ∃ z, Ac = some z := by
        cases hA : Ac with
        | none =>
          have := hsl.nilc hA
          exact .inl ⟨rfl, by omega, this⟩
        | some z => exact .inr ⟨z, rfl⟩
      have HB := Lib.hid hB
      have HK := Lib.hid hK
      have HD := Lib.hid hD
      have hlD : D < W.heap.size := (Array.getElem?_eq_some_iff.1 hK).1
      clear hrest hquot hsl hI hB hK hD
      rcases hAn with ⟨rfl, hp0, rfl⟩ | ⟨z, rfl⟩
      case inl => exfalso; omega
      case inr =>
        go_upto_region 13 with fail
        go_region_held3 (fun w' => Below W.heap.size W w' ∧ w'.cell? ⟨B9, 0, none⟩ = some (.int .i64 (top : Int)) ∧ w'.cell? ⟨R, 0, none⟩ = some (.slice (some z) p Cc) ∧ w'.cell? ⟨R + 1 + 1, 0, none⟩ = some (.slice (some ⟨R + 1, 0, none⟩) L L))
          (first
            | exact HSA.out _ (Below.refl _ _)
            | exact HSA.out _ (Below.refl _ _).drew
            | exact HSA.out _ ((Below.refl _ _).drew.trans hb9))
          (first
            | (go_at_call 18; refine CT.out.mono ?_; rintro e w9 ⟨A9, n9, C9, rfl, h9, hb9⟩))
        all_goals
          go_wp2
          have hbW : Below W.heap.size W w9 := (Below.refl _ _).drew.trans hb9
          have hK' : w9.heap[D]? = some (.deferred (some [])) := (hbW.block D hlD).trans HK.out
          have h9' : Sl w9 A9 n9 C9 (tr (RQ.1.take top)) := by rw [← HTR.out]; exact h9
          refine ⟨by simp, .inl ⟨_, _, rfl, run_takeDeferred hK', ?_⟩⟩
          refine ⟨.tuple #[.slice (some ⟨R + 1, 0, none⟩) L L, .slice A9 n9 C9, .int .i64 0], ?_, _, _, _, _, _, _, _, _, rfl, (HSQ.out.below hbW (Nat.le_refl _)).turn hK', h9'.turn hK', HDK.out, ?_⟩
          · simp [results, Try.f24, go_sem]
          · exact (HB5W.out.trans ((HB.out.trans (hbW.mono HB.out.size)).mono HB5W.out.size)).trans (belowK_b (w := w) (Nat.le_refl _) w9 D _ _ (by have := HD.out; have := HH58.out.size; have := HB5W.out.size; omega) hK' rfl rfl)
    case stop =>
      rintro D c pre W _ _ h _
      exact h.elim
end Go.Proofs.Ytbiaenkhhbgbcaa
