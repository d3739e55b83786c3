/-
  Own text: layer 18 (reasm): the page's example.
  Own text: what is appended to a slice of the call's own: an element of so many cells.
    a slice of one element that is built: an element of many cells.
  Own text: layer 18 (reasm): the law's groups, in numbers, and in memory.
  Own text: layer 18 (reasm): what the law's groups answers.
-/
import Derived.Test.YtjcbcdjfhcnhcaaK22
import Derived.Test.YtjcbcdjfhcnhcaaK13
import Derived.Test.YtjcbcdjfhcnhcaaK16
import Derived.OrdersHeld
import Derived.Deep.RegionHeld3
namespace Go.Proofs.Ytjcbcdjfhcnhcaa
open Go.RowKit
theorem awake_run (x0 x1 y0 y1 : Nat) : Wn.zero.code ⟨3, 0, 0, 2, 1, 2, 2, x0, x1⟩ = 0 ∧ (Wn.zero.take ⟨3, 0, 0, 2, 1, 2, 2, x0, x1⟩).code ⟨2, 0, 0, 2, 1, 0, 2, y0, y1⟩ = 0 ∧
    (Wn.zero.take ⟨3, 0, 0, 2, 1, 2, 2, x0, x1⟩).take ⟨2, 0, 0, 2, 1, 0, 2, y0, y1⟩ = ⟨1, 2, 0, 1, [], (⟨0, 0, 2, 1, [⟨2, x0, x1⟩, ⟨0, y0, y1⟩]⟩ : Pt).ins⟩ := ⟨rfl, rfl, rfl⟩
theorem awake_ins : (⟨0, 0, 2, 1, [⟨2, G17 [5, 6] 2 2 0, G17 [5, 6] 2 2 1⟩, ⟨0, G17 [5, 6] 2 0 0, G17 [5, 6] 2 0 1⟩]⟩ : Pt).ins = [5, 6] := by
  refine ins_word [5, 6] 2 1 _ (by omega) (by omega) (by omega) rfl rfl (fun z hz => ?_) (fun x hx => ?_) (by simp) (fun x hx => ?_)
  · simp at hz; omega
  · simp at hx; rcases hx with rfl | rfl <;> simp
  · simp at hx; rcases hx with rfl | rfl <;> dsimp only <;> exact ⟨rfl, rfl⟩
set_option maxRecDepth 100000 in
set_option maxHeartbeats 4000000 in
theorem awake18 (w : World) : Calls Try.prog 17 #[] w fun e w' => e = .returned (.bool true) ∧ Below w.heap.size w w' := by
  have CN := Lib.hid (fun w => new_any w)
  have CW' := Lib.hid (fun t w ht => new18 t w ht)
  go_enter Try.func17, Try.ntmps17
  go_upto_region 4 with (first
    | (go_at_call 9; (with_reducible refine (CN.out w).mono ?_); rintro e w1 ⟨rfl, ht1, hb1⟩; have HT1 := Lib.hid ht1; have HB1 := Lib.hid hb1; clear ht1 hb1)
    | (go_at_call 18; (with_reducible refine (CW'.out _ w1 HT1.out).mono ?_); rintro e w2 ⟨rfl, HCW, HB2⟩)
    | fail "arm1")
  obtain ⟨W3, hW3⟩ : ∃ W3, W3 = w2.alloc (.cells #[.int .u16 5, .int .u16 6] 79) := ⟨_, rfl⟩
  have hB3 : Below w2.heap.size w2 W3 := by rw [hW3]; exact (Below.refl _ _).alloc (Nat.le_refl _) _
  have hI3 : Ins W3 (some ⟨w2.heap.size, 0, none⟩) 2 [5, 6] := by
    have hl : Lies W3 w2.heap.size 0 #[.int .u16 5, .int .u16 6] := by rw [hW3]; exact Lies.new _ _ _ (Below.refl _ _)
    refine ⟨rfl, .inr ⟨_, _, rfl, hl.lt, fun i hi => ?_⟩⟩
    match i, hi with
    | 0, _ => exact lies_get hl 0 rfl
    | 1, _ => exact lies_get hl 1 rfl
  have HMK : Hid (Calls Try.prog 10 #[.int .u32 0, .int .u32 0, .int .i64 1, .slice (some ⟨w2.heap.size, 0, none⟩) 2 2] W3 fun e w' => ∃ A C, e = .returned (.tuple #[.agg #[.int .u32 0, .int .u32 0, .int .i64 2, .int .i64 1, .slice A 3 C], .bool true]) ∧ Hid (Shs w' W3.heap.size (.slice A 3 C) 3 (G17 [5, 6] 2)) ∧ Hid (Below W3.heap.size W3 w')) := Lib.hid (rgmake_yes 0 0 2 1 3 2 (some ⟨w2.heap.size, 0, none⟩) [5, 6] W3 (by omega) (by omega) (by omega) hI3 (fun z hz => by simp at hz; omega) rfl)
  have HB3 := Lib.hid hB3
  have HW3 := Lib.hid hW3
  clear hB3 hI3 hW3
  go_upto_region 5 with (first
    | (go_at_call 10; rw [← HW3.out]; (with_reducible refine HMK.out.mono ?_); rintro e w4 ⟨A, C, rfl, HS4, HB4⟩)
    | fail "arm4")
  obtain ⟨W5, hW5⟩ : ∃ W5, W5 = w4.alloc (.cells #[.int .u32 0, .int .u32 0, .int .i64 2, .int .i64 1, .slice A 3 C] 34) := ⟨_, rfl⟩
  rw [← hW5]
  have HB5 : Hid (Below w2.heap.size w2 W5) := Lib.hid (by rw [hW5]; exact HB3.out.trans ((HB4.out.alloc HB4.out.size _).mono HB3.out.size))
  have hG5 : B5 34 W5 w4.heap.size (.int .u32 0) (.int .u32 0) (.int .i64 2) (.int .i64 1) (.slice A 3 C) := by rw [hW5]; exact B5.new _ _ _ _ _ _ _
  have hS5 : Shs W5 W3.heap.size (.slice A 3 C) 3 (G17 [5, 6] 2) := by rw [hW5]; exact HS4.out.below ((Below.refl w4.heap.size w4).alloc (Nat.le_refl _) _) (Nat.le_refl _)
  have hC5 := HCW.out.below HB5.out
  obtain ⟨rb, hA, _, _, hNC, _, _, _, g2, o2, c2, t2, h22, h23, r2⟩ := hS5.cp.at_ 2 (by omega)
  obtain ⟨rb', hA', _, _, _, _, _, hty', g0, o0, c0, t0, h02, h03, r0⟩ := hS5.cp.at_ 0 (by omega)
  obtain rfl : rb' = rb := by rw [hA] at hA'; cases hA'; rfl
  have hTb : Typ W5 w1.heap.size 105 := by
    obtain ⟨sv, rd, h1, _⟩ := hC5.ex
    exact h1.typ
  have hn1 : rb' ≠ w1.heap.size := by
    obtain ⟨cur, hc⟩ := hty'
    exact Typ.ne ⟨cur, hc⟩ hTb (by decide)
  have hn2 : g2 ≠ w1.heap.size := by
    obtain ⟨cur, hc⟩ := r2.1
    exact Typ.ne ⟨cur, hc⟩ hTb (by decide)
  have hn0 : g0 ≠ w1.heap.size := by
    obtain ⟨cur, hc⟩ := r0.1
    exact Typ.ne ⟨cur, hc⟩ hTb (by decide)
  have hn4 : w4.heap.size ≠ w1.heap.size := Typ.ne ⟨_, hG5⟩ hTb (by decide)
  -- what is as it was in each world that has all blocks but the window's
  have HN : Hid (∀ u : World, W5.heap.size ≤ u.heap.size → (∀ k, k < W5.heap.size → k ≠ w1.heap.size → u.heap[k]? = W5.heap[k]?) → B5 34 u w4.heap.size (.int .u32 0) (.int .u32 0) (.int .i64 2) (.int .i64 1) (.slice A 3 C) ∧ u.cell? ⟨rb', 2, none⟩ = some (.slice (some ⟨g2, o2, none⟩) 2 c2) ∧ u.cell? ⟨rb', 0, none⟩ = some (.slice (some ⟨g0, o0, none⟩) 2 c0) ∧ Rw u g2 o2 (G17 [5, 6] 2 2) ∧ Rw u g0 o0 (G17 [5, 6] 2 0) ∧ rb' < u.heap.size) := Lib.hid (fun u hu1 hu => by
    have hrl := World.block_lt_of_cell? W5 _ t2
    exact ⟨hG5.keep (hu _ hG5.lt hn4), cell_blk t2 (hu _ hrl hn1), cell_blk t0 (hu _ hrl hn1), r2.keep (hu _ r2.lt hn2), r0.keep (hu _ r0.lt hn0), Nat.lt_of_lt_of_le hrl hu1⟩)
  have HAA : Hid (A = some ⟨rb', 0, none⟩ ∧ 3 ≤ C ∧ 2 ≤ c2 ∧ 2 ≤ c0) := Lib.hid ⟨hA, hNC, h22, h02⟩
  have HC5 := Lib.hid hC5
  have HRD : Hid (∀ u : World, W5.heap.size ≤ u.heap.size → (∀ k, k < W5.heap.size → k ≠ w1.heap.size → u.heap[k]? = W5.heap[k]?) → (Calls Try.prog 16 #[.agg #[.int .u32 0, .int .u32 0, .int .i64 2, .int .i64 1, .slice A 3 C], .int .i64 2] u fun e u' => e = .returned (.agg #[.int .i64 3, .int .u32 0, .int .u32 0, .int .i64 0, .int .u32 0, .int .u32 0, .int .u32 0, .int .i64 2, .int .i64 1, .int .i64 2, .slice (some ⟨g2, o2, none⟩) 2 c2]) ∧ Below u.heap.size u u') ∧ (Calls Try.prog 16 #[.agg #[.int .u32 0, .int .u32 0, .int .i64 2, .int .i64 1, .slice A 3 C], .int .i64 0] u fun e u' => e = .returned (.agg #[.int .i64 2, .int .u32 0, .int .u32 0, .int .i64 0, .int .u32 0, .int .u32 0, .int .u32 0, .int .i64 2, .int .i64 1, .int .i64 0, .slice (some ⟨g0, o0, none⟩) 2 c0]) ∧ Below u.heap.size u u')) := Lib.hid (fun u hu1 hu => by
    obtain ⟨_, x2, x0, _, _, xl⟩ := HN.out u hu1 hu
    refine ⟨?_, ?_⟩
    · exact (rdg_any 0 0 2 1 A 3 C 2 rb' 0 g2 o2 c2 u HAA.out.2.1 (by omega) (by omega) HAA.out.1 (by simpa using x2) xl).mono fun e u' h => ⟨h.1, h.2.out⟩
    · exact (rdg_any 0 0 2 1 A 3 C 0 rb' 0 g0 o0 c0 u HAA.out.2.1 (by omega) (by omega) HAA.out.1 (by simpa using x0) xl).mono fun e u' h => ⟨h.1, h.2.out⟩)
  have HT1 : Hid (∀ u, Below W5.heap.size W5 u → Calls Try.prog 20 #[.pointer (some ⟨w1.heap.size, 0, none⟩), .agg #[.int .i64 3, .int .u32 0, .int .u32 0, .int .i64 0, .int .u32 0, .int .u32 0, .int .u32 0, .int .i64 2, .int .i64 1, .int .i64 2, .slice (some ⟨g2, o2, none⟩) 2 c2]] u fun e u' => e = .returned (.int .i64 0) ∧ Hid (CW u' w1.heap.size w.heap.size w1.heap.size (OO (fun k => k = w1.heap.size) u u') none (Wn.zero.take (⟨3, 0, 0, 2, 1, 2, 2, G17 [5, 6] 2 2 0, G17 [5, 6] 2 2 1⟩ : Cd))) ∧ Hid (W5.heap.size ≤ u'.heap.size ∧ ∀ k, k < W5.heap.size → k ≠ w1.heap.size → u'.heap[k]? = W5.heap[k]?) ∧ Hid (FrO (fun k => k = w1.heap.size) u u')) := Lib.hid (fun u hu => by
    have hh := HC5.out.below hu
    have hr := (HN.out u hu.size (fun k hk _ => hu.block k hk)).2.2.2.1
    refine (take18 w1.heap.size w.heap.size w1.heap.size 0 _ Wn.zero 3 0 0 0 0 2 1 2 0 0 (some ⟨g2, o2, none⟩) 2 c2 (G17 [5, 6] 2 2 0) (G17 [5, 6] 2 2 1) u hh Wn.zero_ok (by omega) rfl (by omega) (by omega) hr.2.2.2.1 hr.2.2.2.2 (fun _ => ⟨_, _, rfl, HAA.out.2.2.1, hr⟩)).mono fun e u' h => ?_
    obtain ⟨h1, h2, h3⟩ := h
    refine ⟨by rw [h1, (awake_run _ _ 0 0).1], h2, Lib.hid ⟨Nat.le_trans hu.size h3.out.size, fun k hk hne => (h3.out.block k (Nat.lt_of_lt_of_le hk hu.size) hne).trans (hu.block k hk)⟩, h3⟩)
  have HT2 : Hid (∀ (O' : Nat → Prop) (u2 : World), CW u2 w1.heap.size w.heap.size w1.heap.size O' none (Wn.zero.take (⟨3, 0, 0, 2, 1, 2, 2, G17 [5, 6] 2 2 0, G17 [5, 6] 2 2 1⟩ : Cd)) → ∀ u : World, Below u2.heap.size u2 u → W5.heap.size ≤ u.heap.size → (∀ k, k < W5.heap.size → k ≠ w1.heap.size → u.heap[k]? = W5.heap[k]?) → Calls Try.prog 20 #[.pointer (some ⟨w1.heap.size, 0, none⟩), .agg #[.int .i64 2, .int .u32 0, .int .u32 0, .int .i64 0, .int .u32 0, .int .u32 0, .int .u32 0, .int .i64 2, .int .i64 1, .int .i64 0, .slice (some ⟨g0, o0, none⟩) 2 c0]] u fun e u' => e = .returned (.int .i64 0) ∧ Hid (CW u' w1.heap.size w.heap.size w1.heap.size (OO O' u u') none (⟨1, 2, 0, 1, [], [5, 6]⟩ : Wn)) ∧ Hid (FrO O' u u')) := Lib.hid (fun O' u2 hc u hu hn1 hn2 => by
    have hh := hc.below hu
    have hr := (HN.out u hn1 hn2).2.2.2.2.1
    have hok := Wn.take_ok (d := (⟨3, 0, 0, 2, 1, 2, 2, G17 [5, 6] 2 2 0, G17 [5, 6] 2 2 1⟩ : Cd)) Wn.zero_ok ⟨by decide, by decide, (HN.out u hn1 hn2).2.2.2.1.2.2.2.1, (HN.out u hn1 hn2).2.2.2.1.2.2.2.2⟩
    refine (take18 w1.heap.size w.heap.size w1.heap.size 1 O' _ 2 0 0 0 0 2 1 0 0 0 (some ⟨g0, o0, none⟩) 2 c0 (G17 [5, 6] 2 0 0) (G17 [5, 6] 2 0 1) u hh hok (by omega) (Wn.take_stuck rfl) (by omega) (by omega) hr.2.2.2.1 hr.2.2.2.2 (fun _ => ⟨_, _, rfl, HAA.out.2.2.2, hr⟩)).mono fun e u' h => ?_
    obtain ⟨h1, h2, h3⟩ := h
    have hrun := awake_run (G17 [5, 6] 2 2 0) (G17 [5, 6] 2 2 1) (G17 [5, 6] 2 0 0) (G17 [5, 6] 2 0 1)
    rw [hrun.2.2, awake_ins] at h2
    exact ⟨by rw [h1, hrun.2.1], h2, h3⟩)
  have hG := hG5.cells
  have HS0 : Hid (∀ u : World, W5.heap.size ≤ u.heap.size → (∀ k, k < W5.heap.size → k ≠ w1.heap.size → u.heap[k]? = W5.heap[k]?) → u.cell? ⟨w4.heap.size, 0, none⟩ = some (.int .u32 0) ∧ u.cell? ⟨w4.heap.size, 1, none⟩ = some (.int .u32 0) ∧ u.cell? ⟨w4.heap.size, 2, none⟩ = some (.int .i64 2) ∧ u.cell? ⟨w4.heap.size, 3, none⟩ = some (.int .i64 1) ∧ u.cell? ⟨w4.heap.size, 4, none⟩ = some (.slice A 3 C)) := Lib.hid (fun u hu1 hu => (HN.out u hu1 hu).1.cells)
  clear hC5 hS5 hG5 hTb hn1 hn2 hn0 hn4 hA hA' hty' hNC t2 h22 h23 r2 t0 h02 h03 r0 hG hW5
  have HLO : Hid (Below w.heap.size w W5) := Lib.hid (HB1.out.trans ((HB2.out.trans (HB5.out.mono HB2.out.size)).mono HB1.out.size))
  have cc : Below W5.heap.size W5 W5.drew := (Below.refl _ _).drew
  have nn : W5.heap.size ≤ W5.drew.heap.size ∧ ∀ k, k < W5.heap.size → k ≠ w1.heap.size → W5.drew.heap[k]? = W5.heap[k]? := ⟨cc.size, fun k hk _ => cc.block k hk⟩
  go_region_held3 (fun u => u.cell? ⟨w4.heap.size, 0, none⟩ = some (.int .u32 0) ∧ u.cell? ⟨w4.heap.size, 1, none⟩ = some (.int .u32 0) ∧ u.cell? ⟨w4.heap.size, 2, none⟩ = some (.int .i64 2) ∧ u.cell? ⟨w4.heap.size, 3, none⟩ = some (.int .i64 1) ∧ u.cell? ⟨w4.heap.size, 4, none⟩ = some (.slice A 3 C))
    (first
      | exact HS0.out _ nn.1 nn.2
      | fail "keep")
    (first
      | (go_at_call 16; (with_reducible refine (HRD.out _ nn.1 nn.2).1.mono ?_); rintro e u1 ⟨rfl, hu1⟩; replace cc := cc.trans (hu1.mono cc.size); replace nn : W5.heap.size ≤ u1.heap.size ∧ ∀ k, k < W5.heap.size → k ≠ w1.heap.size → u1.heap[k]? = W5.heap[k]? := ⟨cc.size, fun k hk _ => cc.block k hk⟩; clear hu1)
      | (go_at_call 20; (with_reducible refine (HT1.out _ cc).mono ?_); rintro e u2 ⟨rfl, HC2, HN2, HF2⟩; replace nn := HN2.out; have HX2 : Hid (Below w.heap.size w u2) := Lib.hid (HF2.out.bel (HLO.out.trans (cc.mono HLO.out.size)) (Nat.le_trans HLO.out.size cc.size) (fun k hk => by rw [hk]; exact HB1.out.size)))
      | (go_at_call 16; (with_reducible refine (HRD.out _ nn.1 nn.2).2.mono ?_); rintro e u3 ⟨rfl, hu3⟩; have HU3 := Lib.hid hu3; replace nn : W5.heap.size ≤ u3.heap.size ∧ ∀ k, k < W5.heap.size → k ≠ w1.heap.size → u3.heap[k]? = W5.heap[k]? := ⟨Nat.le_trans nn.1 hu3.size, fun k hk hne => (hu3.block k (Nat.lt_of_lt_of_le hk nn.1)).trans (nn.2 k hk hne)⟩; clear hu3; have HN3 := Lib.hid nn)
      | (go_at_call 20; (with_reducible refine (HT2.out _ u2 HC2.out u3 HU3.out nn.1 nn.2).mono ?_); rintro e u4 ⟨rfl, HC4, HF4⟩; replace nn : W5.heap.size ≤ u4.heap.size ∧ ∀ k, k < W5.heap.size → k ≠ w1.heap.size → u4.heap[k]? = W5.heap[k]? := ⟨Nat.le_trans nn.1 HF4.out.size, fun k hk hne => (HF4.out.block k (Nat.lt_of_lt_of_le hk nn.1) (fun e => e.elim hne (fun e => absurd e.1 (by have := cc.size; omega)))).trans (nn.2 k hk hne)⟩)
      | fail "arm")
  all_goals
    have HX4 : Hid (Below w.heap.size w u4) := Lib.hid (HF4.out.bel (HX2.out.trans (HU3.out.mono HX2.out.size)) (Nat.le_trans HX2.out.size HU3.out.size) (fun k hk => Nat.le_trans HB1.out.size (HC2.out.own k hk).1))
    have HRY : Hid (Calls Try.prog 23 #[.pointer (some ⟨w1.heap.size, 0, none⟩)] u4 fun e u5 => ∃ A5 C5, e = .returned (.slice A5 2 C5) ∧ Hid (Ins u5 A5 2 [5, 6]) ∧ Hid (∃ O5, CW u5 w1.heap.size w.heap.size w1.heap.size O5 none ((⟨1, 2, 0, 1, [], [5, 6]⟩ : Wn)).read) ∧ Hid (Below w.heap.size w u5)) := Lib.hid ((ready18 _ _ _ _ (⟨1, 2, 0, 1, [], [5, 6]⟩ : Wn) u4 HC4.out).mono fun e u5 he => by
      obtain ⟨A5, C5, h1, h2, _, h4, h5⟩ := he
      exact ⟨A5, C5, h1, h2, Lib.hid ⟨_, h4.out⟩, Lib.hid (h5.out.bel HX4.out HX4.out.size (fun k hk => Nat.le_trans HB1.out.size (HC4.out.own k hk).1))⟩)
    clear HC2 HN2 HF2 HX2 HU3 HN3 HC4 HF4 HX4 nn cc HT1 HT2 HRD HN HS0 HAA HC5 HB5 HLO
    have HSM : Hid (∀ u5 A5 C5, Ins u5 A5 2 [5, 6] → Calls Try.prog 22 #[.slice A5 2 C5, .slice (some ⟨u5.heap.size, 0, none⟩) 2 2] (u5.alloc (.cells #[.int .u16 5, .int .u16 6] 79)) fun e u6 => e = .returned (.bool true) ∧ Below u5.heap.size u5 u6) := Lib.hid (fun u5 A5 C5 hi => by
      have hb : Below u5.heap.size u5 (u5.alloc (.cells #[.int .u16 5, .int .u16 6] 79)) := (Below.refl _ _).alloc (Nat.le_refl _) _
      have hl : Lies (u5.alloc (.cells #[.int .u16 5, .int .u16 6] 79)) u5.heap.size 0 #[.int .u16 5, .int .u16 6] := Lies.new _ _ _ (Below.refl _ _)
      exact (same18 A5 _ 2 C5 2 [5, 6] [5, 6] _ (hi.below hb (Nat.le_refl _)) ⟨rfl, .inr ⟨_, _, rfl, hl.lt, fun i hi => by
        match i, hi with
        | 0, _ => exact lies_get hl 0 rfl
        | 1, _ => exact lies_get hl 1 rfl⟩⟩ (by omega) rfl).mono fun e u6 h => ⟨h.1, hb.trans (h.2.mono hb.size)⟩)
    have HME : Hid (∀ u O5, CW u w1.heap.size w.heap.size w1.heap.size O5 none ((⟨1, 2, 0, 1, [], [5, 6]⟩ : Wn)).read → Calls Try.prog 40 #[.pointer (some ⟨w1.heap.size, 0, none⟩)] u fun e u' => e = .returned (.int .i64 1) ∧ u = u') := Lib.hid (fun u O5 h => mended18 h)
    have HBA : Hid (∀ u O5, CW u w1.heap.size w.heap.size w1.heap.size O5 none ((⟨1, 2, 0, 1, [], [5, 6]⟩ : Wn)).read → Calls Try.prog 26 #[.pointer (some ⟨w1.heap.size, 0, none⟩)] u fun e u' => e = .returned (.int .u32 1) ∧ u = u') := Lib.hid (fun u O5 h => base18 h)
    go_wp2_with (first
      | (go_at_call 23; (with_reducible refine HRY.out.mono ?_); rintro e u5 ⟨A5, C5, rfl, HI5, HC5, HX5⟩)
      | (go_at_call 22; (with_reducible refine (HSM.out u5 A5 C5 HI5.out).mono ?_); rintro e u6 ⟨rfl, hb6⟩; have HB6 := Lib.hid hb6; clear hb6; obtain ⟨O5, hO5⟩ := HC5.out; have HC6 := Lib.hid (hO5.below HB6.out); clear hO5)
      | (go_at_call 40; (with_reducible refine (HME.out _ _ HC6.out).mono ?_); rintro e u7 ⟨rfl, rfl⟩)
      | (go_at_call 26; (with_reducible refine (HBA.out _ _ HC6.out).mono ?_); rintro e u8 ⟨rfl, rfl⟩)
      | fail "arm6")
    go_ret
    exact ⟨rfl, HX5.out.trans (HB6.out.mono HX5.out.size)⟩
end Go.Proofs.Ytjcbcdjfhcnhcaa
namespace Go.Proofs.Ytjcbcdjfhcnhcaa
open Go.RowKit

theorem ownsRow_low {w : World} {base b : Nat} {e : TypeId} {size : Nat} {v : Value} {n : Nat} {xs : List Value} (h : w.ownsRow base e size v n xs) (hb : b ≤ base) : w.ownsRow b e size v n xs := by
  refine ⟨h.1, h.2.imp id ?_⟩
  rintro ⟨g, cap, cur, he, h1, h2⟩
  exact ⟨g, cap, cur, he, by omega, h2⟩
theorem ownsRow_keep {w w' : World} {base : Nat} {e : TypeId} {size : Nat} {v : Value} {n : Nat} {xs : List Value} (h : w.ownsRow base e size v n xs) (hk : ∀ g cur, v.ownBlock = some g → w.heap[g]? = some (.cells cur e (0, 0)) → w'.heap[g]? = w.heap[g]?) : w'.ownsRow base e size v n xs := by
  refine ⟨h.1, h.2.imp id ?_⟩
  rintro ⟨g, cap, cur, he, h1, hg, h2⟩
  exact ⟨g, cap, cur, he, h1, (hk g cur (by rw [he]; rfl) hg).trans hg, h2⟩
theorem ownsRow_below {w w' : World} {base B : Nat} {e : TypeId} {size : Nat} {v : Value} {n : Nat} {xs : List Value} (h : w.ownsRow base e size v n xs) (hb : Below B w w') (hB : w.heap.size ≤ B) : w'.ownsRow base e size v n xs :=
  ownsRow_keep h (fun g _ hg _ => hb.block g (Nat.lt_of_lt_of_le (h.lt g hg).2 hB))
/-- What an append may turn: a block of elements of its own type, and what is new. -/
structure Grew (base : Nat) (e : TypeId) (w w' : World) : Prop where
  bel : Below base w w'
  size : w.heap.size ≤ w'.heap.size
  typ : ∀ (k : Nat) (C : Array Value) (t : TypeId), w.heap[k]? = some (Obj.cells C t (0, 0)) → t ≠ e → w'.heap[k]? = w.heap[k]?
theorem Grew.row {base base' : Nat} {e e' : TypeId} {size : Nat} {w w' : World} {v : Value} {n : Nat} {xs : List Value} (h : Grew base e w w') (hr : w.ownsRow base' e' size v n xs) (he : e' ≠ e) : w'.ownsRow base' e' size v n xs :=
  ownsRow_keep hr (fun g cur _ hg => h.typ g cur e' hg he)
set_option maxRecDepth 100000 in
theorem wpList_append_el {w : World} {ops : Array Oper} {rest : List Oper} {o : Oper} {a : Act} {Q : Exit → Act → World → Prop} (hgd : o.guard = none) (s x : Operand) (t e : TypeId)
    (ho : o.op = .call { callee := .builtin .append, args := #[s, x], argTypes := #[t, t] })
    (z : Value) (size bytes : Nat) (ht : Try.prog.underlying t = some (.slice e)) (hinfo : (Try.prog.info? e).map (fun i => (i.zero, i.size, i.bytes)) = some (some z, size, bytes)) (hz : z.cells.size = size) (hs0 : 0 < size) (hby : bytes ≤ 1000000)
    (base : Nat) (A : Option Addr) (n C : Nat) (hs : a.eval s = .slice A n C) (xs : List Value) (hown : w.ownsRow base e size (.slice A n C) n xs)
    (g : Nat) (hx : a.eval x = .slice (some ⟨g, 0, none⟩) 1 1) (cs : Array Value) (hcs : cs.size = size) (hl : Lies w g 0 cs) (h1 : cs.all (·.oneCell') = true) (hb : n + 1 ≤ 100000) (hbase : base ≤ w.heap.size)
    (h : ∀ A' C' w', Hid (w'.ownsRow base e size (.slice A' (n + 1) C') (n + 1) (xs ++ cs.toList)) → Hid (Grew base e w w') → Hid (w.grownBy w' (Value.slice A n C).ownBlock) → wpList Try.prog ops Q rest (a.put o.dst (.slice A' (n + 1) C')) w') :
    wpList Try.prog ops Q (o :: rest) a w :=
  wpList_plain hgd fun _ hK => by
    obtain ⟨i, hi, hzz⟩ := Option.map_eq_some_iff.1 hinfo
    simp only [Prod.mk.injEq] at hzz
    obtain ⟨hz0, hsz, hby0⟩ := hzz
    refine wp_append_own w s x t ho base e i z size bytes ht hi hz0 hsz hby0 hz hs0 _ n _ hs hown ⟨g, 0, none⟩ 1 1 cs.toList hx (by simp [hcs]) ?_ ?_ (by unfold maxLen; omega) ?_ hbase ?_
    · intro j u hu
      have hj : j < cs.size := by simpa using (List.getElem?_eq_some_iff.1 hu).1
      rw [onto_any, hl.cell j hj, ← hu]
      simp
    · intro u hu
      exact (Array.all_eq_true_iff_forall_mem.1 h1) u (by simpa using hu)
    · have h2 : (n + 1) * bytes ≤ 100000 * 1000000 := Nat.mul_le_mul hb hby
      omega
    · intro v' w' h2 h3 _
      have h4 : ∃ A C, v' = .slice A (n + 1) C := by
        rcases h2.2 with ⟨rfl, h0⟩ | ⟨g, cap, cur, rfl, _⟩
        · omega
        · exact ⟨_, _, rfl⟩
      obtain ⟨A', C', rfl⟩ := h4
      refine hK _ _ (h A' C' w' (Lib.hid h2) (Lib.hid ⟨below_grown (Below.refl base w) h3 hbase (fun k hk => (hown.lt k hk).1), h3.size, fun k D t hk hne => ?_⟩) (Lib.hid h3))
      refine h3.block k (Array.getElem?_eq_some_iff.1 hk).1 (fun ek => hne ?_)
      rcases hown.2 with ⟨he, _⟩ | ⟨g', cap, cur, he, _, hg', _⟩
      · rw [he] at ek; cases ek
      · rw [he] at ek
        obtain rfl : k = g' := by simpa [Value.ownBlock] using ek
        rw [hg'] at hk
        have := Option.some.inj hk
        injection this with _ h5 _
        exact h5.symm
end Go.Proofs.Ytjcbcdjfhcnhcaa
namespace Go.Proofs.Ytjcbcdjfhcnhcaa
open Go.RowKit

theorem fill_list : ∀ (cs : List Value) (k : Nat) (Z : Array Value), Z.size = k + cs.length → (cs.zipIdx k).foldl (fun (a : Array Value) (x : Value × Nat) => a.setIfInBounds x.2 x.1) Z = (Z.toList.take k ++ cs).toArray
  | [], k, Z, h => by
    have : Z.toList.take k = Z.toList := List.take_of_length_le (by simp at h; simp; omega)
    simp [this]
  | c :: r, k, Z, h => by
    rw [List.zipIdx_cons, List.foldl_cons, fill_list r (k + 1) _ (by simp at h ⊢; omega)]
    congr 1
    have hk : k < Z.toList.length := by simp at h; simp; omega
    rw [Array.toList_setIfInBounds, List.take_add_one, List.take_set_of_le (Nat.le_refl k), List.getElem?_set_self hk]
    simp
theorem fill_one (cs Z : Array Value) (h : Z.size = cs.size) : cs.zipIdx.foldl (fun (a : Array Value) (x : Value × Nat) => a.setIfInBounds x.2 x.1) Z = cs := by
  have := fill_list cs.toList 0 Z (by simp [h])
  simp at this
  rw [← Array.foldl_toList]
  simpa using this
theorem run_build_one {w : World} (t e : TypeId) (z : Value) (size bytes : Nat) (cs : Array Value) (ht : Try.prog.underlying t = some (.slice e)) (hinfo : (Try.prog.info? e).map (fun i => (i.zero, i.size, i.bytes)) = some (some z, size, bytes))
    (hcs : cs.size = size) (h0 : 0 < size) (h1 : size ≤ 10000) : (Instr.buildSlice t 1 #[(0, .agg cs)]).run Try.prog w = .ok (.slice (some ⟨w.heap.size, 0, none⟩) 1 1) (w.alloc (.cells cs e)) := by
  obtain ⟨i, hi, hzz⟩ := Option.map_eq_some_iff.1 hinfo
  simp only [Prod.mk.injEq] at hzz
  obtain ⟨hz0, hsz, _⟩ := hzz
  have g1 : ¬ (2 ^ 24 < size) := by omega
  have g2 : ¬ size = 0 := by omega
  have hf := fill_one cs ((Array.range size).map (fun j => z.cells[j % z.cells.size]!)) (by simp [hcs])
  have hcc : (Value.agg cs).cells = cs := rfl
  simp [Instr.buildSlice, Sem.run_bind, run_underlying ht, sizeOf, typeInfo, hi, hsz, zeroValue, hz0, g2, Instr.fill, hcc, hcs, newRow]
  rw [if_neg (by omega)]
  have hf2 : ∀ m, m = cs.zipIdx.size → Array.foldl (fun (a : Array Value) (x : Value × Nat) => a.setIfInBounds x.2 x.1) ((Array.range size).map (fun j => z.cells[j % z.cells.size]!)) cs.zipIdx 0 m = cs := by
    rintro m rfl
    exact hf
  rw [hf2 size (by simp [hcs])]
theorem wpList_build_one {w : World} {ops : Array Oper} {rest : List Oper} {o : Oper} {a : Act} {Q : Exit → Act → World → Prop} (hgd : o.guard = none) (t e : TypeId) (x : Operand) (ho : o.op = .buildSlice t 1 #[(0, x)])
    (z : Value) (size bytes : Nat) (cs : Array Value) (hx : a.eval x = .agg cs) (ht : Try.prog.underlying t = some (.slice e)) (hinfo : (Try.prog.info? e).map (fun i => (i.zero, i.size, i.bytes)) = some (some z, size, bytes))
    (hcs : cs.size = size) (h0 : 0 < size) (h1 : size ≤ 10000) (h : wpList Try.prog ops Q rest (a.put o.dst (.slice (some ⟨w.heap.size, 0, none⟩) 1 1)) (w.alloc (.cells cs e))) : wpList Try.prog ops Q (o :: rest) a w :=
  wpList_plain hgd fun _ hK => by
    have hr := run_build_one (w := w) t e z size bytes cs ht hinfo hcs h0 h1
    unfold Oper.wp execOp
    simp only [ho, List.map_toArray, List.map_cons, List.map_nil, hx, Sem.run_bind, hr, Result.andThen_ok, Sem.run_pure]
    exact hK _ _ h
end Go.Proofs.Ytjcbcdjfhcnhcaa
namespace Go.Proofs.Ytjcbcdjfhcnhcaa
open Go.RowKit
/-- A list of inputs, parted into groups. -/
structure Gs where
  Z : List Int
  kk : Nat → Nat
  M : Nat
/-- Where a group begins. -/
def Gs.st (g : Gs) : Nat → Nat
  | 0 => 0
  | i + 1 => g.st i + g.kk i
def Gs.inp (g : Gs) (i : Nat) : List Int := (g.Z.drop (g.st i)).take (g.kk i)
structure Gs.ok (g : Gs) : Prop where
  vals : ∀ z ∈ g.Z, 0 ≤ z ∧ z ≤ 65535
  k1 : ∀ i, 1 ≤ g.kk i
  k8 : ∀ i, g.kk i ≤ 8
  m6 : g.M ≤ 6
  len : g.Z.length ≤ 100
/-- Its byte c of shard x. -/
def Gs.by_ (g : Gs) (i x c : Nat) : Nat := G17 (g.inp i) (g.kk i) x c
/-- A datagram in the list: of which group, which shard, and where its bytes lie. -/
structure El where
  i : Nat
  x : Nat
  a : Nat
  o : Nat
  c : Nat
def kd18 (n i : Nat) : Int := if (i : Int) < (n : Int) then 2 else 3
def El.kd (g : Gs) (e : El) : Int := kd18 (g.kk e.i) e.x
abbrev El.cells (g : Gs) (e : El) : Array Value := #[.int .i64 (e.kd g), .int .u32 0, .int .u32 0, .int .i64 0, .int .u32 0, .int .u32 (e.i : Nat), .int .u32 (g.st e.i : Nat), .int .i64 (g.kk e.i : Nat), .int .i64 (g.M : Nat), .int .i64 (e.x : Nat), .slice (some ⟨e.a, e.o, none⟩) 2 e.c]
def El.ok (g : Gs) (G : Nat) (w : World) (e : El) : Prop := e.i < G ∧ e.x < g.kk e.i + g.M ∧ 2 ≤ e.c ∧ e.c ≤ maxLen ∧ Rw w e.a e.o (g.by_ e.i e.x)
theorem El.ok.below {g : Gs} {G : Nat} {w w' : World} {e : El} (h : e.ok g G w) (hb : Below w.heap.size w w') : e.ok g G w' := ⟨h.1, h.2.1, h.2.2.1, h.2.2.2.1, h.2.2.2.2.below hb (Nat.le_refl _)⟩
theorem El.ok.more {g : Gs} {G G' : Nat} {w : World} {e : El} (h : e.ok g G w) (hG : G ≤ G') : e.ok g G' w := ⟨Nat.lt_of_lt_of_le h.1 hG, h.2⟩
/-- The cells of several, one behind the other. -/
def flatC {α : Type} (f : α → Array Value) (l : List α) : List Value := l.flatMap (fun e => (f e).toList)
theorem flatC_snoc {α : Type} (f : α → Array Value) (l : List α) (e : α) : flatC f (l ++ [e]) = flatC f l ++ (f e).toList := by simp [flatC]
theorem flatC_get {α : Type} (f : α → Array Value) (m : Nat) (hf : ∀ e, (f e).size = m) : ∀ (l : List α) (t j : Nat) (e : α), l[t]? = some e → j < m → (flatC f l)[t * m + j]? = (f e)[j]?
  | [], t, j, e, h, _ => by simp at h
  | a :: l, 0, j, e, h, hj => by
    simp at h
    subst h
    show ((f a).toList ++ flatC f l)[0 * m + j]? = _
    rw [Nat.zero_mul, Nat.zero_add, List.getElem?_append_left (by simp [hf]; exact hj)]
    simp
  | a :: l, t + 1, j, e, h, hj => by
    have h2 : l[t]? = some e := by simpa using h
    show ((f a).toList ++ flatC f l)[(t + 1) * m + j]? = _
    have hl : (f a).toList.length = m := by simp [hf]
    rw [List.getElem?_append_right (by rw [hl, Nat.add_mul]; omega), hl, show (t + 1) * m + j - m = t * m + j by rw [Nat.add_mul]; omega]
    exact flatC_get f m hf l t j e h2 hj
/-- An element of a row of the call's own, where it lies. -/
theorem row_lies {α : Type} {f : α → Array Value} {m : Nat} (hf : ∀ e, (f e).size = m) {w : World} {base n C : Nat} {T : TypeId} {A : Option Addr} {l : List α} (h : w.ownsRow base T m (.slice A n C) n (flatC f l)) (hl : l.length = n) {t : Nat} {e : α} (ht : l[t]? = some e) : ∃ b, A = some ⟨b, 0, none⟩ ∧ b < w.heap.size ∧ n ≤ C ∧ C ≤ maxLen ∧ Lies w b (t * m) (f e) := by
  have htn : t < n := by have := (List.getElem?_eq_some_iff.1 ht).1; omega
  rcases h.2 with ⟨_, h0⟩ | ⟨b, cap, cur, e1, _, h2, h3, h4, h5, h6⟩
  · omega
  · cases e1
    have hm := Nat.mul_le_mul_right m (show t + 1 ≤ n by omega)
    have hm2 := Nat.mul_le_mul_right m h3
    rw [Nat.add_mul] at hm
    refine ⟨b, rfl, (Array.getElem?_eq_some_iff.1 h2).1, h3, h4, cur, T, h2, by rw [hf, h5]; omega, fun j hj => ?_⟩
    rw [hf] at hj
    have e2 := flatC_get f m hf l t j e ht hj
    rw [← h6, List.getElem?_take_of_lt (by omega)] at e2
    simpa using e2
/-- The list of all datagrams. -/
structure OutIs (g : Gs) (G : Nat) (w : World) (base : Nat) (A : Option Addr) (n C : Nat) (l : List El) : Prop where
  row : w.ownsRow base 44 11 (.slice A n C) n (flatC (El.cells g) l)
  len : l.length = n
  els : ∀ e ∈ l, e.ok g G w
theorem OutIs.below {g : Gs} {G : Nat} {w w' : World} {base : Nat} {A : Option Addr} {n C : Nat} {l : List El} (h : OutIs g G w base A n C l) (hb : Below w.heap.size w w') : OutIs g G w' base A n C l := ⟨ownsRow_below h.row hb (Nat.le_refl _), h.len, fun e he => (h.els e he).below hb⟩
/-- A group in the list: its number, and where its shards lie. -/
structure Gl where
  i : Nat
  A : Option Addr
  C : Nat
abbrev Gl.cells (g : Gs) (e : Gl) : Array Value := #[.int .u32 (e.i : Nat), .int .u32 (g.st e.i : Nat), .int .i64 (g.kk e.i : Nat), .int .i64 (g.M : Nat), .slice e.A (g.kk e.i + g.M) e.C]
/-- The list of all groups. -/
structure AllIs (g : Gs) (w : World) (base : Nat) (A : Option Addr) (n C : Nat) (l : List Gl) : Prop where
  row : w.ownsRow base 34 5 (.slice A n C) n (flatC (Gl.cells g) l)
  len : l.length = n
  els : ∀ i, i < n → ∃ e, l[i]? = some e ∧ e.i = i ∧ Shs w base (.slice e.A (g.kk i + g.M) e.C) (g.kk i + g.M) (g.by_ i)
theorem AllIs.below {g : Gs} {w w' : World} {base : Nat} {A : Option Addr} {n C : Nat} {l : List Gl} (h : AllIs g w base A n C l) (hb : Below w.heap.size w w') : AllIs g w' base A n C l := ⟨ownsRow_below h.row hb (Nat.le_refl _), h.len, fun i hi => by
  obtain ⟨e, h1, h2, h3⟩ := h.els i hi
  exact ⟨e, h1, h2, h3.below hb (Nat.le_refl _)⟩⟩
theorem infoDg18 : (Try.prog.info? 44).map (fun i => (i.zero, i.size, i.bytes)) = some (some (.agg #[.int .i64 0, .int .u32 0, .int .u32 0, .int .i64 0, .int .u32 0, .int .u32 0, .int .u32 0, .int .i64 0, .int .i64 0, .int .i64 0, .slice none 0 0]), 11, 88) := by kernel_rfl
theorem infoGr18 : (Try.prog.info? 34).map (fun i => (i.zero, i.size, i.bytes)) = some (some (.agg #[.int .u32 0, .int .u32 0, .int .i64 0, .int .i64 0, .slice none 0 0]), 5, 48) := by kernel_rfl
/-- The sizes as the law takes them. -/
def kOf (z : Int) : Nat := (min (max z 1) 8).toNat
theorem kOf_lo {z : Int} (h : z < 1) : kOf z = 1 := by unfold kOf; omega
theorem kOf_mid {z : Int} (h1 : 1 ≤ z) (h2 : z ≤ 8) : ((kOf z : Nat) : Int) = z := by unfold kOf; omega
theorem kOf_hi {z : Int} (h : 8 < z) : kOf z = 8 := by unfold kOf; omega
def mOf (z : Int) : Nat := (min (max z 0) 6).toNat
def gsOf (Z zs : List Int) (M : Int) : Gs := ⟨Z, fun i => kOf (zs.getD i 0), mOf M⟩
theorem gsOf_ok {Z zs : List Int} {M : Int} (h : ∀ z ∈ Z, 0 ≤ z ∧ z ≤ 65535) (hl : Z.length ≤ 100) : (gsOf Z zs M).ok := ⟨h, fun i => by show 1 ≤ kOf _; unfold kOf; omega, fun i => by show kOf _ ≤ 8; unfold kOf; omega, by show mOf M ≤ 6; unfold mOf; omega, hl⟩
end Go.Proofs.Ytjcbcdjfhcnhcaa
namespace Go.Proofs.Ytjcbcdjfhcnhcaa
open Go.RowKit
theorem wrap_i64_18 {z : Int} (h0 : 0 ≤ z) (h : z ≤ 4294967295) : IntKind.i64.wrap z = z := by
  simp [IntKind.wrap, IntKind.bits, IntKind.signed]
  omega
theorem wrap_u32_18 {z : Int} (h0 : 0 ≤ z) (h : z ≤ 4294967295) : IntKind.u32.wrap z = z := by
  simp [IntKind.wrap, IntKind.bits, IntKind.signed]
  omega
/-- What groups answers. -/
def GroupsTo (g : Gs) (ni : Nat) (w : World) (e : Ending) (w' : World) : Prop :=
  ∃ G A1 C1 L1 A2 C2 N L2, e = .returned (.tuple #[.slice A1 G C1, .slice A2 N C2]) ∧ Hid (AllIs g w' w.heap.size A1 G C1 L1) ∧ Hid (OutIs g G w' w.heap.size A2 N C2 L2) ∧ Hid (G ≤ 30 ∧ g.st G ≤ ni ∧ N ≤ 30 * 14) ∧ Hid (Below w.heap.size w w')
theorem AllIs.snoc {g : Gs} {w w1 w' : World} {base : Nat} {A A' : Option Addr} {i C C' : Nat} {l : List Gl} (h : AllIs g w base A i C l) (e : Gl) (he : e.i = i) (hb : Below w.heap.size w w1) (hs : Shs w1 base (.slice e.A (g.kk i + g.M) e.C) (g.kk i + g.M) (g.by_ i)) (hr : w'.ownsRow base 34 5 (.slice A' (i + 1) C') (i + 1) (flatC (Gl.cells g) l ++ (Gl.cells g e).toList)) (hg : Grew base 34 w1 w') : AllIs g w' base A' (i + 1) C' (l ++ [e]) := by
  have keep : ∀ (k : Nat) (C : Array Value) (t : TypeId), w1.heap[k]? = some (Obj.cells C t (0, 0)) → t = 42 ∨ t = 5 → w'.heap[k]? = w1.heap[k]? := fun k C t hk ht => hg.typ k C t hk (by rcases ht with rfl | rfl <;> decide)
  refine ⟨by rw [flatC_snoc]; exact hr, by rw [List.length_append, h.len]; rfl, fun j hj => ?_⟩
  by_cases ej : j = i
  · subst ej
    refine ⟨e, by rw [List.getElem?_append_right (by rw [h.len]; omega), h.len]; simp, he, hs.keep keep⟩
  · obtain ⟨e', h1, h2, h3⟩ := h.els j (by omega)
    exact ⟨e', by rw [List.getElem?_append_left (by rw [h.len]; omega)]; exact h1, h2, (h3.below hb (Nat.le_refl _)).keep keep⟩
theorem OutIs.over {g : Gs} {G : Nat} {w w' : World} {base : Nat} {A : Option Addr} {n C : Nat} {l : List El} {T : TypeId} (h : OutIs g G w base A n C l) (hT1 : 44 ≠ T) (hT2 : 5 ≠ T) (hg : Grew base T w w') : OutIs g G w' base A n C l :=
  ⟨hg.row h.row hT1, h.len, fun e he => ⟨(h.els e he).1, (h.els e he).2.1, (h.els e he).2.2.1, (h.els e he).2.2.2.1, (h.els e he).2.2.2.2.keep (by
    obtain ⟨⟨cur, hc⟩, _⟩ := (h.els e he).2.2.2.2
    exact hg.typ _ _ _ hc hT2)⟩⟩
theorem AllIs.low {g : Gs} {w : World} {base b : Nat} {A : Option Addr} {n C : Nat} {l : List Gl} (h : AllIs g w base A n C l) (hb : b ≤ base) : AllIs g w b A n C l := ⟨ownsRow_low h.row hb, h.len, fun i hi => by
  obtain ⟨e, h1, h2, h3⟩ := h.els i hi
  exact ⟨e, h1, h2, h3.low hb⟩⟩
theorem OutIs.low {g : Gs} {G : Nat} {w : World} {base b : Nat} {A : Option Addr} {n C : Nat} {l : List El} (h : OutIs g G w base A n C l) (hb : b ≤ base) : OutIs g G w b A n C l := ⟨ownsRow_low h.row hb, h.len, h.els⟩
theorem OutIs.up {g : Gs} {G G' : Nat} {w : World} {base : Nat} {A : Option Addr} {n C : Nat} {l : List El} (h : OutIs g G w base A n C l) (hG : G ≤ G') : OutIs g G' w base A n C l := ⟨h.row, h.len, fun e he => (h.els e he).more hG⟩
theorem B5.lies18 {t : TypeId} {w : World} {b : Nat} {v0 v1 v2 v3 v4 : Value} (h : B5 t w b v0 v1 v2 v3 v4) : Lies w b 0 #[v0, v1, v2, v3, v4] := ⟨_, _, h, by simp, fun j hj => by simp⟩
theorem Shs.over18 {w w' : World} {base base' : Nat} {v : Value} {n : Nat} {G : Nat → Nat → Nat} {T : TypeId} (h : Shs w base v n G) (hg : Grew base' T w w') (h1 : 42 ≠ T) (h2 : 5 ≠ T) : Shs w' base v n G :=
  h.keep fun k C t hk ht => hg.typ k C t hk (by rcases ht with rfl | rfl; exact h1; exact h2)
theorem AllIs.over {g : Gs} {w w' : World} {base : Nat} {A : Option Addr} {n C : Nat} {l : List Gl} {T : TypeId} (h : AllIs g w base A n C l) (hT1 : 34 ≠ T) (hT2 : 42 ≠ T) (hT3 : 5 ≠ T) (hg : Grew base T w w') : AllIs g w' base A n C l :=
  ⟨hg.row h.row hT1, h.len, fun i hi => by
    obtain ⟨e, h1, h2, h3⟩ := h.els i hi
    exact ⟨e, h1, h2, h3.keep (fun k C t hk ht => hg.typ k C t hk (by rcases ht with rfl | rfl; exact hT2; exact hT3))⟩⟩
theorem OutIs.snoc {g : Gs} {G n : Nat} {w w' : World} {base : Nat} {A A' : Option Addr} {C C' : Nat} {l : List El} (h : OutIs g G w base A n C l) (e : El) (he : e.ok g G w) (hr : w'.ownsRow base 44 11 (.slice A' (n + 1) C') (n + 1) (flatC (El.cells g) l ++ (El.cells g e).toList)) (hg : Grew base 44 w w') : OutIs g G w' base A' (n + 1) C' (l ++ [e]) := by
  have keep : ∀ e : El, e.ok g G w → e.ok g G w' := fun e he => ⟨he.1, he.2.1, he.2.2.1, he.2.2.2.1, he.2.2.2.2.keep (by
    obtain ⟨⟨cur, hc⟩, _⟩ := he.2.2.2.2
    exact hg.typ _ _ _ hc (by decide))⟩
  refine ⟨by rw [flatC_snoc]; exact hr, by rw [List.length_append, h.len]; rfl, fun e' he' => ?_⟩
  rcases List.mem_append.1 he' with h1 | h1
  · exact keep e' (h.els e' h1)
  · rw [List.mem_singleton] at h1
    rw [h1]
    exact keep e he
end Go.Proofs.Ytjcbcdjfhcnhcaa
