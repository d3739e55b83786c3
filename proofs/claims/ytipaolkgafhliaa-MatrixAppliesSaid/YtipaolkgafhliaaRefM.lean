/-
  Own text: what the laws ask of matrices, and the document's small ones: walked.
-/
import Derived.Test.YtipaolkgafhliaaBeside
import Derived.BigRegion
namespace Go.Proofs.Ytipaolkgafhliaa
open Go.RowKit

/-- The document's matrix in a box. -/
def Rx (w : World) (b : Nat) (x y z : Value) : Prop := w.heap[b]? = some (.cells #[x, y, z] 27 (0, 0))
theorem Rx.keep {w w' : World} {b : Nat} {x y z : Value} (h : Rx w b x y z) (e : w'.heap[b]? = w.heap[b]?) : Rx w' b x y z := e.trans h
theorem Rx.lt {w : World} {b : Nat} {x y z : Value} (h : Rx w b x y z) : b < w.heap.size := (Array.getElem?_eq_some_iff.1 h).1
theorem Rx.below {w w' : World} {b B : Nat} {x y z : Value} (h : Rx w b x y z) (hb : Below B w w') (hB : b < B) : Rx w' b x y z := h.keep (hb.block b hB)
theorem Rx.cells {w : World} {b : Nat} {x y z : Value} (h : Rx w b x y z) : w.cell? ⟨b, 0, none⟩ = some x ∧ w.cell? ⟨b, 1, none⟩ = some y ∧ w.cell? ⟨b, 2, none⟩ = some z ∧ ∀ i, w.frozen? ⟨b, i, none⟩ = false := box_cells h
theorem Rx.write {w : World} {b : Nat} {x y z x' y' z' : Value} (h : Rx w b x y z) : Rx (((w.setCell ⟨b, 0, none⟩ x').setCell ⟨b, 1, none⟩ y').setCell ⟨b, 2, none⟩ z') b x' y' z' := set_box h
theorem Rx.grown {w w' : World} {b : Nat} {x y z : Value} {row : Option Nat} (h : Rx w b x y z) (hb : w.grownBy w' row) (hr : some b ≠ row) : Rx w' b x y z := h.keep (hb.block b h.lt hr)
theorem alloc_rx (w : World) (x y z : Value) : Rx (w.alloc (.cells #[x, y, z] 27)) w.heap.size x y z := Go.Deep.blk_alloc_new _ _
theorem ref_any (r c : Int) (a : Option Addr) (n cap : Nat) (w : World) : Calls Try.prog 12 #[.agg #[.int .i64 r, .int .i64 c, .slice a n cap]] w fun e w' => e = .returned (.agg #[.int .i64 r, .int .i64 c, .slice a n cap]) ∧ Below w.heap.size w w' := by
  go_enter Try.func12, Try.ntmps12
  go_wp2
  go_returns
  exact ⟨rfl, by go_grown⟩
theorem none_any (r c : Int) (a : Option Addr) (n cap : Nat) (w : World) : Calls Try.prog 20 #[.agg #[.int .i64 r, .int .i64 c, .slice a n cap]] w fun e w' => e = .returned (.bool (decide (r = 0 ∧ c = 0 ∧ n = 0))) ∧ Below w.heap.size w w' := by
  by_cases hr : r = 0
  · subst hr
    by_cases hc : c = 0
    · subst hc
      go_enter Try.func20, Try.ntmps20
      go_wp2
      go_ret
      refine ⟨ret_bool ?_, by go_grown⟩
      by_cases hn : n = 0
      · subst hn; rfl
      · rw [decide_eq_false (by omega)]; simp; omega
    · have hb : (c == 0) = false := by simpa using hc
      go_enter Try.func20, Try.ntmps20
      go_wp2
      go_ret
      exact ⟨ret_bool (by rw [decide_eq_false (by omega)]), by go_grown⟩
  · have hb : (r == 0) = false := by simpa using hr
    go_enter Try.func20, Try.ntmps20
    go_wp2
    go_ret
    exact ⟨ret_bool (by rw [decide_eq_false (by omega)]), by go_grown⟩
theorem rright_any (r c : Int) (n : Nat) (a : Option Addr) (cap : Nat) (w : World) :
    Calls Try.prog 11 #[.agg #[.int .i64 r, .int .i64 c, .slice a n cap]] w fun e w' => e = .returned (.bool (decide (RightM r c n))) ∧ Below w.heap.size w w' := by
  rcases Int.lt_or_le r 0 with h | h0
  · rw [decide_eq_false (show ¬ RightM r c n from fun h => by have := h.1; omega)]
    go_enter Try.func11, Try.ntmps11
    go_wp2
    go_ret
    exact ⟨rfl, by go_grown⟩
  rcases Int.lt_or_le 255 r with h | h1
  · rw [decide_eq_false (show ¬ RightM r c n from fun h => by have := h.1; omega)]
    go_enter Try.func11, Try.ntmps11
    go_wp2
    go_ret
    exact ⟨rfl, by go_grown⟩
  rcases Int.lt_or_le c 0 with h | h2
  · rw [decide_eq_false (show ¬ RightM r c n from fun h => by have := h.2.1; omega)]
    go_enter Try.func11, Try.ntmps11
    go_wp2
    go_ret
    exact ⟨rfl, by go_grown⟩
  rcases Int.lt_or_le 255 c with h | h3
  · rw [decide_eq_false (show ¬ RightM r c n from fun h => by have := h.2.1; omega)]
    go_enter Try.func11, Try.ntmps11
    go_wp2
    go_ret
    exact ⟨rfl, by go_grown⟩
  obtain ⟨R, rfl⟩ : ∃ m : Nat, r = m := ⟨r.toNat, by omega⟩
  obtain ⟨C, rfl⟩ : ∃ m : Nat, c = m := ⟨c.toNat, by omega⟩
  have hm : R * C ≤ 65025 := Nat.mul_le_mul (show R ≤ 255 by omega) (show C ≤ 255 by omega)
  have e : decide (RightM R C n) = ((n : Int) == ((R * C : Nat) : Int)) := by
    by_cases hn : n = R * C
    · rw [decide_eq_true ⟨⟨h0, h1⟩, ⟨h2, h3⟩, by rw [hn]; omega⟩, hn]; simp
    · rw [decide_eq_false (fun h => hn (by have := h.2.2; rw [← Int.natCast_mul] at this; omega))]; symm; simp; omega
  rw [e]
  obtain ⟨m, hmm⟩ : ∃ m : Nat, R * C = m := ⟨_, rfl⟩
  have hmi : (R : Int) * C = m := by rw [← hmm]; omega
  rw [hmm] at hm ⊢
  clear hmm e
  go_enter Try.func11, Try.ntmps11
  go_wp2
  go_ret
  exact ⟨rfl, by go_grown⟩
theorem rat_any (r : Int) (c i k n cap : Nat) (a : Option Addr) (l : List Int) (w : World) (hl : Bytes w a n l) (h : i * c + k < n) (hn : n ≤ 1000000) :
    Calls Try.prog 35 #[.agg #[.int .i64 r, .int .i64 c, .slice a n cap], .int .i64 i, .int .i64 k] w fun e w' => e = .returned (.int .u8 (co l (i * c + k))) ∧ Below w.heap.size w w' := by
  rcases hl.cell with h0 | ⟨_, b, off, rfl, hb, hc⟩
  · omega
  have c0 := hc _ h
  have HB := Lib.hid hb
  rw [hl.by_.get] at c0
  obtain ⟨q, hq⟩ : ∃ q, i * c = q := ⟨_, rfl⟩
  have hqi : (i : Int) * c = q := by rw [← hq]; omega
  rw [hq] at h c0 ⊢
  have c1 : ∀ o, (w.alloc o).cell? ⟨b, off + (q + k), none⟩ = some (.int .u8 (co l (q + k) : Int)) := fun o => (World.cell?_of_block (w := w) (Below.heap_alloc _ _ _ HB.out)).trans c0
  generalize co l (q + k) = v at *
  clear hq hl hc c0
  go_enter Try.func35, Try.ntmps35
  go_wp2
  go_ret
  exact ⟨rfl, by go_grown⟩
set_option maxRecDepth 100000 in
theorem rsame_true (r c : Int) (a b : Option Addr) (n d e : Nat) (l : List Int) (w : World) (hx : Bytes w a n l) (hy : Bytes w b n l) :
    Calls Try.prog 21 #[.agg #[.int .i64 r, .int .i64 c, .slice a n d], .agg #[.int .i64 r, .int .i64 c, .slice b n e]] w fun e w' => e = .returned (.bool true) ∧ Below w.heap.size w w' := by
  have HX := Lib.hid hx
  have HY := Lib.hid hy
  have HN := Lib.hid hx.max
  clear hx hy
  go_enter Try.func21, Try.ntmps21
  go_wp2
  have HX2 : Hid (Rx ((w.alloc (.cells #[.int .i64 r, .int .i64 c, .slice a n d] 27)).alloc (.cells #[.int .i64 r, .int .i64 c, .slice b n e] 27)) w.heap.size (.int .i64 r) (.int .i64 c) (.slice a n d)) := Lib.hid (alloc_two _ _ _ _)
  have HX3 : Hid (Rx ((w.alloc (.cells #[.int .i64 r, .int .i64 c, .slice a n d] 27)).alloc (.cells #[.int .i64 r, .int .i64 c, .slice b n e] 27)) (w.heap.size + 1) (.int .i64 r) (.int .i64 c) (.slice b n e)) := Lib.hid (alloc_last _ _ _ _)
  have HB0 : Hid (Below w.heap.size w ((w.alloc (.cells #[.int .i64 r, .int .i64 c, .slice a n d] 27)).alloc (.cells #[.int .i64 r, .int .i64 c, .slice b n e] 27))) := Lib.hid (by go_grown)
  generalize (w.alloc (.cells #[.int .i64 r, .int .i64 c, .slice a n d] 27)).alloc (.cells #[.int .i64 r, .int .i64 c, .slice b n e] 27) = w0 at *
  have HBR := Lib.hid (Below.refl w0.heap.size w0)
  go_loopw [5] (fun i wr => ∃ k : Nat, k ≤ n ∧ i = .int .i64 (k : Nat) ∧ Hid (Below w0.heap.size w0 wr)) (fun i _ => n - (intOf i).toNat)
  case atStart => exact ⟨0, by omega, rfl, HBR⟩
  case round =>
    obtain ⟨k, hk, rfl, HB⟩ := hrel
    obtain ⟨wo, ho⟩ : ∃ wo, wo = wr := ⟨_, rfl⟩
    subst ho
    obtain ⟨_, _, x2, _⟩ := (HX2.out.below HB.out HX2.out.lt).cells
    obtain ⟨_, _, y2, _⟩ := (HX3.out.below HB.out HX3.out.lt).cells
    have hnm := HN.out
    by_cases hlt : k < n
    · have HBX := HX.out.below (HB0.out.trans (HB.out.mono HB0.out.size)) (Nat.le_refl _)
      have HBY := HY.out.below (HB0.out.trans (HB.out.mono HB0.out.size)) (Nat.le_refl _)
      rcases HBX.cell with h0 | ⟨_, xb, xo, rfl, _, xc⟩
      · omega
      rcases HBY.cell with h0 | ⟨_, yb, yo, rfl, _, yc⟩
      · omega
      have c0 := xc k hlt
      have c1 := yc k hlt
      clear xc yc HBX HBY HX HY
      generalize l.getD k 0 = v at *
      go_wp2
      go_region
      go_wp2
      go_roundw
      case rel => exact ⟨k + 1, by omega, by go_num, Lib.hid HB.out.drew⟩
      case measure => simp [intOf]; omega
    · obtain rfl : k = n := by omega
      go_wp2
      go_ret
      exact ⟨rfl, HB0.out.trans (HB.out.mono HB0.out.size)⟩
/-- Is one tried? -/
def SmallM (r c : Int) (n : Nat) : Prop := n ≤ 400 ∧ (¬ RightM r c n ∨ (r ≤ 20 ∧ c ≤ 20))
instance (r c : Int) (n : Nat) : Decidable (SmallM r c n) := by unfold SmallM; infer_instance
theorem small_any (r c : Int) (a : Option Addr) (n cap : Nat) (w : World) : Calls Try.prog 24 #[.agg #[.int .i64 r, .int .i64 c, .slice a n cap]] w fun e w' => e = .returned (.bool (decide (SmallM r c n))) ∧ Below w.heap.size w w' := by
  by_cases hn : n ≤ 400
  · have HR := Lib.hid (right_any r c n a cap)
    have h4 : ((n : Int) ≤ 400) := by omega
    by_cases hr : RightM r c n
    · rw [decide_eq_true hr] at HR
      have e : decide (SmallM r c n) = (decide (r ≤ 20) && decide (c ≤ 20)) := by
        by_cases h : r ≤ 20 ∧ c ≤ 20
        · rw [decide_eq_true ⟨hn, .inr h⟩, decide_eq_true h.1, decide_eq_true h.2]; rfl
        · rw [decide_eq_false (fun g => g.2.elim (fun x => x hr) h)]; symm; simp; omega
      rw [e]
      clear e hr
      by_cases h20 : r ≤ 20
      · go_enter Try.func24, Try.ntmps24
        go_wp2_with (go_at_call 13; refine (HR.out _).mono ?_; rintro e w1 ⟨rfl, hb⟩; have HB := Lib.hid hb; clear hb; obtain ⟨k0, k1, k2, kf⟩ := box3 (alloc_one w _ _) HB.out (alloc_lt _ _))
        go_ret
        refine ⟨ret_bool (by simp [h20]), ((Below.refl _ w).alloc (Nat.le_refl _) _).trans (HB.out.mono (Nat.le_of_lt (alloc_lt _ _)))⟩
      · have h21 : 20 < r := by omega
        clear h20
        go_enter Try.func24, Try.ntmps24
        go_wp2_with (go_at_call 13; refine (HR.out _).mono ?_; rintro e w1 ⟨rfl, hb⟩; have HB := Lib.hid hb; clear hb; obtain ⟨k0, k1, k2, kf⟩ := box3 (alloc_one w _ _) HB.out (alloc_lt _ _))
        go_ret
        refine ⟨ret_bool (by symm; simp; omega), ((Below.refl _ w).alloc (Nat.le_refl _) _).trans (HB.out.mono (Nat.le_of_lt (alloc_lt _ _)))⟩
    · rw [decide_eq_false hr] at HR
      rw [decide_eq_true (show SmallM r c n from ⟨hn, .inl hr⟩)]
      clear hr
      go_enter Try.func24, Try.ntmps24
      go_wp2_with (go_at_call 13; refine (HR.out _).mono ?_; rintro e w1 ⟨rfl, hb⟩; have HB := Lib.hid hb; clear hb; obtain ⟨k0, k1, k2, kf⟩ := box3 (alloc_one w _ _) HB.out (alloc_lt _ _))
      go_ret
      exact ⟨rfl, ((Below.refl _ w).alloc (Nat.le_refl _) _).trans (HB.out.mono (Nat.le_of_lt (alloc_lt _ _)))⟩
  · rw [decide_eq_false (show ¬ SmallM r c n from fun h => hn h.1)]
    have h4 : ¬ ((n : Int) ≤ 400) := by omega
    go_enter Try.func24, Try.ntmps24
    go_wp2
    go_ret
    exact ⟨rfl, by go_grown⟩
end Go.Proofs.Ytipaolkgafhliaa
