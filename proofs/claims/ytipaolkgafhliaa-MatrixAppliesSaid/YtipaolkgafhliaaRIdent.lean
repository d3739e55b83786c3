/-
  Own text: the document's Identity, walked.
-/
import Derived.Test.YtipaolkgafhliaaRefM
import Derived.Test.YtipaolkgafhliaaInvert
namespace Go.Proofs.Ytipaolkgafhliaa
open Go.RowKit

/-- A document's matrix is handed back. -/
def HandedR (r c : Nat) (F : Nat → Nat → Nat) (w : World) (e : Ending) (w' : World) : Prop :=
  ∃ A C l, e = .returned (.agg #[.int .i64 r, .int .i64 c, .slice A ((r * c : Nat)) C]) ∧ Sl w' A (r * c) C l ∧ (∀ i k, i < r → k < c → co l (i * c + k) = F i k) ∧ Below w.heap.size w w'
theorem sl_set3 {w : World} {A : Option Addr} {n C b : Nat} {x y z : Value} {l : List Int} (h : Sl w A n C l) (hne : ∀ c o, A = some ⟨c, o, none⟩ → 0 < n → c ≠ b) : Sl (((w.setCell ⟨b, 0, none⟩ x).setCell ⟨b, 1, none⟩ y).setCell ⟨b, 2, none⟩ z) A n C l := by
  refine ⟨⟨h.bytes.size, h.bytes.max, h.bytes.byte, h.bytes.cell.imp id ?_⟩, h.cap, h.top, h.nilc⟩
  rintro ⟨h0, c, off, e, hl, hc⟩
  have hcb := hne c off e h0
  refine ⟨h0, c, off, e, by simpa using hl, fun i hi => ?_⟩
  exact (World.cell?_of_block (w := w) (a := ⟨c, off + i, none⟩) ((Below.heap_setCell _ ⟨b, 2, none⟩ _ c hcb).trans ((Below.heap_setCell _ ⟨b, 1, none⟩ _ c hcb).trans (Below.heap_setCell _ ⟨b, 0, none⟩ _ c hcb)))).trans (hc i hi)
set_option maxRecDepth 100000 in
set_option maxHeartbeats 1000000 in
theorem rident_any (n : Nat) (hn : n ≤ 255) (w : World) : Calls Try.prog 22 #[.int .i64 n] w (HandedR n n (fun i k => if i = k then 1 else 0) w) := by
  have hm : n * n ≤ 65025 := Nat.mul_le_mul hn hn
  have HSP : Hid (∀ i, i < n → i * n + i < n * n) := Lib.hid (fun i hi => spot_lt hi hi)
  unfold HandedR
  obtain ⟨m, hmm⟩ : ∃ m, n * n = m := ⟨_, rfl⟩
  have hmi : (n : Int) * n = m := by rw [← hmm]; omega
  rw [hmm] at hm HSP ⊢
  clear hmm
  have hmk := fun w => run_make_row' (P := Try.prog) 22 5 (.int .u8 0) 1 Try.underlying22 info_u8 rfl .i64 .i64 m (by omega) (by omega) w
  have HM := Lib.hid (fun w b => made_row' w m 5 b)
  generalize madeCells #[Value.int .u8 0] m = M at *
  go_enter Try.func22, Try.ntmps22
  go_wp2
  have HX2 : Hid (Rx (((w.alloc (.cells #[.int .i64 0, .int .i64 0, .slice none 0 0] 27)).alloc (.cells M 5)).alloc (.cells #[.int .i64 n, .int .i64 n, .slice (some ⟨w.heap.size + 1, 0, none⟩) m m] 27)) w.heap.size (.int .i64 0) (.int .i64 0) (.slice none 0 0)) := Lib.hid (((alloc_rx w _ _ _).keep (Below.heap_alloc _ _ _ (alloc_lt _ _))).keep (Below.heap_alloc _ _ _ (by simp; omega)))
  have HX3 : Hid (Rx (((w.alloc (.cells #[.int .i64 0, .int .i64 0, .slice none 0 0] 27)).alloc (.cells M 5)).alloc (.cells #[.int .i64 n, .int .i64 n, .slice (some ⟨w.heap.size + 1, 0, none⟩) m m] 27)) (w.heap.size + 1 + 1) (.int .i64 n) (.int .i64 n) (.slice (some ⟨w.heap.size + 1, 0, none⟩) m m)) := Lib.hid (by
    have := alloc_rx ((w.alloc (.cells #[.int .i64 0, .int .i64 0, .slice none 0 0] 27)).alloc (.cells M 5)) (.int .i64 n) (.int .i64 n) (.slice (some ⟨w.heap.size + 1, 0, none⟩) m m)
    rwa [World.size_alloc, World.size_alloc] at this)
  have HD0 : Hid (Dat (((w.alloc (.cells #[.int .i64 0, .int .i64 0, .slice none 0 0] 27)).alloc (.cells M 5)).alloc (.cells #[.int .i64 n, .int .i64 n, .slice (some ⟨w.heap.size + 1, 0, none⟩) m m] 27)) (w.heap.size + 1) m (List.replicate m 0)) := Lib.hid (by
    have := (HM.out (w.alloc (.cells #[.int .i64 0, .int .i64 0, .slice none 0 0] 27)) (w.heap.size + 1) (by simp)).dat (by_zero m)
    rw [List.length_replicate] at this
    exact this.keep (Below.heap_alloc _ _ _ this.lt))
  have HB0 : Hid (Below w.heap.size w (((w.alloc (.cells #[.int .i64 0, .int .i64 0, .slice none 0 0] 27)).alloc (.cells M 5)).alloc (.cells #[.int .i64 n, .int .i64 n, .slice (some ⟨w.heap.size + 1, 0, none⟩) m m] 27))) := Lib.hid (by go_grown)
  generalize (((w.alloc (.cells #[.int .i64 0, .int .i64 0, .slice none 0 0] 27)).alloc (.cells M 5)).alloc (.cells #[.int .i64 n, .int .i64 n, .slice (some ⟨w.heap.size + 1, 0, none⟩) m m] 27)) = w0 at *
  clear HM hmk
  generalize hg : w.heap.size + 1 = g at *
  have HO1 : Hid (g = w.heap.size + 1) := Lib.hid hg.symm
  clear hg
  have HGR0 := Lib.hid (grown_refl w0 (some g))
  go_loopw [4] (fun i wr => ∃ (j : Nat) (lc : List Int), j ≤ n ∧ i = .int .i64 (j : Nat) ∧ Hid (Dat wr g m lc) ∧ Hid (∀ i k, i < n → k < n → co lc (i * n + k) = if i = k ∧ i < j then 1 else 0) ∧ Hid (w0.grownBy wr (some g))) (fun i _ => n - (intOf i).toNat)
  case atStart => exact ⟨0, _, by omega, rfl, HD0, Lib.hid (fun i k _ _ => by rw [co_zero, if_neg (by omega)]), HGR0⟩
  case round =>
    obtain ⟨j, lc, hj, rfl, HDj, HCj, HGj⟩ := hrel
    obtain ⟨wo, ho⟩ : ∃ wo, wo = wr := ⟨_, rfl⟩
    subst ho
    obtain ⟨k0, k1, k2, kf⟩ := (HX3.out.grown HGj.out (fun e => by have := HO1.out; cases e)).cells
    by_cases hlt : j < n
    · have hs := HSP.out j hlt
      have c0 := HDj.out.cell (j * n + j) hs
      have f0 := HDj.out.frozen (j * n + j)
      obtain ⟨q, hq⟩ : ∃ q, j * n = q := ⟨_, rfl⟩
      have hqi : (j : Int) * n = q := by rw [← hq]; omega
      have HQ := Lib.hid hq
      rw [hq] at hs c0 f0
      clear hq
      go_wp2
      go_roundw
      case rel =>
        refine ⟨j + 1, lc.set (q + j) 1, by omega, by go_num, Lib.hid (HDj.out.set (q + j) 1 (by omega)), Lib.hid (fun i k hi hk => ?_), Lib.hid (grown_trans HGj.out (grown_set _ _ _ _))⟩
        have e := co_set lc (q + j) 1 (i * n + k) (by rw [HDj.out.size]; exact hs)
        refine e.trans ?_
        rw [← HQ.out]
        by_cases g1 : i = j ∧ k = j
        · rw [g1.1, g1.2, if_pos rfl, if_pos (by omega)]
        · rw [if_neg (spot_ne hk hlt g1), HCj.out i k hi hk]
          by_cases g2 : i = k ∧ i < j
          · rw [if_pos g2, if_pos (by omega)]
          · rw [if_neg g2, if_neg (by omega)]
      case measure => simp [intOf]; omega
    · obtain rfl : j = n := by omega
      have HXr := Lib.hid (HX2.out.grown HGj.out (fun e => by have := HO1.out; cases e; omega))
      obtain ⟨r0, r1, r2, rf⟩ := HXr.out.cells
      go_wp2
      clear k0 k1 k2 kf r0 r1 r2 rf
      obtain ⟨z0, z1, z2, _⟩ := (HXr.out.write (x' := .int .i64 j) (y' := .int .i64 j) (z' := .slice (some ⟨g, 0, none⟩) m m)).cells
      refine bodyPost_ret (v := .agg #[.int .i64 j, .int .i64 j, .slice (some ⟨g, 0, none⟩) m m]) (by simp [results, Try.results22, go_sem, z0, z1, z2]) rfl ?_
      clear z0 z1 z2
      refine ⟨some ⟨g, 0, none⟩, m, lc, rfl, (dat_set3 HDj.out (by have := HO1.out; omega)).sl (by omega), fun i k hi hk => ?_, below_set3 (HB0.out.trans (below_grows HGj.out (by have := HO1.out; omega) HB0.out.size)) (Nat.le_refl _)⟩
      rw [HCj.out i k hi hk]
      by_cases e : i = k
      · rw [if_pos ⟨e, hi⟩, if_pos e]
      · rw [if_neg (fun h => e h.1), if_neg e]
end Go.Proofs.Ytipaolkgafhliaa
