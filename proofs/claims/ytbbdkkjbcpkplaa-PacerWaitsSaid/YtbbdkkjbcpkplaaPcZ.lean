/-
  Own text: law PacerWaits, walked.
-/
import Derived.Test.YtbbdkkjbcpkplaaPcY
namespace Go.Proofs.Ytbbdkkjbcpkplaa
open Go.RowKit

/-- Two numbers' box. -/
theorem two_new (w : World) (x y : Int) {W : World} (hW : W = w.alloc (.cells #[.int .i64 x, .int .i64 y] 30)) :
    W.heap.size = w.heap.size + 1 ∧ Below w.heap.size w W ∧ ∀ w', Below W.heap.size W w' → w'.cell? ⟨w.heap.size, 0, none⟩ = some (.int .i64 x) ∧ w'.cell? ⟨w.heap.size, 1, none⟩ = some (.int .i64 y) := by
  have hs : W.heap.size = w.heap.size + 1 := by rw [hW]; simp
  have hB : W.heap[w.heap.size]? = some (.cells #[.int .i64 x, .int .i64 y] 30 (0, 0)) := by rw [hW]; exact Go.Deep.blk_alloc_new w _
  refine ⟨hs, by rw [hW]; exact (Below.refl _ _).alloc (Nat.le_refl _) _, fun w' hb => ?_⟩
  have := (hb.block w.heap.size (by omega)).trans hB
  constructor <;> (simp only [World.cell?, this]; rfl)
set_option maxRecDepth 100000 in
theorem waits12_no (r bb : Int) (hok : okB r bb = false) (a : Option Addr) (n c : Nat) (m : Int) (w : World) :
    Calls Try.prog 4 #[.agg #[.int .i64 r, .int .i64 bb], .slice a n c, .int .i64 m] w (Yes12 w) := by
  have CP := Lib.hid (played12_no r bb hok a n c)
  clear hok
  unfold KV Bk.zero at CP
  dsimp only at CP
  obtain ⟨W, hW⟩ : ∃ W, W = w.alloc (.cells #[.int .i64 r, .int .i64 bb] 30) := ⟨_, rfl⟩
  obtain ⟨hs, hb, hc⟩ := two_new w r bb hW
  have HB := Lib.hid hb
  have HC := Lib.hid hc
  clear hs hb hc
  go_enter Try.func4, Try.ntmps4
  go_upto_region 1 with fail
  rw [← hW]
  clear hW
  go_wp2_with (first
    | (go_at_call 7; (refine (awake12_any _).mono ?_); rintro e w1 ⟨rfl, hb1⟩; have HB1 := Lib.hid hb1; obtain ⟨x0, x1⟩ := HC.out _ hb1; clear hb1)
    | (go_at_call 8; (with_reducible refine (CP.out _).mono ?_); rintro e w2 ⟨rfl, hb⟩; have HB2 := Lib.hid (HB.out.trans ((HB1.out.trans (hb.mono HB1.out.size)).mono HB.out.size)); clear hb)
    | fail)
  go_ret
  exact ⟨rfl, HB2.out.alloc HB2.out.size _⟩
set_option maxRecDepth 100000 in
set_option maxHeartbeats 1000000 in
theorem waits12_yes (r bb : Int) (hok : okB r bb = true) (a : Option Addr) (n c : Nat) (K N V : Nat → Int) (m : Int) (w : World) (ho : Ops w a n K N V) :
    Calls Try.prog 4 #[.agg #[.int .i64 r, .int .i64 bb], .slice a n c, .int .i64 m] w (Yes12 w) := by
  obtain ⟨W, hW⟩ : ∃ W, W = w.alloc (.cells #[.int .i64 r, .int .i64 bb] 30) := ⟨_, rfl⟩
  obtain ⟨hs, hb, hc⟩ := two_new w r bb hW
  have CP := Lib.hid (fun w1 (hb1 : Below W.heap.size W w1) => played12_yes r bb hok a n c K N V w1 (ho.below (hb.trans (hb1.mono hb.size)) (Nat.le_refl _)))
  have HB := Lib.hid hb
  have HC := Lib.hid hc
  clear hs hb hc hok ho
  unfold KV at CP
  go_enter Try.func4, Try.ntmps4
  go_upto_region 1 with fail
  rw [← hW]
  clear hW
  go_upto_region 6 with (first
    | (go_at_call 7; (refine (awake12_any _).mono ?_); rintro e w1 ⟨rfl, hb1⟩; have HB1 := Lib.hid hb1; obtain ⟨x0, x1⟩ := HC.out _ hb1; clear hb1)
    | (go_at_call 8; (with_reducible refine (CP.out _ HB1.out).mono ?_); rintro e w2 ⟨b, k, rfl, HF, HN⟩)
    | fail)
  obtain ⟨hk, hbb, hb2⟩ := HN.out
  obtain ⟨W3, hW3⟩ : ∃ W3, W3 = w2.alloc (.cells #[.int .i64 k.ra, .int .i64 k.bu, .int .i64 k.he, .int .i64 k.sp, .int .i64 k.fu] 26) := ⟨_, rfl⟩
  rw [← hW3]
  have hb3 : Below w2.heap.size w2 W3 := by rw [hW3]; exact (Below.refl _ _).alloc (Nat.le_refl _) _
  have hx3 : KBlk 26 W3 w2.heap.size k := by rw [hW3]; exact KBlk.new w2 k _
  have hk3 := hk.below hb3 hk.lt
  have HBW : Hid (Below w.heap.size w W3) := Lib.hid (HB.out.trans ((HB1.out.trans ((hb2.trans (hb3.mono hb2.size)).mono HB1.out.size)).mono HB.out.size))
  have HBB : Hid (w.heap.size ≤ b) := Lib.hid (by have := HB.out.size; have := HB1.out.size; omega)
  have HX3 := Lib.hid hx3
  have HK3 := Lib.hid hk3
  have HWT := Lib.hid (wait_any m b 100 k HF.out W3 hk3)
  clear hW3 hb3 hx3 hk3 hk hbb hb2 HN x0 x1 CP HC HB HB1
  have cxs := HX3.out.cells
  obtain ⟨d0, d1, d2, d3, d4⟩ := cxs
  have hwl := HF.out
  by_cases h0 : m < 0
  · have hw := HWT.out
    rw [if_neg (by omega)] at hw
    have HWA := Lib.hid hw
    clear hw HWT hwl
    go_wp2_with (first
      | (go_at_call 9; (with_reducible refine (HWA.out).mono ?_); rintro e w4 ⟨rfl, q, hq⟩; have HQ := Lib.hid hq; clear hq)
      | fail)
    go_ret
    exact ⟨rfl, by rw [HQ.out]; exact below_drewN HBW.out q⟩
  · by_cases h1 : k.bu < m
    · have hw := HWT.out
      rw [if_neg (by omega)] at hw
      have HWA := Lib.hid hw
      have HDB : Hid (∀ q, (W3.drewN q).cell? ⟨w2.heap.size, 1, none⟩ = some (.int .i64 k.bu)) := Lib.hid (fun q => (HX3.out.drewN q).cells.2.1)
      clear hw HWT hwl
      go_wp2_with (first
        | (go_at_call 9; (with_reducible refine (HWA.out).mono ?_); rintro e w4 ⟨rfl, q, hq⟩; have e1 := HDB.out q; rw [← hq] at e1; have HQ := Lib.hid hq; clear hq)
        | fail)
      go_ret
      exact ⟨rfl, by rw [HQ.out]; exact below_drewN HBW.out q⟩
    · have hw := HWT.out
      rw [if_pos (by omega)] at hw
      have HWA := Lib.hid hw
      obtain ⟨t0, t1⟩ := k.wait_lo hwl m (by omega) (by omega)
      have hmay := k.wait_may hwl m (by omega) (by omega)
      have hnot := k.wait_not hwl m (by omega) (by omega)
      have HDB : Hid (∀ q, (W3.drewN q).cell? ⟨w2.heap.size, 1, none⟩ = some (.int .i64 k.bu)) := Lib.hid (fun q => (HX3.out.drewN q).cells.2.1)
      clear hw HWT hwl
      generalize hT : k.wait m = T at *
      clear hT
      have n1 : ¬ T < 0 := by omega
      have n2 : ¬ 1073741824 < T := by omega
      have HTK : Hid (∀ w', KBlk 33 w' b k → Calls Try.prog 10 #[.pointer (some ⟨b, 0, none⟩), .int .i64 T] w' fun e w1 => e = .returned (.tuple #[]) ∧ Hid (KBlk 33 w1 b (k.tick T)) ∧ Hid (Frm b w' w1)) := Lib.hid (fun w' h => tick12_any T (by omega) (by omega) b 100 k HF.out w' h)
      have HMY : Hid (∀ w', KBlk 33 w' b (k.tick T) → Calls Try.prog 11 #[.pointer (some ⟨b, 0, none⟩), .int .i64 m] w' fun e w1 => e = .returned (.bool true) ∧ w' = w1) := Lib.hid (fun w' h => by
        have := may_any m b (k.tick T) w' h
        rw [hmay] at this
        exact this)
      by_cases hz : 0 < T
      · have hnot := hnot hz
        have wr1 : IntKind.i64.wrap (T - 1) = T - 1 := by rw [IntKind.wrap_i64]; omega
        have HTC : Hid (∀ g w', KBlk 33 w' g k → Calls Try.prog 10 #[.pointer (some ⟨g, 0, none⟩), .int .i64 (T - 1)] w' fun e w1 => e = .returned (.tuple #[]) ∧ Hid (KBlk 33 w1 g (k.tick (T - 1))) ∧ Hid (Frm g w' w1)) := Lib.hid (fun g w' h => tick12_any (T - 1) (by omega) (by omega) g 100 k HF.out w' h)
        have HMC : Hid (∀ g w', KBlk 33 w' g (k.tick (T - 1)) → Calls Try.prog 11 #[.pointer (some ⟨g, 0, none⟩), .int .i64 m] w' fun e w1 => e = .returned (.bool false) ∧ w' = w1) := Lib.hid (fun g w' h => by
          have := may_any m g (k.tick (T - 1)) w' h
          rw [hnot] at this
          exact this)
        clear hnot hmay t0 t1
        go_upto_region 12 with (first
          | (go_at_call 9; (with_reducible refine (HWA.out).mono ?_); rintro e w4 ⟨rfl, q, hq⟩; have e1 := HDB.out q; rw [← hq] at e1; have HQ := Lib.hid hq; clear hq)
          | fail)
        have HK4 : Hid (KBlk 33 w4 b k) := Lib.hid (by rw [HQ.out]; exact HK3.out.drewN q)
        have HB4 : Hid (Below w.heap.size w w4) := Lib.hid (by rw [HQ.out]; exact below_drewN HBW.out q)
        obtain ⟨v0, v1, v2, v3, v4⟩ := HK4.out.cells
        obtain ⟨W5, hW5⟩ : ∃ W5, W5 = w4.alloc (.cells #[.int .i64 k.ra, .int .i64 k.bu, .int .i64 k.he, .int .i64 k.sp, .int .i64 k.fu] 33) := ⟨_, rfl⟩
        have hb5 : Below w4.heap.size w4 W5 := by rw [hW5]; exact (Below.refl _ _).alloc (Nat.le_refl _) _
        have HS5 : Hid (w4.heap.size + 1 = W5.heap.size) := Lib.hid (by rw [hW5]; simp)
        have HC5 : Hid (KBlk 33 W5 w4.heap.size k) := Lib.hid (by rw [hW5]; exact KBlk.new w4 k _)
        have HK5 := Lib.hid (HK4.out.below hb5 HK4.out.lt)
        have HB5 := Lib.hid (HB4.out.trans (hb5.mono HB4.out.size))
        clear hb5 d0 d1 d2 d3 d4 e1 HDB HWA HQ
        go_upto_region 13 with fail
        rw [← hW5]
        clear hW5 v0 v1 v2 v3 v4
        have HFB : Hid (∀ w6, Frm w4.heap.size W5 w6 → KBlk 33 w6 b k ∧ Below w.heap.size w w6) := Lib.hid (fun w6 hf => ⟨HK5.out.keep (hf.block b HK5.out.lt (by have := HK4.out.lt; omega)), hf.bel HB5.out HB5.out.size HB4.out.size⟩)
        generalize w4.heap.size = g4 at *
        go_wp2_with (first
          | (go_at_call 10; (with_reducible refine (HTC.out _ _ HC5.out).mono ?_); rintro e w6 ⟨rfl, HC6, HF6⟩; have HK6 := Lib.hid (HFB.out w6 HF6.out))
          | (go_at_call 11; (with_reducible refine (HMC.out _ _ HC6.out).mono ?_); rintro e w7 ⟨rfl, rfl⟩)
          | (go_at_call 10; (with_reducible refine (HTK.out _ HK6.out.1).mono ?_); rintro e w8 ⟨rfl, HK8, HF8⟩)
          | (go_at_call 11; (with_reducible refine (HMY.out _ HK8.out).mono ?_); rintro e w9 ⟨rfl, rfl⟩)
          | fail)
        go_ret
        exact ⟨rfl, HF8.out.bel HK6.out.2 HK6.out.2.size HBB.out⟩
      · clear hnot hmay t0 t1
        go_wp2_with (first
          | (go_at_call 9; (with_reducible refine (HWA.out).mono ?_); rintro e w4 ⟨rfl, q, hq⟩; have e1 := HDB.out q; rw [← hq] at e1; have HK4 : Hid (KBlk 33 w4 b k) := Lib.hid (by rw [hq]; exact HK3.out.drewN q); have HB4 : Hid (Below w.heap.size w w4) := Lib.hid (by rw [hq]; exact below_drewN HBW.out q); clear hq)
          | (go_at_call 10; (with_reducible refine (HTK.out _ HK4.out).mono ?_); rintro e w8 ⟨rfl, HK8, HF8⟩)
          | (go_at_call 11; (with_reducible refine (HMY.out _ HK8.out).mono ?_); rintro e w9 ⟨rfl, rfl⟩)
          | fail)
        go_ret
        exact ⟨rfl, HF8.out.bel HB4.out HB4.out.size HBB.out⟩
theorem waits12_walk (r bb : Int) (a : Option Addr) (n c : Nat) (m : Int) (w : World) (hp : True → ∃ K N V, Ops w a n K N V) :
    Calls Try.prog 4 #[.agg #[.int .i64 r, .int .i64 bb], .slice a n c, .int .i64 m] w (Yes12 w) := by
  obtain ⟨K, N, V, ho⟩ := hp trivial
  cases hok : okB r bb
  · exact waits12_no r bb hok a n c m w
  · exact waits12_yes r bb hok a n c K N V m w ho
end Go.Proofs.Ytbbdkkjbcpkplaa
