/-
  Own text: the document's bucket (Tick, Right), without its code's (out of XPcA, XPcD).
-/
import Derived.Test.YtldhlknmabpanaaGreatK14
import Derived.Test.YtldhlknmabpanaaGreatK15
import Derived.BigRegion
namespace Go.Proofs.YtldhlknmabpanaaGreat
open Go.RowKit

def Bk.zero : Bk := ⟨0, 0, 0, 0, 0⟩
theorem Bk.tick_none {k : Bk} {i : Nat} (h : k.fit i) (t : Int) (ht : t ≤ 0) : k.tick t = k := by
  have h1 := h.h2
  have h2 := h.f1
  have h3 := h.f2
  have hc : k.come t = 0 := by
    unfold Bk.come
    have : (if t < 0 then (0 : Int) else t) = 0 := by split <;> omega
    rw [this, Int.mul_zero]
    decide
  have hk : k.kept t = 0 := by
    unfold Bk.kept
    rw [hc]
    split <;> omega
  unfold Bk.tick
  rw [hc, hk, Int.add_zero, Int.sub_zero, Int.add_zero, held_eq (by omega) h3]
theorem set5_below {B c : Nat} {a w : World} (h : Below B a w) (hc : B ≤ c) (v0 v1 v2 v3 v4 : Value) : Below B a (((((w.setCell ⟨c, 0, none⟩ v0).setCell ⟨c, 1, none⟩ v1).setCell ⟨c, 2, none⟩ v2).setCell ⟨c, 3, none⟩ v3).setCell ⟨c, 4, none⟩ v4) :=
  ((((h.setCell (p := ⟨c, 0, none⟩) hc _).setCell (p := ⟨c, 1, none⟩) hc _).setCell (p := ⟨c, 2, none⟩) hc _).setCell (p := ⟨c, 3, none⟩) hc _).setCell (p := ⟨c, 4, none⟩) hc _
open Pa in
set_option maxRecDepth 100000 in
set_option maxHeartbeats 1000000 in
theorem rtick12_any (t : Int) (ht : -9223372036854775808 ≤ t) (ht' : t ≤ 9223372036854775807) (i : Nat) (k : Bk) (hf : k.fit i) (w : World) :
    Calls Tryz.prog 63 #[KV k, .int .i64 t] w fun e w' => e = .returned (KV (k.tick t)) ∧ Below w.heap.size w w' := by
  obtain ⟨W, hW⟩ : ∃ W, W = (w.alloc (.cells #[.int .i64 k.ra, .int .i64 k.bu, .int .i64 k.he, .int .i64 k.sp, .int .i64 k.fu] 37)).alloc (.cells #[.int .i64 0, .int .i64 0, .int .i64 0, .int .i64 0, .int .i64 0] 37) := ⟨_, rfl⟩
  have hs : W.heap.size = w.heap.size + 2 := by rw [hW]; simp
  have hb : Below w.heap.size w W := by rw [hW]; exact ((Below.refl w.heap.size w).alloc (Nat.le_refl _) _).alloc (by simp) _
  have hx : KBlk 37 W w.heap.size k := by rw [hW]; exact (KBlk.new w k _).keep (Below.heap_alloc _ _ _ (by simp))
  have hr : KBlk 37 W (w.heap.size + 1) Bk.zero := by
    rw [hW]
    have := KBlk.new (w.alloc (.cells #[.int .i64 k.ra, .int .i64 k.bu, .int .i64 k.he, .int .i64 k.sp, .int .i64 k.fu] 37)) Bk.zero 37
    simpa [Bk.zero] using this
  have HB := Lib.hid hb
  have HX := Lib.hid hx
  have HR := Lib.hid hr
  have HS := Lib.hid hs
  unfold KV
  by_cases hn : t ≤ 0
  · rw [k.tick_none hf t hn]
    obtain ⟨c0, c1, c2, c3, c4⟩ := hx.cells
    obtain ⟨z0, z1, z2, z3, z4⟩ := hr.cells
    have f0 := hr.frozen 0
    have f1 := hr.frozen 1
    have f2 := hr.frozen 2
    have f3 := hr.frozen 3
    have f4 := hr.frozen 4
    unfold Bk.zero at z0 z1 z2 z3 z4
    dsimp only at z0 z1 z2 z3 z4
    clear hf hb hx hr ht ht' hs
    generalize k.he = he at *
    generalize k.ra = ra at *
    generalize k.bu = bu at *
    generalize k.sp = sp at *
    generalize k.fu = fu at *
    go_enter Tryz.func63, Tryz.ntmps63
    go_upto_region 1 with fail
    rw [← hW]
    clear hW
    go_wp2
    refine bodyPost_ret (v := .agg #[.int .i64 ra, .int .i64 bu, .int .i64 he, .int .i64 sp, .int .i64 fu]) (by simp [results, Tryz.results63, go_sem, z0, z1, z2, z3, z4]) rfl ?_
    exact ⟨rfl, set5_below HB.out (by omega) _ _ _ _ _⟩
  · have hcl := k.come_lo hf t
    have hkl := k.kept_lo hf t
    have h1 := hf.h1
    have h2 := hf.h2
    have r1 := hf.r1
    have r2 := hf.r2
    have b2 := hf.b2
    have f1 := hf.f1
    have f2 := hf.f2
    have CM : Hid (∀ w', Calls Tryz.prog 92 #[.int .i64 k.ra, .int .i64 t] w' fun e w1 => e = .returned (.int .i64 (k.come t)) ∧ Below w'.heap.size w' w1) := Lib.hid (fun w' => by
      have := rmul_any k.ra t w' (by omega) (by omega) ht ht'
      unfold Bk.come
      rw [if_neg (by omega)]
      exact this)
    have hk : k.kept t = if k.bu - k.he < k.come t then k.bu - k.he else k.come t := rfl
    have CA : Hid (∀ w', Calls Tryz.prog 93 #[.int .i64 k.fu, .int .i64 (k.come t - k.kept t)] w' fun e w1 => e = .returned (.int .i64 (held (k.fu + (k.come t - k.kept t)))) ∧ Below w'.heap.size w' w1) := Lib.hid (fun w' => radd_any _ _ w' (by omega) (by omega) (by omega) (by omega))
    have HT : k.tick t = ⟨k.ra, k.bu, k.he + k.kept t, k.sp, held (k.fu + (k.come t - k.kept t))⟩ := rfl
    rw [HT]
    dsimp only
    have e1 : IntKind.i64.wrap (k.bu - k.he) = k.bu - k.he := by rw [IntKind.wrap_i64]; omega
    have e2 : IntKind.i64.wrap (k.he + k.kept t) = k.he + k.kept t := by rw [IntKind.wrap_i64]; omega
    have e3 : IntKind.i64.wrap (k.come t - k.kept t) = k.come t - k.kept t := by rw [IntKind.wrap_i64]; omega
    obtain ⟨c0, c1, c2, c3, c4⟩ := hx.cells
    have HK : Hid (k = ⟨k.ra, k.bu, k.he, k.sp, k.fu⟩) := Lib.hid rfl
    clear HT f1 f2 r1 r2 hf hb hx hr ht ht' hs
    generalize hfu : held (k.fu + (k.come t - k.kept t)) = fu' at *
    clear hfu
    generalize k.kept t = m at *
    generalize k.come t = co at *
    generalize k.ra = ra at *
    generalize k.he = he at *
    generalize k.bu = bu at *
    generalize k.sp = sp at *
    generalize k.fu = fu at *
    by_cases hm : bu - he < co
    all_goals
      first | rw [if_pos hm] at hk | rw [if_neg hm] at hk
      obtain ⟨mm, hmm⟩ : ∃ mm, mm = he + m := ⟨_, rfl⟩
      rw [← hmm]
      subst hk
      have HMM := Lib.hid hmm
      clear hmm
      (try simp only [Int.sub_self] at CA e3)
      go_enter Tryz.func63, Tryz.ntmps63
      go_upto_region 1 with fail
      rw [← hW]
      clear hW
      go_upto_region 4 with (first
        | (go_at_call 92; (with_reducible refine (CM.out _).mono ?_); rintro e w1 ⟨rfl, hb1⟩; have HB1 := Lib.hid hb1; clear hb1)
        | fail)
      have hx1 := HX.out.below HB1.out HX.out.lt
      have HR1 := Lib.hid (HR.out.below HB1.out HR.out.lt)
      have HBB1 : Hid (Below w.heap.size w w1) := Lib.hid (HB.out.trans (HB1.out.mono HB.out.size))
      rw [HK.out] at hx1
      obtain ⟨d0, d1, d2, d3, d4⟩ := hx1.cells
      have g2 := hx1.frozen 2
      have HX1 := Lib.hid hx1
      clear hx1 c0 c1 c2 c3 c4
      go_upto_region 6 with fail
      rw [← HMM.out]
      have HX2 := Lib.hid (HX1.out.set2 mm)
      have HR2 := Lib.hid (HR1.out.other (p := ⟨w.heap.size, 2, none⟩) (show w.heap.size + 1 ≠ w.heap.size by omega) (.int .i64 mm))
      have HBB2 := Lib.hid (HBB1.out.setCell (p := ⟨w.heap.size, 2, none⟩) (Nat.le_refl _) (.int .i64 mm))
      dsimp only at HX2
      generalize w1.setCell ⟨w.heap.size, 2, none⟩ (.int .i64 mm) = w2 at *
      clear d0 d1 d2 d3 d4 g2 HX1 HR1 HB1
      obtain ⟨d0, d1, d2, d3, d4⟩ := HX2.out.cells
      dsimp only at d0 d1 d2 d3 d4
      go_upto_region 7 with (first
        | (go_at_call 93; (with_reducible refine (CA.out _).mono ?_); rintro e w3 ⟨rfl, hb3⟩; have HB3 := Lib.hid hb3; obtain ⟨q0, q1, q2, q3, q4⟩ := (HX2.out.below HB3.out HX2.out.lt).cells; have q5 := (HX2.out.below HB3.out HX2.out.lt).frozen 4; dsimp only at q0 q1 q2 q3 q4; clear hb3)
        | fail)
      have HX4 := Lib.hid ((HX2.out.below HB3.out HX2.out.lt).set4 fu')
      have HR4 := Lib.hid ((HR2.out.below HB3.out HR2.out.lt).other (p := ⟨w.heap.size, 4, none⟩) (show w.heap.size + 1 ≠ w.heap.size by omega) (.int .i64 fu'))
      have HBB4 := Lib.hid ((HBB2.out.trans (HB3.out.mono HBB2.out.size)).setCell (p := ⟨w.heap.size, 4, none⟩) (Nat.le_refl _) (.int .i64 fu'))
      dsimp only at HX4
      generalize w3.setCell ⟨w.heap.size, 4, none⟩ (.int .i64 fu') = w4 at *
      clear d0 d1 d2 d3 d4 HX2 HR2 HBB2 HB3 q0 q1 q2 q3 q4 q5
      obtain ⟨d0, d1, d2, d3, d4⟩ := HX4.out.cells
      obtain ⟨z0, z1, z2, z3, z4⟩ := HR4.out.cells
      have g0 := HR4.out.frozen 0
      have g1 := HR4.out.frozen 1
      have g2 := HR4.out.frozen 2
      have g3 := HR4.out.frozen 3
      have g4 := HR4.out.frozen 4
      unfold Bk.zero at z0 z1 z2 z3 z4
      dsimp only at d0 d1 d2 d3 d4 z0 z1 z2 z3 z4
      go_wp2
      refine bodyPost_ret (v := .agg #[.int .i64 ra, .int .i64 bu, .int .i64 mm, .int .i64 sp, .int .i64 fu']) (by simp [results, Tryz.results63, go_sem, z0, z1, z2, z3, z4]) rfl ?_
      exact ⟨rfl, set5_below HBB4.out (by omega) _ _ _ _ _⟩
theorem right_any (r b : Int) (w : World) :
    Calls Tryz.prog 26 #[.int .i64 r, .int .i64 b] w fun e w' => e = .returned (.bool (okB r b)) ∧ w = w' := by
  go_enter Tryz.func26, Tryz.ntmps26
  go_wp2
  all_goals go_ret
  all_goals exact ⟨ret_bool (by unfold okB; simp [*] <;> omega), rfl⟩
end Go.Proofs.YtldhlknmabpanaaGreat
