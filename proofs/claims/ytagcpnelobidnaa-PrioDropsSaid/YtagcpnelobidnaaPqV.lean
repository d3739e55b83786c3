/-
  Own text: the law's calls at both, walked: each kind. (Written by gen_pqv.py.)
-/
import Derived.Test.YtagcpnelobidnaaPqU
import Derived.BigGuard
namespace Go.Proofs.Ytagcpnelobidnaa
open Go.RowKit

/-- What lies between is not where the items went. -/
theorem far_moved {w : World} {s s' : Option Nat} {lo hi : Nat} (h : Moved w s s') (hs : ∀ g, s = some g → g < lo) (hl : lo ≤ hi) : ∀ g, g < w.heap.size → hi ≤ g → some g ≠ s' := by
  intro g h1 h2 e
  rcases h with e2 | e2
  · have := hs g (by rw [← e2, ← e]); omega
  · have := e2 g e.symm; omega
theorem ptr_nil (b : Nat) (w : World) : (binOp .eql 24 (.pointer (some ⟨b, 0, none⟩)) (.pointer none)).run Try.prog w = .ok (.bool false) w := by kernel_rfl
set_option maxRecDepth 100000 in
set_option maxHeartbeats 1000000 in
theorem do_push (R V : Int) (B b k : Nat) (Q : Qn) (A : Option Addr) (C : Nat) (D : Option Addr) (n C2 : Nat) (hf : Q.fit k) (hk : k ≤ 100000) (w : World) (h : Two w B b Q A C D n C2 (Q.l.map It.di)) :
    Calls Try.prog 17 #[.pointer (some ⟨b, 0, none⟩), DV Q.room D n C2, .agg #[.int .i64 0, .int .i64 R, .int .i64 V]] w (DoTo w B (k + 1) Q.room) := by
  obtain ⟨W, hW⟩ : ∃ W, W = ((w.alloc (.cells #[.int .i64 (Q.room : Int), .slice D n C2] 27)).alloc (.cells #[.int .i64 0, .int .i64 R, .int .i64 V] 53)).alloc (.cells #[.int .i64 0, .slice none 0 0] 27) := ⟨_, rfl⟩
  obtain ⟨hx, hb, hs⟩ := Bxs.start w Q.room (.slice D n C2) 0 R V W hW
  have h1 := h.below hb
  have hn : n ≤ 256 := by have := h.dl.len; rw [List.length_map] at this; have := hf.len; have := hf.hi; omega
  have hnl : n = Q.l.length := by have := h.dl.len; rw [List.length_map] at this; exact this.symm
  have hroom : Q.room ≤ 1000 := by have := hf.hi; omega
  obtain ⟨o0, o1, o2⟩ := hx.op.cells
  obtain ⟨d0, d1⟩ := hx.box.cells
  have HB0 : Hid (B ≤ w.heap.size) := Lib.hid h.hw
  have HBW : Hid (Below B w W) := Lib.hid (hb.mono h.hw)
  have HKW : Hid (Keep w W) := Lib.hid (Keep.of_below hb)
  have HX := Lib.hid hx
  have H1 := Lib.hid h1
  have HF := Lib.hid hf
  have HK := Lib.hid hk
  have HW := Lib.hid hW
  have HN := Lib.hid hn
  have HNL := Lib.hid hnl
  have HRM := Lib.hid hroom
  obtain ⟨L, hL⟩ : ∃ L, L = dpush Q.room R V (Q.l.map It.di) := ⟨_, rfl⟩
  have CP := Lib.hid (push_any R V b k Q A C hf (by omega) W h1.qb)
  have CR : Hid (∀ w', DL w' B D n C2 (Q.l.map It.di) → Calls Try.prog 26 #[.agg #[.int .i64 (Q.room : Int), .slice D n C2], .int .i64 R, .int .i64 V] w' fun e w2 => ∃ A3 C3, e = .returned (.tuple #[.agg #[.int .i64 (Q.room : Int), .slice A3 L.length C3], .int .i64 (Q.gone R V), .bool (decide (Q.room ≤ Q.l.length))]) ∧ Hid (DL w2 w'.heap.size A3 L.length C3 L) ∧ Hid (Below w'.heap.size w' w2)) := Lib.hid (fun w' hd => by
    have := rpush_any Q.room R V B D n C2 (Q.l.map It.di) (by omega) hroom w' hd
    rw [gone_map, List.length_map, ← hL] at this
    exact this)
  have HL := Lib.hid hL
  clear hL
  unfold DV
  clear hW hx hb hs h1 h hf hk hn hnl hroom
  go_enter Try.func17, Try.ntmps17
  go_upto_region 1 with fail
  rw [← HW.out]
  go_upto_region 6 with (first
    | (go_at_call 13; (with_reducible refine (CP.out).mono ?_); rintro e w1 ⟨rfl, HQ1⟩; obtain ⟨A1, C1, h2, hbl, hfr, _⟩ := H1.out.code HQ1.out; have H2 := Lib.hid h2; have HBL := Lib.hid hbl; have HK1 := Lib.hid (Keep.code hfr H1.out.qb); have HX2 := Lib.hid (HX.out.code hfr H1.out.qb); obtain ⟨e0, e1⟩ := HX2.out.box.cells; obtain ⟨p0, p1, p2⟩ := HX2.out.op.cells; clear h2 hbl hfr)
    | (go_at_call 26; (with_reducible refine (CR.out w1 H2.out.dl).mono ?_); rintro e w2 ⟨A3, C3, rfl, HD3, HB3⟩)
    | fail)
  obtain ⟨W3, hW3⟩ : ∃ W3, W3 = w2.alloc (.cells #[.int .i64 (Q.room : Int), .slice A3 L.length C3] 27) := ⟨_, rfl⟩
  rw [← hW3]
  have hb3 : Below w2.heap.size w2 W3 := by rw [hW3]; exact (Below.refl _ _).alloc (Nat.le_refl _) _
  have h3 := ((H2.out.below HB3.out).list (HD3.out.low H2.out.hw)).below hb3
  have hx3 := (HX2.out.below HB3.out).below hb3
  have hbox : DBx W3 w2.heap.size Q.room (.slice A3 L.length C3) := by rw [hW3]; exact DBx.new w2 _ _
  obtain ⟨x0, x1⟩ := hbox.cells
  obtain ⟨z0, z1⟩ := hx3.res.cells
  have zf0 := hx3.res.frozen 0
  have zf1 := hx3.res.frozen 1
  have HFIN : Hid (Two W3 B b (Q.push R V) A1 C1 A3 L.length C3 ((Q.push R V).l.map It.di)) := Lib.hid (by rw [push_map, ← HL.out]; exact h3)
  have HX3 := Lib.hid hx3
  have HBB : Hid (Below B w W3) := Lib.hid (((HBW.out.trans HBL.out).trans (HB3.out.mono H2.out.hw)).trans (hb3.mono (Nat.le_trans H2.out.hw HB3.out.size)))
  have HKK : Hid (Keep w W3) := Lib.hid (((HKW.out.trans HK1.out).trans (Keep.of_below HB3.out)).trans (Keep.of_below hb3))
  clear hW3 hb3 h3 hx3 hbox e0 e1 p0 p1 p2 o0 o1 o2 d0 d1
  go_region
  all_goals
    go_wp2
    refine bodyPost_ret (v := .tuple #[.pointer (some ⟨b, 0, none⟩), .agg #[.int .i64 (Q.room : Int), .slice A3 L.length C3], .bool true]) (by simp [results, Try.results17, go_sem, z0, z1]) rfl ?_
    exact done_any HFIN.out HX3.out (Qn.push_fit HF.out R V) rfl HBB.out HKK.out HB0.out _ _ _
set_option maxRecDepth 100000 in
set_option maxHeartbeats 1000000 in
theorem do_pop0 (R V : Int) (B b k : Nat) (Q : Qn) (A : Option Addr) (C : Nat) (D : Option Addr) (n C2 : Nat) (hq0 : Q.l = []) (hf : Q.fit k) (hk : k ≤ 100000) (w : World) (h : Two w B b Q A C D n C2 (Q.l.map It.di)) :
    Calls Try.prog 17 #[.pointer (some ⟨b, 0, none⟩), DV Q.room D n C2, .agg #[.int .i64 1, .int .i64 R, .int .i64 V]] w (DoTo w B (k + 1) Q.room) := by
  obtain ⟨W, hW⟩ : ∃ W, W = ((w.alloc (.cells #[.int .i64 (Q.room : Int), .slice D n C2] 27)).alloc (.cells #[.int .i64 1, .int .i64 R, .int .i64 V] 53)).alloc (.cells #[.int .i64 0, .slice none 0 0] 27) := ⟨_, rfl⟩
  obtain ⟨hx, hb, hs⟩ := Bxs.start w Q.room (.slice D n C2) 1 R V W hW
  have h1 := h.below hb
  have hn : n ≤ 256 := by have := h.dl.len; rw [List.length_map] at this; have := hf.len; have := hf.hi; omega
  have hnl : n = Q.l.length := by have := h.dl.len; rw [List.length_map] at this; exact this.symm
  have hroom : Q.room ≤ 1000 := by have := hf.hi; omega
  obtain ⟨o0, o1, o2⟩ := hx.op.cells
  obtain ⟨d0, d1⟩ := hx.box.cells
  have HB0 : Hid (B ≤ w.heap.size) := Lib.hid h.hw
  have HBW : Hid (Below B w W) := Lib.hid (hb.mono h.hw)
  have HKW : Hid (Keep w W) := Lib.hid (Keep.of_below hb)
  have HX := Lib.hid hx
  have H1 := Lib.hid h1
  have HF := Lib.hid hf
  have HK := Lib.hid hk
  have HW := Lib.hid hW
  have HN := Lib.hid hn
  have HNL := Lib.hid hnl
  have HRM := Lib.hid hroom
  have CP := Lib.hid (pop_any b Q A C (by omega) W h1.qb)
  have hfr : Q.front = .tuple #[.int .i64 0, .int .i64 0, .bool false] := by unfold Qn.front; rw [hq0]
  rw [hfr] at CP
  have hpop : Q.pop = Q := by unfold Qn.pop; rw [hq0]; cases Q; simp at hq0; subst hq0; rfl
  rw [hpop] at CP
  obtain rfl : n = 0 := by rw [hnl, hq0]; rfl
  clear hfr hpop hq0
  unfold DV
  clear hW hx hb hs h1 h hf hk hn hnl hroom
  go_enter Try.func17, Try.ntmps17
  go_upto_region 1 with fail
  rw [← HW.out]
  go_upto_region 10 with (first
    | (go_at_call 14; (with_reducible refine (CP.out).mono ?_); rintro e w1 ⟨rfl, HQ1⟩; obtain ⟨A1, C1, h2, hbl, hfr, _⟩ := H1.out.code HQ1.out; have H2 := Lib.hid h2; have HBL := Lib.hid hbl; have HK1 := Lib.hid (Keep.code hfr H1.out.qb); have HX2 := Lib.hid (HX.out.code hfr H1.out.qb); obtain ⟨e0, e1⟩ := HX2.out.box.cells; obtain ⟨z0, z1⟩ := HX2.out.res.cells; have zf0 := HX2.out.res.frozen 0; have zf1 := HX2.out.res.frozen 1; clear h2 hbl hfr)
    | fail)
  have HBB : Hid (Below B w w1) := Lib.hid (HBW.out.trans HBL.out)
  have HKK : Hid (Keep w w1) := Lib.hid (HKW.out.trans HK1.out)
  go_region
  all_goals
    go_wp2
    refine bodyPost_ret (v := .tuple #[.pointer (some ⟨b, 0, none⟩), .agg #[.int .i64 (Q.room : Int), .slice D 0 C2], .bool true]) (by simp [results, Try.results17, go_sem, z0, z1]) rfl ?_
    exact done_any H2.out HX2.out (Qn.fit_more HF.out (Nat.le_succ k)) rfl HBB.out HKK.out HB0.out _ _ _
set_option maxRecDepth 100000 in
set_option maxHeartbeats 1000000 in
theorem do_pop1 (x0 : It) (t0 : List It) (R V : Int) (B b k : Nat) (Q : Qn) (A : Option Addr) (C : Nat) (D : Option Addr) (n C2 : Nat) (hq0 : Q.l = x0 :: t0) (hf : Q.fit k) (hk : k ≤ 100000) (w : World) (h : Two w B b Q A C D n C2 (Q.l.map It.di)) :
    Calls Try.prog 17 #[.pointer (some ⟨b, 0, none⟩), DV Q.room D n C2, .agg #[.int .i64 1, .int .i64 R, .int .i64 V]] w (DoTo w B (k + 1) Q.room) := by
  obtain ⟨W, hW⟩ : ∃ W, W = ((w.alloc (.cells #[.int .i64 (Q.room : Int), .slice D n C2] 27)).alloc (.cells #[.int .i64 1, .int .i64 R, .int .i64 V] 53)).alloc (.cells #[.int .i64 0, .slice none 0 0] 27) := ⟨_, rfl⟩
  obtain ⟨hx, hb, hs⟩ := Bxs.start w Q.room (.slice D n C2) 1 R V W hW
  have h1 := h.below hb
  have hn : n ≤ 256 := by have := h.dl.len; rw [List.length_map] at this; have := hf.len; have := hf.hi; omega
  have hnl : n = Q.l.length := by have := h.dl.len; rw [List.length_map] at this; exact this.symm
  have hroom : Q.room ≤ 1000 := by have := hf.hi; omega
  obtain ⟨o0, o1, o2⟩ := hx.op.cells
  obtain ⟨d0, d1⟩ := hx.box.cells
  have HB0 : Hid (B ≤ w.heap.size) := Lib.hid h.hw
  have HBW : Hid (Below B w W) := Lib.hid (hb.mono h.hw)
  have HKW : Hid (Keep w W) := Lib.hid (Keep.of_below hb)
  have HX := Lib.hid hx
  have H1 := Lib.hid h1
  have HF := Lib.hid hf
  have HK := Lib.hid hk
  have HW := Lib.hid hW
  have HN := Lib.hid hn
  have HNL := Lib.hid hnl
  have HRM := Lib.hid hroom
  have CP := Lib.hid (pop_any b Q A C (by omega) W h1.qb)
  have hfr : Q.front = .tuple #[.int .i64 x0.v, .int .i64 x0.rank, .bool true] := by unfold Qn.front; rw [hq0]
  rw [hfr] at CP
  have HQ0 := Lib.hid hq0
  obtain ⟨m, rfl⟩ : ∃ m, n = m + 1 := ⟨t0.length, by rw [hnl, hq0]; rfl⟩
  obtain ⟨g, off, rfl, _⟩ := h1.dl.at_ 0 x0.di (by rw [hq0]; rfl)
  have HC0 : Hid (∀ w', DL w' B (some ⟨g, off, none⟩) (m + 1) C2 (Q.l.map It.di) → w'.cell? ⟨g, off, none⟩ = some (.int .i64 x0.rank) ∧ w'.cell? ⟨g, off + 1, none⟩ = some (.int .i64 x0.v)) := Lib.hid (fun w' hd => by
    obtain ⟨g', off', e, _, a0, a1⟩ := hd.at_ 0 x0.di (by rw [HQ0.out]; rfl)
    cases e
    exact ⟨a0, a1⟩)
  obtain ⟨D', hD'⟩ : ∃ D' : Option Addr, (if C2 = 1 then some (⟨g, off, none⟩ : Addr) else some ⟨g, off + 2, none⟩) = D' := ⟨_, rfl⟩
  have HREST : Hid (∀ w', DL w' B (some ⟨g, off, none⟩) (m + 1) C2 (Q.l.map It.di) → DL w' B D' m (C2 - 1) (Q.pop.l.map It.di)) := Lib.hid (fun w' hd => by
    have := hd.rest
    rw [hD'] at this
    have e : (Q.l.map It.di).tail = Q.pop.l.map It.di := by unfold Qn.pop; rw [HQ0.out]; rfl
    rwa [e] at this)
  have hc2 : (m : Int) + 1 ≤ (C2 : Int) := by have := h1.dl.cap.1; omega
  have hm0 : (m : Int) ≤ 256 := by omega
  clear hfr hq0
  generalize x0.v = xv at *
  generalize x0.rank = xr at *
  unfold DV
  clear hW hx hb hs h1 h hf hk hn hnl hroom
  go_enter Try.func17, Try.ntmps17
  go_upto_region 1 with fail
  rw [← HW.out]
  go_upto_region 12 with (first
    | (go_at_call 14; (with_reducible refine (CP.out).mono ?_); rintro e w1 ⟨rfl, HQ1⟩; obtain ⟨A1, C1, h2, hbl, hfr, _⟩ := H1.out.code HQ1.out; have H2 := Lib.hid h2; have HBL := Lib.hid hbl; have HK1 := Lib.hid (Keep.code hfr H1.out.qb); have HX2 := Lib.hid (HX.out.code hfr H1.out.qb); obtain ⟨e0, e1⟩ := HX2.out.box.cells; obtain ⟨y0, y1⟩ := HC0.out w1 h2.dl; clear h2 hbl hfr)
    | fail)
  obtain ⟨W3, hW3⟩ : ∃ W3, W3 = w1.alloc (.cells #[.int .i64 xr, .int .i64 xv] 49) := ⟨_, rfl⟩
  rw [← hW3]
  have hb3 : Below w1.heap.size w1 W3 := by rw [hW3]; exact (Below.refl _ _).alloc (Nat.le_refl _) _
  have h3 := H2.out.below hb3
  have hx3 := HX2.out.below hb3
  have hi : W3.cell? ⟨w1.heap.size, 0, none⟩ = some (.int .i64 xr) ∧ W3.cell? ⟨w1.heap.size, 1, none⟩ = some (.int .i64 xv) := by rw [hW3]; exact ditem_new w1 xr xv
  have hne : ¬ w1.heap.size = w.heap.size := by have := HX2.out.box.lt; omega
  have hne2 : ¬ w1.heap.size = w.heap.size + 1 + 1 := by have := HX2.out.res.lt; omega
  obtain ⟨f0, f1⟩ := hx3.box.cells
  have ff := hx3.box.frozen 1
  have H4 : Hid (∀ v, Two (W3.setCell ⟨w.heap.size, 1, none⟩ v) B b Q.pop A1 C1 D' m (C2 - 1) (Q.pop.l.map It.di)) := Lib.hid (fun v => (h3.list (HREST.out W3 h3.dl)).setBox hx3.box v)
  have HX4 : Hid (∀ v, Bxs w Q.room v 1 R V (W3.setCell ⟨w.heap.size, 1, none⟩ v)) := Lib.hid (fun v => hx3.setBox v)
  have HBB : Hid (∀ v, Below B w (W3.setCell ⟨w.heap.size, 1, none⟩ v)) := Lib.hid (fun v => (((HBW.out.trans HBL.out).trans (hb3.mono H2.out.hw)).setCell (p := ⟨w.heap.size, 1, none⟩) HB0.out v))
  have HKK : Hid (∀ v, Keep w (W3.setCell ⟨w.heap.size, 1, none⟩ v)) := Lib.hid (fun v => ((HKW.out.trans HK1.out).trans (Keep.of_below hb3)).setCell (p := ⟨w.heap.size, 1, none⟩) (Nat.le_refl _) v)
  have j0 : ∀ v, (W3.setCell ⟨w.heap.size, 1, none⟩ v).cell? ⟨w1.heap.size, 0, none⟩ = some (.int .i64 xr) := fun v => (World.cell?_of_block (a := ⟨w1.heap.size, 0, none⟩) (Below.heap_setCell W3 ⟨w.heap.size, 1, none⟩ v w1.heap.size hne)).trans hi.1
  have j1 : ∀ v, (W3.setCell ⟨w.heap.size, 1, none⟩ v).cell? ⟨w1.heap.size, 1, none⟩ = some (.int .i64 xv) := fun v => (World.cell?_of_block (a := ⟨w1.heap.size, 1, none⟩) (Below.heap_setCell W3 ⟨w.heap.size, 1, none⟩ v w1.heap.size hne)).trans hi.2
  have J0 := Lib.hid j0
  have J1 := Lib.hid j1
  clear hW3 hb3 h3 hx3 e0 e1 y0 y1 o0 o1 o2 d0 d1 hi j0 j1
  go_upto_region 13 with fail
  obtain ⟨s9, hs9⟩ : ∃ s9, s9 = Value.slice D' m (C2 - 1) := ⟨_, rfl⟩
  rw [← hs9]
  obtain ⟨W4, hW4⟩ : ∃ W4, W4 = W3.setCell ⟨w.heap.size, 1, none⟩ s9 := ⟨_, rfl⟩
  rw [← hW4]
  have h4 := H4.out s9
  have hx4 := HX4.out s9
  have hb4 := HBB.out s9
  have hk4 := HKK.out s9
  have j0 := J0.out s9
  have j1 := J1.out s9
  rw [← hW4] at h4 hx4 hb4 hk4 j0 j1
  obtain ⟨f0, f1⟩ := hx4.box.cells
  obtain ⟨z0, z1⟩ := hx4.res.cells
  have zf0 := hx4.res.frozen 0
  have zf1 := hx4.res.frozen 1
  rw [hs9] at f1
  have H44 := Lib.hid h4
  have HX44 := Lib.hid hx4
  have HBB4 := Lib.hid hb4
  have HKK4 := Lib.hid hk4
  clear hW4 h4 hx4 hb4 hk4 hs9
  go_region
  all_goals
    go_wp2
    refine bodyPost_ret (v := .tuple #[.pointer (some ⟨b, 0, none⟩), .agg #[.int .i64 (Q.room : Int), .slice D' m (C2 - 1)], .bool true]) (by simp [results, Try.results17, go_sem, z0, z1]) rfl ?_
    exact done_any H44.out HX44.out (Qn.fit_more (Qn.pop_fit HF.out) (Nat.le_succ k)) rfl HBB4.out HKK4.out HB0.out _ _ _
set_option maxRecDepth 100000 in
set_option maxHeartbeats 1000000 in
theorem do_filter (d : Int) (R V : Int) (B b k : Nat) (Q : Qn) (A : Option Addr) (C : Nat) (D : Option Addr) (n C2 : Nat) (hd : d = max V 1) (hd1 : 1 ≤ d) (hdm : d ≤ 9223372036854775807) (hf : Q.fit k) (hk : k ≤ 100000) (w : World) (h : Two w B b Q A C D n C2 (Q.l.map It.di)) :
    Calls Try.prog 17 #[.pointer (some ⟨b, 0, none⟩), DV Q.room D n C2, .agg #[.int .i64 2, .int .i64 R, .int .i64 V]] w (DoTo w B (k + 1) Q.room) := by
  obtain ⟨W, hW⟩ : ∃ W, W = ((w.alloc (.cells #[.int .i64 (Q.room : Int), .slice D n C2] 27)).alloc (.cells #[.int .i64 2, .int .i64 R, .int .i64 V] 53)).alloc (.cells #[.int .i64 0, .slice none 0 0] 27) := ⟨_, rfl⟩
  obtain ⟨hx, hb, hs⟩ := Bxs.start w Q.room (.slice D n C2) 2 R V W hW
  have h1 := h.below hb
  have hn : n ≤ 256 := by have := h.dl.len; rw [List.length_map] at this; have := hf.len; have := hf.hi; omega
  have hnl : n = Q.l.length := by have := h.dl.len; rw [List.length_map] at this; exact this.symm
  have hroom : Q.room ≤ 1000 := by have := hf.hi; omega
  obtain ⟨o0, o1, o2⟩ := hx.op.cells
  obtain ⟨d0, d1⟩ := hx.box.cells
  have HB0 : Hid (B ≤ w.heap.size) := Lib.hid h.hw
  have HBW : Hid (Below B w W) := Lib.hid (hb.mono h.hw)
  have HKW : Hid (Keep w W) := Lib.hid (Keep.of_below hb)
  have HX := Lib.hid hx
  have H1 := Lib.hid h1
  have HF := Lib.hid hf
  have HK := Lib.hid hk
  have HW := Lib.hid hW
  have HN := Lib.hid hn
  have HNL := Lib.hid hnl
  have HRM := Lib.hid hroom
  obtain ⟨F, hF⟩ : ∃ F, F = Q.filter d := ⟨_, rfl⟩
  have CF : Hid (∀ c W', QB W' b Q A C → W'.cell? ⟨c, 0, none⟩ = some (.int .i64 d) → c < W'.heap.size → Calls Try.prog 27 #[.pointer (some ⟨b, 0, none⟩), .func (.func 28) #[] #[.pointer (some ⟨c, 0, none⟩)]] W' fun e w' => e = .returned (.int .i64 ((n : Int) - (F.l.length : Int))) ∧ Hid (QTo W' b A F w')) := Lib.hid (fun c W' hq hc hcl => by
    rw [hF, hnl]
    exact filter_any d b c k Q A C hf (by omega) hd1 hdm W' hq hc hcl)
  obtain ⟨L, hL⟩ : ∃ L, L = dkeep d (Q.l.map It.di) := ⟨_, rfl⟩
  have hLF : F.l.length = L.length := by rw [hL, hF, ← filter_map, List.length_map]
  have CR : Hid (∀ w', DL w' B D n C2 (Q.l.map It.di) → Calls Try.prog 29 #[.agg #[.int .i64 (Q.room : Int), .slice D n C2], .int .i64 d] w' fun e w2 => ∃ A3 C3, e = .returned (.tuple #[.agg #[.int .i64 (Q.room : Int), .slice A3 L.length C3], .int .i64 ((n : Int) - (L.length : Int))]) ∧ Hid (DL w2 w'.heap.size A3 L.length C3 L) ∧ Hid (Below w'.heap.size w' w2)) := Lib.hid (fun w' hd => by
    rw [hL]
    exact rfilter_any Q.room d B D n C2 (Q.l.map It.di) (by omega) hd1 w' hd)
  rw [hLF] at CF
  have HL : Hid (F.l.map It.di = L) := Lib.hid (by rw [hF, hL, filter_map])
  have HFF : Hid (F.fit (k + 1) ∧ F.room = Q.room) := Lib.hid ⟨by rw [hF]; exact Qn.fit_more (Qn.filter_fit hf d) (Nat.le_succ k), by rw [hF]; rfl⟩
  generalize L.length = nl at *
  have HD9 := Lib.hid hd
  have HD1 := Lib.hid (And.intro hd1 hdm)
  clear hL hLF hF hd1 hdm
  by_cases hV : V < 1
  all_goals
    have hd2 : d = if V < 1 then 1 else V := by rw [hd]; split <;> omega
    first | rw [if_pos hV] at hd2 | rw [if_neg hV] at hd2
    have HV := Lib.hid hV
    have hV2 : ¬ V < 1 ∨ V < 1 := by omega
    clear hd hV2
    unfold DV
    clear hW hx hb hs h1 h hf hk hn hnl hroom
    go_enter Try.func17, Try.ntmps17
    go_upto_region 1 with fail
    rw [← HW.out]
    go_upto_region 16 with fail
    rw [← hd2]
    clear hd2
    obtain ⟨W1, hW1⟩ : ∃ W1, W1 = W.alloc (.cells #[.int .i64 d] 3) := ⟨_, rfl⟩
    rw [← hW1]
    have hb1 : Below W.heap.size W W1 := by rw [hW1]; exact (Below.refl _ _).alloc (Nat.le_refl _) _
    have hc1 : W1.cell? ⟨W.heap.size, 0, none⟩ = some (.int .i64 d) := by rw [hW1]; exact box_new W _ _
    have hcl : W.heap.size < W1.heap.size := by rw [hW1]; simp
    have hw1 : W1.heap[W.heap.size]? = some (.cells #[.int .i64 d] 3 (0, 0)) := by rw [hW1]; exact Go.Deep.blk_alloc_new W _
    have H11 := Lib.hid (H1.out.below hb1)
    have HX1 := Lib.hid (HX.out.below hb1)
    have CFF := Lib.hid (CF.out W.heap.size W1 H11.out.qb hc1 hcl)
    have HW1 := Lib.hid hw1
    have HBW1 := Lib.hid (HBW.out.trans (hb1.mono H1.out.hw))
    have HKW1 := Lib.hid (HKW.out.trans (Keep.of_below hb1))
    clear hW1 hb1 hcl hw1 o0 o1 o2 d0 d1
    go_upto_region 18 with (first
      | (go_at_call 27; (with_reducible refine (CFF.out).mono ?_); rintro e w1 ⟨rfl, HQ1⟩; obtain ⟨A1, C1, h2, hbl, hfr, _⟩ := H11.out.code HQ1.out; have H2 := Lib.hid h2; have HBL := Lib.hid hbl; have HK1 := Lib.hid (Keep.code hfr H11.out.qb); have HX2 := Lib.hid (HX1.out.code hfr H11.out.qb); obtain ⟨e0, e1⟩ := HX2.out.box.cells; have hc2 := (World.cell?_of_block (a := ⟨W.heap.size, 0, none⟩) (hfr.keeps H11.out.qb HW1.out (by decide) (by decide))).trans hc1; clear h2 hbl hfr)
      | (go_at_call 29; (with_reducible refine (CR.out w1 H2.out.dl).mono ?_); rintro e w2 ⟨A3, C3, rfl, HD3, HB3⟩)
      | fail)
    obtain ⟨W3, hW3⟩ : ∃ W3, W3 = w2.alloc (.cells #[.int .i64 (Q.room : Int), .slice A3 nl C3] 27) := ⟨_, rfl⟩
    rw [← hW3]
    have hb3 : Below w2.heap.size w2 W3 := by rw [hW3]; exact (Below.refl _ _).alloc (Nat.le_refl _) _
    have h3 := ((H2.out.below HB3.out).list (HD3.out.low H2.out.hw)).below hb3
    have hx3 := (HX2.out.below HB3.out).below hb3
    have hbox : DBx W3 w2.heap.size Q.room (.slice A3 nl C3) := by rw [hW3]; exact DBx.new w2 _ _
    obtain ⟨x0, x1⟩ := hbox.cells
    obtain ⟨z0, z1⟩ := hx3.res.cells
    have zf0 := hx3.res.frozen 0
    have zf1 := hx3.res.frozen 1
    have HFIN : Hid (Two W3 B b F A1 C1 A3 nl C3 (F.l.map It.di)) := Lib.hid (by rw [HL.out]; exact h3)
    have HX3 := Lib.hid hx3
    have HBB : Hid (Below B w W3) := Lib.hid (((HBW1.out.trans HBL.out).trans (HB3.out.mono H2.out.hw)).trans (hb3.mono (Nat.le_trans H2.out.hw HB3.out.size)))
    have HKK : Hid (Keep w W3) := Lib.hid (((HKW1.out.trans HK1.out).trans (Keep.of_below HB3.out)).trans (Keep.of_below hb3))
    clear hW3 hb3 h3 hx3 hbox e0 e1 hc1 hc2
    go_region
    all_goals
      go_wp2
      refine bodyPost_ret (v := .tuple #[.pointer (some ⟨b, 0, none⟩), .agg #[.int .i64 (Q.room : Int), .slice A3 nl C3], .bool true]) (by simp [results, Try.results17, go_sem, z0, z1]) rfl ?_
      exact done_any HFIN.out HX3.out HFF.out.1 HFF.out.2 HBB.out HKK.out HB0.out _ _ _
set_option maxRecDepth 100000 in
set_option maxHeartbeats 1000000 in
theorem do_clone (R V : Int) (B b k : Nat) (Q : Qn) (A : Option Addr) (C : Nat) (D : Option Addr) (n C2 : Nat) (hf : Q.fit k) (hk : k ≤ 100000) (w : World) (h : Two w B b Q A C D n C2 (Q.l.map It.di)) :
    Calls Try.prog 17 #[.pointer (some ⟨b, 0, none⟩), DV Q.room D n C2, .agg #[.int .i64 3, .int .i64 R, .int .i64 V]] w (DoTo w B (k + 1) Q.room) := by
  obtain ⟨W, hW⟩ : ∃ W, W = ((w.alloc (.cells #[.int .i64 (Q.room : Int), .slice D n C2] 27)).alloc (.cells #[.int .i64 3, .int .i64 R, .int .i64 V] 53)).alloc (.cells #[.int .i64 0, .slice none 0 0] 27) := ⟨_, rfl⟩
  obtain ⟨hx, hb, hs⟩ := Bxs.start w Q.room (.slice D n C2) 3 R V W hW
  have h1 := h.below hb
  have hn : n ≤ 256 := by have := h.dl.len; rw [List.length_map] at this; have := hf.len; have := hf.hi; omega
  have hnl : n = Q.l.length := by have := h.dl.len; rw [List.length_map] at this; exact this.symm
  have hroom : Q.room ≤ 1000 := by have := hf.hi; omega
  obtain ⟨o0, o1, o2⟩ := hx.op.cells
  obtain ⟨d0, d1⟩ := hx.box.cells
  have HB0 : Hid (B ≤ w.heap.size) := Lib.hid h.hw
  have HBW : Hid (Below B w W) := Lib.hid (hb.mono h.hw)
  have HKW : Hid (Keep w W) := Lib.hid (Keep.of_below hb)
  have HX := Lib.hid hx
  have H1 := Lib.hid h1
  have HF := Lib.hid hf
  have HK := Lib.hid hk
  have HW := Lib.hid hW
  have HN := Lib.hid hn
  have HNL := Lib.hid hnl
  have HRM := Lib.hid hroom
  have hB3 : B ≤ W.heap.size := Nat.le_trans h.hw hb.size
  have CC : Hid (Calls Try.prog 30 #[.pointer (some ⟨b, 0, none⟩)] W fun e w' => e = .returned (.pointer (some ⟨W.heap.size, 0, none⟩)) ∧ Hid (From w' W.heap.size W.heap.size Q) ∧ Hid (Below W.heap.size W w')) := Lib.hid (clone_from B b Q (by omega) W ⟨A, C, h1.qb, h1.hb, h1.hw, h1.hA⟩)
  have CP : Hid (∀ w', QB w' b Q A C → Calls Try.prog 13 #[.pointer (some ⟨b, 0, none⟩), .int .i64 R, .int .i64 V] w' fun e w'' => e = .returned (.tuple #[.int .i64 (Q.gone R V), .bool (decide (Q.room ≤ Q.l.length))]) ∧ Hid (QTo w' b A (Q.push R V) w'')) := Lib.hid (fun w' hq => push_any R V b k Q A C hf (by omega) w' hq)
  have hpl : (Q.push R V).l.length ≤ 1000 := by have := (Qn.push_fit hf R V).len; have h5 : (Q.push R V).room = Q.room := rfl; omega
  have CO : Hid (∀ A' C' w', QB w' b (Q.push R V) A' C' → Calls Try.prog 14 #[.pointer (some ⟨b, 0, none⟩)] w' fun e w'' => e = .returned (Q.push R V).front ∧ Hid (QTo w' b A' (Q.push R V).pop w'')) := Lib.hid (fun A' C' w' hq => pop_any b (Q.push R V) A' C' hpl w' hq)
  have fnp : ∀ b w, (binOp .eql 24 (.pointer (some ⟨b, 0, none⟩)) (.pointer none)).run Try.prog w = .ok (.bool false) w := ptr_nil
  have HBL3 := Lib.hid hB3
  have HBl : Hid (b < w.heap.size) := Lib.hid h.qb.blk.lt
  have HAl : Hid (∀ g, A.map Addr.block = some g → g < w.heap.size) := Lib.hid h.qb.lt
  have HS := Lib.hid hs
  have HLH : Hid (w.heap.size ≤ W.heap.size) := Lib.hid (by omega)
  clear hpl hB3
  unfold DV
  clear hW hx hb hs h1 h hf hk hn hnl hroom
  go_enter Try.func17, Try.ntmps17
  go_upto_region 1 with fail
  rw [← HW.out]
  go_upto_region 25 with (first
    | (go_at_call 30; (with_reducible refine (CC.out).mono ?_); rintro e w1 ⟨rfl, HC1, HB1⟩; have H2 := Lib.hid (H1.out.below HB1.out); have HX2 := Lib.hid (HX.out.below HB1.out); obtain ⟨p0, p1, p2⟩ := HX2.out.op.cells)
    | (go_at_call 13; (with_reducible refine (CP.out w1 H2.out.qb).mono ?_); rintro e w2 ⟨rfl, HQ2⟩; obtain ⟨A2, C2', h3, hbl3, hfr3, hm3⟩ := H2.out.code HQ2.out; have H3 := Lib.hid h3; have HBL2 := Lib.hid hbl3; have HFR3 := Lib.hid hfr3; have HK2 := Lib.hid (Keep.code hfr3 H2.out.qb); have HM3 := Lib.hid (far_moved (hi := W.heap.size) hm3 HAl.out HLH.out); clear hm3; have HX3 := Lib.hid (HX2.out.code hfr3 H2.out.qb); clear h3 hbl3 hfr3)
    | (go_at_call 14; (with_reducible refine (CO.out A2 C2' w2 H3.out.qb).mono ?_); rintro e w3 ⟨rfl, HQ3⟩; obtain ⟨A3, C3, h4, hbl4, hfr4, _⟩ := H3.out.code HQ3.out; have H4 := Lib.hid h4; have HBL4 := Lib.hid hbl4; have HFR4 := Lib.hid hfr4; have HK3 := Lib.hid (Keep.code hfr4 H3.out.qb); have HX4 := Lib.hid (HX3.out.code hfr4 H3.out.qb); obtain ⟨e0, e1⟩ := HX4.out.box.cells; obtain ⟨z0, z1⟩ := HX4.out.res.cells; have zf0 := HX4.out.res.frozen 0; have zf1 := HX4.out.res.frozen 1; clear h4 hbl4 hfr4)
    | fail)
  have HFIN : Hid (∃ AC CC, Two w3 B W.heap.size Q AC CC D n C2 (Q.l.map It.di)) := Lib.hid (by
    obtain ⟨AC, CC9, hqc, _, _, hac⟩ := HC1.out
    obtain ⟨A2', C2'', q1, m1, f1⟩ := HQ2.out
    have s1 := HB1.out.size
    have hl9 := hqc.lt
    have hcl := hqc.blk.lt
    have hb9 := HBl.out
    have hs9 := HS.out
    have k2 : QB w2 W.heap.size Q AC CC9 := hqc.keep (HFR3.out.block _ hcl (by omega) (fun e => by have := HAl.out _ e.symm; omega)) (fun g hg => HFR3.out.block g (hl9 g hg) (by have := hac g hg; omega) (fun e => by have := HAl.out _ e.symm; have := hac g hg; omega))
    have hfar : ∀ g, g < w1.heap.size → W.heap.size ≤ g → some g ≠ A2.map Addr.block := HM3.out
    have k3 : QB w3 W.heap.size Q AC CC9 := k2.keep (HFR4.out.block _ k2.blk.lt (by omega) (hfar _ hcl (Nat.le_refl _))) (fun g hg => HFR4.out.block g (k2.lt g hg) (by have := hac g hg; omega) (hfar g (hl9 g hg) (hac g hg)))
    exact ⟨AC, CC9, k3, H4.out.dl, HBL3.out, H4.out.hw, fun g hg => Nat.le_trans HBL3.out (hac g hg)⟩)
  obtain ⟨AC, CC9, hfin⟩ := HFIN.out
  have HFIN2 := Lib.hid hfin
  have HBB : Hid (Below B w w3) := Lib.hid (((HBW.out.trans (HB1.out.mono HBL3.out)).trans HBL2.out).trans HBL4.out)
  have HKK : Hid (Keep w w3) := Lib.hid (((HKW.out.trans (Keep.of_below HB1.out)).trans HK2.out).trans HK3.out)
  clear o0 o1 o2 d0 d1 p0 p1 p2 hfin
  go_region
  all_goals
    go_wp2
    refine bodyPost_ret (v := .tuple #[.pointer (some ⟨W.heap.size, 0, none⟩), .agg #[.int .i64 (Q.room : Int), .slice D n C2], .bool true]) (by simp [results, Try.results17, go_sem, z0, z1]) rfl ?_
    exact done_any HFIN2.out HX4.out (Qn.fit_more HF.out (Nat.le_succ k)) rfl HBB.out HKK.out HB0.out _ _ _
set_option maxRecDepth 100000 in
set_option maxHeartbeats 1000000 in
theorem do_none (K : Int) (R V : Int) (B b k : Nat) (Q : Qn) (A : Option Addr) (C : Nat) (D : Option Addr) (n C2 : Nat) (k0 : ¬ K = 0) (k1 : ¬ K = 1) (k2 : ¬ K = 2) (k3 : ¬ K = 3) (hf : Q.fit k) (hk : k ≤ 100000) (w : World) (h : Two w B b Q A C D n C2 (Q.l.map It.di)) :
    Calls Try.prog 17 #[.pointer (some ⟨b, 0, none⟩), DV Q.room D n C2, .agg #[.int .i64 K, .int .i64 R, .int .i64 V]] w (DoTo w B (k + 1) Q.room) := by
  obtain ⟨W, hW⟩ : ∃ W, W = ((w.alloc (.cells #[.int .i64 (Q.room : Int), .slice D n C2] 27)).alloc (.cells #[.int .i64 K, .int .i64 R, .int .i64 V] 53)).alloc (.cells #[.int .i64 0, .slice none 0 0] 27) := ⟨_, rfl⟩
  obtain ⟨hx, hb, hs⟩ := Bxs.start w Q.room (.slice D n C2) K R V W hW
  have h1 := h.below hb
  have hn : n ≤ 256 := by have := h.dl.len; rw [List.length_map] at this; have := hf.len; have := hf.hi; omega
  have hnl : n = Q.l.length := by have := h.dl.len; rw [List.length_map] at this; exact this.symm
  have hroom : Q.room ≤ 1000 := by have := hf.hi; omega
  obtain ⟨o0, o1, o2⟩ := hx.op.cells
  obtain ⟨d0, d1⟩ := hx.box.cells
  have HB0 : Hid (B ≤ w.heap.size) := Lib.hid h.hw
  have HBW : Hid (Below B w W) := Lib.hid (hb.mono h.hw)
  have HKW : Hid (Keep w W) := Lib.hid (Keep.of_below hb)
  have HX := Lib.hid hx
  have H1 := Lib.hid h1
  have HF := Lib.hid hf
  have HK := Lib.hid hk
  have HW := Lib.hid hW
  have HN := Lib.hid hn
  have HNL := Lib.hid hnl
  have HRM := Lib.hid hroom
  unfold DV
  clear hW hx hb hs h1 h hf hk hn hnl hroom
  go_enter Try.func17, Try.ntmps17
  go_upto_region 1 with fail
  rw [← HW.out]
  obtain ⟨z0, z1⟩ := HX.out.res.cells
  have zf0 := HX.out.res.frozen 0
  have zf1 := HX.out.res.frozen 1
  go_upto_region 2 with fail
  go_region
  all_goals
    go_wp2
    refine bodyPost_ret (v := .tuple #[.pointer (some ⟨b, 0, none⟩), .agg #[.int .i64 (Q.room : Int), .slice D n C2], .bool true]) (by simp [results, Try.results17, go_sem, z0, z1]) rfl ?_
    exact done_any H1.out HX.out (Qn.fit_more HF.out (Nat.le_succ k)) rfl HBW.out HKW.out HB0.out _ _ _
end Go.Proofs.Ytagcpnelobidnaa
