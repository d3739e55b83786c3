/-
  Own text: the law's calls at both, walked: each kind. (Written by gen_tmw.py.)
-/
import Derived.Test.YthkckgdhaihmoaaTmV
namespace Go.Proofs.Ythkckgdhaihmoaa
open Go.RowKit

theorem Af.cells {w W : World} {B b c : Nat} {Q : Qn} {D : Option Addr} {C2 : Nat} {K k t : Int} (h : Af w B b c Q D C2 K k t W) :
    (W.cell? ⟨c, 0, none⟩ = some (.int .i64 (Q.room : Int)) ∧ W.cell? ⟨c, 1, none⟩ = some (.int .i64 Q.now) ∧ W.cell? ⟨c, 2, none⟩ = some (.slice D Q.l.length C2)) ∧ W.cell? ⟨w.heap.size + 1, 1, none⟩ = some (.int .i64 k) ∧ W.cell? ⟨w.heap.size + 1, 2, none⟩ = some (.int .i64 t) :=
  ⟨h.nxt.cells, h.op.cells.2.1, h.op.cells.2.2⟩
theorem Af.cells3 {w W : World} {B b c : Nat} {Q : Qn} {D : Option Addr} {C2 : Nat} {K k t : Int} (h : Af w B b c Q D C2 K k t W) (hc : c ≠ w.heap.size + 2) (x y z : Value) :
    ((((W.setCell ⟨w.heap.size + 2, 0, none⟩ x).setCell ⟨w.heap.size + 2, 1, none⟩ y).setCell ⟨w.heap.size + 2, 2, none⟩ z).cell? ⟨c, 0, none⟩ = some (.int .i64 (Q.room : Int)) ∧ (((W.setCell ⟨w.heap.size + 2, 0, none⟩ x).setCell ⟨w.heap.size + 2, 1, none⟩ y).setCell ⟨w.heap.size + 2, 2, none⟩ z).cell? ⟨c, 1, none⟩ = some (.int .i64 Q.now) ∧ (((W.setCell ⟨w.heap.size + 2, 0, none⟩ x).setCell ⟨w.heap.size + 2, 1, none⟩ y).setCell ⟨w.heap.size + 2, 2, none⟩ z).cell? ⟨c, 2, none⟩ = some (.slice D Q.l.length C2)) ∧ (((W.setCell ⟨w.heap.size + 2, 0, none⟩ x).setCell ⟨w.heap.size + 2, 1, none⟩ y).setCell ⟨w.heap.size + 2, 2, none⟩ z).cell? ⟨w.heap.size + 1, 1, none⟩ = some (.int .i64 k) ∧ (((W.setCell ⟨w.heap.size + 2, 0, none⟩ x).setCell ⟨w.heap.size + 2, 1, none⟩ y).setCell ⟨w.heap.size + 2, 2, none⟩ z).cell? ⟨w.heap.size + 1, 2, none⟩ = some (.int .i64 t) :=
  ⟨(h.nxt.keep (three_far W _ x y z c hc)).cells, (World.cell?_of_block (a := ⟨w.heap.size + 1, 1, none⟩) (three_far W _ x y z (w.heap.size + 1) (by omega))).trans h.op.cells.2.1, (World.cell?_of_block (a := ⟨w.heap.size + 1, 2, none⟩) (three_far W _ x y z (w.heap.size + 1) (by omega))).trans h.op.cells.2.2⟩
/-- A call of the code's behind the document's, whose answer waits in a box. -/
theorem Af.of {w W W3 W4 w5 : World} {B b c : Nat} {Q Q' : Qn} {A : Option Addr} {C : Nat} {D D' : Option Addr} {C2 C2' : Nat} {K k t : Int} {room : Nat} {now : Int} {s : Value} (hx : Bxs w room now s K k t W) (h1 : Two W B b Q A C D C2) (hbw : Below B w W) (hkw : Keep w W) (hb3 : Below W.heap.size W W3) (h4 : Below W3.heap.size W3 W4)
    (hn : DBx W3 c Q'.room Q'.now (.slice D' Q'.l.length C2')) (hd : DL W3 B D' Q'.l.length C2' Q'.l) (hq : QTo W4 b A Q' w5) : Af w B b c Q' D' C2' K k t w5 := by
  have hb4 : Below W.heap.size W W4 := hb3.trans (h4.mono hb3.size)
  have h2 := h1.below hb4
  have hx4 := hx.below hb4
  obtain ⟨A', C', h5, h6, h7⟩ := h2.code (hd.below h4 (Nat.le_refl _)) hq
  exact ⟨⟨A', C', h5⟩, (hn.below h4 hn.lt).kept h7, hx4.op.kept h7, hx4.res.kept h7, (hbw.trans (hb4.mono h1.hw)).trans h6, (hkw.trans (Keep.of_below hb4)).trans h7⟩
set_option maxRecDepth 100000 in
set_option maxHeartbeats 1000000 in
theorem do_start (k t : Int) (B b : Nat) (Q : Qn) (A : Option Addr) (C : Nat) (D : Option Addr) (C2 : Nat) (hf : Q.fit) (w : World) (h : Two w B b Q A C D C2) :
    Calls Try.prog 19 #[.pointer (some ⟨b, 0, none⟩), DV Q.room Q.now D Q.l.length C2, .agg #[.int .i64 0, .int .i64 k, .int .i64 t]] w (DoTo w B b (Q.start k t)) := by
  obtain ⟨W, hW⟩ : ∃ W, W = ((w.alloc (.cells #[.int .i64 (Q.room : Int), .int .i64 Q.now, .slice D Q.l.length C2] 27)).alloc (.cells #[.int .i64 0, .int .i64 k, .int .i64 t] 44)).alloc (.cells #[.int .i64 0, .int .i64 0, .slice none 0 0] 27) := ⟨_, rfl⟩
  obtain ⟨hx, hb, hs⟩ := Bxs.start w Q.room Q.now (.slice D Q.l.length C2) 0 k t W hW
  have h1 := h.below hb
  obtain ⟨o0, o1, o2⟩ := hx.op.cells
  obtain ⟨d0, d1, d2⟩ := hx.box.cells
  have HB0 : Hid (B ≤ w.heap.size) := Lib.hid h.hw
  have HBW : Hid (Below B w W) := Lib.hid (hb.mono h.hw)
  have HKW : Hid (Keep w W) := Lib.hid (Keep.of_below hb)
  have HX := Lib.hid hx
  have H1 := Lib.hid h1
  have HF := Lib.hid hf
  have HW := Lib.hid hW
  have HS := Lib.hid hs
  obtain ⟨Q2, hQ2⟩ : ∃ Q2, Q2 = Q.start k t := ⟨_, rfl⟩
  obtain ⟨c, hc⟩ : ∃ c, c = Q.code k t := ⟨_, rfl⟩
  have CR := Lib.hid (rstart_any k t Q hf B D C2 W h1.hw h1.dl)
  have CC : Hid (∀ W4, QB W4 b Q A C → Calls Try.prog 15 #[.pointer (some ⟨b, 0, none⟩), .int .i64 k, .int .i64 t] W4 fun e w' => e = .returned (.int .i64 c) ∧ Hid (QTo W4 b A Q2 w')) := Lib.hid (fun W4 hq => by rw [hc, hQ2]; exact start_any k t b Q A C hf W4 hq)
  rw [← hQ2, ← hc] at CR
  rw [← hQ2]
  have cc : (c == c) = true := by simp
  clear hW hx hb hs h1 h hf hQ2 hc
  unfold DV
  unfold DV at CR
  unfold RStart DV at CR
  go_enter Try.func19, Try.ntmps19
  go_upto_region 1 with fail
  rw [← HW.out]
  go_upto_region 5 with (first
    | (go_at_call 27; (with_reducible refine (CR.out).mono ?_); rintro e w2 ⟨A3, C3, rfl, HD2, HB2⟩)
    | fail)
  obtain ⟨W3, hW3⟩ : ∃ W3, W3 = w2.alloc (.cells #[.int .i64 (Q2.room : Int), .int .i64 Q2.now, .slice A3 Q2.l.length C3] 27) := ⟨_, rfl⟩
  rw [← hW3]
  have hbn : Below w2.heap.size w2 W3 := by rw [hW3]; exact (Below.refl _ _).alloc (Nat.le_refl _) _
  have hb3 : Below W.heap.size W W3 := by rw [hW3]; exact HB2.out.alloc HB2.out.size _
  have hnx : DBx W3 w2.heap.size Q2.room Q2.now (.slice A3 Q2.l.length C3) := by rw [hW3]; exact DBx.new w2 _ _ _
  have hd3 : DL W3 B A3 Q2.l.length C3 Q2.l := HD2.out.below hbn (Nat.le_refl _)
  have HC : Hid (w2.heap.size ≠ w.heap.size + 2) := Lib.hid (by have := HB2.out.size; have := HS.out; omega)
  have HS3 : Hid (∀ W4, Below W3.heap.size W3 W4 → ((W4.cell? ⟨w2.heap.size, 0, none⟩ = some (.int .i64 (Q2.room : Int)) ∧ W4.cell? ⟨w2.heap.size, 1, none⟩ = some (.int .i64 Q2.now) ∧ W4.cell? ⟨w2.heap.size, 2, none⟩ = some (.slice A3 Q2.l.length C3)) ∧ W4.cell? ⟨w.heap.size + 1, 1, none⟩ = some (.int .i64 k) ∧ W4.cell? ⟨w.heap.size + 1, 2, none⟩ = some (.int .i64 t))) := Lib.hid (fun W4 h4 => by
    have hb4 : Below W.heap.size W W4 := hb3.trans (h4.mono hb3.size)
    have hx4 := HX.out.below hb4
    exact ⟨(hnx.below h4 hnx.lt).cells, hx4.op.cells.2.1, hx4.op.cells.2.2⟩)
  have CC3 : Hid (Calls Try.prog 15 #[.pointer (some ⟨b, 0, none⟩), .int .i64 k, .int .i64 t] W3.drew fun e w5 => e = .returned (.int .i64 c) ∧ Hid (Af w B b w2.heap.size Q2 A3 C3 0 k t w5)) := Lib.hid ((CC.out W3.drew ((H1.out.below hb3).qb.drewN 1)).mono (fun e w5 h5 => ⟨h5.1, Lib.hid (Af.of HX.out H1.out HBW.out HKW.out hb3 (Below.refl _ _).drew hnx hd3 h5.2.out)⟩))
  clear hW3 hbn hb3 hnx hd3 d0 d1 d2 o0 o1 o2
  go_region_held3 (fun w' => (w'.cell? ⟨w2.heap.size, 0, none⟩ = some (.int .i64 (Q2.room : Int)) ∧ w'.cell? ⟨w2.heap.size, 1, none⟩ = some (.int .i64 Q2.now) ∧ w'.cell? ⟨w2.heap.size, 2, none⟩ = some (.slice A3 Q2.l.length C3)) ∧ w'.cell? ⟨w.heap.size + 1, 1, none⟩ = some (.int .i64 k) ∧ w'.cell? ⟨w.heap.size + 1, 2, none⟩ = some (.int .i64 t))
    (first | exact HS3.out _ (Below.refl _ _) | exact HS3.out _ (Below.refl _ _).drew | exact HAF.out.cells | exact HAF.out.cells3 HC.out _ _ _)
    (first
      | (go_at_call 15; (with_reducible refine (CC3.out).mono ?_); rintro e w5 ⟨rfl, HAF⟩; obtain ⟨z0, z1, z2⟩ := HAF.out.res.cells; have zf0 := HAF.out.res.frozen 0; have zf1 := HAF.out.res.frozen 1; have zf2 := HAF.out.res.frozen 2)
      | fail)
  all_goals
    go_wp2
    refine bodyPost_ret (v := .tuple #[.agg #[.int .i64 (Q2.room : Int), .int .i64 Q2.now, .slice A3 Q2.l.length C3], .bool true]) (by simp [results, Try.results19, go_sem, z0, z1, z2]) rfl ?_
    exact HAF.out.done HB0.out _ _ _
set_option maxRecDepth 100000 in
set_option maxHeartbeats 1000000 in
theorem do_stop (k t : Int) (B b : Nat) (Q : Qn) (A : Option Addr) (C : Nat) (D : Option Addr) (C2 : Nat) (hf : Q.fit) (w : World) (h : Two w B b Q A C D C2) :
    Calls Try.prog 19 #[.pointer (some ⟨b, 0, none⟩), DV Q.room Q.now D Q.l.length C2, .agg #[.int .i64 1, .int .i64 k, .int .i64 t]] w (DoTo w B b (Q.stop k)) := by
  obtain ⟨W, hW⟩ : ∃ W, W = ((w.alloc (.cells #[.int .i64 (Q.room : Int), .int .i64 Q.now, .slice D Q.l.length C2] 27)).alloc (.cells #[.int .i64 1, .int .i64 k, .int .i64 t] 44)).alloc (.cells #[.int .i64 0, .int .i64 0, .slice none 0 0] 27) := ⟨_, rfl⟩
  obtain ⟨hx, hb, hs⟩ := Bxs.start w Q.room Q.now (.slice D Q.l.length C2) 1 k t W hW
  have h1 := h.below hb
  obtain ⟨o0, o1, o2⟩ := hx.op.cells
  obtain ⟨d0, d1, d2⟩ := hx.box.cells
  have HB0 : Hid (B ≤ w.heap.size) := Lib.hid h.hw
  have HBW : Hid (Below B w W) := Lib.hid (hb.mono h.hw)
  have HKW : Hid (Keep w W) := Lib.hid (Keep.of_below hb)
  have HX := Lib.hid hx
  have H1 := Lib.hid h1
  have HF := Lib.hid hf
  have HW := Lib.hid hW
  have HS := Lib.hid hs
  obtain ⟨Q2, hQ2⟩ : ∃ Q2, Q2 = Q.stop k := ⟨_, rfl⟩
  obtain ⟨c, hc⟩ : ∃ c, c = hasK k Q.l := ⟨_, rfl⟩
  have CR : Hid (Calls Try.prog 28 #[DV Q.room Q.now D Q.l.length C2, .int .i64 k] W fun e w' => ∃ A3 C3, e = .returned (.tuple #[DV Q2.room Q2.now A3 Q2.l.length C3, .bool c]) ∧ Hid (DL w' W.heap.size A3 Q2.l.length C3 Q2.l) ∧ Hid (Below W.heap.size W w')) := Lib.hid (by rw [hc, hQ2]; exact rwo_any k Q hf B D C2 W h1.dl)
  have CC : Hid (∀ W4, QB W4 b Q A C → Calls Try.prog 23 #[.pointer (some ⟨b, 0, none⟩), .int .i64 k] W4 fun e w' => e = .returned (.bool c) ∧ Hid (QTo W4 b A Q2 w')) := Lib.hid (fun W4 hq => by rw [hc, hQ2]; exact stop_any k b Q A C (by have := hf.len; have := hf.hi; omega) W4 hq)
  rw [← hQ2]
  have cc : (c == c) = true := by simp
  clear hW hx hb hs h1 h hf hQ2 hc
  unfold DV
  unfold DV at CR
  go_enter Try.func19, Try.ntmps19
  go_upto_region 1 with fail
  rw [← HW.out]
  go_upto_region 8 with (first
    | (go_at_call 28; (with_reducible refine (CR.out).mono ?_); rintro e w2 ⟨A3, C3, rfl, HD2, HB2⟩)
    | fail)
  obtain ⟨W3, hW3⟩ : ∃ W3, W3 = w2.alloc (.cells #[.int .i64 (Q2.room : Int), .int .i64 Q2.now, .slice A3 Q2.l.length C3] 27) := ⟨_, rfl⟩
  rw [← hW3]
  have hbn : Below w2.heap.size w2 W3 := by rw [hW3]; exact (Below.refl _ _).alloc (Nat.le_refl _) _
  have hb3 : Below W.heap.size W W3 := by rw [hW3]; exact HB2.out.alloc HB2.out.size _
  have hnx : DBx W3 w2.heap.size Q2.room Q2.now (.slice A3 Q2.l.length C3) := by rw [hW3]; exact DBx.new w2 _ _ _
  have hd3 : DL W3 B A3 Q2.l.length C3 Q2.l := (HD2.out.low H1.out.hw).below hbn (Nat.le_refl _)
  have HC : Hid (w2.heap.size ≠ w.heap.size + 2) := Lib.hid (by have := HB2.out.size; have := HS.out; omega)
  have HS3 : Hid (∀ W4, Below W3.heap.size W3 W4 → ((W4.cell? ⟨w2.heap.size, 0, none⟩ = some (.int .i64 (Q2.room : Int)) ∧ W4.cell? ⟨w2.heap.size, 1, none⟩ = some (.int .i64 Q2.now) ∧ W4.cell? ⟨w2.heap.size, 2, none⟩ = some (.slice A3 Q2.l.length C3)) ∧ W4.cell? ⟨w.heap.size + 1, 1, none⟩ = some (.int .i64 k) ∧ W4.cell? ⟨w.heap.size + 1, 2, none⟩ = some (.int .i64 t))) := Lib.hid (fun W4 h4 => by
    have hb4 : Below W.heap.size W W4 := hb3.trans (h4.mono hb3.size)
    have hx4 := HX.out.below hb4
    exact ⟨(hnx.below h4 hnx.lt).cells, hx4.op.cells.2.1, hx4.op.cells.2.2⟩)
  have CC3 : Hid (Calls Try.prog 23 #[.pointer (some ⟨b, 0, none⟩), .int .i64 k] W3.drew fun e w5 => e = .returned (.bool c) ∧ Hid (Af w B b w2.heap.size Q2 A3 C3 1 k t w5)) := Lib.hid ((CC.out W3.drew ((H1.out.below hb3).qb.drewN 1)).mono (fun e w5 h5 => ⟨h5.1, Lib.hid (Af.of HX.out H1.out HBW.out HKW.out hb3 (Below.refl _ _).drew hnx hd3 h5.2.out)⟩))
  clear hW3 hbn hb3 hnx hd3 d0 d1 d2 o0 o1 o2
  go_region_held3 (fun w' => (w'.cell? ⟨w2.heap.size, 0, none⟩ = some (.int .i64 (Q2.room : Int)) ∧ w'.cell? ⟨w2.heap.size, 1, none⟩ = some (.int .i64 Q2.now) ∧ w'.cell? ⟨w2.heap.size, 2, none⟩ = some (.slice A3 Q2.l.length C3)) ∧ w'.cell? ⟨w.heap.size + 1, 1, none⟩ = some (.int .i64 k))
    (first | exact ⟨(HS3.out _ (Below.refl _ _)).1, (HS3.out _ (Below.refl _ _)).2.1⟩ | exact ⟨(HS3.out _ (Below.refl _ _).drew).1, (HS3.out _ (Below.refl _ _).drew).2.1⟩ | exact ⟨HAF.out.cells.1, HAF.out.cells.2.1⟩ | exact ⟨(HAF.out.cells3 HC.out _ _ _).1, (HAF.out.cells3 HC.out _ _ _).2.1⟩)
    (first
      | (go_at_call 23; (with_reducible refine (CC3.out).mono ?_); rintro e w5 ⟨rfl, HAF⟩; obtain ⟨z0, z1, z2⟩ := HAF.out.res.cells; have zf0 := HAF.out.res.frozen 0; have zf1 := HAF.out.res.frozen 1; have zf2 := HAF.out.res.frozen 2)
      | fail)
  all_goals
    go_wp2
    refine bodyPost_ret (v := .tuple #[.agg #[.int .i64 (Q2.room : Int), .int .i64 Q2.now, .slice A3 Q2.l.length C3], .bool true]) (by simp [results, Try.results19, go_sem, z0, z1, z2]) rfl ?_
    exact HAF.out.done HB0.out _ _ _
set_option maxRecDepth 100000 in
set_option maxHeartbeats 1000000 in
theorem do_tick (k t : Int) (B b : Nat) (Q : Qn) (A : Option Addr) (C : Nat) (D : Option Addr) (C2 : Nat) (hf : Q.fit) (w : World) (h : Two w B b Q A C D C2) :
    Calls Try.prog 19 #[.pointer (some ⟨b, 0, none⟩), DV Q.room Q.now D Q.l.length C2, .agg #[.int .i64 2, .int .i64 k, .int .i64 t]] w (DoTo w B b (Q.tick t)) := by
  obtain ⟨W, hW⟩ : ∃ W, W = ((w.alloc (.cells #[.int .i64 (Q.room : Int), .int .i64 Q.now, .slice D Q.l.length C2] 27)).alloc (.cells #[.int .i64 2, .int .i64 k, .int .i64 t] 44)).alloc (.cells #[.int .i64 0, .int .i64 0, .slice none 0 0] 27) := ⟨_, rfl⟩
  obtain ⟨hx, hb, hs⟩ := Bxs.start w Q.room Q.now (.slice D Q.l.length C2) 2 k t W hW
  have h1 := h.below hb
  obtain ⟨o0, o1, o2⟩ := hx.op.cells
  obtain ⟨d0, d1, d2⟩ := hx.box.cells
  have HB0 : Hid (B ≤ w.heap.size) := Lib.hid h.hw
  have HBW : Hid (Below B w W) := Lib.hid (hb.mono h.hw)
  have HKW : Hid (Keep w W) := Lib.hid (Keep.of_below hb)
  have HX := Lib.hid hx
  have H1 := Lib.hid h1
  have HF := Lib.hid hf
  have HW := Lib.hid hW
  have HS := Lib.hid hs
  obtain ⟨Q2, hQ2⟩ : ∃ Q2, Q2 = Q.tick t := ⟨_, rfl⟩
  obtain ⟨L, hL⟩ : ∃ L, L = Q.came t := ⟨_, rfl⟩
  have hln : L.length ≤ 256 := by rw [hL]; unfold Qn.came; rw [List.length_map, List.length_take]; have := hf.len; have := hf.hi; omega
  have CR : Hid (Calls Try.prog 29 #[DV Q.room Q.now D Q.l.length C2, .int .i64 t] W (RTick W Q2 L)) := Lib.hid (by rw [hL, hQ2]; exact rtick_any t Q hf B D C2 W h1.dl)
  have CC : Hid (∀ W4, QB W4 b Q A C → Calls Try.prog 16 #[.pointer (some ⟨b, 0, none⟩), .int .i64 t] W4 (TickTo W4 b A Q2 L)) := Lib.hid (fun W4 hq => by rw [hL, hQ2]; exact tick_any t b Q A C hf W4 hq)
  rw [← hQ2]
  have HLN := Lib.hid hln
  clear hW hx hb hs h1 h hf hQ2 hL hln
  unfold DV
  unfold DV RTick DV at CR
  go_enter Try.func19, Try.ntmps19
  go_upto_region 1 with fail
  rw [← HW.out]
  go_upto_region 11 with (first
    | (go_at_call 29; (with_reducible refine (CR.out).mono ?_); rintro e w2 ⟨A3, C3, A5, C5, rfl, HD2, HI2, HB2⟩)
    | fail)
  obtain ⟨W3, hW3⟩ : ∃ W3, W3 = w2.alloc (.cells #[.int .i64 (Q2.room : Int), .int .i64 Q2.now, .slice A3 Q2.l.length C3] 27) := ⟨_, rfl⟩
  rw [← hW3]
  have hbn : Below w2.heap.size w2 W3 := by rw [hW3]; exact (Below.refl _ _).alloc (Nat.le_refl _) _
  have hb3 : Below W.heap.size W W3 := by rw [hW3]; exact HB2.out.alloc HB2.out.size _
  have hnx : DBx W3 w2.heap.size Q2.room Q2.now (.slice A3 Q2.l.length C3) := by rw [hW3]; exact DBx.new w2 _ _ _
  have hd3 : DL W3 B A3 Q2.l.length C3 Q2.l := (HD2.out.low H1.out.hw).below hbn (Nat.le_refl _)
  have HC : Hid (w2.heap.size ≠ w.heap.size + 2) := Lib.hid (by have := HB2.out.size; have := HS.out; omega)
  have HS3 : Hid (∀ W4, Below W3.heap.size W3 W4 → ((W4.cell? ⟨w2.heap.size, 0, none⟩ = some (.int .i64 (Q2.room : Int)) ∧ W4.cell? ⟨w2.heap.size, 1, none⟩ = some (.int .i64 Q2.now) ∧ W4.cell? ⟨w2.heap.size, 2, none⟩ = some (.slice A3 Q2.l.length C3)) ∧ W4.cell? ⟨w.heap.size + 1, 1, none⟩ = some (.int .i64 k) ∧ W4.cell? ⟨w.heap.size + 1, 2, none⟩ = some (.int .i64 t))) := Lib.hid (fun W4 h4 => by
    have hb4 : Below W.heap.size W W4 := hb3.trans (h4.mono hb3.size)
    have hx4 := HX.out.below hb4
    exact ⟨(hnx.below h4 hnx.lt).cells, hx4.op.cells.2.1, hx4.op.cells.2.2⟩)
  have hi3 : OwnI W3.drew 0 (.slice A5 L.length C5) L.length L := own_drewI ((OwnI.low HI2.out (Nat.zero_le _)).below hbn (Nat.le_refl _))
  have CC3 : Hid (Calls Try.prog 16 #[.pointer (some ⟨b, 0, none⟩), .int .i64 t] W3.drew fun e w5 => ∃ A6 C6, e = .returned (.slice A6 L.length C6) ∧ Hid (OwnI w5 0 (.slice A6 L.length C6) L.length L) ∧ Hid (OwnI w5 0 (.slice A5 L.length C5) L.length L) ∧ Hid (Af w B b w2.heap.size Q2 A3 C3 2 k t w5)) := Lib.hid ((CC.out W3.drew ((H1.out.below hb3).qb.drewN 1)).mono (fun e w5 h5 => by
    obtain ⟨A6, C6, e6, o6, q6⟩ := h5
    have hkk : Keep W3.drew w5 := by
      obtain ⟨_, _, _, _, h8⟩ := q6.out
      exact Keep.code h8 ((H1.out.below hb3).qb.drewN 1)
    exact ⟨A6, C6, e6, Lib.hid (OwnI.low o6.out (Nat.zero_le _)), Lib.hid (hi3.kept hkk), Lib.hid (Af.of HX.out H1.out HBW.out HKW.out hb3 (Below.refl _ _).drew hnx hd3 q6.out)⟩))
  clear hW3 hbn hb3 hnx hd3 d0 d1 d2 o0 o1 o2 hi3
  go_region_held3 (fun w' => (w'.cell? ⟨w2.heap.size, 0, none⟩ = some (.int .i64 (Q2.room : Int)) ∧ w'.cell? ⟨w2.heap.size, 1, none⟩ = some (.int .i64 Q2.now) ∧ w'.cell? ⟨w2.heap.size, 2, none⟩ = some (.slice A3 Q2.l.length C3)) ∧ w'.cell? ⟨w.heap.size + 1, 2, none⟩ = some (.int .i64 t))
    (first | exact ⟨(HS3.out _ (Below.refl _ _)).1, (HS3.out _ (Below.refl _ _)).2.2⟩ | exact ⟨(HS3.out _ (Below.refl _ _).drew).1, (HS3.out _ (Below.refl _ _).drew).2.2⟩ | exact ⟨HAF.out.cells.1, HAF.out.cells.2.2⟩ | exact ⟨HAG.out.cells.1, HAG.out.cells.2.2⟩ | exact ⟨(HAG.out.cells3 HC.out _ _ _).1, (HAG.out.cells3 HC.out _ _ _).2.2⟩)
    (first
      | (go_at_call 16; (with_reducible refine (CC3.out).mono ?_); rintro e w5 ⟨A6, C6, rfl, HO6, HO5, HAF⟩)
      | (go_at_call 17; (with_reducible refine (same_any A6 C6 A5 C5 L.length L (Nat.le_trans HLN.out (by decide)) _ HO6.out HO5.out).mono ?_); rintro e w6 ⟨rfl, hb6⟩; have HAG := Lib.hid (HAF.out.below hb6); clear hb6; obtain ⟨z0, z1, z2⟩ := HAG.out.res.cells; have zf0 := HAG.out.res.frozen 0; have zf1 := HAG.out.res.frozen 1; have zf2 := HAG.out.res.frozen 2)
      | fail)
  all_goals
    go_wp2
    refine bodyPost_ret (v := .tuple #[.agg #[.int .i64 (Q2.room : Int), .int .i64 Q2.now, .slice A3 Q2.l.length C3], .bool true]) (by simp [results, Try.results19, go_sem, z0, z1, z2]) rfl ?_
    exact HAG.out.done HB0.out _ _ _
set_option maxRecDepth 100000 in
set_option maxHeartbeats 1000000 in
theorem do_clear (k t : Int) (B b : Nat) (Q : Qn) (A : Option Addr) (C : Nat) (D : Option Addr) (C2 : Nat) (hf : Q.fit) (w : World) (h : Two w B b Q A C D C2) :
    Calls Try.prog 19 #[.pointer (some ⟨b, 0, none⟩), DV Q.room Q.now D Q.l.length C2, .agg #[.int .i64 3, .int .i64 k, .int .i64 t]] w (DoTo w B b (Q.clear)) := by
  obtain ⟨W, hW⟩ : ∃ W, W = ((w.alloc (.cells #[.int .i64 (Q.room : Int), .int .i64 Q.now, .slice D Q.l.length C2] 27)).alloc (.cells #[.int .i64 3, .int .i64 k, .int .i64 t] 44)).alloc (.cells #[.int .i64 0, .int .i64 0, .slice none 0 0] 27) := ⟨_, rfl⟩
  obtain ⟨hx, hb, hs⟩ := Bxs.start w Q.room Q.now (.slice D Q.l.length C2) 3 k t W hW
  have h1 := h.below hb
  obtain ⟨o0, o1, o2⟩ := hx.op.cells
  obtain ⟨d0, d1, d2⟩ := hx.box.cells
  have HB0 : Hid (B ≤ w.heap.size) := Lib.hid h.hw
  have HBW : Hid (Below B w W) := Lib.hid (hb.mono h.hw)
  have HKW : Hid (Keep w W) := Lib.hid (Keep.of_below hb)
  have HX := Lib.hid hx
  have H1 := Lib.hid h1
  have HF := Lib.hid hf
  have HW := Lib.hid hW
  have HS := Lib.hid hs
  have df := hx.box.frozen 2
  obtain ⟨Q2, hQ2⟩ : ∃ Q2, Q2 = Q.clear := ⟨_, rfl⟩
  obtain ⟨n, hn⟩ : ∃ n, n = Q.l.length := ⟨_, rfl⟩
  have CC : Hid (∀ W4, QB W4 b Q A C → Calls Try.prog 30 #[.pointer (some ⟨b, 0, none⟩)] W4 fun e w' => e = .returned (.int .i64 (n : Int)) ∧ Hid (QTo W4 b A Q2 w')) := Lib.hid (fun W4 hq => by rw [hn, hQ2]; exact clear_any b Q A C W4 hq)
  obtain ⟨W3, hW3⟩ : ∃ W3, W3 = W.setCell ⟨w.heap.size, 2, none⟩ (.slice none 0 0) := ⟨_, rfl⟩
  have hkeep : ∀ (i : Nat) (cur : Array Value) (ty : TypeId), W.heap[i]? = some (.cells cur ty (0, 0)) → ty ≠ 27 → W3.heap[i]? = W.heap[i]? := fun i cur ty hi ht => by
    rw [hW3]
    refine Below.heap_setCell _ _ _ i (fun e => ?_)
    have e' : i = w.heap.size := e
    subst e'
    have hbx := hx.box
    unfold DBx at hbx
    rw [hi] at hbx
    simp at hbx
    exact ht hbx.2
  have hbx3 : DBx W3 w.heap.size Q.room Q.now (.slice none 0 0) := by rw [hW3]; exact hx.box.setList _
  have hop3 : OBx W3 (w.heap.size + 1) 3 k t := by rw [hW3]; exact (Below.heap_setCell _ _ _ _ (by show w.heap.size + 1 ≠ w.heap.size; omega)).trans hx.op
  have hrs3 : DBx W3 (w.heap.size + 2) 0 0 (.slice none 0 0) := by rw [hW3]; exact hx.res.other (by show w.heap.size + 2 ≠ w.heap.size; omega) _
  have hq3 : QB W3 b Q A C := h1.qb.keep (hkeep _ _ _ h1.qb.blk (by decide)) (fun g hg => by
    rcases h1.qb.own.form with ⟨e, _⟩ | ⟨g', R', e, _, _, hg', _⟩
    · rw [e] at hg; simp at hg
    · rw [e] at hg
      simp at hg
      subst hg
      exact hkeep _ _ _ hg' (by decide))
  have hs3 : W3.heap.size = W.heap.size := by rw [hW3]; simp
  have hb3 : Below B w W3 := by rw [hW3]; exact HBW.out.setCell (p := ⟨w.heap.size, 2, none⟩) HB0.out _
  have hk3 : Keep w W3 := by rw [hW3]; exact HKW.out.setCell (p := ⟨w.heap.size, 2, none⟩) (Nat.le_refl _) _
  have CC3 : Hid (Calls Try.prog 30 #[.pointer (some ⟨b, 0, none⟩)] W3.drew fun e w5 => e = .returned (.int .i64 (n : Int)) ∧ Hid (Af w B b w.heap.size Q2 none 0 3 k t w5)) := Lib.hid ((CC.out W3.drew (hq3.drewN 1)).mono (fun e w5 h5 => by
    obtain ⟨e5, q5⟩ := h5
    obtain ⟨A', C', a1, a2, a3⟩ := q5.out
    have hkk : Keep W3.drew w5 := Keep.code a3 (hq3.drewN 1)
    have hsz : w.heap.size + 3 = W3.heap.size := by rw [hs3]; exact hs.symm
    have hbw5 : Below B w w5 := a3.bel hb3.drew (by show B ≤ W3.heap.size; have := h.hw; omega) h.hb h.hA
    refine ⟨e5, Lib.hid ⟨⟨A', C', a1, ?_, h.hb, Nat.le_trans h.hw hbw5.size, fun i hi => ?_⟩, ?_, ?_, ?_, hbw5, (hk3.drewN 1).trans hkk⟩⟩
    · rw [hQ2]
      exact (OwnD.none w5 B).dl
    · rcases a2 with e | e
      · exact h.hA i (by rw [← e]; exact hi)
      · have h9 := e i hi
        have h10 : W3.heap.size ≤ i := h9
        have := h.hw
        omega
    · rw [hQ2]
      have h3 : DBx W3.drew w.heap.size Q.room Q.now (.slice none 0 0) := hbx3
      exact h3.kept hkk
    · have h3 : OBx W3.drew (w.heap.size + 1) 3 k t := hop3
      exact h3.kept hkk
    · have h3 : DBx W3.drew (w.heap.size + 2) 0 0 (.slice none 0 0) := hrs3
      exact h3.kept hkk))
  have HS3 : Hid (∀ W4 : World, W4.heap = W3.heap → W4.cell? ⟨w.heap.size, 0, none⟩ = some (.int .i64 (Q2.room : Int)) ∧ W4.cell? ⟨w.heap.size, 1, none⟩ = some (.int .i64 Q2.now) ∧ W4.cell? ⟨w.heap.size, 2, none⟩ = some (.slice none Q2.l.length 0)) := Lib.hid (fun W4 h4 => by
    rw [hQ2]
    have : DBx W4 w.heap.size Q.room Q.now (.slice none 0 0) := hbx3.keep (by rw [h4])
    exact this.cells)
  have HC : Hid (w.heap.size ≠ w.heap.size + 2) := Lib.hid (by omega)
  have HQL : Hid (Q2.l.length = 0) := Lib.hid (by rw [hQ2]; rfl)
  have HW3 := Lib.hid hW3
  rw [← hQ2]
  have cc : ((n : Int) == (n : Int)) = true := by simp
  clear hW hx hb hs h1 h hf hQ2 hW3 hkeep hbx3 hop3 hrs3 hq3 hs3 hb3 hk3
  unfold DV
  rw [← hn]
  rw [← hn] at d2
  have hWn := HW.out
  rw [← hn] at hWn
  have HWn := Lib.hid hWn
  clear hn hWn
  go_enter Try.func19, Try.ntmps19
  go_upto_region 1 with fail
  rw [← HWn.out]
  go_upto_region 15 with fail
  rw [← HW3.out]
  clear d0 d1 d2 o0 o1 o2 df
  go_region_held3 (fun w' => w'.cell? ⟨w.heap.size, 0, none⟩ = some (.int .i64 (Q2.room : Int)) ∧ w'.cell? ⟨w.heap.size, 1, none⟩ = some (.int .i64 Q2.now) ∧ w'.cell? ⟨w.heap.size, 2, none⟩ = some (.slice none Q2.l.length 0))
    (first | exact HS3.out _ rfl | exact HAF.out.cells.1 | exact (HAF.out.cells3 HC.out _ _ _).1)
    (first
      | (go_at_call 30; (with_reducible refine (CC3.out).mono ?_); rintro e w5 ⟨rfl, HAF⟩; obtain ⟨z0, z1, z2⟩ := HAF.out.res.cells; have zf0 := HAF.out.res.frozen 0; have zf1 := HAF.out.res.frozen 1; have zf2 := HAF.out.res.frozen 2)
      | fail)
  all_goals
    go_wp2
    refine bodyPost_ret (v := .tuple #[.agg #[.int .i64 (Q2.room : Int), .int .i64 Q2.now, .slice none Q2.l.length 0], .bool true]) (by simp [results, Try.results19, go_sem, z0, z1, z2]) rfl ?_
    exact HAF.out.done HB0.out _ _ _
set_option maxRecDepth 100000 in
theorem do_other (K k t : Int) (hK0 : K ≠ 0) (hK1 : K ≠ 1) (hK2 : K ≠ 2) (hK3 : K ≠ 3) (B b : Nat) (Q : Qn) (A : Option Addr) (C : Nat) (D : Option Addr) (C2 : Nat) (hf : Q.fit) (w : World) (h : Two w B b Q A C D C2) :
    Calls Try.prog 19 #[.pointer (some ⟨b, 0, none⟩), DV Q.room Q.now D Q.l.length C2, .agg #[.int .i64 K, .int .i64 k, .int .i64 t]] w (DoTo w B b Q) := by
  obtain ⟨W, hW⟩ : ∃ W, W = ((w.alloc (.cells #[.int .i64 (Q.room : Int), .int .i64 Q.now, .slice D Q.l.length C2] 27)).alloc (.cells #[.int .i64 K, .int .i64 k, .int .i64 t] 44)).alloc (.cells #[.int .i64 0, .int .i64 0, .slice none 0 0] 27) := ⟨_, rfl⟩
  obtain ⟨hx, hb, hs⟩ := Bxs.start w Q.room Q.now (.slice D Q.l.length C2) K k t W hW
  have h1 := h.below hb
  obtain ⟨o0, o1, o2⟩ := hx.op.cells
  obtain ⟨d0, d1, d2⟩ := hx.box.cells
  have HB0 : Hid (B ≤ w.heap.size) := Lib.hid h.hw
  have HBW : Hid (Below B w W) := Lib.hid (hb.mono h.hw)
  have HKW : Hid (Keep w W) := Lib.hid (Keep.of_below hb)
  have HX := Lib.hid hx
  have H1 := Lib.hid h1
  have HF := Lib.hid hf
  have HW := Lib.hid hW
  have HS := Lib.hid hs
  have HAF : Hid (Af w B b w.heap.size Q D C2 K k t W) := Lib.hid ⟨⟨A, C, h1⟩, hx.box, hx.op, hx.res, HBW.out, HKW.out⟩
  obtain ⟨z0, z1, z2⟩ := hx.res.cells
  have zf0 := hx.res.frozen 0
  have zf1 := hx.res.frozen 1
  have zf2 := hx.res.frozen 2
  have k0 : (K == 0) = false := by simp [hK0]
  have k1 : (K == 1) = false := by simp [hK1]
  have k2 : (K == 2) = false := by simp [hK2]
  have k3 : (K == 3) = false := by simp [hK3]
  clear hW hx hb hs h1 h hf HX H1 HF HS HBW HKW
  unfold DV
  go_enter Try.func19, Try.ntmps19
  go_upto_region 1 with fail
  rw [← HW.out]
  go_wp2
  refine bodyPost_ret (v := .tuple #[.agg #[.int .i64 (Q.room : Int), .int .i64 Q.now, .slice D Q.l.length C2], .bool true]) (by simp [results, Try.results19, go_sem, z0, z1, z2]) rfl ?_
  exact HAF.out.done HB0.out _ _ _
/-- A call of the script, whatever it is. -/
theorem do_any (K k t : Int) (B b : Nat) (Q : Qn) (A : Option Addr) (C : Nat) (D : Option Addr) (C2 : Nat) (hf : Q.fit) (w : World) (h : Two w B b Q A C D C2) :
    Calls Try.prog 19 #[.pointer (some ⟨b, 0, none⟩), DV Q.room Q.now D Q.l.length C2, .agg #[.int .i64 K, .int .i64 k, .int .i64 t]] w (DoTo w B b (Q.act K k t)) := by
  unfold Qn.act
  by_cases h0 : K = 0
  · subst h0
    exact do_start k t B b Q A C D C2 hf w h
  · rw [if_neg h0]
    by_cases h1 : K = 1
    · subst h1
      exact do_stop k t B b Q A C D C2 hf w h
    · rw [if_neg h1]
      by_cases h2 : K = 2
      · subst h2
        exact do_tick k t B b Q A C D C2 hf w h
      · rw [if_neg h2]
        by_cases h3 : K = 3
        · subst h3
          exact do_clear k t B b Q A C D C2 hf w h
        · rw [if_neg h3]
          exact do_other K k t h0 h1 h2 h3 B b Q A C D C2 hf w h
end Go.Proofs.Ythkckgdhaihmoaa
