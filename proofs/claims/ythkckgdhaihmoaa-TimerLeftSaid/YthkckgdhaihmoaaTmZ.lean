/-
  Own text: the law's play, walked.
-/
import Derived.Test.YthkckgdhaihmoaaTmW
import Derived.BigRegion
namespace Go.Proofs.Ythkckgdhaihmoaa
open Go.RowKit

/-- A script that came in. -/
def Ops (w : World) (a : Option Addr) (n : Nat) (K R V : Nat → Int) : Prop :=
  n = 0 ∨ ∃ g off, a = some ⟨g, off, none⟩ ∧ g < w.heap.size ∧ ∀ i, i < n → w.cell? ⟨g, off + i * 3, none⟩ = some (.int .i64 (K i)) ∧ w.cell? ⟨g, off + i * 3 + 1, none⟩ = some (.int .i64 (R i)) ∧ w.cell? ⟨g, off + i * 3 + 2, none⟩ = some (.int .i64 (V i))
theorem Ops.below {w w' : World} {a : Option Addr} {n : Nat} {K N V : Nat → Int} (h : Ops w a n K N V) {B : Nat} (hb : Below B w w') (hB : w.heap.size ≤ B) : Ops w' a n K N V :=
  h.imp id fun ⟨g, off, e, hl, hc⟩ => ⟨g, off, e, Nat.lt_of_lt_of_le hl hb.size, fun i hi => ⟨(hb.cell (p := ⟨g, off + i * 3, none⟩) (by show g < B; omega)).trans (hc i hi).1, (hb.cell (p := ⟨g, off + i * 3 + 1, none⟩) (by show g < B; omega)).trans (hc i hi).2.1, (hb.cell (p := ⟨g, off + i * 3 + 2, none⟩) (by show g < B; omega)).trans (hc i hi).2.2⟩⟩
/-- What holds between two calls of a play that began at w. -/
structure Lo (w : World) (b : Nat) (Q : Qn) (A : Option Addr) (C : Nat) (D : Option Addr) (C2 : Nat) (W : World) : Prop where
  two : Two W (w.heap.size + 2) b Q A C D C2
  res : DBx W w.heap.size 0 0 (.slice none 0 0)
  box : DBx W (w.heap.size + 1) Q.room Q.now (.slice D Q.l.length C2)
  bel : Below w.heap.size w W
theorem Lo.below {w : World} {b : Nat} {Q : Qn} {A : Option Addr} {C : Nat} {D : Option Addr} {C2 : Nat} {W W' : World} (h : Lo w b Q A C D C2 W) (hb : Below W.heap.size W W') : Lo w b Q A C D C2 W' :=
  ⟨h.two.below hb, h.res.below hb h.res.lt, h.box.below hb h.box.lt, h.bel.trans (hb.mono h.bel.size)⟩
theorem Lo.start (w : World) (room : Nat) {W : World} (hW : W = (w.alloc (.cells #[.int .i64 0, .int .i64 0, .slice none 0 0] 27)).alloc (.cells #[.int .i64 (room : Int), .int .i64 0, .slice none 0 0] 27)) {w1 : World} (hr : From w1 W.heap.size W.heap.size ⟨room, 0, []⟩) (hb1 : Below W.heap.size W w1) : ∃ A C, Lo w W.heap.size ⟨room, 0, []⟩ A C none 0 w1 := by
  have hs : W.heap.size = w.heap.size + 2 := by rw [hW]; simp
  have hb : Below w.heap.size w W := by rw [hW]; exact ((Below.refl w.heap.size w).alloc (Nat.le_refl _) _).alloc (by simp) _
  have h0 := DBx.new w 0 0 (.slice none 0 0)
  have h0' : DBx W w.heap.size 0 0 (.slice none 0 0) := by rw [hW]; exact h0.keep (Below.heap_alloc _ _ _ (by simp))
  have h1 := DBx.new (w.alloc (.cells #[.int .i64 0, .int .i64 0, .slice none 0 0] 27)) room 0 (.slice none 0 0)
  have h1' : DBx W (w.heap.size + 1) room 0 (.slice none 0 0) := by rw [hW]; simpa using h1
  obtain ⟨A, C, q, q1, q2, q3⟩ := hr
  refine ⟨A, C, ⟨q, ⟨rfl, ⟨Nat.le_refl _, by decide⟩, .inl rfl⟩, by omega, by omega, fun k hk => by have := q3 k hk; omega⟩, h0'.below hb1 h0'.lt, h1'.below hb1 h1'.lt, hb.trans (hb1.mono (by omega))⟩
/-- What the play leaves. -/
def Fin11 (w : World) (b : Nat) (Q : Qn) (D : Option Addr) (C2 : Nat) (W : World) : Prop := ∃ A C, Two W (w.heap.size + 2) b Q A C D C2 ∧ Below w.heap.size w W
/-- A call has been gone through: its set lies in a box. -/
structure Got (w : World) (b : Nat) (Q0 : Qn) (D : Option Addr) (C2 : Nat) (Q : Qn) (A : Option Addr) (C : Nat) (D' : Option Addr) (C2' c : Nat) (W : World) : Prop where
  two : Two W (w.heap.size + 2) b Q A C D' C2'
  res : DBx W w.heap.size 0 0 (.slice none 0 0)
  box : DBx W (w.heap.size + 1) Q0.room Q0.now (.slice D Q0.l.length C2)
  want : DBx W c Q.room Q.now (.slice D' Q.l.length C2')
  far : w.heap.size + 2 ≤ c
  bel : Below w.heap.size w W
/-- A set's box is written: what lies beside it stays. -/
theorem Two.three {w : World} {B b : Nat} {Q : Qn} {A : Option Addr} {C : Nat} {D : Option Addr} {C2 : Nat} (h : Two w B b Q A C D C2) {c r0 : Nat} {n0 : Int} {s0 : Value} (hx : DBx w c r0 n0 s0) (x y z : Value) : Two (((w.setCell ⟨c, 0, none⟩ x).setCell ⟨c, 1, none⟩ y).setCell ⟨c, 2, none⟩ z) B b Q A C D C2 := by
  have hkeep : ∀ (k : Nat) (cur : Array Value) (t : TypeId), w.heap[k]? = some (.cells cur t (0, 0)) → t ≠ 27 → (((w.setCell ⟨c, 0, none⟩ x).setCell ⟨c, 1, none⟩ y).setCell ⟨c, 2, none⟩ z).heap[k]? = w.heap[k]? := fun k cur t hk ht =>
    three_far w c x y z k (fun e => by
      subst e
      unfold DBx at hx
      rw [hk] at hx
      simp at hx
      exact ht hx.2)
  refine ⟨h.qb.keep (hkeep _ _ _ h.qb.blk (by decide)) (fun g hg => ?_), h.dl.keep (fun g cur _ _ hg => hkeep _ _ _ hg (by decide)), h.hb, by simpa using h.hw, h.hA⟩
  rcases h.qb.own.form with ⟨e, _⟩ | ⟨g', R', e, _, _, hg', _⟩
  · rw [e] at hg; simp at hg
  · rw [e] at hg
    simp at hg
    subst hg
    exact hkeep _ _ _ hg' (by decide)
/-- The box is written anew. -/
theorem DBx.setAll {w : World} {c r0 room : Nat} {n0 now : Int} {s0 : Value} (h : DBx w c r0 n0 s0) (s : Value) : DBx (((w.setCell ⟨c, 0, none⟩ (.int .i64 (room : Int))).setCell ⟨c, 1, none⟩ (.int .i64 now)).setCell ⟨c, 2, none⟩ s) c room now s := by
  unfold DBx at *
  simp [World.setCell, Array.getElem?_modify, h]
theorem DBx.far {w : World} {b room c : Nat} {now : Int} {s : Value} (h : DBx w b room now s) (hc : b ≠ c) (x y z : Value) : DBx (((w.setCell ⟨c, 0, none⟩ x).setCell ⟨c, 1, none⟩ y).setCell ⟨c, 2, none⟩ z) b room now s := h.keep (three_far w c x y z b hc)
theorem Lo.got_new {w : World} {b : Nat} {Q0 : Qn} {A0 : Option Addr} {C0 : Nat} {D : Option Addr} {C2 : Nat} {W : World} (h : Lo w b Q0 A0 C0 D C2 W) {w2 : World} {Q : Qn} {A : Option Addr} {C : Nat} {D' : Option Addr} {C2' : Nat} (h2 : Two w2 (w.heap.size + 2) b Q A C D' C2') (hb : Below (w.heap.size + 2) W w2) :
    Got w b Q0 D C2 Q A C D' C2' w2.heap.size (w2.alloc (.cells #[.int .i64 (Q.room : Int), .int .i64 Q.now, .slice D' Q.l.length C2'] 27)) := by
  have ha : Below w2.heap.size w2 (w2.alloc (.cells #[.int .i64 (Q.room : Int), .int .i64 Q.now, .slice D' Q.l.length C2'] 27)) := (Below.refl _ _).alloc (Nat.le_refl _) _
  have r := h.res.below hb (by omega)
  have x := h.box.below hb (by omega)
  exact ⟨h2.below ha, r.below ha r.lt, x.below ha x.lt, DBx.new w2 _ _ _, h2.hw, (h.bel.trans (hb.mono (by omega))).trans (ha.mono (by have := h2.hw; omega))⟩
theorem Lo.got_old {w : World} {b : Nat} {Q0 : Qn} {A0 : Option Addr} {C0 : Nat} {D : Option Addr} {C2 : Nat} {W : World} (h : Lo w b Q0 A0 C0 D C2 W) {w2 : World} {Q : Qn} {A : Option Addr} {C : Nat} {D' : Option Addr} {C2' : Nat} (h2 : Two w2 (w.heap.size + 2) b Q A C D' C2') (hb : Below (w.heap.size + 2) W w2) {c r0 : Nat} {n0 : Int} {s0 : Value} (hx : DBx w2 c r0 n0 s0) (hc : w.heap.size + 2 ≤ c) :
    Got w b Q0 D C2 Q A C D' C2' c (((w2.setCell ⟨c, 0, none⟩ (.int .i64 (Q.room : Int))).setCell ⟨c, 1, none⟩ (.int .i64 Q.now)).setCell ⟨c, 2, none⟩ (.slice D' Q.l.length C2')) := by
  have r := h.res.below hb (by omega)
  have x := h.box.below hb (by omega)
  exact ⟨h2.three hx _ _ _, r.far (by omega) _ _ _, x.far (by omega) _ _ _, DBx.setAll hx _, hc, three_below (h.bel.trans (hb.mono (by omega))) _ (by omega) _ _ _⟩
theorem Got.below {w : World} {b : Nat} {Q0 : Qn} {D : Option Addr} {C2 : Nat} {Q : Qn} {A : Option Addr} {C : Nat} {D' : Option Addr} {C2' c : Nat} {W W' : World} (h : Got w b Q0 D C2 Q A C D' C2' c W) (hb : Below W.heap.size W W') : Got w b Q0 D C2 Q A C D' C2' c W' :=
  ⟨h.two.below hb, h.res.below hb h.res.lt, h.box.below hb h.box.lt, h.want.below hb h.want.lt, h.far, h.bel.trans (hb.mono h.bel.size)⟩
/-- The play's box is written. -/
theorem Got.lo {w : World} {b : Nat} {Q0 : Qn} {D : Option Addr} {C2 : Nat} {Q : Qn} {A : Option Addr} {C : Nat} {D' : Option Addr} {C2' c : Nat} {W : World} (h : Got w b Q0 D C2 Q A C D' C2' c W) : Lo w b Q A C D' C2' (((W.setCell ⟨w.heap.size + 1, 0, none⟩ (.int .i64 (Q.room : Int))).setCell ⟨w.heap.size + 1, 1, none⟩ (.int .i64 Q.now)).setCell ⟨w.heap.size + 1, 2, none⟩ (.slice D' Q.l.length C2')) :=
  ⟨h.two.three h.box _ _ _, h.res.far (by omega) _ _ _, DBx.setAll h.box _, three_below h.bel _ (by omega) _ _ _⟩
/-- The result is written. -/
theorem Lo.fin {w : World} {b : Nat} {Q : Qn} {A : Option Addr} {C : Nat} {D : Option Addr} {C2 : Nat} {W : World} (h : Lo w b Q A C D C2 W) (x y z : Value) : Fin11 w b Q D C2 (((W.setCell ⟨w.heap.size, 0, none⟩ x).setCell ⟨w.heap.size, 1, none⟩ y).setCell ⟨w.heap.size, 2, none⟩ z) :=
  ⟨A, C, h.two.three h.res _ _ _, three_below h.bel _ (Nat.le_refl _) _ _ _⟩
theorem Fin11.bel {w : World} {b : Nat} {Q : Qn} {D : Option Addr} {C2 : Nat} {W : World} (h : Fin11 w b Q D C2 W) : Below w.heap.size w W := by
  obtain ⟨_, _, _, h⟩ := h
  exact h
set_option maxRecDepth 100000 in
set_option maxHeartbeats 4000000 in
theorem played11_any (room : Nat) (h1 : 1 ≤ room) (h2 : room ≤ 40) (a : Option Addr) (n c : Nat) (hn : n ≤ 80) (K N V : Nat → Int) (w : World) (ho : Ops w a n K N V) :
    Calls Try.prog 8 #[.int .i64 (room : Int), .slice a n c] w fun x W => ∃ b Q D C2, x = .returned (.tuple #[.pointer (some ⟨b, 0, none⟩), DV Q.room Q.now D Q.l.length C2, .bool true]) ∧ Hid (Q.fit ∧ Q.room = room) ∧ Hid (Fin11 w b Q D C2 W) := by
  have HO := Lib.hid ho
  have n0 : ¬ (room : Int) < 1 := by omega
  have n1 : ¬ (40 : Int) < (room : Int) := by omega
  have n2 : ¬ (80 : Int) < (n : Int) := by omega
  have CN := Lib.hid (new_from room h1 (by omega))
  have HN := Lib.hid hn
  have HF0 : Hid ((⟨room, 0, []⟩ : Qn).fit ∧ (⟨room, 0, []⟩ : Qn).room = room) := Lib.hid ⟨Qn.new_fit room h1 (by omega), rfl⟩
  clear ho h1 h2 hn
  go_enter Try.func8, Try.ntmps8
  go_upto_region 2 with fail
  obtain ⟨W, hW⟩ : ∃ W, W = (w.alloc (.cells #[.int .i64 0, .int .i64 0, .slice none 0 0] 27)).alloc (.cells #[.int .i64 (room : Int), .int .i64 0, .slice none 0 0] 27) := ⟨_, rfl⟩
  rw [← hW]
  have H0 := Lib.hid (fun w1 => Lo.start w room hW (w1 := w1))
  clear hW
  go_wp2_with (first
    | (go_at_call 14; (with_reducible refine (CN.out _).mono ?_); rintro e w1 ⟨rfl, HR, HB⟩)
    | fail)
  obtain ⟨A0, C0, hl0⟩ := H0.out w1 HR.out HB.out
  have HLO := Lib.hid hl0
  clear H0 HR HB CN n0 n1 n2 hl0
  generalize W.heap.size = b at *
  go_loopw [10] (fun i wr => ∃ (j : Nat) (Q : Qn) (A : Option Addr) (C : Nat) (D : Option Addr) (C2 : Nat), i = .int .i64 (j : Int) ∧ j ≤ n ∧ Hid (Q.fit ∧ Q.room = room) ∧ Hid (Lo w b Q A C D C2 wr)) (fun i _ => n - (intOf i).toNat)
  case atStart => exact ⟨0, ⟨room, 0, []⟩, A0, C0, none, 0, rfl, Nat.zero_le _, Lib.hid ⟨HF0.out.1, rfl⟩, HLO⟩
  case round =>
    obtain ⟨j, Q, A, C, D, C2, rfl, hj, HF, HL⟩ := hrel
    obtain ⟨wo, hwo⟩ : ∃ wo, wo = wr := ⟨_, rfl⟩
    subst hwo
    by_cases hlt : j < n
    · obtain ⟨g, off, rfl, c0, c1, c2⟩ : ∃ g off, a = some ⟨g, off, none⟩ ∧ wo.cell? ⟨g, off + j * 3, none⟩ = some (.int .i64 (K j)) ∧ wo.cell? ⟨g, off + j * 3 + 1, none⟩ = some (.int .i64 (N j)) ∧ wo.cell? ⟨g, off + j * 3 + 2, none⟩ = some (.int .i64 (V j)) := by
        rcases HO.out.below HL.out.bel (Nat.le_refl _) with h | ⟨g, off, e, _, h⟩
        · omega
        · exact ⟨g, off, e, h j hlt⟩
      have hnn := HN.out
      have k1 : (j : Int) < n := by omega
      have k2 : (0 : Int) ≤ (j : Int) := by omega
      have k3 : (j : Int) ≤ 80 := by omega
      have HJK : Hid (j + 1 ≤ n) := Lib.hid (by omega)
      obtain ⟨Q2, hQ2⟩ : ∃ Q2, Q2 = Q.act (K j) (N j) (V j) := ⟨_, rfl⟩
      have HF2 : Hid (Q2.fit ∧ Q2.room = room) := Lib.hid (by rw [hQ2]; exact ⟨Qn.act_fit HF.out.1 _ _ _, (Qn.act_room Q _ _ _).trans HF.out.2⟩)
      have HDO : Hid (∀ w', Below wo.heap.size wo w' → Calls Try.prog 19 #[.pointer (some ⟨b, 0, none⟩), DV Q.room Q.now D Q.l.length C2, .agg #[.int .i64 (K j), .int .i64 (N j), .int .i64 (V j)]] w' (DoTo w' (w.heap.size + 2) b Q2)) := Lib.hid (fun w' hb => by
        rw [hQ2]
        exact do_any (K j) (N j) (V j) (w.heap.size + 2) b Q A C D C2 HF.out.1 w' (HL.out.two.below hb))
      have CD1 := Lib.hid (HDO.out wo.drew (Below.refl _ _).drew)
      have CD2 := Lib.hid (HDO.out (wo.alloc (.cells #[.int .i64 0, .int .i64 0, .slice none 0 0] 27)).drew ((Below.refl _ _).alloc (Nat.le_refl _) _).drew)
      have HNB : Hid (∀ w2, Keep (wo.alloc (.cells #[.int .i64 0, .int .i64 0, .slice none 0 0] 27)).drew w2 → DBx w2 wo.heap.size 0 0 (.slice none 0 0)) := Lib.hid (fun w2 hk => by
        have h0 : DBx (wo.alloc (.cells #[.int .i64 0, .int .i64 0, .slice none 0 0] 27)).drew wo.heap.size 0 0 (.slice none 0 0) := DBx.new wo 0 0 (.slice none 0 0)
        exact h0.kept hk)
      have HALL : Hid (∀ w', Below (w.heap.size + 2) wo w' → w'.cell? ⟨w.heap.size + 1, 0, none⟩ = some (.int .i64 (Q.room : Int)) ∧ w'.cell? ⟨w.heap.size + 1, 1, none⟩ = some (.int .i64 Q.now) ∧ w'.cell? ⟨w.heap.size + 1, 2, none⟩ = some (.slice D Q.l.length C2) ∧ w'.cell? ⟨g, off + j * 3, none⟩ = some (.int .i64 (K j)) ∧ w'.cell? ⟨g, off + j * 3 + 1, none⟩ = some (.int .i64 (N j)) ∧ w'.cell? ⟨g, off + j * 3 + 2, none⟩ = some (.int .i64 (V j))) := Lib.hid (fun w' hb => by
        have hg : g < w.heap.size + 2 := by
          rcases HO.out with h | ⟨g', off', e, hl, _⟩
          · omega
          · cases e; omega
        obtain ⟨q0, q1, q2⟩ := (HL.out.box.below hb (by omega)).cells
        exact ⟨q0, q1, q2, (hb.cell (p := ⟨g, off + j * 3, none⟩) hg).trans c0, (hb.cell (p := ⟨g, off + j * 3 + 1, none⟩) hg).trans c1, (hb.cell (p := ⟨g, off + j * 3 + 2, none⟩) hg).trans c2⟩)
      have HSZ : Hid (w.heap.size + 2 ≤ wo.heap.size) := Lib.hid HL.out.two.hw
      clear hlt hj hnn c0 c1 c2 HDO HO hQ2
      generalize K j = kd at *
      generalize N j = nn at *
      generalize V j = vv at *
      unfold DV at CD1 CD2
      go_upto_region 10 with fail
      go_cut [11, 12] from 45 to 54 (fun s11 s12 wx => ∃ (A' : Option Addr) (C' : Nat) (D' : Option Addr) (C2' c' : Nat), s11 = .pointer (some ⟨c', 0, none⟩) ∧ s12 = .bool true ∧ Hid (Got w b Q D C2 Q2 A' C' D' C2' c' wx))
      case first =>
        go_region_held3 (fun w' => w'.cell? ⟨w.heap.size + 1, 0, none⟩ = some (.int .i64 (Q.room : Int)) ∧ w'.cell? ⟨w.heap.size + 1, 1, none⟩ = some (.int .i64 Q.now) ∧ w'.cell? ⟨w.heap.size + 1, 2, none⟩ = some (.slice D Q.l.length C2) ∧ w'.cell? ⟨g, off + j * 3, none⟩ = some (.int .i64 kd) ∧ w'.cell? ⟨g, off + j * 3 + 1, none⟩ = some (.int .i64 nn) ∧ w'.cell? ⟨g, off + j * 3 + 2, none⟩ = some (.int .i64 vv))
          (first | exact HALL.out _ (Below.refl _ _) | exact HALL.out _ (Below.refl _ _).drew | exact HALL.out _ ((Below.refl _ _).alloc HSZ.out _).drew | exact HALL.out _ ((Below.refl _ _).drew.trans HB2.out) | exact HALL.out _ (((Below.refl _ _).drew.trans HB2.out).alloc HSZ2.out _) | exact HALL.out _ (((Below.refl _ _).alloc HSZ.out _).drew.trans HB2.out) | exact HALL.out _ (three_below (((Below.refl _ _).alloc HSZ.out _).drew.trans HB2.out) wo.heap.size HSZ.out _ _ _) | exact HALL.out _ (three_below (((Below.refl _ _).drew.trans HB2.out).alloc HSZ2.out _) w2.heap.size HSZ2.out _ _ _))
          (first
            | (go_at_call 19; (with_reducible refine (CD1.out).mono ?_); rintro e w2 ⟨A', C', D', C2', rfl, HT, HB2, HK2⟩; unfold DV; have HSZ2 := Lib.hid HT.out.hw)
            | (go_at_call 19; (with_reducible refine (CD2.out).mono ?_); rintro e w2 ⟨A', C', D', C2', rfl, HT, HB2, HK2⟩; unfold DV; have HNW := Lib.hid (HNB.out _ HK2.out); obtain ⟨t0, t1, t2⟩ := HNW.out.cells; have tf0 := HNW.out.frozen 0; have tf1 := HNW.out.frozen 1; have tf2 := HNW.out.frozen 2)
            | fail)
        all_goals
          go_wp2_with fail
          go_meet
          first
          | exact ⟨_, _, _, _, _, rfl, rfl, Lib.hid (HL.out.got_new HT.out ((Below.refl _ _).drew.trans HB2.out))⟩
          | exact ⟨_, _, _, _, _, rfl, rfl, Lib.hid (HL.out.got_old HT.out (((Below.refl _ _).alloc HSZ.out _).drew.trans HB2.out) HNW.out HSZ.out)⟩
      case rest =>
        obtain ⟨A', C', D', C2', c', rfl, rfl, HG⟩ := hcut
        have hwt := HG.out.want
        obtain ⟨t0, t1, t2⟩ := hwt.cells
        have HSM : Hid (Calls Try.prog 20 #[.pointer (some ⟨b, 0, none⟩), DV Q2.room Q2.now D' Q2.l.length C2'] wc fun e w' => e = .returned (.bool true) ∧ Below wc.heap.size wc w') := Lib.hid (same11_any b Q2 HF2.out.1 A' C' (w.heap.size + 2) D' Q2.l.length C2' rfl wc HG.out.two.qb HG.out.two.dl)
        clear HALL CD1 CD2 HNB HSZ HL HF hwt
        unfold DV at HSM
        go_wp2_with (first
          | (go_at_call 20; (with_reducible refine (HSM.out).mono ?_); rintro e w3 ⟨rfl, hb3⟩; have HG3 := Lib.hid (HG.out.below hb3); clear hb3; obtain ⟨y0, y1, y2⟩ := HG3.out.want.cells; obtain ⟨v0, v1, v2⟩ := HG3.out.box.cells; have vf0 := HG3.out.box.frozen 0; have vf1 := HG3.out.box.frozen 1; have vf2 := HG3.out.box.frozen 2)
          | fail)
        go_roundw
        case rel => exact ⟨j + 1, Q2, A', C', D', C2', by go_num, HJK.out, HF2, Lib.hid HG3.out.lo⟩
        case measure => simp [intOf] <;> omega
    · obtain rfl : j = n := by omega
      have HLO := Lib.hid HL.out
      obtain ⟨q0, q1, q2⟩ := HL.out.box.cells
      obtain ⟨z0, z1, z2⟩ := HL.out.res.cells
      have zf0 := HL.out.res.frozen 0
      have zf1 := HL.out.res.frozen 1
      have zf2 := HL.out.res.frozen 2
      clear HL HO HN
      go_upto_region 14 with fail
      go_region
      all_goals
        go_wp2
        refine bodyPost_ret (v := .tuple #[.pointer (some ⟨b, 0, none⟩), DV Q.room Q.now D Q.l.length C2, .bool true]) (by simp [results, Try.results8, go_sem, z0, z1, z2, DV]) rfl ?_
        exact ⟨b, Q, D, C2, rfl, HF, Lib.hid ((HLO.out.below (Below.refl _ _).drew).fin _ _ _)⟩
end Go.Proofs.Ythkckgdhaihmoaa
