/-
  Own text: the law's play: a call whatever its kind; the play, walked.
-/
import Derived.Test.YtagcpnelobidnaaPqV
import Derived.Test.YtagcpnelobidnaaPqX
import Derived.BigRegion
namespace Go.Proofs.Ytagcpnelobidnaa
open Go.RowKit

theorem do_any (K R V : Int) (hV : V ≤ 9223372036854775807) (B b k : Nat) (Q : Qn) (A : Option Addr) (C : Nat) (D : Option Addr) (n C2 : Nat) (hf : Q.fit k) (hk : k ≤ 100000) (w : World) (h : Two w B b Q A C D n C2 (Q.l.map It.di)) :
    Calls Try.prog 17 #[.pointer (some ⟨b, 0, none⟩), DV Q.room D n C2, .agg #[.int .i64 K, .int .i64 R, .int .i64 V]] w (DoTo w B (k + 1) Q.room) := by
  by_cases k0 : K = 0
  · subst k0
    exact do_push R V B b k Q A C D n C2 hf hk w h
  · by_cases k1 : K = 1
    · subst k1
      cases hq : Q.l with
      | nil => exact do_pop0 R V B b k Q A C D n C2 hq hf hk w h
      | cons x0 t0 => exact do_pop1 x0 t0 R V B b k Q A C D n C2 hq hf hk w h
    · by_cases k2 : K = 2
      · subst k2
        exact do_filter (max V 1) R V B b k Q A C D n C2 rfl (by omega) (by omega) hf hk w h
      · by_cases k3 : K = 3
        · subst k3
          exact do_clone R V B b k Q A C D n C2 hf hk w h
        · exact do_none K R V B b k Q A C D n C2 k0 k1 k2 k3 hf hk w h
/-- A script that came in. -/
def Ops (w : World) (a : Option Addr) (n : Nat) (K R V : Nat → Int) : Prop :=
  n = 0 ∨ ∃ g off, a = some ⟨g, off, none⟩ ∧ g < w.heap.size ∧ ∀ i, i < n → V i ≤ 9223372036854775807 ∧ w.cell? ⟨g, off + i * 3, none⟩ = some (.int .i64 (K i)) ∧ w.cell? ⟨g, off + i * 3 + 1, none⟩ = some (.int .i64 (R i)) ∧ w.cell? ⟨g, off + i * 3 + 2, none⟩ = some (.int .i64 (V i))
theorem Ops.below {w w' : World} {a : Option Addr} {n : Nat} {K N V : Nat → Int} (h : Ops w a n K N V) {B : Nat} (hb : Below B w w') (hB : w.heap.size ≤ B) : Ops w' a n K N V :=
  h.imp id fun ⟨g, off, e, hl, hc⟩ => ⟨g, off, e, Nat.lt_of_lt_of_le hl hb.size, fun i hi => ⟨(hc i hi).1, (hb.cell (p := ⟨g, off + i * 3, none⟩) (by show g < B; omega)).trans (hc i hi).2.1, (hb.cell (p := ⟨g, off + i * 3 + 1, none⟩) (by show g < B; omega)).trans (hc i hi).2.2.1, (hb.cell (p := ⟨g, off + i * 3 + 2, none⟩) (by show g < B; omega)).trans (hc i hi).2.2.2⟩⟩
/-- What holds between two calls of a play that began at w. -/
structure Lo (w : World) (room b : Nat) (Q : Qn) (A : Option Addr) (C : Nat) (D : Option Addr) (n C2 : Nat) (W : World) : Prop where
  two : Two W (w.heap.size + 2) b Q A C D n C2 (Q.l.map It.di)
  res : DBx W w.heap.size 0 (.slice none 0 0)
  box : DBx W (w.heap.size + 1) room (.slice D n C2)
  bel : Below w.heap.size w W
theorem Lo.below {w : World} {room b : Nat} {Q : Qn} {A : Option Addr} {C : Nat} {D : Option Addr} {n C2 : Nat} {W W' : World} (h : Lo w room b Q A C D n C2 W) (hb : Below W.heap.size W W') : Lo w room b Q A C D n C2 W' :=
  ⟨h.two.below hb, h.res.below hb h.res.lt, h.box.below hb h.box.lt, h.bel.trans (hb.mono h.bel.size)⟩
theorem Lo.start (w : World) (room : Nat) {W : World} (hW : W = (w.alloc (.cells #[.int .i64 0, .slice none 0 0] 27)).alloc (.cells #[.int .i64 (room : Int), .slice none 0 0] 27)) {w1 : World} (hr : From w1 W.heap.size W.heap.size ⟨room, 0, []⟩) (hb1 : Below W.heap.size W w1) : ∃ A C, Lo w room W.heap.size ⟨room, 0, []⟩ A C none 0 0 w1 := by
  have hs : W.heap.size = w.heap.size + 2 := by rw [hW]; simp
  have hb : Below w.heap.size w W := by rw [hW]; exact ((Below.refl w.heap.size w).alloc (Nat.le_refl _) _).alloc (by simp) _
  have h0 := DBx.new w 0 (.slice none 0 0)
  have h0' : DBx W w.heap.size 0 (.slice none 0 0) := by rw [hW]; exact h0.keep (Below.heap_alloc _ _ _ (by simp))
  have h1 := DBx.new (w.alloc (.cells #[.int .i64 0, .slice none 0 0] 27)) room (.slice none 0 0)
  have h1' : DBx W (w.heap.size + 1) room (.slice none 0 0) := by rw [hW]; simpa using h1
  obtain ⟨A, C, q, q1, q2, q3⟩ := hr
  refine ⟨A, C, ⟨q, ⟨rfl, ⟨Nat.le_refl _, by decide⟩, .inl rfl⟩, by omega, by omega, fun k hk => by have := q3 k hk; omega⟩, h0'.below hb1 h0'.lt, h1'.below hb1 h1'.lt, hb.trans (hb1.mono (by omega))⟩
/-- A call of the script: what is next to the boxes. -/
theorem Lo.did {w : World} {room b : Nat} {Q : Qn} {A : Option Addr} {C : Nat} {D : Option Addr} {n C2 : Nat} {W : World} (h : Lo w room b Q A C D n C2 W) {W' : World} {b' : Nat} {Q' : Qn} {A' : Option Addr} {C' : Nat} {D' : Option Addr} {n' C2' : Nat} (h2 : Two W' (w.heap.size + 2) b' Q' A' C' D' n' C2' (Q'.l.map It.di)) (hb : Below (w.heap.size + 2) W W') :
    Two W' (w.heap.size + 2) b' Q' A' C' D' n' C2' (Q'.l.map It.di) ∧ DBx W' w.heap.size 0 (.slice none 0 0) ∧ DBx W' (w.heap.size + 1) room (.slice D n C2) ∧ Below w.heap.size w W' :=
  ⟨h2, h.res.below hb (by omega), h.box.below hb (by omega), h.bel.trans (hb.mono (by omega))⟩
/-- What the play leaves. -/
def Fin10 (w : World) (b : Nat) (Q : Qn) (D : Option Addr) (n C2 : Nat) (W : World) : Prop := ∃ A C, Two W (w.heap.size + 2) b Q A C D n C2 (Q.l.map It.di) ∧ Below w.heap.size w W
/-- A call has been gone through: its list lies in a box. -/
structure Got (w : World) (room b : Nat) (Q : Qn) (A : Option Addr) (C : Nat) (D : Option Addr) (n C2 : Nat) (D' : Option Addr) (n' C2' c : Nat) (W : World) : Prop where
  two : Two W (w.heap.size + 2) b Q A C D' n' C2' (Q.l.map It.di)
  res : DBx W w.heap.size 0 (.slice none 0 0)
  box : DBx W (w.heap.size + 1) room (.slice D n C2)
  want : DBx W c room (.slice D' n' C2')
  far : w.heap.size + 2 ≤ c
  bel : Below w.heap.size w W
theorem Two.other {w : World} {B b : Nat} {Q : Qn} {A : Option Addr} {C : Nat} {D : Option Addr} {n C2 : Nat} {L : List DI} (h : Two w B b Q A C D n C2 L) {p : Addr} {room : Nat} {s : Value} (hx : DBx w p.block room s) (v : Value) : Two (w.setCell p v) B b Q A C D n C2 L := by
  have hkeep : ∀ (k : Nat) (cur : Array Value) (t : TypeId), w.heap[k]? = some (.cells cur t (0, 0)) → t ≠ 27 → (w.setCell p v).heap[k]? = w.heap[k]? := fun k cur t hk ht => by
    refine Below.heap_setCell _ p _ k (fun e => ?_)
    rw [e] at hk
    unfold DBx at hx
    rw [hk] at hx
    simp at hx
    exact ht hx.2
  refine ⟨h.qb.keep (hkeep _ _ _ h.qb.blk (by decide)) (fun g hg => ?_), h.dl.keep (fun g cur _ _ hg => hkeep _ _ _ hg (by decide)), h.hb, by simpa using h.hw, h.hA⟩
  rcases h.qb.own.form with ⟨e, _⟩ | ⟨g', R', e, _, _, hg', _⟩
  · rw [e] at hg; simp at hg
  · rw [e] at hg
    simp at hg
    subst hg
    exact hkeep _ _ _ hg' (by decide)
/-- The box is written anew. -/
theorem DBx.setBoth {w : World} {c r0 room : Nat} {s0 : Value} (h : DBx w c r0 s0) (s : Value) : DBx ((w.setCell ⟨c, 0, none⟩ (.int .i64 (room : Int))).setCell ⟨c, 1, none⟩ s) c room s := by
  unfold DBx at *
  simp [World.setCell, Array.getElem?_modify, h]
theorem Lo.got_new {w : World} {room b : Nat} {Q : Qn} {A : Option Addr} {C : Nat} {D : Option Addr} {n C2 : Nat} {W : World} (h : Lo w room b Q A C D n C2 W) {w2 : World} {b' : Nat} {Q' : Qn} {A' : Option Addr} {C' : Nat} {D' : Option Addr} {n' C2' : Nat} (h2 : Two w2 (w.heap.size + 2) b' Q' A' C' D' n' C2' (Q'.l.map It.di)) (hb : Below (w.heap.size + 2) W w2) :
    Got w room b' Q' A' C' D n C2 D' n' C2' w2.heap.size (w2.alloc (.cells #[.int .i64 (room : Int), .slice D' n' C2'] 27)) := by
  obtain ⟨t, r, x, bl⟩ := h.did h2 hb
  have ha : Below w2.heap.size w2 (w2.alloc (.cells #[.int .i64 (room : Int), .slice D' n' C2'] 27)) := (Below.refl _ _).alloc (Nat.le_refl _) _
  exact ⟨t.below ha, r.below ha r.lt, x.below ha x.lt, DBx.new w2 room _, t.hw, bl.trans (ha.mono (by have := t.hw; omega))⟩
theorem Lo.got_old {w : World} {room b : Nat} {Q : Qn} {A : Option Addr} {C : Nat} {D : Option Addr} {n C2 : Nat} {W : World} (h : Lo w room b Q A C D n C2 W) {w2 : World} {b' : Nat} {Q' : Qn} {A' : Option Addr} {C' : Nat} {D' : Option Addr} {n' C2' : Nat} (h2 : Two w2 (w.heap.size + 2) b' Q' A' C' D' n' C2' (Q'.l.map It.di)) (hb : Below (w.heap.size + 2) W w2) {c r0 : Nat} {s0 : Value} (hx : DBx w2 c r0 s0) (hc : w.heap.size + 2 ≤ c) :
    Got w room b' Q' A' C' D n C2 D' n' C2' c ((w2.setCell ⟨c, 0, none⟩ (.int .i64 (room : Int))).setCell ⟨c, 1, none⟩ (.slice D' n' C2')) := by
  obtain ⟨t, r, x, bl⟩ := h.did h2 hb
  have t1 := t.other (p := ⟨c, 0, none⟩) hx (.int .i64 (room : Int))
  have x1 : DBx (w2.setCell ⟨c, 0, none⟩ (.int .i64 (room : Int))) c room s0 := by
    unfold DBx at *
    simp [World.setCell, Array.getElem?_modify, hx]
  have r1 := (r.other (p := ⟨c, 0, none⟩) (by show w.heap.size ≠ c; omega) (.int .i64 (room : Int))).other (p := ⟨c, 1, none⟩) (by show w.heap.size ≠ c; omega) (.slice D' n' C2')
  have b1 := (x.other (p := ⟨c, 0, none⟩) (by show w.heap.size + 1 ≠ c; omega) (.int .i64 (room : Int))).other (p := ⟨c, 1, none⟩) (by show w.heap.size + 1 ≠ c; omega) (.slice D' n' C2')
  exact ⟨t1.other (p := ⟨c, 1, none⟩) x1 _, r1, b1, DBx.setBoth hx _, hc, (bl.setCell (p := ⟨c, 0, none⟩) (by show w.heap.size ≤ c; omega) _).setCell (p := ⟨c, 1, none⟩) (by show w.heap.size ≤ c; omega) _⟩
theorem Got.below {w : World} {room b : Nat} {Q : Qn} {A : Option Addr} {C : Nat} {D : Option Addr} {n C2 : Nat} {D' : Option Addr} {n' C2' c : Nat} {W W' : World} (h : Got w room b Q A C D n C2 D' n' C2' c W) (hb : Below W.heap.size W W') : Got w room b Q A C D n C2 D' n' C2' c W' :=
  ⟨h.two.below hb, h.res.below hb h.res.lt, h.box.below hb h.box.lt, h.want.below hb h.want.lt, h.far, h.bel.trans (hb.mono h.bel.size)⟩
/-- The play's box is written. -/
theorem Got.lo {w : World} {room b : Nat} {Q : Qn} {A : Option Addr} {C : Nat} {D : Option Addr} {n C2 : Nat} {D' : Option Addr} {n' C2' c : Nat} {W : World} (h : Got w room b Q A C D n C2 D' n' C2' c W) : Lo w room b Q A C D' n' C2' ((W.setCell ⟨w.heap.size + 1, 0, none⟩ (.int .i64 (room : Int))).setCell ⟨w.heap.size + 1, 1, none⟩ (.slice D' n' C2')) := by
  have t1 := h.two.other (p := ⟨w.heap.size + 1, 0, none⟩) h.box (.int .i64 (room : Int))
  have hx := h.box
  have x1 : DBx (W.setCell ⟨w.heap.size + 1, 0, none⟩ (.int .i64 (room : Int))) (w.heap.size + 1) room (.slice D n C2) := by
    unfold DBx at *
    simp [World.setCell, Array.getElem?_modify, hx]
  have r1 := (h.res.other (p := ⟨w.heap.size + 1, 0, none⟩) (by show w.heap.size ≠ w.heap.size + 1; omega) (.int .i64 (room : Int))).other (p := ⟨w.heap.size + 1, 1, none⟩) (by show w.heap.size ≠ w.heap.size + 1; omega) (.slice D' n' C2')
  exact ⟨t1.other (p := ⟨w.heap.size + 1, 1, none⟩) x1 _, r1, DBx.setBoth h.box _, (h.bel.setCell (p := ⟨w.heap.size + 1, 0, none⟩) (by show w.heap.size ≤ w.heap.size + 1; omega) _).setCell (p := ⟨w.heap.size + 1, 1, none⟩) (by show w.heap.size ≤ w.heap.size + 1; omega) _⟩
/-- The result is written. -/
theorem Lo.fin {w : World} {room b : Nat} {Q : Qn} {A : Option Addr} {C : Nat} {D : Option Addr} {n C2 : Nat} {W : World} (h : Lo w room b Q A C D n C2 W) (x y : Value) : Fin10 w b Q D n C2 ((W.setCell ⟨w.heap.size, 0, none⟩ x).setCell ⟨w.heap.size, 1, none⟩ y) := by
  have hx := h.res
  have t1 := h.two.other (p := ⟨w.heap.size, 0, none⟩) h.res x
  have hkeep : ∀ (k : Nat) (cur : Array Value) (t : TypeId), W.heap[k]? = some (.cells cur t (0, 0)) → t ≠ 27 → ((W.setCell ⟨w.heap.size, 0, none⟩ x).setCell ⟨w.heap.size, 1, none⟩ y).heap[k]? = W.heap[k]? := fun k cur t hk ht => by
    have h1 : k ≠ w.heap.size := fun e => by
      subst e
      unfold DBx at hx
      rw [hk] at hx
      simp at hx
      exact ht hx.2
    rw [Below.heap_setCell _ ⟨w.heap.size, 1, none⟩ _ k h1, Below.heap_setCell _ ⟨w.heap.size, 0, none⟩ _ k h1]
  have ht := h.two
  refine ⟨A, C, ⟨ht.qb.keep (hkeep _ _ _ ht.qb.blk (by decide)) (fun g hg => ?_), ht.dl.keep (fun g cur _ _ hg => hkeep _ _ _ hg (by decide)), ht.hb, by simpa using ht.hw, ht.hA⟩, (h.bel.setCell (p := ⟨w.heap.size, 0, none⟩) (Nat.le_refl _) _).setCell (p := ⟨w.heap.size, 1, none⟩) (Nat.le_refl _) _⟩
  rcases ht.qb.own.form with ⟨e, _⟩ | ⟨g', R', e, _, _, hg', _⟩
  · rw [e] at hg; simp at hg
  · rw [e] at hg
    simp at hg
    subst hg
    exact hkeep _ _ _ hg' (by decide)
theorem Fin10.bel {w : World} {b : Nat} {Q : Qn} {D : Option Addr} {n C2 : Nat} {W : World} (h : Fin10 w b Q D n C2 W) : Below w.heap.size w W := by
  obtain ⟨_, _, _, h⟩ := h
  exact h
theorem Fin10.drewN {w : World} {b : Nat} {Q : Qn} {D : Option Addr} {n C2 : Nat} {W : World} (h : Fin10 w b Q D n C2 W) (j : Nat) : Fin10 w b Q D n C2 (W.drewN j) := by
  obtain ⟨A, C, h1, h2⟩ := h
  exact ⟨A, C, ⟨h1.qb.drewN j, h1.dl.keep (fun _ _ _ _ _ => rfl), h1.hb, h1.hw, h1.hA⟩, below_drewN h2 j⟩
set_option maxRecDepth 100000 in
set_option maxHeartbeats 4000000 in
theorem played10_any (room : Nat) (h1 : 1 ≤ room) (h2 : room ≤ 40) (a : Option Addr) (n c : Nat) (hn : n ≤ 80) (K N V : Nat → Int) (w : World) (ho : Ops w a n K N V) :
    Calls Try.prog 8 #[.int .i64 (room : Int), .slice a n c] w fun x W => ∃ b Q D m C2, x = .returned (.tuple #[.pointer (some ⟨b, 0, none⟩), DV room D m C2, .bool true]) ∧ Hid (Q.fit 80 ∧ Q.room = room) ∧ Hid (Fin10 w b Q D m C2 W) := by
  have HO := Lib.hid ho
  have n0 : ¬ (room : Int) < 1 := by omega
  have n1 : ¬ (40 : Int) < (room : Int) := by omega
  have n2 : ¬ (80 : Int) < (n : Int) := by omega
  have CN := Lib.hid (new_from room h1 (by omega))
  have HN := Lib.hid hn
  have HRM : Hid (1 ≤ room ∧ room ≤ 256) := Lib.hid ⟨h1, by omega⟩
  clear ho h1 h2 hn
  go_enter Try.func8, Try.ntmps8
  go_upto_region 2 with fail
  obtain ⟨W, hW⟩ : ∃ W, W = (w.alloc (.cells #[.int .i64 0, .slice none 0 0] 27)).alloc (.cells #[.int .i64 (room : Int), .slice none 0 0] 27) := ⟨_, rfl⟩
  rw [← hW]
  have H0 := Lib.hid (fun w1 => Lo.start w room hW (w1 := w1))
  clear hW
  go_wp2_with (first
    | (go_at_call 12; (with_reducible refine (CN.out _).mono ?_); rintro e w1 ⟨rfl, HR, HB⟩)
    | fail)
  obtain ⟨A0, C0, hl0⟩ := H0.out w1 HR.out HB.out
  have HLO := Lib.hid hl0
  have HF0 : Hid ((⟨room, 0, []⟩ : Qn).fit 0 ∧ (⟨room, 0, []⟩ : Qn).room = room) := Lib.hid ⟨new_fit room HRM.out.1 HRM.out.2, rfl⟩
  clear H0 HR HB CN n0 n1 n2 hl0 HRM
  generalize W.heap.size = b0 at *
  go_loopw [8, 10] (fun p i wr => ∃ (b j : Nat) (Q : Qn) (A : Option Addr) (C : Nat) (D : Option Addr) (m C2 : Nat), p = .pointer (some ⟨b, 0, none⟩) ∧ i = .int .i64 (j : Int) ∧ j ≤ n ∧ Hid (Q.fit j ∧ Q.room = room) ∧ Hid (Lo w room b Q A C D m C2 wr)) (fun _ i _ => n - (intOf i).toNat)
  case atStart => exact ⟨b0, 0, ⟨room, 0, []⟩, A0, C0, none, 0, 0, rfl, rfl, Nat.zero_le _, HF0, HLO⟩
  case round =>
    obtain ⟨b, j, Q, A, C, D, m, C2, rfl, rfl, hj, HF, HL⟩ := hrel
    obtain ⟨wo, hwo⟩ : ∃ wo, wo = wr := ⟨_, rfl⟩
    subst hwo
    by_cases hlt : j < n
    · obtain ⟨g, off, rfl, hv, c0, c1, c2⟩ : ∃ g off, a = some ⟨g, off, none⟩ ∧ V j ≤ 9223372036854775807 ∧ wo.cell? ⟨g, off + j * 3, none⟩ = some (.int .i64 (K j)) ∧ wo.cell? ⟨g, off + j * 3 + 1, none⟩ = some (.int .i64 (N j)) ∧ wo.cell? ⟨g, off + j * 3 + 2, none⟩ = some (.int .i64 (V j)) := by
        rcases HO.out.below HL.out.bel (Nat.le_refl _) with h | ⟨g, off, e, _, h⟩
        · omega
        · exact ⟨g, off, e, h j hlt⟩
      have hnn := HN.out
      have k1 : (j : Int) < n := by omega
      have k2 : (0 : Int) ≤ (j : Int) := by omega
      have k3 : (j : Int) ≤ 80 := by omega
      have HJK : Hid (j + 1 ≤ n) := Lib.hid (by omega)
      have HDO : Hid (∀ w', Below wo.heap.size wo w' → Calls Try.prog 17 #[.pointer (some ⟨b, 0, none⟩), DV room D m C2, .agg #[.int .i64 (K j), .int .i64 (N j), .int .i64 (V j)]] w' (DoTo w' (w.heap.size + 2) (j + 1) room)) := Lib.hid (fun w' hb => by
        have := do_any (K j) (N j) (V j) hv (w.heap.size + 2) b j Q A C D m C2 HF.out.1 (by omega) w' (HL.out.two.below hb)
        rwa [HF.out.2] at this)
      have CD1 := Lib.hid (HDO.out wo.drew (Below.refl _ _).drew)
      have CD2 := Lib.hid (HDO.out (wo.alloc (.cells #[.int .i64 0, .slice none 0 0] 27)).drew ((Below.refl _ _).alloc (Nat.le_refl _) _).drew)
      have HNB : Hid (∀ w2, Keep (wo.alloc (.cells #[.int .i64 0, .slice none 0 0] 27)).drew w2 → DBx w2 wo.heap.size 0 (.slice none 0 0)) := Lib.hid (fun w2 hk => by
        have h0 : DBx (wo.alloc (.cells #[.int .i64 0, .slice none 0 0] 27)).drew wo.heap.size 0 (.slice none 0 0) := DBx.new wo 0 (.slice none 0 0)
        exact h0.keep (hk _ _ _ h0 (by decide) (by decide)))
      have HALL : Hid (∀ w', Below (w.heap.size + 2) wo w' → w'.cell? ⟨w.heap.size + 1, 0, none⟩ = some (.int .i64 (room : Int)) ∧ w'.cell? ⟨w.heap.size + 1, 1, none⟩ = some (.slice D m C2) ∧ w'.cell? ⟨g, off + j * 3, none⟩ = some (.int .i64 (K j)) ∧ w'.cell? ⟨g, off + j * 3 + 1, none⟩ = some (.int .i64 (N j)) ∧ w'.cell? ⟨g, off + j * 3 + 2, none⟩ = some (.int .i64 (V j))) := Lib.hid (fun w' hb => by
        have hg : g < w.heap.size + 2 := by
          rcases HO.out with h | ⟨g', off', e, hl, _⟩
          · omega
          · cases e; omega
        obtain ⟨q0, q1⟩ := (HL.out.box.below hb (by omega)).cells
        exact ⟨q0, q1, (hb.cell (p := ⟨g, off + j * 3, none⟩) hg).trans c0, (hb.cell (p := ⟨g, off + j * 3 + 1, none⟩) hg).trans c1, (hb.cell (p := ⟨g, off + j * 3 + 2, none⟩) hg).trans c2⟩)
      have HSZ : Hid (w.heap.size + 2 ≤ wo.heap.size) := Lib.hid HL.out.two.hw
      clear hlt hj hv hnn c0 c1 c2 HDO HO
      generalize K j = kd at *
      generalize N j = nn at *
      generalize V j = vv at *
      unfold DV at CD1 CD2
      go_upto_region 10 with fail
      go_cut [11, 12, 13] from 46 to 57 (fun s11 s12 s13 wx => ∃ (b' : Nat) (Q' : Qn) (A' : Option Addr) (C' : Nat) (D' : Option Addr) (m' C2' c' : Nat), s11 = .pointer (some ⟨b', 0, none⟩) ∧ s12 = .pointer (some ⟨c', 0, none⟩) ∧ s13 = .bool true ∧ Hid (Q'.fit (j + 1) ∧ Q'.room = room) ∧ Hid (Got w room b' Q' A' C' D m C2 D' m' C2' c' wx))
      case first =>
        go_region_held3 (fun w' => w'.cell? ⟨w.heap.size + 1, 0, none⟩ = some (.int .i64 (room : Int)) ∧ w'.cell? ⟨w.heap.size + 1, 1, none⟩ = some (.slice D m C2) ∧ w'.cell? ⟨g, off + j * 3, none⟩ = some (.int .i64 kd) ∧ w'.cell? ⟨g, off + j * 3 + 1, none⟩ = some (.int .i64 nn) ∧ w'.cell? ⟨g, off + j * 3 + 2, none⟩ = some (.int .i64 vv))
          (first | exact HALL.out _ (Below.refl _ _) | exact HALL.out _ (Below.refl _ _).drew | exact HALL.out _ ((Below.refl _ _).alloc HSZ.out _).drew | exact HALL.out _ ((Below.refl _ _).drew.trans HB2.out) | exact HALL.out _ (((Below.refl _ _).drew.trans HB2.out).alloc HSZ2.out _) | exact HALL.out _ (((Below.refl _ _).alloc HSZ.out _).drew.trans HB2.out) | exact HALL.out _ (((((Below.refl _ _).alloc HSZ.out _).drew.trans HB2.out).setCell (p := ⟨wo.heap.size, 0, none⟩) HSZ.out _).setCell (p := ⟨wo.heap.size, 1, none⟩) HSZ.out _) | exact HALL.out _ (((((Below.refl _ _).drew.trans HB2.out).alloc HSZ2.out _).setCell (p := ⟨w2.heap.size, 0, none⟩) HSZ2.out _).setCell (p := ⟨w2.heap.size, 1, none⟩) HSZ2.out _))
          (first
            | (go_at_call 17; (with_reducible refine (CD1.out).mono ?_); rintro e w2 ⟨b', Q', A', C', D', m', C2', rfl, HT, HFT, HB2, HK2⟩; unfold DV; have HSZ2 := Lib.hid HT.out.hw)
            | (go_at_call 17; (with_reducible refine (CD2.out).mono ?_); rintro e w2 ⟨b', Q', A', C', D', m', C2', rfl, HT, HFT, HB2, HK2⟩; unfold DV; have HNW := Lib.hid (HNB.out _ HK2.out); obtain ⟨t0, t1⟩ := HNW.out.cells; have tf0 := HNW.out.frozen 0; have tf1 := HNW.out.frozen 1)
            | fail)
        all_goals
          go_wp2_with fail
          go_meet
          first
          | exact ⟨_, _, _, _, _, _, _, _, rfl, rfl, rfl, HFT, Lib.hid (HL.out.got_new HT.out ((Below.refl _ _).drew.trans HB2.out))⟩
          | exact ⟨_, _, _, _, _, _, _, _, rfl, rfl, rfl, HFT, Lib.hid (HL.out.got_old HT.out (((Below.refl _ _).alloc HSZ.out _).drew.trans HB2.out) HNW.out HSZ.out)⟩
      case rest =>
        obtain ⟨b', Q', A', C', D', m', C2', c', rfl, rfl, rfl, HFT, HG⟩ := hcut
        have hwt := HG.out.want
        obtain ⟨t0, t1⟩ := hwt.cells
        have HSM : Hid (Calls Try.prog 18 #[.pointer (some ⟨b', 0, none⟩), DV room D' m' C2'] wc fun e w' => e = .returned (.bool true) ∧ Below wc.heap.size wc w') := Lib.hid (by
          have hl := HG.out.two.dl.len
          rw [List.length_map] at hl
          have := same10_any b' Q' A' C' (w.heap.size + 2) D' m' C2' (by have := HFT.out.1.len; have := HFT.out.1.hi; omega) hl wc HG.out.two.qb HG.out.two.dl
          rwa [HFT.out.2] at this)
        clear HALL CD1 CD2 HNB HSZ HL HF hwt
        unfold DV at HSM
        go_upto_region 12 with (first
          | (go_at_call 18; (with_reducible refine (HSM.out).mono ?_); rintro e w3 ⟨rfl, hb3⟩; have HG3 := Lib.hid (HG.out.below hb3); clear hb3; obtain ⟨y0, y1⟩ := HG3.out.want.cells; obtain ⟨v0, v1⟩ := HG3.out.box.cells; have vf0 := HG3.out.box.frozen 0; have vf1 := HG3.out.box.frozen 1)
          | fail)
        go_region
        all_goals
          go_wp2
          go_roundw
          case rel => exact ⟨b', j + 1, Q', A', C', D', m', C2', rfl, by go_num, HJK.out, HFT, Lib.hid (HG3.out.below (Below.refl _ _).drew).lo⟩
          case measure => simp [intOf] <;> omega
    · obtain rfl : j = n := by omega
      have HLO := Lib.hid HL.out
      obtain ⟨q0, q1⟩ := HL.out.box.cells
      obtain ⟨z0, z1⟩ := HL.out.res.cells
      have zf0 := HL.out.res.frozen 0
      have zf1 := HL.out.res.frozen 1
      have HFF : Hid (Q.fit 80 ∧ Q.room = room) := Lib.hid ⟨Qn.fit_more HF.out.1 HN.out, HF.out.2⟩
      clear HF HL HO HN
      go_upto_region 14 with fail
      go_region
      all_goals
        go_wp2
        refine bodyPost_ret (v := .tuple #[.pointer (some ⟨b, 0, none⟩), DV room D m C2, .bool true]) (by simp [results, Try.results8, go_sem, z0, z1, DV]) rfl ?_
        exact ⟨b, Q, D, m, C2, rfl, HFF, Lib.hid ((HLO.out.below (Below.refl _ _).drew).fin _ _)⟩
end Go.Proofs.Ytagcpnelobidnaa
