/-
  Own text: layer 17 (group): a builder between two calls; New, closed, walked.
-/
import Derived.Test.YtjcbcdjfhcnhcaaGrE
import Derived.Deep.DeepCutAuto
namespace Go.Proofs.Ytjcbcdjfhcnhcaa
open Go.RowKit

theorem two_types {w : World} {a b : Nat} {X Y : Array Value} {t1 t2 : TypeId} (h1 : w.heap[a]? = some (.cells X t1 (0, 0))) (h2 : w.heap[b]? = some (.cells Y t2 (0, 0))) (h : t1 ≠ t2) : a ≠ b := fun e => by
  rw [e, h2] at h1
  simp only [Option.some.injEq, Obj.cells.injEq] at h1
  exact h h1.2.1.symm
theorem Frm13.on {c : Nat} {w w1 w2 : World} (h : Frm13 c w w1) (hb : Below w1.heap.size w1 w2) : Frm13 c w w2 :=
  h.trans ⟨hb.os, hb.tape, hb.output, hb.size, fun k hk _ => hb.block k hk⟩
theorem Frm13.put5 {c : Nat} {w u : World} (h : Frm13 c w u) {p : Nat} (hp : w.heap.size ≤ p) (u0 u1 u2 u3 u4 : Value) : Frm13 c w (((((u.setCell ⟨p, 0, none⟩ u0).setCell ⟨p, 1, none⟩ u1).setCell ⟨p, 2, none⟩ u2).setCell ⟨p, 3, none⟩ u3).setCell ⟨p, 4, none⟩ u4) := by
  have hb := below_put5 (Below.refl w.heap.size u) hp u0 u1 u2 u3 u4
  exact ⟨hb.os.trans h.os, hb.tape.trans h.tape, hb.output.trans h.output, Nat.le_trans h.size hb.size, fun k hk hne => (hb.block k hk).trans (h.block k hk hne)⟩
/-- A builder in memory: its block, its control's, its field, what waits. -/
structure BSt (w : World) (B b c t : Nat) (A : Option Addr) (C : Nat) (S : Bd) : Prop where
  hb : B ≤ b
  hc : B ≤ c
  blk : B8 w b t S.size S.age c (.slice A S.z.length C) S.old S.frames S.groups
  ctl : Blk16 156 w c S.ctl
  tab : IsTab w t
  row : OwnU w B (.slice A S.z.length C) S.z.length S.z
/-- What a call at a builder may turn: its block, its control's, the block of what waits, and what is new. -/
structure FrG (b c : Nat) (v : Value) (w w' : World) : Prop where
  os : w'.os = w.os
  tape : w'.tape = w.tape
  output : w'.output = w.output
  size : w.heap.size ≤ w'.heap.size
  block : ∀ k, k < w.heap.size → k ≠ b → k ≠ c → some k ≠ v.ownBlock → w'.heap[k]? = w.heap[k]?
theorem FrG.trans {b c : Nat} {v : Value} {w w1 w2 : World} (h : FrG b c v w w1) (k : FrG b c v w1 w2) : FrG b c v w w2 :=
  ⟨k.os.trans h.os, k.tape.trans h.tape, k.output.trans h.output, Nat.le_trans h.size k.size, fun i hi h1 h2 h3 => (k.block i (Nat.lt_of_lt_of_le hi h.size) h1 h2 h3).trans (h.block i hi h1 h2 h3)⟩
theorem FrG.of_below {b c : Nat} {v : Value} {w w' : World} (h : Below w.heap.size w w') : FrG b c v w w' := ⟨h.os, h.tape, h.output, h.size, fun k hk _ _ _ => h.block k hk⟩
theorem FrG.of_frm {b c : Nat} {v : Value} {w w' : World} (h : Frm13 c w w') : FrG b c v w w' := ⟨h.os, h.tape, h.output, h.size, fun k hk _ h2 _ => h.block k hk h2⟩
theorem FrG.of_grown {b c : Nat} {v : Value} {w w' : World} (h : w.grownBy w' v.ownBlock) : FrG b c v w w' := ⟨h.os, h.tape, h.output, h.size, fun k hk _ _ h3 => h.block k hk h3⟩
theorem FrG.set {b c : Nat} {v : Value} {w w' : World} (h : FrG b c v w w') (i : Nat) (u : Value) : FrG b c v w (w'.setCell ⟨b, i, none⟩ u) :=
  ⟨h.os, h.tape, h.output, by simpa using h.size, fun k hk h1 h2 h3 => (Below.heap_setCell _ _ _ k h1).trans (h.block k hk h1 h2 h3)⟩
theorem FrG.setNew {b c : Nat} {v : Value} {w w' : World} (h : FrG b c v w w') {p : Addr} (hp : w.heap.size ≤ p.block) (u : Value) : FrG b c v w (w'.setCell p u) :=
  ⟨h.os, h.tape, h.output, by simpa using h.size, fun k hk h1 h2 h3 => (Below.heap_setCell _ _ _ k (by omega)).trans (h.block k hk h1 h2 h3)⟩
theorem FrG.below {b c B : Nat} {v : Value} {w0 w w' : World} (h : FrG b c v w w') (h0 : Below B w0 w) (hB : B ≤ w.heap.size) (hb : B ≤ b) (hc : B ≤ c) (hv : ∀ k, v.ownBlock = some k → B ≤ k) : Below B w0 w' :=
  h0.trans ⟨h.os, h.tape, h.output, h.size, fun k hk => h.block k (by omega) (by omega) (by omega) (fun e => by have := hv k e.symm; omega)⟩
section
variable {w : World} {B b c t : Nat} {A : Option Addr} {C : Nat} {S : Bd}
theorem BSt.slice (h : BSt w B b c t A C S) : S.z.length ≤ C ∧ C ≤ maxLen ∧ (A = none → C = 0) := by
  obtain ⟨A', C', e, h1, h2, h3⟩ := row_slice h.row
  simp only [Value.slice.injEq] at e
  obtain ⟨rfl, _, rfl⟩ := e
  exact ⟨h1, h2, h3⟩
/-- The blocks of a builder are no other's: told by their types. -/
theorem BSt.other (h : BSt w B b c t A C S) {w' : World} {b' c' : Nat} (hb' : b' = b) (hc' : c' = c) (f : FrG b' c' (.slice A S.z.length C) w w') : ∀ (k : Nat) (D : Array Value) (ty : TypeId), w.heap[k]? = some (Obj.cells D ty (0, 0)) → ty ≠ 133 → ty ≠ 156 → ty ≠ 79 → w'.heap[k]? = w.heap[k]? := by
  subst hb' hc'
  intro k D ty hk h1 h2 h3
  refine f.block k (Array.getElem?_eq_some_iff.1 hk).1 (fun e => ?_) (fun e => ?_) (fun e => ?_)
  · have hb := h.blk
    unfold B8 at hb
    rw [e, hb] at hk
    simp only [Option.some.injEq, Obj.cells.injEq] at hk
    exact h1 hk.2.1.symm
  · have hc := h.ctl
    unfold Blk16 at hc
    rw [e, hc] at hk
    simp only [Option.some.injEq, Obj.cells.injEq] at hk
    exact h2 hk.2.1.symm
  · rcases h.row.2 with ⟨ev, _⟩ | ⟨g, cap, cur, ev, _, hg, _⟩
    · simp only [Value.slice.injEq] at ev
      rw [ev.1] at e
      simp [Value.ownBlock] at e
    · simp only [Value.slice.injEq] at ev
      rw [ev.1] at e
      simp only [Value.ownBlock, Option.some.injEq] at e
      rw [e, hg] at hk
      simp only [Option.some.injEq, Obj.cells.injEq] at hk
      exact h3 hk.2.1.symm
theorem BSt.below {w' : World} {D : Nat} (h : BSt w B b c t A C S) (hb : Below D w w') (hD : w.heap.size ≤ D) : BSt w' B b c t A C S :=
  ⟨h.hb, h.hc, h.blk.below hb (Nat.lt_of_lt_of_le h.blk.lt hD), h.ctl.below hb (Nat.lt_of_lt_of_le h.ctl.lt hD), h.tab.below hb (Nat.lt_of_lt_of_le h.tab.lt hD), h.row.below hb hD⟩
/-- The three blocks are apart. -/
theorem BSt.apart (h : BSt w B b c t A C S) : b ≠ c ∧ t ≠ b ∧ t ≠ c ∧ (∀ k, (Value.slice A S.z.length C).ownBlock = some k → k ≠ b ∧ k ≠ c ∧ k ≠ t) := by
  have hb := h.blk
  have hc := h.ctl
  obtain ⟨T, ht, _⟩ := h.tab
  unfold B8 at hb
  unfold Blk16 at hc
  refine ⟨two_types hb hc (by decide), two_types ht hb (by decide), two_types ht hc (by decide), fun k hk => ?_⟩
  rcases h.row.2 with ⟨ev, _⟩ | ⟨g, cap, cur, ev, _, hg, _⟩
  · simp only [Value.slice.injEq] at ev
    rw [ev.1] at hk
    simp [Value.ownBlock] at hk
  · simp only [Value.slice.injEq] at ev
    rw [ev.1] at hk
    simp only [Value.ownBlock, Option.some.injEq] at hk
    subst hk
    exact ⟨two_types hg hb (by decide), two_types hg hc (by decide), two_types hg ht (by decide)⟩
end
end Go.Proofs.Ytjcbcdjfhcnhcaa
namespace Go.Proofs.Ytjcbcdjfhcnhcaa
open Go.RowKit

/-- What a call at a builder answers. -/
def ClosedTo (S' : Bd) (g : Gd) (B b c t : Nat) (v : Value) (w : World) (x : Value → Value) (e : Ending) (w' : World) : Prop :=
  ∃ A C A' C', e = .returned (x (g.val A C)) ∧ Hid (Shs w' w.heap.size (.slice A g.n C) g.n (G17 g.z g.z.length)) ∧ Hid (BSt w' B b c t A' C' S') ∧ Hid (FrG b c v w w') ∧ Hid (∀ q, (Value.slice A' S'.z.length C').ownBlock = some q → v.ownBlock = some q ∨ w.heap.size ≤ q)
set_option maxRecDepth 100000 in
set_option maxHeartbeats 8000000 in
theorem closed_any (B b c t C : Nat) (A : Option Addr) (S : Bd) (loss : Int) (w : World) (h : BSt w B b c t A C S) (h0 : 1 ≤ S.z.length) (h1 : S.z.length ≤ 16) (hk : S.ctl.ok) (hf : S.frames ≤ 1000) (hfz : S.z.length ≤ S.frames) (hg : S.groups ≤ 1000) (hv : ∀ z ∈ S.z, 0 ≤ z ∧ z ≤ 65535) :
    Calls Try.prog 62 #[.pointer (some ⟨b, 0, none⟩), .int .i64 loss] w (ClosedTo (S.close loss).1 (S.close loss).2 B b c t (.slice A S.z.length C) w id) := by
  have hap := h.apart
  obtain ⟨size, age, ctl, old, frames, groups, z⟩ := S
  unfold ClosedTo Bd.close Gd.val Gd.n
  dsimp only [id] at *
  obtain ⟨n, hn⟩ : ∃ n, z.length = n := ⟨_, rfl⟩
  simp only [hn, List.length_nil] at h0 h1 hfz hap ⊢
  obtain ⟨K, hK⟩ : ∃ K, ctl.next (n : Nat) loss = K := ⟨_, rfl⟩
  have hko : K.ok := by rw [← hK]; exact Cn.next_ok hk _ _
  have hmost : K.most = ctl.most := by rw [← hK]; exact Cn.next_most ctl _ _
  have hm16 : K.now.toNat ≤ 16 := by have := hko.n1; have := hk.m1; omega
  have hmv : K.now = (K.now.toNat : Int) := by have := hko.n0; omega
  obtain ⟨fs, hfs⟩ : ∃ fs, frames - n = fs := ⟨_, rfl⟩
  simp only [hK, hfs]
  obtain ⟨m, hm⟩ : ∃ m, K.now.toNat = m := ⟨_, rfl⟩
  simp only [hm] at hm16 hmv ⊢
  obtain ⟨W, hW⟩ : ∃ W, W = w.alloc (.cells #[.int .u32 0, .int .u32 0, .int .i64 0, .int .i64 0, .slice none 0 0] 28) := ⟨_, rfl⟩
  have HWB : Hid (Below w.heap.size w W) := Lib.hid (by rw [hW]; exact (Below.refl _ _).alloc (Nat.le_refl _) _)
  have HX0 : Hid (B5 28 W w.heap.size (.int .u32 0) (.int .u32 0) (.int .i64 0) (.int .i64 0) (.slice none 0 0)) := Lib.hid (by rw [hW]; exact B5.new _ _ _ _ _ _ _)
  have HSW := Lib.hid (h.below HWB.out (Nat.le_refl _))
  have HNX : Hid (∀ u, Below W.heap.size W u → Calls Try.prog 81 #[.pointer (some ⟨c, 0, none⟩), .int .i64 n, .int .i64 loss] u fun e w' => e = .returned (.int .i64 m) ∧ Hid (Blk16 156 w' c K) ∧ Hid (Frm13 c u w')) := Lib.hid (fun u hb => by
    rw [← hmv, ← hK]
    exact (next16_any c ctl hk (n : Nat) loss u (HSW.out.ctl.below hb HSW.out.ctl.lt)).mono fun e w' hx => hx)
  have hins : ∀ u, Frm13 c W u → Ins u A n z ∧ IsTab u t := fun u hfr => by
    have hr := HSW.out.row
    dsimp only at hr
    rw [hn] at hr
    have hr2 : OwnU u B (.slice A n C) n z := hr.keep (fun q hq => hfr.block q (hr.lt q hq).2 (hap.2.2.2 q hq).2.1)
    exact ⟨hr2.ins, World.rowIs.of_block HSW.out.tab (hfr.block t HSW.out.tab.lt hap.2.2.1)⟩
  have HMK : Hid (∀ u, Frm13 c W u → Calls Try.prog 8 #[.pointer (some ⟨t, 0, none⟩), .int .u32 (groups : Nat), .int .u32 (fs : Nat), .int .i64 m, .slice A n C] u (MadeG (groups : Nat) (fs : Nat) n m (n + m) (.int .i64 0) (G17 z n) u)) := Lib.hid (fun u hfr => gmake_yes t (groups : Nat) (fs : Nat) n m (n + m) C A z u h0 h1 hm16 (hins u hfr).1 hv (hins u hfr).2 rfl)
  have HBL := Lib.hid HSW.out.blk
  dsimp only at HBL
  rw [hn] at HBL
  have e1 : IntKind.u32.wrap (groups : Int) = (groups : Int) := by rw [IntKind.wrap_u32]; omega
  have e2 : IntKind.i64.wrap ((frames : Int) - (n : Int)) = (fs : Int) := by rw [IntKind.wrap_i64]; omega
  have e3 : IntKind.u32.wrap (fs : Int) = (fs : Int) := by rw [IntKind.wrap_u32]; omega
  have HG1 : Hid ((groups : Int) ≤ 1000) := Lib.hid (by omega)
  have HNC : Hid (b ≠ c ∧ b < w.heap.size ∧ c < w.heap.size) := Lib.hid ⟨hap.1, h.blk.lt, h.ctl.lt⟩
  have HH := Lib.hid h
  have HAP := Lib.hid hap
  clear hins h hap hko hmost hmv hk hf hfz hv h0 h1 hn hfs hm16 hm hg hK
  unfold MadeG at HMK
  go_enter Try.func62, Try.ntmps62
  go_upto_region 1 with fail
  rw [← hW]
  clear hW
  obtain ⟨c0, c1, c2, c3, c4, c5, c6, c7⟩ := HBL.out.cells
  go_upto_region 2 with fail
  go_quiet (fail)
  clear c0 c1 c2 c3 c4 c5 c6 c7 e1 e2 e3
  go_upto_region 3 with fail
  have hb1 : Below W.heap.size W (W.drewN nq) := below_drewN (Below.refl _ _) nq
  generalize W.drewN nq = W1 at *
  have HB1 := Lib.hid hb1
  clear hb1
  have HBS : Hid (∀ u, Frm13 c W u → u.cell? ⟨b, 0, none⟩ = some (.pointer (some ⟨t, 0, none⟩)) ∧ u.cell? ⟨b, 3, none⟩ = some (.pointer (some ⟨c, 0, none⟩)) ∧ u.cell? ⟨b, 4, none⟩ = some (.slice A n C)) := Lib.hid (fun u hf => by
    have h := (HBL.out.keep (hf.block b HBL.out.lt HNC.out.1)).cells
    exact ⟨h.1, h.2.2.2.1, h.2.2.2.2.1⟩)
  have HPC : Hid (∀ p, W.heap.size ≤ p → p ≠ c) := Lib.hid (fun p hp => by have := HWB.out.size; have := HNC.out.2.2; omega)
  have HZW : Hid (∀ u : World, B5 28 (u.alloc (.cells #[.int .u32 0, .int .u32 0, .int .i64 0, .int .i64 0, .slice none 0 0] 28)) u.heap.size (.int .u32 0) (.int .u32 0) (.int .i64 0) (.int .i64 0) (.slice none 0 0)) := Lib.hid (fun u => B5.new _ _ _ _ _ _ _)
  go_cut [8, 9] (fun s8 s9 wx => s9 = .int .i64 0 ∧ ∃ (p : Nat) (A' : Option Addr) (C' : Nat), s8 = .pointer (some ⟨p, 0, none⟩) ∧ Hid (Frm13 c W wx) ∧ Hid (Blk16 156 wx c K) ∧ Hid (B5 28 wx p (.int .u32 (groups : Nat)) (.int .u32 (fs : Nat)) (.int .i64 n) (.int .i64 m) (.slice A' (n + m) C')) ∧ Hid (W.heap.size ≤ p) ∧ Hid (Shs wx W.heap.size (.slice A' (n + m) C') (n + m) (G17 z n)))
  case first =>
    have cb : Below W.heap.size W W1.drew := HB1.out.drew
    have cc : Frm13 c W W1.drew := (Frm13.refl c W).on cb
    go_region_held3 (fun u => u.cell? ⟨b, 0, none⟩ = some (.pointer (some ⟨t, 0, none⟩)) ∧ u.cell? ⟨b, 3, none⟩ = some (.pointer (some ⟨c, 0, none⟩)) ∧ u.cell? ⟨b, 4, none⟩ = some (.slice A n C))
      (first
        | exact HBS.out _ cc
        | exact HBS.out _ (cc.on (below_put _ _))
        | exact HBS.out _ ((((Frm13.refl c W).on HB1.out).on (below_put _ _)).drew)
        | exact HBS.out _ (cc.put5 hpg _ _ _ _ _)
        | exact HBS.out _ ((cc.on (below_put _ _)).put5 cc.size _ _ _ _ _)
        | fail "keep")
      (first
        | (go_at_call 81; (with_reducible refine (HNX.out W1.drew cb).mono ?_); rintro e w3 ⟨rfl, HC3, HF3⟩; replace cc := cc.trans HF3.out)
        | (go_at_call 81; (with_reducible refine (HNX.out (W1.alloc _).drew (HB1.out.alloc HB1.out.size _).drew).mono ?_); rintro e w3 ⟨rfl, HC3, HF3⟩; replace cc := ((((Frm13.refl c W).on HB1.out).on (below_put _ _)).drew).trans HF3.out; have hpg : W.heap.size ≤ W1.heap.size := cb.size; have HP3 := Lib.hid ((HZW.out W1).keep (HF3.out.block _ (HZW.out W1).lt (HPC.out _ cb.size))))
        | (go_at_call 8; (with_reducible refine (HMK.out w3 cc).mono ?_); rintro e w4 ⟨A4, C4, rfl, HS4, HB4⟩; have HP4 := Lib.hid (HP3.out.below HB4.out HP3.out.lt); have HC4 := Lib.hid (HC3.out.below HB4.out HC3.out.lt); have HSH := Lib.hid (HS4.out.low cc.size); replace cc := cc.on HB4.out; obtain ⟨x0, x1, x2, x3, x4⟩ := HP4.out.cells; have f0 := HP4.out.frozen 0; have f1 := HP4.out.frozen 1; have f2 := HP4.out.frozen 2; have f3 := HP4.out.frozen 3; have f4 := HP4.out.frozen 4)
        | (go_at_call 8; (with_reducible refine (HMK.out w3 cc).mono ?_); rintro e w4 ⟨A4, C4, rfl, HS4, HB4⟩; have HC4 := Lib.hid (HC3.out.below HB4.out HC3.out.lt); have HSH := Lib.hid (HS4.out.low cc.size); replace cc := cc.on HB4.out)
        | (go_at_call 8; (with_reducible refine (HMK.out (w3.alloc _) (cc.on (below_put _ _))).mono ?_); rintro e w4 ⟨A4, C4, rfl, HS4, HB4⟩; have hpg : W.heap.size ≤ w3.heap.size := cc.size; have HP4 := Lib.hid ((HZW.out w3).below HB4.out (HZW.out w3).lt); have HC4 := Lib.hid ((HC3.out.keep (Below.heap_alloc _ _ _ HC3.out.lt)).below HB4.out (Nat.lt_trans HC3.out.lt (HZW.out w3).lt)); have HSH := Lib.hid (HS4.out.low (cc.on (below_put _ _)).size); replace cc := (cc.on (below_put _ _)).on HB4.out; obtain ⟨x0, x1, x2, x3, x4⟩ := HP4.out.cells; have f0 := HP4.out.frozen 0; have f1 := HP4.out.frozen 1; have f2 := HP4.out.frozen 2; have f3 := HP4.out.frozen 3; have f4 := HP4.out.frozen 4)
        | fail "arm")
    · have HR := Lib.hid (B5.new w4 28 (.int .u32 (groups : Nat)) (.int .u32 (fs : Nat)) (.int .i64 n) (.int .i64 m) (.slice A4 (n + m) C4))
      have HA := Lib.hid (cc.on (below_put w4 (.cells #[.int .u32 (groups : Nat), .int .u32 (fs : Nat), .int .i64 n, .int .i64 m, .slice A4 (n + m) C4] 28)))
      have HC := Lib.hid (HC4.out.keep (Below.heap_alloc w4 (.cells #[.int .u32 (groups : Nat), .int .u32 (fs : Nat), .int .i64 n, .int .i64 m, .slice A4 (n + m) C4] 28) _ HC4.out.lt))
      have HG := Lib.hid cc.size
      have HS := Lib.hid (HSH.out.below (below_put w4 (.cells #[.int .u32 (groups : Nat), .int .u32 (fs : Nat), .int .i64 n, .int .i64 m, .slice A4 (n + m) C4] 28)) (Nat.le_refl _))
      clear cc cb HS4 HB4 HC4 HSH HC3 HF3
      go_wp2_with fail
      go_meet
      exact ⟨rfl, _, A4, C4, rfl, HA, HC, HR, HG, HS⟩
    all_goals
      have HR := Lib.hid (HP4.out.put (.int .u32 (groups : Nat)) (.int .u32 (fs : Nat)) (.int .i64 n) (.int .i64 m) (.slice A4 (n + m) C4))
      have HA := Lib.hid (cc.put5 hpg (.int .u32 (groups : Nat)) (.int .u32 (fs : Nat)) (.int .i64 n) (.int .i64 m) (.slice A4 (n + m) C4))
      have HC := Lib.hid (HC4.out.below (below_put5 (Below.refl W.heap.size w4) hpg (.int .u32 (groups : Nat)) (.int .u32 (fs : Nat)) (.int .i64 n) (.int .i64 m) (.slice A4 (n + m) C4)) HSW.out.ctl.lt)
      have HG := Lib.hid hpg
      have HS := Lib.hid (HSH.out.put HP4.out (by decide) (by decide) (.int .u32 (groups : Nat)) (.int .u32 (fs : Nat)) (.int .i64 n) (.int .i64 m) (.slice A4 (n + m) C4))
      clear cc cb HS4 HB4 HC4 HSH HC3 HF3 HP4 x0 x1 x2 x3 x4 f0 f1 f2 f3 f4
      go_wp2_with fail
      go_meet
      exact ⟨rfl, _, A4, C4, rfl, HA, HC, HR, HG, HS⟩
  case rest =>
    obtain ⟨rfl, p, A', C', rfl, HF, HC, HP, HPG, HS⟩ := hcut
    have HB := Lib.hid (HBL.out.keep (HF.out.block b HBL.out.lt HNC.out.1))
    have HX := Lib.hid (HX0.out.keep (HF.out.block _ HX0.out.lt (by have := HNC.out.2.2; omega)))
    have HPB : Hid (p ≠ b ∧ p ≠ w.heap.size ∧ w.heap.size ≠ b) := Lib.hid (by have := HBL.out.lt; have := HX0.out.lt; have := HPG.out; have := HNC.out; exact ⟨by omega, by omega, by omega⟩)
    have HFG : Hid (FrG b c (.slice A n C) w wc) := Lib.hid ((FrG.of_below HWB.out).trans (FrG.of_frm HF.out))
    have hg1 := HG1.out
    obtain ⟨c0, c1, c2, c3, c4, c5, c6, c7⟩ := HB.out.cells
    have f4 := HB.out.frozen 4
    have f5 := HB.out.frozen 5
    have f7 := HB.out.frozen 7
    clear HNX HMK HBS HPC HZW HB1
    go_upto_region 6 with fail
    have HB3 := Lib.hid (((HB.out.set4 (.slice none 0 0)).set5 0).set7 ((groups : Int) + 1))
    have HP3 := Lib.hid (((HP.out.keep (w' := wc.setCell ⟨b, 4, none⟩ (.slice none 0 0)) (Below.heap_setCell _ _ _ _ HPB.out.1)).keep (w' := (wc.setCell ⟨b, 4, none⟩ (.slice none 0 0)).setCell ⟨b, 5, none⟩ (.int .i64 0)) (Below.heap_setCell _ _ _ _ HPB.out.1)).keep (w' := ((wc.setCell ⟨b, 4, none⟩ (.slice none 0 0)).setCell ⟨b, 5, none⟩ (.int .i64 0)).setCell ⟨b, 7, none⟩ (.int .i64 ((groups : Int) + 1))) (Below.heap_setCell _ _ _ _ HPB.out.1))
    have HX3 := Lib.hid (((HX.out.keep (w' := wc.setCell ⟨b, 4, none⟩ (.slice none 0 0)) (Below.heap_setCell _ _ _ _ HPB.out.2.2)).keep (w' := (wc.setCell ⟨b, 4, none⟩ (.slice none 0 0)).setCell ⟨b, 5, none⟩ (.int .i64 0)) (Below.heap_setCell _ _ _ _ HPB.out.2.2)).keep (w' := ((wc.setCell ⟨b, 4, none⟩ (.slice none 0 0)).setCell ⟨b, 5, none⟩ (.int .i64 0)).setCell ⟨b, 7, none⟩ (.int .i64 ((groups : Int) + 1))) (Below.heap_setCell _ _ _ _ HPB.out.2.2))
    have HC3 := Lib.hid (((HC.out.other (p := ⟨b, 4, none⟩) (Ne.symm HNC.out.1) (.slice none 0 0)).other (p := ⟨b, 5, none⟩) (Ne.symm HNC.out.1) (.int .i64 0)).other (p := ⟨b, 7, none⟩) (Ne.symm HNC.out.1) (.int .i64 ((groups : Int) + 1)))
    have HS3 := Lib.hid (((HS.out.setAt HB.out (by decide) (by decide) 4 (.slice none 0 0)).setAt (HB.out.set4 (.slice none 0 0)) (by decide) (by decide) 5 (.int .i64 0)).setAt ((HB.out.set4 (.slice none 0 0)).set5 0) (by decide) (by decide) 7 (.int .i64 ((groups : Int) + 1)))
    have HFG3 := Lib.hid (((HFG.out.set 4 (.slice none 0 0)).set 5 (.int .i64 0)).set 7 (.int .i64 ((groups : Int) + 1)))
    have HT3 : Hid (IsTab (((wc.setCell ⟨b, 4, none⟩ (.slice none 0 0)).setCell ⟨b, 5, none⟩ (.int .i64 0)).setCell ⟨b, 7, none⟩ (.int .i64 ((groups : Int) + 1))) t) := Lib.hid ((((World.rowIs.of_block HH.out.tab (HFG.out.block t HH.out.tab.lt HAP.out.2.1 HAP.out.2.2.1 (fun e => (HAP.out.2.2.2 t e.symm).2.2 rfl))).setOther (a := ⟨b, 4, none⟩) HAP.out.2.1 (.slice none 0 0)).setOther (a := ⟨b, 5, none⟩) HAP.out.2.1 (.int .i64 0)).setOther (a := ⟨b, 7, none⟩) HAP.out.2.1 (.int .i64 ((groups : Int) + 1)))
    clear c0 c1 c2 c3 c4 c5 c6 c7 f4 f5 f7 HB HP HX HC HS HFG
    generalize ((wc.setCell ⟨b, 4, none⟩ (.slice none 0 0)).setCell ⟨b, 5, none⟩ (.int .i64 0)).setCell ⟨b, 7, none⟩ (.int .i64 ((groups : Int) + 1)) = w5 at *
    obtain ⟨x0, x1, x2, x3, x4⟩ := HP3.out.cells
    obtain ⟨r0, r1, r2, r3, r4⟩ := HX3.out.cells
    have v0 := HX3.out.frozen 0
    have v1 := HX3.out.frozen 1
    have v2 := HX3.out.frozen 2
    have v3 := HX3.out.frozen 3
    have v4 := HX3.out.frozen 4
    go_wp2
    obtain ⟨z0, z1, z2, z3, z4⟩ := put5_cells HX3.out (.int .u32 (groups : Nat)) (.int .u32 (fs : Nat)) (.int .i64 n) (.int .i64 m) (.slice A' (n + m) C') rfl
    refine bodyPost_ret (v := .agg #[.int .u32 (groups : Nat), .int .u32 (fs : Nat), .int .i64 n, .int .i64 m, .slice A' (n + m) C']) (by simp [results, Try.results62, go_sem, z0, z1, z2, z3, z4]) rfl ?_
    have hbn : b ≠ w.heap.size := Ne.symm HPB.out.2.2
    have hcn : c ≠ w.heap.size := by have := HNC.out.2.2; omega
    have htn : t ≠ w.heap.size := by have := HH.out.tab.lt; omega
    have hblk : ∀ q, q ≠ w.heap.size → (((((w5.setCell ⟨w.heap.size, 0, none⟩ (.int .u32 (groups : Nat))).setCell ⟨w.heap.size, 1, none⟩ (.int .u32 (fs : Nat))).setCell ⟨w.heap.size, 2, none⟩ (.int .i64 n)).setCell ⟨w.heap.size, 3, none⟩ (.int .i64 m)).setCell ⟨w.heap.size, 4, none⟩ (.slice A' (n + m) C')).heap[q]? = w5.heap[q]? := fun q hq => by
      rw [Below.heap_setCell _ _ _ _ hq, Below.heap_setCell _ _ _ _ hq, Below.heap_setCell _ _ _ _ hq, Below.heap_setCell _ _ _ _ hq, Below.heap_setCell _ _ _ _ hq]
    refine ⟨A', C', none, 0, rfl, Lib.hid ((HS3.out.low HWB.out.size).put HX3.out (by decide) (by decide) _ _ _ _ _), Lib.hid ⟨HH.out.hb, HH.out.hc, HB3.out.keep (hblk b hbn), HC3.out.keep (hblk c hcn), World.rowIs.of_block HT3.out (hblk t htn), OwnU.none _ _⟩, Lib.hid ?_, Lib.hid (fun q e => by simp [Value.ownBlock] at e)⟩
    exact ((((HFG3.out.setNew (p := ⟨w.heap.size, 0, none⟩) (Nat.le_refl _) _).setNew (p := ⟨w.heap.size, 1, none⟩) (Nat.le_refl _) _).setNew (p := ⟨w.heap.size, 2, none⟩) (Nat.le_refl _) _).setNew (p := ⟨w.heap.size, 3, none⟩) (Nat.le_refl _) _).setNew (p := ⟨w.heap.size, 4, none⟩) (Nat.le_refl _) _
end Go.Proofs.Ytjcbcdjfhcnhcaa
