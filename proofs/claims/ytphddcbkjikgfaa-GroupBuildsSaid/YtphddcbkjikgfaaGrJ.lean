/-
  Own text: layer 17 (group): the document's builder by value; closed, walked.
-/
import Derived.Test.YtphddcbkjikgfaaGrI
import Derived.BigRegion
namespace Go.Proofs.Ytphddcbkjikgfaa
open Go.RowKit

example : (Try.prog.info? 66).map (fun i => i.zero) = some (some (.agg #[.int .i64 0, .int .i64 0, .int .i64 0, .int .i64 0, .int .i64 0, .int .i64 0, .int .u32 0, .int .u32 0, .slice none 0 0])) := by kernel_rfl
/-- A block of nine cells. -/
def B9 (t : TypeId) (w : World) (b : Nat) (v0 v1 v2 v3 v4 v5 v6 v7 v8 : Value) : Prop := w.heap[b]? = some (.cells #[v0, v1, v2, v3, v4, v5, v6, v7, v8] t (0, 0))
section
variable {t : TypeId} {w : World} {b : Nat} {v0 v1 v2 v3 v4 v5 v6 v7 v8 : Value}
theorem B9.lt (h : B9 t w b v0 v1 v2 v3 v4 v5 v6 v7 v8) : b < w.heap.size := (Array.getElem?_eq_some_iff.1 h).1
theorem B9.cells (h : B9 t w b v0 v1 v2 v3 v4 v5 v6 v7 v8) : w.cell? ⟨b, 0, none⟩ = some v0 ∧ w.cell? ⟨b, 1, none⟩ = some v1 ∧ w.cell? ⟨b, 2, none⟩ = some v2 ∧ w.cell? ⟨b, 3, none⟩ = some v3 ∧ w.cell? ⟨b, 4, none⟩ = some v4 ∧ w.cell? ⟨b, 5, none⟩ = some v5 ∧ w.cell? ⟨b, 6, none⟩ = some v6 ∧ w.cell? ⟨b, 7, none⟩ = some v7 ∧ w.cell? ⟨b, 8, none⟩ = some v8 := by
  unfold B9 at h
  simp [World.cell?, h]
theorem B9.frozen (h : B9 t w b v0 v1 v2 v3 v4 v5 v6 v7 v8) (i : Nat) : w.frozen? ⟨b, i, none⟩ = false := by
  unfold B9 at h
  simp [World.frozen?, h]
theorem B9.keep {w' : World} (h : B9 t w b v0 v1 v2 v3 v4 v5 v6 v7 v8) (e : w'.heap[b]? = w.heap[b]?) : B9 t w' b v0 v1 v2 v3 v4 v5 v6 v7 v8 := e.trans h
theorem B9.below {w' : World} {B : Nat} (h : B9 t w b v0 v1 v2 v3 v4 v5 v6 v7 v8) (hb : Below B w w') (hB : b < B) : B9 t w' b v0 v1 v2 v3 v4 v5 v6 v7 v8 := h.keep (hb.block b hB)
theorem B9.new (w : World) (t : TypeId) (v0 v1 v2 v3 v4 v5 v6 v7 v8 : Value) : B9 t (w.alloc (.cells #[v0, v1, v2, v3, v4, v5, v6, v7, v8] t)) w.heap.size v0 v1 v2 v3 v4 v5 v6 v7 v8 := Go.Deep.blk_alloc_new w _
theorem B9.set012 (h : B9 t w b v0 v1 v2 v3 v4 v5 v6 v7 v8) (u0 u1 u2 : Value) : B9 t (((w.setCell ⟨b, 0, none⟩ u0).setCell ⟨b, 1, none⟩ u1).setCell ⟨b, 2, none⟩ u2) b u0 u1 u2 v3 v4 v5 v6 v7 v8 := by
  unfold B9 at *
  simp [World.setCell, Array.getElem?_modify, h]
theorem B9.set5 (h : B9 t w b v0 v1 v2 v3 v4 v5 v6 v7 v8) (u : Value) : B9 t (w.setCell ⟨b, 5, none⟩ u) b v0 v1 v2 v3 v4 u v6 v7 v8 := by
  unfold B9 at *
  simp [World.setCell, Array.getElem?_modify, h]
theorem B9.set6 (h : B9 t w b v0 v1 v2 v3 v4 v5 v6 v7 v8) (u : Value) : B9 t (w.setCell ⟨b, 6, none⟩ u) b v0 v1 v2 v3 v4 v5 u v7 v8 := by
  unfold B9 at *
  simp [World.setCell, Array.getElem?_modify, h]
theorem B9.set7 (h : B9 t w b v0 v1 v2 v3 v4 v5 v6 v7 v8) (u : Value) : B9 t (w.setCell ⟨b, 7, none⟩ u) b v0 v1 v2 v3 v4 v5 v6 u v8 := by
  unfold B9 at *
  simp [World.setCell, Array.getElem?_modify, h]
theorem B9.set8 (h : B9 t w b v0 v1 v2 v3 v4 v5 v6 v7 v8) (u : Value) : B9 t (w.setCell ⟨b, 8, none⟩ u) b v0 v1 v2 v3 v4 v5 v6 v7 u := by
  unfold B9 at *
  simp [World.setCell, Array.getElem?_modify, h]
end
/-- Nine stores into a block. -/
def put9 (w : World) (b : Nat) (u0 u1 u2 u3 u4 u5 u6 u7 u8 : Value) : World := ((((((((w.setCell ⟨b, 0, none⟩ u0).setCell ⟨b, 1, none⟩ u1).setCell ⟨b, 2, none⟩ u2).setCell ⟨b, 3, none⟩ u3).setCell ⟨b, 4, none⟩ u4).setCell ⟨b, 5, none⟩ u5).setCell ⟨b, 6, none⟩ u6).setCell ⟨b, 7, none⟩ u7).setCell ⟨b, 8, none⟩ u8
theorem heap_put9 (w : World) (b : Nat) (u0 u1 u2 u3 u4 u5 u6 u7 u8 : Value) (q : Nat) (hq : q ≠ b) : (put9 w b u0 u1 u2 u3 u4 u5 u6 u7 u8).heap[q]? = w.heap[q]? := by
  unfold put9
  rw [Below.heap_setCell _ _ _ _ hq, Below.heap_setCell _ _ _ _ hq, Below.heap_setCell _ _ _ _ hq, Below.heap_setCell _ _ _ _ hq, Below.heap_setCell _ _ _ _ hq, Below.heap_setCell _ _ _ _ hq, Below.heap_setCell _ _ _ _ hq, Below.heap_setCell _ _ _ _ hq, Below.heap_setCell _ _ _ _ hq]
theorem B9.put {t : TypeId} {w : World} {b : Nat} {v0 v1 v2 v3 v4 v5 v6 v7 v8 : Value} (h : B9 t w b v0 v1 v2 v3 v4 v5 v6 v7 v8) (u0 u1 u2 u3 u4 u5 u6 u7 u8 : Value) : B9 t (put9 w b u0 u1 u2 u3 u4 u5 u6 u7 u8) b u0 u1 u2 u3 u4 u5 u6 u7 u8 := by
  unfold put9 B9 at *
  simp [World.setCell, Array.getElem?_modify, h]
theorem below_put9 {B : Nat} {w0 w : World} (h : Below B w0 w) {b : Nat} (hb : B ≤ b) (u0 u1 u2 u3 u4 u5 u6 u7 u8 : Value) : Below B w0 (put9 w b u0 u1 u2 u3 u4 u5 u6 u7 u8) :=
  ((((((((h.setCell (p := ⟨b, 0, none⟩) hb _).setCell (p := ⟨b, 1, none⟩) hb _).setCell (p := ⟨b, 2, none⟩) hb _).setCell (p := ⟨b, 3, none⟩) hb _).setCell (p := ⟨b, 4, none⟩) hb _).setCell (p := ⟨b, 5, none⟩) hb _).setCell (p := ⟨b, 6, none⟩) hb _).setCell (p := ⟨b, 7, none⟩) hb _).setCell (p := ⟨b, 8, none⟩) hb _
/-- The document's builder by value. -/
@[reducible] def DV (S : Bd) (A : Option Addr) (C : Nat) : Value := .agg #[.int .i64 S.ctl.now, .int .i64 S.ctl.most, .int .i64 S.ctl.calm, .int .i64 (S.size : Nat), .int .i64 (S.age : Nat), .int .i64 (S.old : Nat), .int .u32 (S.groups : Nat), .int .u32 ((S.frames - S.z.length : Nat) : Int), .slice A S.z.length C]
/-- What the document's closed answers. -/
def RClosedTo (S' : Bd) (g : Gd) (w : World) (e : Ending) (w' : World) : Prop :=
  ∃ A C, e = .returned (.tuple #[DV S' none 0, g.val A C]) ∧ Hid (Shs w' w.heap.size (.slice A g.n C) g.n (G17 g.z g.z.length)) ∧ Hid (Below w.heap.size w w')
set_option maxRecDepth 100000 in
set_option maxHeartbeats 1000000 in
theorem rclosed_any (C : Nat) (A : Option Addr) (S : Bd) (loss : Int) (w : World) (hI : Ins w A S.z.length S.z) (h0 : 1 ≤ S.z.length) (h1 : S.z.length ≤ 16) (hk : S.ctl.ok) (hf : S.frames ≤ 1000) (hfz : S.z.length ≤ S.frames) (hg : S.groups ≤ 1000) (hv : ∀ z ∈ S.z, 0 ≤ z ∧ z ≤ 65535) :
    Calls Try.prog 40 #[DV S A C, .int .i64 loss] w (RClosedTo (S.close loss).1 (S.close loss).2 w) := by
  obtain ⟨size, age, ctl, old, frames, groups, z⟩ := S
  unfold RClosedTo Bd.close Gd.val Gd.n DV
  dsimp only at *
  obtain ⟨n, hn⟩ : ∃ n, z.length = n := ⟨_, rfl⟩
  simp only [hn, List.length_nil] at h0 h1 hfz hI ⊢
  obtain ⟨K, hK⟩ : ∃ K, ctl.next (n : Nat) loss = K := ⟨_, rfl⟩
  have hko : K.ok := by rw [← hK]; exact Cn.next_ok hk _ _
  have hmost : K.most = ctl.most := by rw [← hK]; exact Cn.next_most ctl _ _
  have hm16 : K.now.toNat ≤ 16 := by have := hko.n1; have := hk.m1; omega
  have hmv : K.now = (K.now.toNat : Int) := by have := hko.n0; omega
  obtain ⟨fs, hfs⟩ : ∃ fs, frames - n = fs := ⟨_, rfl⟩
  simp only [hK, hfs]
  obtain ⟨m, hm⟩ : ∃ m, K.now.toNat = m := ⟨_, rfl⟩
  simp only [hm] at hm16 hmv ⊢
  simp only [hmv]
  have hs0 : (w.alloc (.cells #[.int .i64 ctl.now, .int .i64 ctl.most, .int .i64 ctl.calm, .int .i64 size, .int .i64 age, .int .i64 old, .int .u32 groups, .int .u32 fs, .slice A n C] 66)).heap.size = w.heap.size + 1 := by simp
  have hs1 : ((w.alloc (.cells #[.int .i64 ctl.now, .int .i64 ctl.most, .int .i64 ctl.calm, .int .i64 size, .int .i64 age, .int .i64 old, .int .u32 groups, .int .u32 fs, .slice A n C] 66)).alloc (.cells #[.int .i64 0, .int .i64 0, .int .i64 0, .int .i64 0, .int .i64 0, .int .i64 0, .int .u32 0, .int .u32 0, .slice none 0 0] 66)).heap.size = w.heap.size + 1 + 1 := by simp
  obtain ⟨W, hW⟩ : ∃ W, W = ((w.alloc (.cells #[.int .i64 ctl.now, .int .i64 ctl.most, .int .i64 ctl.calm, .int .i64 size, .int .i64 age, .int .i64 old, .int .u32 groups, .int .u32 fs, .slice A n C] 66)).alloc (.cells #[.int .i64 0, .int .i64 0, .int .i64 0, .int .i64 0, .int .i64 0, .int .i64 0, .int .u32 0, .int .u32 0, .slice none 0 0] 66)).alloc (.cells #[.int .u32 0, .int .u32 0, .int .i64 0, .int .i64 0, .slice none 0 0] 34) := ⟨_, rfl⟩
  have HWB : Hid (Below w.heap.size w W) := Lib.hid (by rw [hW]; exact (((Below.refl w.heap.size w).alloc (Nat.le_refl _) _).alloc (by simp) _).alloc (by simp; omega) _)
  have HP0 : Hid (B9 66 W w.heap.size (.int .i64 ctl.now) (.int .i64 ctl.most) (.int .i64 ctl.calm) (.int .i64 size) (.int .i64 age) (.int .i64 old) (.int .u32 groups) (.int .u32 fs) (.slice A n C)) := Lib.hid (by
    have h := B9.new w 66 (.int .i64 ctl.now) (.int .i64 ctl.most) (.int .i64 ctl.calm) (.int .i64 size) (.int .i64 age) (.int .i64 old) (.int .u32 groups) (.int .u32 fs) (.slice A n C)
    rw [hW]
    exact (h.keep (Below.heap_alloc _ _ _ h.lt)).keep (Below.heap_alloc _ _ _ (by simp; omega)))
  have HQ0 : Hid (B9 66 W (w.heap.size + 1) (.int .i64 0) (.int .i64 0) (.int .i64 0) (.int .i64 0) (.int .i64 0) (.int .i64 0) (.int .u32 0) (.int .u32 0) (.slice none 0 0)) := Lib.hid (by
    have h := B9.new (w.alloc (.cells #[.int .i64 ctl.now, .int .i64 ctl.most, .int .i64 ctl.calm, .int .i64 size, .int .i64 age, .int .i64 old, .int .u32 groups, .int .u32 fs, .slice A n C] 66)) 66 (.int .i64 0) (.int .i64 0) (.int .i64 0) (.int .i64 0) (.int .i64 0) (.int .i64 0) (.int .u32 0) (.int .u32 0) (.slice none 0 0)
    rw [hs0] at h
    rw [hW]
    exact h.keep (Below.heap_alloc _ _ _ h.lt))
  have HG0 : Hid (B5 34 W (w.heap.size + 1 + 1) (.int .u32 0) (.int .u32 0) (.int .i64 0) (.int .i64 0) (.slice none 0 0)) := Lib.hid (by
    rw [hW, ← hs1]
    exact B5.new _ _ _ _ _ _ _)
  have HSZ : Hid (W.heap.size = w.heap.size + 3) := Lib.hid (by rw [hW]; simp)
  have HNX : Hid (∀ u, Calls Try.prog 50 #[.agg #[.int .i64 ctl.now, .int .i64 ctl.most, .int .i64 ctl.calm], .int .i64 n, .int .i64 loss] u fun e w' => e = .returned (.agg #[.int .i64 m, .int .i64 K.most, .int .i64 K.calm]) ∧ Hid (Below u.heap.size u w')) := Lib.hid (fun u => by
    have h := rnext16_any ctl hk (n : Nat) loss u
    rw [hK] at h
    unfold CV at h
    rw [hmv] at h
    exact h.mono fun e w' hx => ⟨hx.1, Lib.hid hx.2⟩)
  have HMK : Hid (∀ u, (∀ q, q < w.heap.size → u.heap[q]? = w.heap[q]?) → w.heap.size ≤ u.heap.size → Calls Try.prog 10 #[.int .u32 (groups : Nat), .int .u32 (fs : Nat), .int .i64 m, .slice A n C] u (MadeG (groups : Nat) (fs : Nat) n m (n + m) (.bool true) (G17 z n) u)) := Lib.hid (fun u hq hs => rgmake_yes (groups : Nat) (fs : Nat) n m (n + m) C A z u h0 h1 hm16 ⟨hI.1, hI.2.imp id fun ⟨g, off, e, hl, hc⟩ => ⟨g, off, e, Nat.lt_of_lt_of_le hl hs, fun i hi => (World.cell?_of_block (w := w) (a := ⟨g, off + i, none⟩) (hq g hl)).trans (hc i hi)⟩⟩ hv rfl)
  have e1 : IntKind.u32.wrap ((groups : Int) + 1) = (groups : Int) + 1 := by rw [IntKind.wrap_u32]; omega
  have e3 : IntKind.u32.wrap (n : Int) = (n : Int) := by rw [IntKind.wrap_u32]; omega
  have e4 : IntKind.u32.wrap ((fs : Int) + (n : Int)) = (frames : Int) := by rw [IntKind.wrap_u32]; omega
  clear hs0 hs1 hI hko hmost hmv hk hf hfz hv h0 h1 hn hfs hm16 hm hg hK
  unfold MadeG at HMK
  go_enter Try.func40, Try.ntmps40
  go_upto_region 1 with fail
  rw [← hW]
  clear hW
  obtain ⟨b, hb⟩ : ∃ b, b = w.heap.size := ⟨_, rfl⟩
  have HBW := Lib.hid hb
  rw [← hb] at HP0 HQ0 HG0 HSZ HWB HMK ⊢
  clear hb
  obtain ⟨c0, c1, c2, c3, c4, c5, c6, c7, c8⟩ := HP0.out.cells
  have f0 := HP0.out.frozen 0
  have f1 := HP0.out.frozen 1
  have f2 := HP0.out.frozen 2
  go_upto_region 2 with (first
    | (go_at_call 50; (with_reducible refine (HNX.out _).mono ?_); rintro e w1 ⟨rfl, HB1⟩; clear c0 c1 c2 c3 c4 c5 c6 c7 c8 f0 f1 f2; have HP1 := Lib.hid (HP0.out.below HB1.out HP0.out.lt); obtain ⟨c0, c1, c2, c3, c4, c5, c6, c7, c8⟩ := HP1.out.cells; have f0 := HP1.out.frozen 0; have f1 := HP1.out.frozen 1; have f2 := HP1.out.frozen 2)
    | fail)
  have HP2 := Lib.hid (HP1.out.set012 (.int .i64 m) (.int .i64 K.most) (.int .i64 K.calm))
  have hq2 : ∀ q, q ≠ b → (((w1.setCell ⟨b, 0, none⟩ (.int .i64 m)).setCell ⟨b, 1, none⟩ (.int .i64 K.most)).setCell ⟨b, 2, none⟩ (.int .i64 K.calm)).heap[q]? = w1.heap[q]? := fun q hq => by
    rw [Below.heap_setCell _ _ _ _ hq, Below.heap_setCell _ _ _ _ hq, Below.heap_setCell _ _ _ _ hq]
  have HQ2 := Lib.hid ((HQ0.out.below HB1.out HQ0.out.lt).keep (hq2 (b + 1) (by omega)))
  have HG2 := Lib.hid ((HG0.out.below HB1.out HG0.out.lt).keep (hq2 (b + 1 + 1) (by omega)))
  have HB2 : Hid (Below b w (((w1.setCell ⟨b, 0, none⟩ (.int .i64 m)).setCell ⟨b, 1, none⟩ (.int .i64 K.most)).setCell ⟨b, 2, none⟩ (.int .i64 K.calm))) := Lib.hid ((((HWB.out.trans (HB1.out.mono (by have := HSZ.out; omega))).setCell (p := ⟨b, 0, none⟩) (Nat.le_refl _) _).setCell (p := ⟨b, 1, none⟩) (Nat.le_refl _) _).setCell (p := ⟨b, 2, none⟩) (Nat.le_refl _) _)
  have HZ2 : Hid (b + 3 ≤ (((w1.setCell ⟨b, 0, none⟩ (.int .i64 m)).setCell ⟨b, 1, none⟩ (.int .i64 K.most)).setCell ⟨b, 2, none⟩ (.int .i64 K.calm)).heap.size) := Lib.hid (by have := HB1.out.size; have := HSZ.out; simp; omega)
  clear c0 c1 c2 c3 c4 c5 c6 c7 c8 f0 f1 f2 hq2 HP0 HQ0 HG0 HP1 HB1 HSZ HWB HNX
  generalize ((w1.setCell ⟨b, 0, none⟩ (.int .i64 m)).setCell ⟨b, 1, none⟩ (.int .i64 K.most)).setCell ⟨b, 2, none⟩ (.int .i64 K.calm) = w2 at *
  have HM2 := Lib.hid (HMK.out w2 HB2.out.block (Nat.le_trans (by omega) HZ2.out))
  obtain ⟨c0, c1, c2, c3, c4, c5, c6, c7, c8⟩ := HP2.out.cells
  go_upto_region 3 with (first
    | (go_at_call 10; (with_reducible refine HM2.out.mono ?_); rintro e w3 ⟨A3, C3, rfl, HS3, HB3⟩)
    | fail)
  have HX4 := Lib.hid (B5.new w3 34 (.int .u32 (groups : Nat)) (.int .u32 (fs : Nat)) (.int .i64 n) (.int .i64 m) (.slice A3 (n + m) C3))
  have hb4 := below_put w3 (.cells #[.int .u32 (groups : Nat), .int .u32 (fs : Nat), .int .i64 n, .int .i64 m, .slice A3 (n + m) C3] 34)
  have HS4 := Lib.hid ((HS3.out.low (show b ≤ w2.heap.size by have := HZ2.out; omega)).below hb4 (Nat.le_refl _))
  have HP4 := Lib.hid ((HP2.out.below HB3.out HP2.out.lt).below hb4 (HP2.out.below HB3.out HP2.out.lt).lt)
  have HQ4 := Lib.hid ((HQ2.out.below HB3.out HQ2.out.lt).below hb4 (HQ2.out.below HB3.out HQ2.out.lt).lt)
  have HG4 := Lib.hid ((HG2.out.below HB3.out HG2.out.lt).below hb4 (HG2.out.below HB3.out HG2.out.lt).lt)
  have HB4 := Lib.hid ((HB2.out.trans (HB3.out.mono (by have := HZ2.out; omega))).trans (hb4.mono (by have := HZ2.out; have := HB3.out.size; omega)))
  have HPP : Hid (b + 3 ≤ w3.heap.size) := Lib.hid (by have := HZ2.out; have := HB3.out.size; omega)
  clear c0 c1 c2 c3 c4 c5 c6 c7 c8 hb4 HS3 HB3 HP2 HQ2 HG2 HB2 HZ2 HM2 HMK
  generalize w3.alloc (.cells #[.int .u32 (groups : Nat), .int .u32 (fs : Nat), .int .i64 n, .int .i64 m, .slice A3 (n + m) C3] 34) = w4 at *
  generalize w3.heap.size = p at *
  obtain ⟨c0, c1, c2, c3, c4, c5, c6, c7, c8⟩ := HP4.out.cells
  have f5 := HP4.out.frozen 5
  have f6 := HP4.out.frozen 6
  have f7 := HP4.out.frozen 7
  have f8 := HP4.out.frozen 8
  go_upto_region 6 with fail
  have hq8 : ∀ q, q ≠ b → ((((w4.setCell ⟨b, 6, none⟩ (.int .u32 ((groups : Int) + 1))).setCell ⟨b, 7, none⟩ (.int .u32 (frames : Nat))).setCell ⟨b, 8, none⟩ (.slice none 0 0)).setCell ⟨b, 5, none⟩ (.int .i64 0)).heap[q]? = w4.heap[q]? := fun q hq => by
    rw [Below.heap_setCell _ _ _ _ hq, Below.heap_setCell _ _ _ _ hq, Below.heap_setCell _ _ _ _ hq, Below.heap_setCell _ _ _ _ hq]
  have HP8 := Lib.hid ((((HP4.out.set6 (.int .u32 ((groups : Int) + 1))).set7 (.int .u32 (frames : Nat))).set8 (.slice none 0 0)).set5 (.int .i64 0))
  have HQ8 := Lib.hid (HQ4.out.keep (hq8 (b + 1) (by omega)))
  have HG8 := Lib.hid (HG4.out.keep (hq8 (b + 1 + 1) (by omega)))
  have HX8 := Lib.hid (HX4.out.keep (hq8 p (by have := HPP.out; omega)))
  have HS8 := Lib.hid ((((HS4.out.setAt HP4.out (by decide) (by decide) 6 (.int .u32 ((groups : Int) + 1))).setAt (HP4.out.set6 (.int .u32 ((groups : Int) + 1))) (by decide) (by decide) 7 (.int .u32 (frames : Nat))).setAt ((HP4.out.set6 (.int .u32 ((groups : Int) + 1))).set7 (.int .u32 (frames : Nat))) (by decide) (by decide) 8 (.slice none 0 0)).setAt (((HP4.out.set6 (.int .u32 ((groups : Int) + 1))).set7 (.int .u32 (frames : Nat))).set8 (.slice none 0 0)) (by decide) (by decide) 5 (.int .i64 0))
  have HB8 := Lib.hid ((((HB4.out.setCell (p := ⟨b, 6, none⟩) (Nat.le_refl _) (.int .u32 ((groups : Int) + 1))).setCell (p := ⟨b, 7, none⟩) (Nat.le_refl _) (.int .u32 (frames : Nat))).setCell (p := ⟨b, 8, none⟩) (Nat.le_refl _) (.slice none 0 0)).setCell (p := ⟨b, 5, none⟩) (Nat.le_refl _) (.int .i64 0))
  clear c0 c1 c2 c3 c4 c5 c6 c7 c8 f5 f6 f7 f8 hq8 HP4 HQ4 HG4 HX4 HS4 HB4 e1 e3 e4
  generalize (((w4.setCell ⟨b, 6, none⟩ (.int .u32 ((groups : Int) + 1))).setCell ⟨b, 7, none⟩ (.int .u32 (frames : Nat))).setCell ⟨b, 8, none⟩ (.slice none 0 0)).setCell ⟨b, 5, none⟩ (.int .i64 0) = w8 at *
  obtain ⟨c0, c1, c2, c3, c4, c5, c6, c7, c8⟩ := HP8.out.cells
  obtain ⟨x0, x1, x2, x3, x4⟩ := HX8.out.cells
  obtain ⟨q0, q1, q2, q3, q4, q5, q6, q7, q8⟩ := HQ8.out.cells
  obtain ⟨r0, r1, r2, r3, r4⟩ := HG8.out.cells
  have g0 := HQ8.out.frozen 0
  have g1 := HQ8.out.frozen 1
  have g2 := HQ8.out.frozen 2
  have g3 := HQ8.out.frozen 3
  have g4 := HQ8.out.frozen 4
  have g5 := HQ8.out.frozen 5
  have g6 := HQ8.out.frozen 6
  have g7 := HQ8.out.frozen 7
  have g8 := HQ8.out.frozen 8
  have v0 := HG8.out.frozen 0
  have v1 := HG8.out.frozen 1
  have v2 := HG8.out.frozen 2
  have v3 := HG8.out.frozen 3
  have v4 := HG8.out.frozen 4
  have hne1 : b + 1 ≠ b := by omega
  have hne2 : b + 1 + 1 ≠ b + 1 := by omega
  have hne3 : p ≠ b + 1 := by have := HPP.out; omega
  have hne4 : p ≠ b + 1 + 1 := by have := HPP.out; omega
  have hne5 : b ≠ b + 1 := by omega
  have hne6 : b ≠ b + 1 + 1 := by omega
  go_region
  clear c0 c1 c2 c3 c4 c5 c6 c7 c8 x0 x1 x2 x3 x4 q0 q1 q2 q3 q4 q5 q6 q7 q8 r0 r1 r2 r3 r4 g0 g1 g2 g3 g4 g5 g6 g7 g8 v0 v1 v2 v3 v4
  have hq9 := (HQ8.out.put (.int .i64 m) (.int .i64 K.most) (.int .i64 K.calm) (.int .i64 size) (.int .i64 age) (.int .i64 0) (.int .u32 ((groups : Int) + 1)) (.int .u32 (frames : Nat)) (.slice none 0 0)).keep (heap_put5 (put9 w8 (b + 1) (.int .i64 m) (.int .i64 K.most) (.int .i64 K.calm) (.int .i64 size) (.int .i64 age) (.int .i64 0) (.int .u32 ((groups : Int) + 1)) (.int .u32 (frames : Nat)) (.slice none 0 0)) (b + 1 + 1) (.int .u32 (groups : Nat)) (.int .u32 (fs : Nat)) (.int .i64 n) (.int .i64 m) (.slice A3 (n + m) C3) (b + 1) (by omega))
  have hg8 := HG8.out.keep (heap_put9 w8 (b + 1) (.int .i64 m) (.int .i64 K.most) (.int .i64 K.calm) (.int .i64 size) (.int .i64 age) (.int .i64 0) (.int .u32 ((groups : Int) + 1)) (.int .u32 (frames : Nat)) (.slice none 0 0) (b + 1 + 1) hne2)
  have hg9 := hg8.put (.int .u32 (groups : Nat)) (.int .u32 (fs : Nat)) (.int .i64 n) (.int .i64 m) (.slice A3 (n + m) C3)
  have hs9 := (HS8.out.keep (w' := put9 w8 (b + 1) (.int .i64 m) (.int .i64 K.most) (.int .i64 K.calm) (.int .i64 size) (.int .i64 age) (.int .i64 0) (.int .u32 ((groups : Int) + 1)) (.int .u32 (frames : Nat)) (.slice none 0 0)) (fun k D ty hk ht => heap_put9 w8 (b + 1) (.int .i64 m) (.int .i64 K.most) (.int .i64 K.calm) (.int .i64 size) (.int .i64 age) (.int .i64 0) (.int .u32 ((groups : Int) + 1)) (.int .u32 (frames : Nat)) (.slice none 0 0) k (two_types hk HQ8.out (by rcases ht with rfl | rfl <;> decide)))).put hg8 (by decide) (by decide) (.int .u32 (groups : Nat)) (.int .u32 (fs : Nat)) (.int .i64 n) (.int .i64 m) (.slice A3 (n + m) C3)
  have hb9 := below_put5 (below_put9 HB8.out (show b ≤ b + 1 by omega) (.int .i64 m) (.int .i64 K.most) (.int .i64 K.calm) (.int .i64 size) (.int .i64 age) (.int .i64 0) (.int .u32 ((groups : Int) + 1)) (.int .u32 (frames : Nat)) (.slice none 0 0)) (show b ≤ b + 1 + 1 by omega) (.int .u32 (groups : Nat)) (.int .u32 (fs : Nat)) (.int .i64 n) (.int .i64 m) (.slice A3 (n + m) C3)
  unfold put9 at hq9 hg9 hs9 hb9
  obtain ⟨q0, q1, q2, q3, q4, q5, q6, q7, q8⟩ := hq9.cells
  obtain ⟨r0, r1, r2, r3, r4⟩ := hg9.cells
  have HF := Lib.hid (And.intro (hs9.below (Below.refl _ _).drew (Nat.le_refl _)) hb9.drew)
  clear hq9 hg8 hg9 hs9 hb9
  go_wp2
  refine bodyPost_ret (v := .tuple #[.agg #[.int .i64 m, .int .i64 K.most, .int .i64 K.calm, .int .i64 size, .int .i64 age, .int .i64 0, .int .u32 ((groups : Int) + 1), .int .u32 (frames : Nat), .slice none 0 0], .agg #[.int .u32 (groups : Nat), .int .u32 (fs : Nat), .int .i64 n, .int .i64 m, .slice A3 (n + m) C3]]) (by simp [results, Try.results40, go_sem, q0, q1, q2, q3, q4, q5, q6, q7, q8, r0, r1, r2, r3, r4]) rfl ?_
  have hbw := HBW.out
  subst hbw
  exact ⟨A3, C3, rfl, Lib.hid HF.out.1, Lib.hid HF.out.2⟩
end Go.Proofs.Ytphddcbkjikgfaa
