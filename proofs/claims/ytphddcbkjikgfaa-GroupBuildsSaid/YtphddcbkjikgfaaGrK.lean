/-
  Own text: layer 17 (group): the document's Add and Tick, walked. (Written by gen_grk.py.)
-/
import Derived.Test.YtphddcbkjikgfaaGrJ
import Derived.BigRegion
namespace Go.Proofs.Ytphddcbkjikgfaa
open Go.RowKit

/-- What the document's Add and Tick answer. -/
def RCallTo (r : Bd × Gd × Bool) (base : Nat) (v : Value) (w : World) (e : Ending) (w' : World) : Prop :=
  ∃ A C A' C', e = .returned (.tuple #[DV r.1 A' C', r.2.1.val A C, .bool r.2.2]) ∧ Hid (Shs w' w.heap.size (.slice A r.2.1.n C) r.2.1.n (G17 r.2.1.z r.2.1.z.length)) ∧ Hid (OwnU w' base (.slice A' r.1.z.length C') r.1.z.length r.1.z) ∧ Hid (∀ q, (Value.slice A' r.1.z.length C').ownBlock = some q → v.ownBlock = some q ∨ w.heap.size ≤ q) ∧ Hid (Below w.heap.size w w')
set_option maxRecDepth 100000 in
set_option maxHeartbeats 2000000 in
theorem radd_any (base C k : Nat) (A : Option Addr) (S : Bd) (hk : k ≤ 100) (hS : S.ok k) (i loss : Int) (h0 : 0 ≤ i) (h1 : i ≤ 65535) (w : World) (hb : base ≤ w.heap.size) (h : OwnU w base (.slice A S.z.length C) S.z.length S.z) :
    Calls Try.prog 21 #[DV S A C, .int .u16 i, .int .i64 loss] w (RCallTo (S.add i loss) base (.slice A S.z.length C) w) := by
  have hclose := fun (u : World) (A' : Option Addr) (C' : Nat) (hu : Ins u A' (S.came i).z.length (S.came i).z) => rclosed_any C' A' (S.came i) loss u hu (by show 1 ≤ (S.z ++ [i]).length; simp) (by show (S.z ++ [i]).length ≤ 16; have h1 := hS.wait; have h2 := hS.s1; simp; omega) hS.ctl (by show S.frames + 1 ≤ 1000; have := hS.frames; omega) (by show (S.z ++ [i]).length ≤ S.frames + 1; have := hS.front; simp; omega) (by show S.groups ≤ 1000; have := hS.groups; omega) (fun z hz => by
    rcases List.mem_append.1 hz with hz | hz
    · exact hS.vals z hz
    · simp at hz
      subst hz
      exact ⟨h0, h1⟩)
  have hRz : ((S.came i).close loss).1.z = [] := rfl
  unfold Bd.add
  obtain ⟨R, hR⟩ : ∃ R, (S.came i).close loss = R := ⟨_, rfl⟩
  simp only [hR] at hclose hRz ⊢
  have HCL := Lib.hid hclose
  have HRZ := Lib.hid hRz
  clear hRz hR
  have hwt := hS.wait
  have hs1' := hS.s1
  have hfr := hS.front
  have hsl := row_slice h
  unfold RCallTo DV
  clear hclose hS
  obtain ⟨n, hn⟩ : ∃ n, S.z.length = n := ⟨_, rfl⟩
  have HNN := Lib.hid hn
  obtain ⟨fs, hfs⟩ : ∃ fs, S.frames - n = fs := ⟨_, rfl⟩
  have hlen : (S.came i).z.length = n + 1 := by show (S.z ++ [i]).length = n + 1; rw [List.length_append, hn]; rfl
  have hfsc : (S.came i).frames - (n + 1) = fs := by show S.frames + 1 - (n + 1) = fs; omega
  simp only [hn] at h hwt hfr hsl ⊢
  have HNIL : Hid (A = none → C = 0) := Lib.hid (by
    obtain ⟨A', C', e, _, _, h3⟩ := hsl
    simp only [Value.slice.injEq] at e
    obtain ⟨rfl, _, rfl⟩ := e
    exact h3)
  simp only [hfs]
  have hs0 : (w.alloc (.cells #[.int .i64 S.ctl.now, .int .i64 S.ctl.most, .int .i64 S.ctl.calm, .int .i64 (S.size : Nat), .int .i64 (S.age : Nat), .int .i64 (S.old : Nat), .int .u32 (S.groups : Nat), .int .u32 (fs : Nat), .slice A n C] 66)).heap.size = w.heap.size + 1 := by simp
  have hs1 : ((w.alloc (.cells #[.int .i64 S.ctl.now, .int .i64 S.ctl.most, .int .i64 S.ctl.calm, .int .i64 (S.size : Nat), .int .i64 (S.age : Nat), .int .i64 (S.old : Nat), .int .u32 (S.groups : Nat), .int .u32 (fs : Nat), .slice A n C] 66)).alloc (.cells #[.int .i64 0, .int .i64 0, .int .i64 0, .int .i64 0, .int .i64 0, .int .i64 0, .int .u32 0, .int .u32 0, .slice none 0 0] 66)).heap.size = w.heap.size + 1 + 1 := by simp
  obtain ⟨W, hW⟩ : ∃ W, W = ((w.alloc (.cells #[.int .i64 S.ctl.now, .int .i64 S.ctl.most, .int .i64 S.ctl.calm, .int .i64 (S.size : Nat), .int .i64 (S.age : Nat), .int .i64 (S.old : Nat), .int .u32 (S.groups : Nat), .int .u32 (fs : Nat), .slice A n C] 66)).alloc (.cells #[.int .i64 0, .int .i64 0, .int .i64 0, .int .i64 0, .int .i64 0, .int .i64 0, .int .u32 0, .int .u32 0, .slice none 0 0] 66)).alloc (.cells #[.int .u32 0, .int .u32 0, .int .i64 0, .int .i64 0, .slice none 0 0] 34) := ⟨_, rfl⟩
  have HWB : Hid (Below w.heap.size w W) := Lib.hid (by rw [hW]; exact (((Below.refl w.heap.size w).alloc (Nat.le_refl _) _).alloc (by simp) _).alloc (by simp; omega) _)
  have HP0 : Hid (B9 66 W w.heap.size (.int .i64 S.ctl.now) (.int .i64 S.ctl.most) (.int .i64 S.ctl.calm) (.int .i64 (S.size : Nat)) (.int .i64 (S.age : Nat)) (.int .i64 (S.old : Nat)) (.int .u32 (S.groups : Nat)) (.int .u32 (fs : Nat)) (.slice A n C)) := Lib.hid (by
    have h := B9.new w 66 (.int .i64 S.ctl.now) (.int .i64 S.ctl.most) (.int .i64 S.ctl.calm) (.int .i64 (S.size : Nat)) (.int .i64 (S.age : Nat)) (.int .i64 (S.old : Nat)) (.int .u32 (S.groups : Nat)) (.int .u32 (fs : Nat)) (.slice A n C)
    rw [hW]
    exact (h.keep (Below.heap_alloc _ _ _ h.lt)).keep (Below.heap_alloc _ _ _ (by simp; omega)))
  have HQ0 : Hid (B9 66 W (w.heap.size + 1) (.int .i64 0) (.int .i64 0) (.int .i64 0) (.int .i64 0) (.int .i64 0) (.int .i64 0) (.int .u32 0) (.int .u32 0) (.slice none 0 0)) := Lib.hid (by
    have h := B9.new (w.alloc (.cells #[.int .i64 S.ctl.now, .int .i64 S.ctl.most, .int .i64 S.ctl.calm, .int .i64 (S.size : Nat), .int .i64 (S.age : Nat), .int .i64 (S.old : Nat), .int .u32 (S.groups : Nat), .int .u32 (fs : Nat), .slice A n C] 66)) 66 (.int .i64 0) (.int .i64 0) (.int .i64 0) (.int .i64 0) (.int .i64 0) (.int .i64 0) (.int .u32 0) (.int .u32 0) (.slice none 0 0)
    rw [hs0] at h
    rw [hW]
    exact h.keep (Below.heap_alloc _ _ _ h.lt))
  have HG0 : Hid (B5 34 W (w.heap.size + 1 + 1) (.int .u32 0) (.int .u32 0) (.int .i64 0) (.int .i64 0) (.slice none 0 0)) := Lib.hid (by
    rw [hW, ← hs1]
    exact B5.new _ _ _ _ _ _ _)
  have HSZ : Hid (W.heap.size = w.heap.size + 3) := Lib.hid (by rw [hW]; simp)
  clear hs0 hs1
  have HINS := Lib.hid ((h.below (HWB.out.trans ((below_put W (.cells #[] 54)).mono HWB.out.size)) (Nat.le_refl _)).ins)
  have HOW0 : Hid (OwnU (W.alloc (.cells #[] 54)) W.heap.size (.slice (some ⟨W.heap.size, 0, none⟩) 0 0) 0 []) := Lib.hid ⟨rfl, .inr ⟨W.heap.size, 0, #[], rfl, Nat.le_refl _, Go.Deep.blk_alloc_new _ _, by omega, by omega, rfl, rfl⟩⟩
  have H0N : Hid (n = 0 + n) := Lib.hid (by omega)
  have HN0 : Hid (0 + n ≤ 100000) := Lib.hid (by omega)
  have HN1 : Hid (n + 1 ≤ 100000) := Lib.hid (by omega)
  have HBW0 : Hid (W.heap.size ≤ (W.alloc (.cells #[] 54)).heap.size) := Lib.hid (by simp)
  have HBB := Lib.hid hb
  have HLEN := Lib.hid hlen
  have HFSC := Lib.hid hfsc
  clear h hsl hb hn hs1' hfr hlen hfsc
  go_enter Try.func21, Try.ntmps21
  go_upto_region 1 with fail
  rw [← hW]
  clear hW
  obtain ⟨b, hbw⟩ : ∃ b, b = w.heap.size := ⟨_, rfl⟩
  have HBW := Lib.hid hbw
  rw [← hbw] at HP0 HQ0 HG0 HSZ HWB HBB ⊢
  clear hbw
  have a8 := (HP0.out.below (below_put W (.cells #[] 54)) HP0.out.lt).cells.2.2.2.2.2.2.2.2
  go_upto_region 2 with (first
    | ((with_reducible refine wpList_append_us (w := W.alloc _) rfl (.tmp 12) (.tmp 14) rfl W.heap.size (some ⟨W.heap.size, 0, none⟩) 0 0 rfl [] HOW0.out A n C rfl S.z HINS.out HNIL.out HN0.out HBW0.out n H0N.out S.z rfl ?_); intro A4 C4 w4 HO4 HG4 HF4)
    | fail)
  have hb4 : Below W.heap.size W w4 := (below_put W (.cells #[] 54)).grown HG4.out HBW0.out (fun q e => by
    have e2 : W.heap.size = q := by simpa [Value.ownBlock] using e
    omega)
  have HB4 := Lib.hid hb4
  clear hb4 HG4 HF4 HINS HOW0 H0N HN0 a8
  have HO4a := Lib.hid (HO4.out.below (below_put w4 (.cells #[.int .u16 i] 54)) (Nat.le_refl _))
  have HI4 : Hid (Ins (w4.alloc (.cells #[.int .u16 i] 54)) (some ⟨w4.heap.size, 0, none⟩) 1 [i]) := Lib.hid ⟨rfl, .inr ⟨_, 0, rfl, by simp, fun j hj => by
    obtain rfl : j = 0 := by omega
    exact new_box w4 _ _⟩⟩
  have HZ4 : Hid (W.heap.size ≤ (w4.alloc (.cells #[.int .u16 i] 54)).heap.size) := Lib.hid (by have := HB4.out.size; simp; omega)
  have HBG : Hid (∀ w5, (w4.alloc (.cells #[.int .u16 i] 54)).grownBy w5 (Value.slice A4 n C4).ownBlock → Below W.heap.size W w5) := Lib.hid (fun w5 hg => (HB4.out.trans ((below_put w4 (.cells #[.int .u16 i] 54)).mono HB4.out.size)).grown hg HZ4.out (fun q e => (HO4.out.lt q e).1))
  go_upto_region 3 with (first
    | ((with_reducible refine wpList_append_us (w := w4.alloc _) rfl (.tmp 16) (.tmp 18) rfl W.heap.size A4 n C4 rfl S.z HO4a.out (some ⟨w4.heap.size, 0, none⟩) 1 1 rfl [i] HI4.out (fun h => nomatch h) HN1.out HZ4.out (n + 1) rfl (S.z ++ [i]) rfl ?_); intro A5 C5 w5 HO5 HG5 HF5; have HB5 := Lib.hid (HBG.out w5 HG5.out); have HP5 := Lib.hid (HP0.out.below HB5.out HP0.out.lt); obtain ⟨c0, c1, c2, c3, c4, c5, c6, c7, c8⟩ := HP5.out.cells; have f8 := HP5.out.frozen 8)
    | fail)
  have hq6 : ∀ q, q ≠ b → (w5.setCell ⟨b, 8, none⟩ (.slice A5 (n + 1) C5)).heap[q]? = w5.heap[q]? := fun q hq => Below.heap_setCell _ _ _ _ hq
  have HP6 := Lib.hid (HP5.out.set8 (.slice A5 (n + 1) C5))
  have HQ6 := Lib.hid ((HQ0.out.below HB5.out HQ0.out.lt).keep (hq6 (b + 1) (by omega)))
  have HG6 := Lib.hid ((HG0.out.below HB5.out HG0.out.lt).keep (hq6 (b + 1 + 1) (by omega)))
  have HU6 := Lib.hid (HO5.out.keep (w' := w5.setCell ⟨b, 8, none⟩ (.slice A5 (n + 1) C5)) (fun q hq => hq6 q (by have := (HO5.out.lt q hq).1; have := HSZ.out; omega)))
  have HV6 : Hid (∀ q, (Value.slice A5 (n + 1) C5).ownBlock = some q → b ≤ q) := Lib.hid (fun q hq => by have := (HO5.out.lt q hq).1; have := HSZ.out; omega)
  have HB6 : Hid (Below b w (w5.setCell ⟨b, 8, none⟩ (.slice A5 (n + 1) C5))) := Lib.hid ((HWB.out.trans (HB5.out.mono (by have := HSZ.out; omega))).setCell (p := ⟨b, 8, none⟩) (Nat.le_refl _) _)
  have HL6 : Hid (base ≤ W.heap.size) := Lib.hid (by have := HBB.out; have := HSZ.out; omega)
  have HZ6 : Hid (b + 3 ≤ (w5.setCell ⟨b, 8, none⟩ (.slice A5 (n + 1) C5)).heap.size) := Lib.hid (by have := HB5.out.size; have := HSZ.out; simp; omega)
  clear c0 c1 c2 c3 c4 c5 c6 c7 c8 f8 hq6 HP0 HQ0 HG0 HP5 HB5 HO5 HG5 HF5 HBG HZ4 HI4 HO4a HB4 HO4
  generalize w5.setCell ⟨b, 8, none⟩ (.slice A5 (n + 1) C5) = w6 at *
  obtain ⟨c0, c1, c2, c3, c4, c5, c6, c7, c8⟩ := HP6.out.cells
  by_cases hlt : n + 1 < S.size
  · have j1 : (n : Int) + 1 < S.size := by omega
    have HQ8 := HQ6
    have HG8 := HG6
    have HU8 := HU6
    have HB8 := HB6
    have HS8 : Hid (Shs w6 b (.slice none 0 0) 0 (G17 [] 0)) := Lib.hid (Shs.nil _ _ _)
    clear HCL HQ6 HG6 HU6 HB6
    generalize w6 = w8 at *
    obtain ⟨q0, q1, q2, q3, q4, q5, q6, q7, q8⟩ := HQ8.out.cells
    obtain ⟨r0, r1, r2, r3, r4⟩ := HG8.out.cells
    have g0 := HQ8.out.frozen 0
    have g1 := HQ8.out.frozen 1
    have g2 := HQ8.out.frozen 2
    have g3 := HQ8.out.frozen 3
    have g4 := HQ8.out.frozen 4
    have g5 := HQ8.out.frozen 5
    have g6 := HQ8.out.frozen 6
    have g7 := HQ8.out.frozen 7
    have g8 := HQ8.out.frozen 8
    have v0 := HG8.out.frozen 0
    have v1 := HG8.out.frozen 1
    have v2 := HG8.out.frozen 2
    have v3 := HG8.out.frozen 3
    have v4 := HG8.out.frozen 4
    have hne1 : b + 1 ≠ b := by omega
    have hne2 : b + 1 + 1 ≠ b + 1 := by omega
    have hne5 : b ≠ b + 1 := by omega
    have hne6 : b ≠ b + 1 + 1 := by omega
    go_wp2
    clear c0 c1 c2 c3 c4 c5 c6 c7 c8 q0 q1 q2 q3 q4 q5 q6 q7 q8 r0 r1 r2 r3 r4 g0 g1 g2 g3 g4 g5 g6 g7 g8 v0 v1 v2 v3 v4
    have hq9 := (HQ8.out.put (.int .i64 S.ctl.now) (.int .i64 S.ctl.most) (.int .i64 S.ctl.calm) (.int .i64 (S.size : Nat)) (.int .i64 (S.age : Nat)) (.int .i64 (S.old : Nat)) (.int .u32 (S.groups : Nat)) (.int .u32 (fs : Nat)) (.slice A5 (n + 1) C5)).keep (heap_put5 (put9 w8 (b + 1) (.int .i64 S.ctl.now) (.int .i64 S.ctl.most) (.int .i64 S.ctl.calm) (.int .i64 (S.size : Nat)) (.int .i64 (S.age : Nat)) (.int .i64 (S.old : Nat)) (.int .u32 (S.groups : Nat)) (.int .u32 (fs : Nat)) (.slice A5 (n + 1) C5)) (b + 1 + 1) (.int .u32 0) (.int .u32 0) (.int .i64 0) (.int .i64 0) (.slice none 0 0) (b + 1) (by omega))
    have hg8 := HG8.out.keep (heap_put9 w8 (b + 1) (.int .i64 S.ctl.now) (.int .i64 S.ctl.most) (.int .i64 S.ctl.calm) (.int .i64 (S.size : Nat)) (.int .i64 (S.age : Nat)) (.int .i64 (S.old : Nat)) (.int .u32 (S.groups : Nat)) (.int .u32 (fs : Nat)) (.slice A5 (n + 1) C5) (b + 1 + 1) hne2)
    have hg9 := hg8.put (.int .u32 0) (.int .u32 0) (.int .i64 0) (.int .i64 0) (.slice none 0 0)
    have hty : ∀ (k : Nat) (D : Array Value) (ty : TypeId), w8.heap[k]? = some (Obj.cells D ty (0, 0)) → ty ≠ 66 → (put9 w8 (b + 1) (.int .i64 S.ctl.now) (.int .i64 S.ctl.most) (.int .i64 S.ctl.calm) (.int .i64 (S.size : Nat)) (.int .i64 (S.age : Nat)) (.int .i64 (S.old : Nat)) (.int .u32 (S.groups : Nat)) (.int .u32 (fs : Nat)) (.slice A5 (n + 1) C5)).heap[k]? = w8.heap[k]? := fun k D ty hk ht => heap_put9 w8 (b + 1) (.int .i64 S.ctl.now) (.int .i64 S.ctl.most) (.int .i64 S.ctl.calm) (.int .i64 (S.size : Nat)) (.int .i64 (S.age : Nat)) (.int .i64 (S.old : Nat)) (.int .u32 (S.groups : Nat)) (.int .u32 (fs : Nat)) (.slice A5 (n + 1) C5) k (two_types hk HQ8.out ht)
    have hs9 := (HS8.out.keep (w' := put9 w8 (b + 1) (.int .i64 S.ctl.now) (.int .i64 S.ctl.most) (.int .i64 S.ctl.calm) (.int .i64 (S.size : Nat)) (.int .i64 (S.age : Nat)) (.int .i64 (S.old : Nat)) (.int .u32 (S.groups : Nat)) (.int .u32 (fs : Nat)) (.slice A5 (n + 1) C5)) (fun k D ty hk ht => hty k D ty hk (by rcases ht with rfl | rfl <;> decide))).put hg8 (by decide) (by decide) (.int .u32 0) (.int .u32 0) (.int .i64 0) (.int .i64 0) (.slice none 0 0)
    have hu8 := HU8.out.keep (w' := put9 w8 (b + 1) (.int .i64 S.ctl.now) (.int .i64 S.ctl.most) (.int .i64 S.ctl.calm) (.int .i64 (S.size : Nat)) (.int .i64 (S.age : Nat)) (.int .i64 (S.old : Nat)) (.int .u32 (S.groups : Nat)) (.int .u32 (fs : Nat)) (.slice A5 (n + 1) C5)) (fun q hq => by
      obtain ⟨cur, hc⟩ := own_type HU8.out hq
      exact hty q cur _ hc (by decide))
    have hu9 := hu8.keep (fun q hq => by
      obtain ⟨cur, hc⟩ := own_type hu8 hq
      exact heap_put5 (put9 w8 (b + 1) (.int .i64 S.ctl.now) (.int .i64 S.ctl.most) (.int .i64 S.ctl.calm) (.int .i64 (S.size : Nat)) (.int .i64 (S.age : Nat)) (.int .i64 (S.old : Nat)) (.int .u32 (S.groups : Nat)) (.int .u32 (fs : Nat)) (.slice A5 (n + 1) C5)) (b + 1 + 1) (.int .u32 0) (.int .u32 0) (.int .i64 0) (.int .i64 0) (.slice none 0 0) q (two_types hc hg8 (by decide)))
    have hb9 := below_put5 (below_put9 HB8.out (show b ≤ b + 1 by omega) (.int .i64 S.ctl.now) (.int .i64 S.ctl.most) (.int .i64 S.ctl.calm) (.int .i64 (S.size : Nat)) (.int .i64 (S.age : Nat)) (.int .i64 (S.old : Nat)) (.int .u32 (S.groups : Nat)) (.int .u32 (fs : Nat)) (.slice A5 (n + 1) C5)) (show b ≤ b + 1 + 1 by omega) (.int .u32 0) (.int .u32 0) (.int .i64 0) (.int .i64 0) (.slice none 0 0)
    clear hty hu8
    unfold put9 at hq9 hg9 hs9 hb9 hu9
    obtain ⟨q0, q1, q2, q3, q4, q5, q6, q7, q8⟩ := hq9.cells
    obtain ⟨r0, r1, r2, r3, r4⟩ := hg9.cells
    have HF := Lib.hid (And.intro hs9 (And.intro hu9 hb9))
    clear hq9 hg8 hg9 hs9 hb9 hu9
    refine bodyPost_ret (v := .tuple #[.agg #[.int .i64 S.ctl.now, .int .i64 S.ctl.most, .int .i64 S.ctl.calm, .int .i64 (S.size : Nat), .int .i64 (S.age : Nat), .int .i64 (S.old : Nat), .int .u32 (S.groups : Nat), .int .u32 (fs : Nat), .slice A5 (n + 1) C5], .agg #[.int .u32 0, .int .u32 0, .int .i64 0, .int .i64 0, .slice none 0 0], .bool false]) (by simp [results, Try.results21, go_sem, q0, q1, q2, q3, q4, q5, q6, q7, q8, r0, r1, r2, r3, r4]) rfl ?_
    have hbw := HBW.out
    subst hbw
    rw [HLEN.out, HFSC.out]
    exact ⟨none, 0, A5, C5, rfl, Lib.hid HF.out.1, Lib.hid (HF.out.2.1.low HL6.out), Lib.hid (fun q hq => .inr (HV6.out q hq)), Lib.hid HF.out.2.2⟩
  · have j1 : ¬ (n : Int) + 1 < S.size := by omega
    have hc6 := HCL.out w6 A5 C5 (by rw [HLEN.out]; exact HU6.out.ins)
    unfold DV at hc6
    rw [HLEN.out, HFSC.out] at hc6
    unfold RClosedTo Gd.val DV at hc6
    dsimp only [Bd.came] at hc6
    have HC6 := Lib.hid hc6
    clear hc6 HCL
    go_upto_region 6 with (first
      | (go_at_call 40; (with_reducible refine HC6.out.mono ?_); rintro e w7 ⟨A7, C7, rfl, HS7, HB7⟩)
      | fail)
    have hsz : (w7.alloc (.cells #[.int .i64 R.1.ctl.now, .int .i64 R.1.ctl.most, .int .i64 R.1.ctl.calm, .int .i64 (R.1.size : Nat), .int .i64 (R.1.age : Nat), .int .i64 (R.1.old : Nat), .int .u32 (R.1.groups : Nat), .int .u32 ((R.1.frames - R.1.z.length : Nat) : Int), .slice none R.1.z.length 0] 66)).heap.size = w7.heap.size + 1 := by simp
    have ha8 : Below w7.heap.size w7 ((w7.alloc (.cells #[.int .i64 R.1.ctl.now, .int .i64 R.1.ctl.most, .int .i64 R.1.ctl.calm, .int .i64 (R.1.size : Nat), .int .i64 (R.1.age : Nat), .int .i64 (R.1.old : Nat), .int .u32 (R.1.groups : Nat), .int .u32 ((R.1.frames - R.1.z.length : Nat) : Int), .slice none R.1.z.length 0] 66)).alloc (.cells #[.int .u32 R.2.no, .int .u32 R.2.fst, .int .i64 (R.2.z.length : Nat), .int .i64 (R.2.m : Nat), .slice A7 R.2.n C7] 34)) := ((Below.refl w7.heap.size w7).alloc (Nat.le_refl _) _).alloc (by simp) _
    have HT8 : Hid (B9 66 ((w7.alloc (.cells #[.int .i64 R.1.ctl.now, .int .i64 R.1.ctl.most, .int .i64 R.1.ctl.calm, .int .i64 (R.1.size : Nat), .int .i64 (R.1.age : Nat), .int .i64 (R.1.old : Nat), .int .u32 (R.1.groups : Nat), .int .u32 ((R.1.frames - R.1.z.length : Nat) : Int), .slice none R.1.z.length 0] 66)).alloc (.cells #[.int .u32 R.2.no, .int .u32 R.2.fst, .int .i64 (R.2.z.length : Nat), .int .i64 (R.2.m : Nat), .slice A7 R.2.n C7] 34)) w7.heap.size (.int .i64 R.1.ctl.now) (.int .i64 R.1.ctl.most) (.int .i64 R.1.ctl.calm) (.int .i64 (R.1.size : Nat)) (.int .i64 (R.1.age : Nat)) (.int .i64 (R.1.old : Nat)) (.int .u32 (R.1.groups : Nat)) (.int .u32 ((R.1.frames - R.1.z.length : Nat) : Int)) (.slice none R.1.z.length 0)) := Lib.hid (by
      have h := B9.new w7 66 (.int .i64 R.1.ctl.now) (.int .i64 R.1.ctl.most) (.int .i64 R.1.ctl.calm) (.int .i64 (R.1.size : Nat)) (.int .i64 (R.1.age : Nat)) (.int .i64 (R.1.old : Nat)) (.int .u32 (R.1.groups : Nat)) (.int .u32 ((R.1.frames - R.1.z.length : Nat) : Int)) (.slice none R.1.z.length 0)
      exact h.keep (Below.heap_alloc _ _ _ h.lt))
    have HX8 : Hid (B5 34 ((w7.alloc (.cells #[.int .i64 R.1.ctl.now, .int .i64 R.1.ctl.most, .int .i64 R.1.ctl.calm, .int .i64 (R.1.size : Nat), .int .i64 (R.1.age : Nat), .int .i64 (R.1.old : Nat), .int .u32 (R.1.groups : Nat), .int .u32 ((R.1.frames - R.1.z.length : Nat) : Int), .slice none R.1.z.length 0] 66)).alloc (.cells #[.int .u32 R.2.no, .int .u32 R.2.fst, .int .i64 (R.2.z.length : Nat), .int .i64 (R.2.m : Nat), .slice A7 R.2.n C7] 34)) (w7.heap.size + 1) (.int .u32 R.2.no) (.int .u32 R.2.fst) (.int .i64 (R.2.z.length : Nat)) (.int .i64 (R.2.m : Nat)) (.slice A7 R.2.n C7)) := Lib.hid (by
      rw [← hsz]
      exact B5.new _ _ _ _ _ _ _)
    have HQ8 := Lib.hid ((HQ6.out.below HB7.out HQ6.out.lt).below ha8 (HQ6.out.below HB7.out HQ6.out.lt).lt)
    have HG8 := Lib.hid ((HG6.out.below HB7.out HG6.out.lt).below ha8 (HG6.out.below HB7.out HG6.out.lt).lt)
    have HS8 := Lib.hid ((HS7.out.low (show b ≤ w6.heap.size by have := HZ6.out; omega)).below ha8 (Nat.le_refl _))
    have HB8 := Lib.hid ((HB6.out.trans (HB7.out.mono (by have := HZ6.out; omega))).trans (ha8.mono (by have := HZ6.out; have := HB7.out.size; omega)))
    have HU8 : Hid (OwnU ((w7.alloc (.cells #[.int .i64 R.1.ctl.now, .int .i64 R.1.ctl.most, .int .i64 R.1.ctl.calm, .int .i64 (R.1.size : Nat), .int .i64 (R.1.age : Nat), .int .i64 (R.1.old : Nat), .int .u32 (R.1.groups : Nat), .int .u32 ((R.1.frames - R.1.z.length : Nat) : Int), .slice none R.1.z.length 0] 66)).alloc (.cells #[.int .u32 R.2.no, .int .u32 R.2.fst, .int .i64 (R.2.z.length : Nat), .int .i64 (R.2.m : Nat), .slice A7 R.2.n C7] 34)) base (.slice none 0 0) 0 []) := Lib.hid (OwnU.none _ _)
    have HPP : Hid (b + 3 ≤ w7.heap.size) := Lib.hid (by have := HZ6.out; have := HB7.out.size; omega)
    clear c0 c1 c2 c3 c4 c5 c6 c7 c8 hsz ha8 HC6 HS7 HB7
    generalize (w7.alloc (.cells #[.int .i64 R.1.ctl.now, .int .i64 R.1.ctl.most, .int .i64 R.1.ctl.calm, .int .i64 (R.1.size : Nat), .int .i64 (R.1.age : Nat), .int .i64 (R.1.old : Nat), .int .u32 (R.1.groups : Nat), .int .u32 ((R.1.frames - R.1.z.length : Nat) : Int), .slice none R.1.z.length 0] 66)).alloc (.cells #[.int .u32 R.2.no, .int .u32 R.2.fst, .int .i64 (R.2.z.length : Nat), .int .i64 (R.2.m : Nat), .slice A7 R.2.n C7] 34) = w8 at *
    generalize w7.heap.size = p at *
    obtain ⟨c0, c1, c2, c3, c4, c5, c6, c7, c8⟩ := HT8.out.cells
    obtain ⟨x0, x1, x2, x3, x4⟩ := HX8.out.cells
    have hnp1 : p ≠ b + 1 := by have := HPP.out; omega
    have hnp2 : p ≠ b + 1 + 1 := by have := HPP.out; omega
    have hnp3 : p + 1 ≠ b + 1 := by have := HPP.out; omega
    have hnp4 : p + 1 ≠ b + 1 + 1 := by have := HPP.out; omega
    obtain ⟨q0, q1, q2, q3, q4, q5, q6, q7, q8⟩ := HQ8.out.cells
    obtain ⟨r0, r1, r2, r3, r4⟩ := HG8.out.cells
    have g0 := HQ8.out.frozen 0
    have g1 := HQ8.out.frozen 1
    have g2 := HQ8.out.frozen 2
    have g3 := HQ8.out.frozen 3
    have g4 := HQ8.out.frozen 4
    have g5 := HQ8.out.frozen 5
    have g6 := HQ8.out.frozen 6
    have g7 := HQ8.out.frozen 7
    have g8 := HQ8.out.frozen 8
    have v0 := HG8.out.frozen 0
    have v1 := HG8.out.frozen 1
    have v2 := HG8.out.frozen 2
    have v3 := HG8.out.frozen 3
    have v4 := HG8.out.frozen 4
    have hne1 : b + 1 ≠ b := by omega
    have hne2 : b + 1 + 1 ≠ b + 1 := by omega
    have hne5 : b ≠ b + 1 := by omega
    have hne6 : b ≠ b + 1 + 1 := by omega
    go_region
    clear c0 c1 c2 c3 c4 c5 c6 c7 c8 x0 x1 x2 x3 x4 hnp1 hnp2 hnp3 hnp4 q0 q1 q2 q3 q4 q5 q6 q7 q8 r0 r1 r2 r3 r4 g0 g1 g2 g3 g4 g5 g6 g7 g8 v0 v1 v2 v3 v4
    go_wp2
    have hq9 := (HQ8.out.put (.int .i64 R.1.ctl.now) (.int .i64 R.1.ctl.most) (.int .i64 R.1.ctl.calm) (.int .i64 (R.1.size : Nat)) (.int .i64 (R.1.age : Nat)) (.int .i64 (R.1.old : Nat)) (.int .u32 (R.1.groups : Nat)) (.int .u32 ((R.1.frames - R.1.z.length : Nat) : Int)) (.slice none R.1.z.length 0)).keep (heap_put5 (put9 w8 (b + 1) (.int .i64 R.1.ctl.now) (.int .i64 R.1.ctl.most) (.int .i64 R.1.ctl.calm) (.int .i64 (R.1.size : Nat)) (.int .i64 (R.1.age : Nat)) (.int .i64 (R.1.old : Nat)) (.int .u32 (R.1.groups : Nat)) (.int .u32 ((R.1.frames - R.1.z.length : Nat) : Int)) (.slice none R.1.z.length 0)) (b + 1 + 1) (.int .u32 R.2.no) (.int .u32 R.2.fst) (.int .i64 (R.2.z.length : Nat)) (.int .i64 (R.2.m : Nat)) (.slice A7 R.2.n C7) (b + 1) (by omega))
    have hg8 := HG8.out.keep (heap_put9 w8 (b + 1) (.int .i64 R.1.ctl.now) (.int .i64 R.1.ctl.most) (.int .i64 R.1.ctl.calm) (.int .i64 (R.1.size : Nat)) (.int .i64 (R.1.age : Nat)) (.int .i64 (R.1.old : Nat)) (.int .u32 (R.1.groups : Nat)) (.int .u32 ((R.1.frames - R.1.z.length : Nat) : Int)) (.slice none R.1.z.length 0) (b + 1 + 1) hne2)
    have hg9 := hg8.put (.int .u32 R.2.no) (.int .u32 R.2.fst) (.int .i64 (R.2.z.length : Nat)) (.int .i64 (R.2.m : Nat)) (.slice A7 R.2.n C7)
    have hty : ∀ (k : Nat) (D : Array Value) (ty : TypeId), w8.heap[k]? = some (Obj.cells D ty (0, 0)) → ty ≠ 66 → (put9 w8 (b + 1) (.int .i64 R.1.ctl.now) (.int .i64 R.1.ctl.most) (.int .i64 R.1.ctl.calm) (.int .i64 (R.1.size : Nat)) (.int .i64 (R.1.age : Nat)) (.int .i64 (R.1.old : Nat)) (.int .u32 (R.1.groups : Nat)) (.int .u32 ((R.1.frames - R.1.z.length : Nat) : Int)) (.slice none R.1.z.length 0)).heap[k]? = w8.heap[k]? := fun k D ty hk ht => heap_put9 w8 (b + 1) (.int .i64 R.1.ctl.now) (.int .i64 R.1.ctl.most) (.int .i64 R.1.ctl.calm) (.int .i64 (R.1.size : Nat)) (.int .i64 (R.1.age : Nat)) (.int .i64 (R.1.old : Nat)) (.int .u32 (R.1.groups : Nat)) (.int .u32 ((R.1.frames - R.1.z.length : Nat) : Int)) (.slice none R.1.z.length 0) k (two_types hk HQ8.out ht)
    have hs9 := (HS8.out.keep (w' := put9 w8 (b + 1) (.int .i64 R.1.ctl.now) (.int .i64 R.1.ctl.most) (.int .i64 R.1.ctl.calm) (.int .i64 (R.1.size : Nat)) (.int .i64 (R.1.age : Nat)) (.int .i64 (R.1.old : Nat)) (.int .u32 (R.1.groups : Nat)) (.int .u32 ((R.1.frames - R.1.z.length : Nat) : Int)) (.slice none R.1.z.length 0)) (fun k D ty hk ht => hty k D ty hk (by rcases ht with rfl | rfl <;> decide))).put hg8 (by decide) (by decide) (.int .u32 R.2.no) (.int .u32 R.2.fst) (.int .i64 (R.2.z.length : Nat)) (.int .i64 (R.2.m : Nat)) (.slice A7 R.2.n C7)
    have hu8 := HU8.out.keep (w' := put9 w8 (b + 1) (.int .i64 R.1.ctl.now) (.int .i64 R.1.ctl.most) (.int .i64 R.1.ctl.calm) (.int .i64 (R.1.size : Nat)) (.int .i64 (R.1.age : Nat)) (.int .i64 (R.1.old : Nat)) (.int .u32 (R.1.groups : Nat)) (.int .u32 ((R.1.frames - R.1.z.length : Nat) : Int)) (.slice none R.1.z.length 0)) (fun q hq => by
      obtain ⟨cur, hc⟩ := own_type HU8.out hq
      exact hty q cur _ hc (by decide))
    have hu9 := hu8.keep (fun q hq => by
      obtain ⟨cur, hc⟩ := own_type hu8 hq
      exact heap_put5 (put9 w8 (b + 1) (.int .i64 R.1.ctl.now) (.int .i64 R.1.ctl.most) (.int .i64 R.1.ctl.calm) (.int .i64 (R.1.size : Nat)) (.int .i64 (R.1.age : Nat)) (.int .i64 (R.1.old : Nat)) (.int .u32 (R.1.groups : Nat)) (.int .u32 ((R.1.frames - R.1.z.length : Nat) : Int)) (.slice none R.1.z.length 0)) (b + 1 + 1) (.int .u32 R.2.no) (.int .u32 R.2.fst) (.int .i64 (R.2.z.length : Nat)) (.int .i64 (R.2.m : Nat)) (.slice A7 R.2.n C7) q (two_types hc hg8 (by decide)))
    have hb9 := below_put5 (below_put9 HB8.out (show b ≤ b + 1 by omega) (.int .i64 R.1.ctl.now) (.int .i64 R.1.ctl.most) (.int .i64 R.1.ctl.calm) (.int .i64 (R.1.size : Nat)) (.int .i64 (R.1.age : Nat)) (.int .i64 (R.1.old : Nat)) (.int .u32 (R.1.groups : Nat)) (.int .u32 ((R.1.frames - R.1.z.length : Nat) : Int)) (.slice none R.1.z.length 0)) (show b ≤ b + 1 + 1 by omega) (.int .u32 R.2.no) (.int .u32 R.2.fst) (.int .i64 (R.2.z.length : Nat)) (.int .i64 (R.2.m : Nat)) (.slice A7 R.2.n C7)
    clear hty hu8
    unfold put9 at hq9 hg9 hs9 hb9 hu9
    obtain ⟨q0, q1, q2, q3, q4, q5, q6, q7, q8⟩ := hq9.cells
    obtain ⟨r0, r1, r2, r3, r4⟩ := hg9.cells
    have HF := Lib.hid (And.intro (hs9.below (Below.refl _ _).drew (Nat.le_refl _)) (And.intro (hu9.below (Below.refl _ _).drew (Nat.le_refl _)) hb9.drew))
    clear hq9 hg8 hg9 hs9 hb9 hu9
    refine bodyPost_ret (v := .tuple #[.agg #[.int .i64 R.1.ctl.now, .int .i64 R.1.ctl.most, .int .i64 R.1.ctl.calm, .int .i64 (R.1.size : Nat), .int .i64 (R.1.age : Nat), .int .i64 (R.1.old : Nat), .int .u32 (R.1.groups : Nat), .int .u32 ((R.1.frames - R.1.z.length : Nat) : Int), .slice none R.1.z.length 0], .agg #[.int .u32 R.2.no, .int .u32 R.2.fst, .int .i64 (R.2.z.length : Nat), .int .i64 (R.2.m : Nat), .slice A7 R.2.n C7], .bool true]) (by simp [results, Try.results21, go_sem, q0, q1, q2, q3, q4, q5, q6, q7, q8, r0, r1, r2, r3, r4]) rfl ?_
    have hbw := HBW.out
    subst hbw
    exact ⟨A7, C7, none, 0, rfl, Lib.hid HF.out.1, Lib.hid (by rw [HRZ.out]; exact OwnU.none _ _), Lib.hid (fun q hq => by simp [Value.ownBlock] at hq), Lib.hid HF.out.2.2⟩
end Go.Proofs.Ytphddcbkjikgfaa
