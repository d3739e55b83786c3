/-
  Own text: layer 17 (group): the document's Tick, walked. (Written by gen_grk.py.)
-/
import Derived.Test.YtphddcbkjikgfaaGrK
namespace Go.Proofs.Ytphddcbkjikgfaa
open Go.RowKit

set_option maxRecDepth 100000 in
set_option maxHeartbeats 2000000 in
theorem rtick_any (base C k : Nat) (A : Option Addr) (S : Bd) (hk : k ≤ 100) (hS : S.ok k) (loss : Int) (w : World) (hb : base ≤ w.heap.size) (h : OwnU w base (.slice A S.z.length C) S.z.length S.z) :
    Calls Try.prog 20 #[DV S A C, .int .i64 loss] w (RCallTo (S.tick loss) base (.slice A S.z.length C) w) := by
  have hclose := fun (hz : ¬ S.z.length = 0) (u : World) (A' : Option Addr) (C' : Nat) (hu : Ins u A' S.z.length S.z) => rclosed_any C' A' S.older loss u hu (by show 1 ≤ S.z.length; omega) (by show S.z.length ≤ 16; have h1 := hS.wait; have h2 := hS.s1; omega) hS.ctl (by show S.frames ≤ 1000; have := hS.frames; omega) hS.front (by show S.groups ≤ 1000; have := hS.groups; omega) hS.vals
  have hRz : (S.older.close loss).1.z = [] := rfl
  unfold Bd.tick
  obtain ⟨R, hR⟩ : ∃ R, S.older.close loss = R := ⟨_, rfl⟩
  simp only [hR] at hclose hRz ⊢
  have HCL := Lib.hid hclose
  have HRZ := Lib.hid hRz
  clear hRz hR
  have ha1 := hS.a1
  have hold := hS.old
  unfold RCallTo DV
  clear hclose hS
  obtain ⟨n, hn⟩ : ∃ n, S.z.length = n := ⟨_, rfl⟩
  have HNN := Lib.hid hn
  obtain ⟨fs, hfs⟩ : ∃ fs, S.frames - n = fs := ⟨_, rfl⟩
  have hlen : S.older.z.length = n := hn
  have hfsc : S.older.frames - n = fs := hfs
  simp only [hn] at h HCL ⊢
  have HFS := Lib.hid hfs
  simp only [hfs]
  have hs0 : (w.alloc (.cells #[.int .i64 S.ctl.now, .int .i64 S.ctl.most, .int .i64 S.ctl.calm, .int .i64 (S.size : Nat), .int .i64 (S.age : Nat), .int .i64 (S.old : Nat), .int .u32 (S.groups : Nat), .int .u32 (fs : Nat), .slice A n C] 66)).heap.size = w.heap.size + 1 := by simp
  have hs1 : ((w.alloc (.cells #[.int .i64 S.ctl.now, .int .i64 S.ctl.most, .int .i64 S.ctl.calm, .int .i64 (S.size : Nat), .int .i64 (S.age : Nat), .int .i64 (S.old : Nat), .int .u32 (S.groups : Nat), .int .u32 (fs : Nat), .slice A n C] 66)).alloc (.cells #[.int .i64 0, .int .i64 0, .int .i64 0, .int .i64 0, .int .i64 0, .int .i64 0, .int .u32 0, .int .u32 0, .slice none 0 0] 66)).heap.size = w.heap.size + 1 + 1 := by simp
  obtain ⟨W, hW⟩ : ∃ W, W = ((w.alloc (.cells #[.int .i64 S.ctl.now, .int .i64 S.ctl.most, .int .i64 S.ctl.calm, .int .i64 (S.size : Nat), .int .i64 (S.age : Nat), .int .i64 (S.old : Nat), .int .u32 (S.groups : Nat), .int .u32 (fs : Nat), .slice A n C] 66)).alloc (.cells #[.int .i64 0, .int .i64 0, .int .i64 0, .int .i64 0, .int .i64 0, .int .i64 0, .int .u32 0, .int .u32 0, .slice none 0 0] 66)).alloc (.cells #[.int .u32 0, .int .u32 0, .int .i64 0, .int .i64 0, .slice none 0 0] 34) := ⟨_, rfl⟩
  have HWB : Hid (Below w.heap.size w W) := Lib.hid (by rw [hW]; exact (((Below.refl w.heap.size w).alloc (Nat.le_refl _) _).alloc (by simp) _).alloc (by simp; omega) _)
  have HP0 : Hid (B9 66 W w.heap.size (.int .i64 S.ctl.now) (.int .i64 S.ctl.most) (.int .i64 S.ctl.calm) (.int .i64 (S.size : Nat)) (.int .i64 (S.age : Nat)) (.int .i64 (S.old : Nat)) (.int .u32 (S.groups : Nat)) (.int .u32 (fs : Nat)) (.slice A n C)) := Lib.hid (by
    have h := B9.new w 66 (.int .i64 S.ctl.now) (.int .i64 S.ctl.most) (.int .i64 S.ctl.calm) (.int .i64 (S.size : Nat)) (.int .i64 (S.age : Nat)) (.int .i64 (S.old : Nat)) (.int .u32 (S.groups : Nat)) (.int .u32 (fs : Nat)) (.slice A n C)
    rw [hW]
    exact (h.keep (Below.heap_alloc _ _ _ h.lt)).keep (Below.heap_alloc _ _ _ (by simp; omega)))
  have HQ0 : Hid (B9 66 W (w.heap.size + 1) (.int .i64 0) (.int .i64 0) (.int .i64 0) (.int .i64 0) (.int .i64 0) (.int .i64 0) (.int .u32 0) (.int .u32 0) (.slice none 0 0)) := Lib.hid (by
    have h := B9.new (w.alloc (.cells #[.int .i64 S.ctl.now, .int .i64 S.ctl.most, .int .i64 S.ctl.calm, .int .i64 (S.size : Nat), .int .i64 (S.age : Nat), .int .i64 (S.old : Nat), .int .u32 (S.groups : Nat), .int .u32 (fs : Nat), .slice A n C] 66)) 66 (.int .i64 0) (.int .i64 0) (.int .i64 0) (.int .i64 0) (.int .i64 0) (.int .i64 0) (.int .u32 0) (.int .u32 0) (.slice none 0 0)
    rw [hs0] at h
    rw [hW]
    exact h.keep (Below.heap_alloc _ _ _ h.lt))
  have HG0 : Hid (B5 34 W (w.heap.size + 1 + 1) (.int .u32 0) (.int .u32 0) (.int .i64 0) (.int .i64 0) (.slice none 0 0)) := Lib.hid (by
    rw [hW, ← hs1]
    exact B5.new _ _ _ _ _ _ _)
  have HSZ : Hid (W.heap.size = w.heap.size + 3) := Lib.hid (by rw [hW]; simp)
  clear hs0 hs1
  have HUW := Lib.hid (h.below HWB.out (Nat.le_refl _))
  have HBB := Lib.hid hb
  have HLEN := Lib.hid hlen
  have HFSC := Lib.hid hfsc
  clear h hb hn hlen hfsc
  by_cases hz : n = 0
  · subst hz
    go_enter Try.func20, Try.ntmps20
    go_upto_region 1 with fail
    rw [← hW]
    clear hW
    obtain ⟨b, hbw⟩ : ∃ b, b = w.heap.size := ⟨_, rfl⟩
    have HBW := Lib.hid hbw
    rw [← hbw] at HP0 HQ0 HG0 HSZ HWB HBB ⊢
    clear hbw
    have HP8 := HP0
    have HQ8 := HQ0
    have HG8 := HG0
    have HU8 := HUW
    have HB8 := HWB
    have HS8 : Hid (Shs W b (.slice none 0 0) 0 (G17 [] 0)) := Lib.hid (Shs.nil _ _ _)
    clear HCL HP0 HQ0 HG0 HUW HWB
    generalize W = w8 at *
    obtain ⟨c0, c1, c2, c3, c4, c5, c6, c7, c8⟩ := HP8.out.cells
    obtain ⟨q0, q1, q2, q3, q4, q5, q6, q7, q8⟩ := HQ8.out.cells
    obtain ⟨r0, r1, r2, r3, r4⟩ := HG8.out.cells
    have g0 := HQ8.out.frozen 0
    have g1 := HQ8.out.frozen 1
    have g2 := HQ8.out.frozen 2
    have g3 := HQ8.out.frozen 3
    have g4 := HQ8.out.frozen 4
    have g5 := HQ8.out.frozen 5
    have g6 := HQ8.out.frozen 6
    have g7 := HQ8.out.frozen 7
    have g8 := HQ8.out.frozen 8
    have v0 := HG8.out.frozen 0
    have v1 := HG8.out.frozen 1
    have v2 := HG8.out.frozen 2
    have v3 := HG8.out.frozen 3
    have v4 := HG8.out.frozen 4
    have hne1 : b + 1 ≠ b := by omega
    have hne2 : b + 1 + 1 ≠ b + 1 := by omega
    have hne5 : b ≠ b + 1 := by omega
    have hne6 : b ≠ b + 1 + 1 := by omega
    go_wp2
    clear c0 c1 c2 c3 c4 c5 c6 c7 c8 q0 q1 q2 q3 q4 q5 q6 q7 q8 r0 r1 r2 r3 r4 g0 g1 g2 g3 g4 g5 g6 g7 g8 v0 v1 v2 v3 v4
    have hq9 := (HQ8.out.put (.int .i64 S.ctl.now) (.int .i64 S.ctl.most) (.int .i64 S.ctl.calm) (.int .i64 (S.size : Nat)) (.int .i64 (S.age : Nat)) (.int .i64 (S.old : Nat)) (.int .u32 (S.groups : Nat)) (.int .u32 (fs : Nat)) (.slice A 0 C)).keep (heap_put5 (put9 w8 (b + 1) (.int .i64 S.ctl.now) (.int .i64 S.ctl.most) (.int .i64 S.ctl.calm) (.int .i64 (S.size : Nat)) (.int .i64 (S.age : Nat)) (.int .i64 (S.old : Nat)) (.int .u32 (S.groups : Nat)) (.int .u32 (fs : Nat)) (.slice A 0 C)) (b + 1 + 1) (.int .u32 0) (.int .u32 0) (.int .i64 0) (.int .i64 0) (.slice none 0 0) (b + 1) (by omega))
    have hg8 := HG8.out.keep (heap_put9 w8 (b + 1) (.int .i64 S.ctl.now) (.int .i64 S.ctl.most) (.int .i64 S.ctl.calm) (.int .i64 (S.size : Nat)) (.int .i64 (S.age : Nat)) (.int .i64 (S.old : Nat)) (.int .u32 (S.groups : Nat)) (.int .u32 (fs : Nat)) (.slice A 0 C) (b + 1 + 1) hne2)
    have hg9 := hg8.put (.int .u32 0) (.int .u32 0) (.int .i64 0) (.int .i64 0) (.slice none 0 0)
    have hty : ∀ (k : Nat) (D : Array Value) (ty : TypeId), w8.heap[k]? = some (Obj.cells D ty (0, 0)) → ty ≠ 66 → (put9 w8 (b + 1) (.int .i64 S.ctl.now) (.int .i64 S.ctl.most) (.int .i64 S.ctl.calm) (.int .i64 (S.size : Nat)) (.int .i64 (S.age : Nat)) (.int .i64 (S.old : Nat)) (.int .u32 (S.groups : Nat)) (.int .u32 (fs : Nat)) (.slice A 0 C)).heap[k]? = w8.heap[k]? := fun k D ty hk ht => heap_put9 w8 (b + 1) (.int .i64 S.ctl.now) (.int .i64 S.ctl.most) (.int .i64 S.ctl.calm) (.int .i64 (S.size : Nat)) (.int .i64 (S.age : Nat)) (.int .i64 (S.old : Nat)) (.int .u32 (S.groups : Nat)) (.int .u32 (fs : Nat)) (.slice A 0 C) k (two_types hk HQ8.out ht)
    have hs9 := (HS8.out.keep (w' := put9 w8 (b + 1) (.int .i64 S.ctl.now) (.int .i64 S.ctl.most) (.int .i64 S.ctl.calm) (.int .i64 (S.size : Nat)) (.int .i64 (S.age : Nat)) (.int .i64 (S.old : Nat)) (.int .u32 (S.groups : Nat)) (.int .u32 (fs : Nat)) (.slice A 0 C)) (fun k D ty hk ht => hty k D ty hk (by rcases ht with rfl | rfl <;> decide))).put hg8 (by decide) (by decide) (.int .u32 0) (.int .u32 0) (.int .i64 0) (.int .i64 0) (.slice none 0 0)
    have hu8 := HU8.out.keep (w' := put9 w8 (b + 1) (.int .i64 S.ctl.now) (.int .i64 S.ctl.most) (.int .i64 S.ctl.calm) (.int .i64 (S.size : Nat)) (.int .i64 (S.age : Nat)) (.int .i64 (S.old : Nat)) (.int .u32 (S.groups : Nat)) (.int .u32 (fs : Nat)) (.slice A 0 C)) (fun q hq => by
      obtain ⟨cur, hc⟩ := own_type HU8.out hq
      exact hty q cur _ hc (by decide))
    have hu9 := hu8.keep (fun q hq => by
      obtain ⟨cur, hc⟩ := own_type hu8 hq
      exact heap_put5 (put9 w8 (b + 1) (.int .i64 S.ctl.now) (.int .i64 S.ctl.most) (.int .i64 S.ctl.calm) (.int .i64 (S.size : Nat)) (.int .i64 (S.age : Nat)) (.int .i64 (S.old : Nat)) (.int .u32 (S.groups : Nat)) (.int .u32 (fs : Nat)) (.slice A 0 C)) (b + 1 + 1) (.int .u32 0) (.int .u32 0) (.int .i64 0) (.int .i64 0) (.slice none 0 0) q (two_types hc hg8 (by decide)))
    have hb9 := below_put5 (below_put9 HB8.out (show b ≤ b + 1 by omega) (.int .i64 S.ctl.now) (.int .i64 S.ctl.most) (.int .i64 S.ctl.calm) (.int .i64 (S.size : Nat)) (.int .i64 (S.age : Nat)) (.int .i64 (S.old : Nat)) (.int .u32 (S.groups : Nat)) (.int .u32 (fs : Nat)) (.slice A 0 C)) (show b ≤ b + 1 + 1 by omega) (.int .u32 0) (.int .u32 0) (.int .i64 0) (.int .i64 0) (.slice none 0 0)
    clear hty hu8
    unfold put9 at hq9 hg9 hs9 hb9 hu9
    obtain ⟨q0, q1, q2, q3, q4, q5, q6, q7, q8⟩ := hq9.cells
    obtain ⟨r0, r1, r2, r3, r4⟩ := hg9.cells
    have HF := Lib.hid (And.intro hs9 (And.intro hu9 hb9))
    clear hq9 hg8 hg9 hs9 hb9 hu9
    refine bodyPost_ret (v := .tuple #[.agg #[.int .i64 S.ctl.now, .int .i64 S.ctl.most, .int .i64 S.ctl.calm, .int .i64 (S.size : Nat), .int .i64 (S.age : Nat), .int .i64 (S.old : Nat), .int .u32 (S.groups : Nat), .int .u32 (fs : Nat), .slice A 0 C], .agg #[.int .u32 0, .int .u32 0, .int .i64 0, .int .i64 0, .slice none 0 0], .bool false]) (by simp [results, Try.results20, go_sem, q0, q1, q2, q3, q4, q5, q6, q7, q8, r0, r1, r2, r3, r4]) rfl ?_
    have hbw := HBW.out
    subst hbw
    rw [HNN.out, HFS.out]
    exact ⟨none, 0, A, C, rfl, Lib.hid HF.out.1, Lib.hid HF.out.2.1, Lib.hid (fun q hq => .inl hq), Lib.hid HF.out.2.2⟩
  · have hz' : ((n : Int) == 0) = false := by simpa using hz
    have HZN := Lib.hid hz
    clear hz
    go_enter Try.func20, Try.ntmps20
    go_upto_region 1 with fail
    rw [← hW]
    clear hW
    obtain ⟨b, hbw⟩ : ∃ b, b = w.heap.size := ⟨_, rfl⟩
    have HBW := Lib.hid hbw
    rw [← hbw] at HP0 HQ0 HG0 HSZ HWB HBB ⊢
    clear hbw
    obtain ⟨c0, c1, c2, c3, c4, c5, c6, c7, c8⟩ := HP0.out.cells
    have f5 := HP0.out.frozen 5
    go_upto_region 4 with fail
    have hq6 : ∀ q, q ≠ b → (W.setCell ⟨b, 5, none⟩ (.int .i64 ((S.old : Int) + 1))).heap[q]? = W.heap[q]? := fun q hq => Below.heap_setCell _ _ _ _ hq
    have HP6 := Lib.hid (HP0.out.set5 (.int .i64 ((S.old : Int) + 1)))
    have HQ6 := Lib.hid (HQ0.out.keep (hq6 (b + 1) (by omega)))
    have HG6 := Lib.hid (HG0.out.keep (hq6 (b + 1 + 1) (by omega)))
    have HU6 := Lib.hid (HUW.out.keep (w' := W.setCell ⟨b, 5, none⟩ (.int .i64 ((S.old : Int) + 1))) (fun q hq => hq6 q (by
      obtain ⟨cur, hc⟩ := own_type HUW.out hq
      exact two_types hc HP0.out (by decide))))
    have HB6 : Hid (Below b w (W.setCell ⟨b, 5, none⟩ (.int .i64 ((S.old : Int) + 1)))) := Lib.hid (HWB.out.setCell (p := ⟨b, 5, none⟩) (Nat.le_refl _) _)
    have HZ6 : Hid (b + 3 ≤ (W.setCell ⟨b, 5, none⟩ (.int .i64 ((S.old : Int) + 1))).heap.size) := Lib.hid (by have := HSZ.out; simp; omega)
    clear c0 c1 c2 c3 c4 c5 c6 c7 c8 f5 hq6 HP0 HQ0 HG0 HUW HWB
    generalize W.setCell ⟨b, 5, none⟩ (.int .i64 ((S.old : Int) + 1)) = w6 at *
    obtain ⟨c0, c1, c2, c3, c4, c5, c6, c7, c8⟩ := HP6.out.cells
    by_cases hlt : S.old + 1 < S.age
    · have j1 : (S.old : Int) + 1 < S.age := by omega
      have HQ8 := HQ6
      have HG8 := HG6
      have HU8 := HU6
      have HB8 := HB6
      have HS8 : Hid (Shs w6 b (.slice none 0 0) 0 (G17 [] 0)) := Lib.hid (Shs.nil _ _ _)
      clear HCL HQ6 HG6 HU6 HB6
      generalize w6 = w8 at *
      obtain ⟨q0, q1, q2, q3, q4, q5, q6, q7, q8⟩ := HQ8.out.cells
      obtain ⟨r0, r1, r2, r3, r4⟩ := HG8.out.cells
      have g0 := HQ8.out.frozen 0
      have g1 := HQ8.out.frozen 1
      have g2 := HQ8.out.frozen 2
      have g3 := HQ8.out.frozen 3
      have g4 := HQ8.out.frozen 4
      have g5 := HQ8.out.frozen 5
      have g6 := HQ8.out.frozen 6
      have g7 := HQ8.out.frozen 7
      have g8 := HQ8.out.frozen 8
      have v0 := HG8.out.frozen 0
      have v1 := HG8.out.frozen 1
      have v2 := HG8.out.frozen 2
      have v3 := HG8.out.frozen 3
      have v4 := HG8.out.frozen 4
      have hne1 : b + 1 ≠ b := by omega
      have hne2 : b + 1 + 1 ≠ b + 1 := by omega
      have hne5 : b ≠ b + 1 := by omega
      have hne6 : b ≠ b + 1 + 1 := by omega
      go_wp2
      clear c0 c1 c2 c3 c4 c5 c6 c7 c8 q0 q1 q2 q3 q4 q5 q6 q7 q8 r0 r1 r2 r3 r4 g0 g1 g2 g3 g4 g5 g6 g7 g8 v0 v1 v2 v3 v4
      have hq9 := (HQ8.out.put (.int .i64 S.ctl.now) (.int .i64 S.ctl.most) (.int .i64 S.ctl.calm) (.int .i64 (S.size : Nat)) (.int .i64 (S.age : Nat)) (.int .i64 ((S.old : Int) + 1)) (.int .u32 (S.groups : Nat)) (.int .u32 (fs : Nat)) (.slice A n C)).keep (heap_put5 (put9 w8 (b + 1) (.int .i64 S.ctl.now) (.int .i64 S.ctl.most) (.int .i64 S.ctl.calm) (.int .i64 (S.size : Nat)) (.int .i64 (S.age : Nat)) (.int .i64 ((S.old : Int) + 1)) (.int .u32 (S.groups : Nat)) (.int .u32 (fs : Nat)) (.slice A n C)) (b + 1 + 1) (.int .u32 0) (.int .u32 0) (.int .i64 0) (.int .i64 0) (.slice none 0 0) (b + 1) (by omega))
      have hg8 := HG8.out.keep (heap_put9 w8 (b + 1) (.int .i64 S.ctl.now) (.int .i64 S.ctl.most) (.int .i64 S.ctl.calm) (.int .i64 (S.size : Nat)) (.int .i64 (S.age : Nat)) (.int .i64 ((S.old : Int) + 1)) (.int .u32 (S.groups : Nat)) (.int .u32 (fs : Nat)) (.slice A n C) (b + 1 + 1) hne2)
      have hg9 := hg8.put (.int .u32 0) (.int .u32 0) (.int .i64 0) (.int .i64 0) (.slice none 0 0)
      have hty : ∀ (k : Nat) (D : Array Value) (ty : TypeId), w8.heap[k]? = some (Obj.cells D ty (0, 0)) → ty ≠ 66 → (put9 w8 (b + 1) (.int .i64 S.ctl.now) (.int .i64 S.ctl.most) (.int .i64 S.ctl.calm) (.int .i64 (S.size : Nat)) (.int .i64 (S.age : Nat)) (.int .i64 ((S.old : Int) + 1)) (.int .u32 (S.groups : Nat)) (.int .u32 (fs : Nat)) (.slice A n C)).heap[k]? = w8.heap[k]? := fun k D ty hk ht => heap_put9 w8 (b + 1) (.int .i64 S.ctl.now) (.int .i64 S.ctl.most) (.int .i64 S.ctl.calm) (.int .i64 (S.size : Nat)) (.int .i64 (S.age : Nat)) (.int .i64 ((S.old : Int) + 1)) (.int .u32 (S.groups : Nat)) (.int .u32 (fs : Nat)) (.slice A n C) k (two_types hk HQ8.out ht)
      have hs9 := (HS8.out.keep (w' := put9 w8 (b + 1) (.int .i64 S.ctl.now) (.int .i64 S.ctl.most) (.int .i64 S.ctl.calm) (.int .i64 (S.size : Nat)) (.int .i64 (S.age : Nat)) (.int .i64 ((S.old : Int) + 1)) (.int .u32 (S.groups : Nat)) (.int .u32 (fs : Nat)) (.slice A n C)) (fun k D ty hk ht => hty k D ty hk (by rcases ht with rfl | rfl <;> decide))).put hg8 (by decide) (by decide) (.int .u32 0) (.int .u32 0) (.int .i64 0) (.int .i64 0) (.slice none 0 0)
      have hu8 := HU8.out.keep (w' := put9 w8 (b + 1) (.int .i64 S.ctl.now) (.int .i64 S.ctl.most) (.int .i64 S.ctl.calm) (.int .i64 (S.size : Nat)) (.int .i64 (S.age : Nat)) (.int .i64 ((S.old : Int) + 1)) (.int .u32 (S.groups : Nat)) (.int .u32 (fs : Nat)) (.slice A n C)) (fun q hq => by
        obtain ⟨cur, hc⟩ := own_type HU8.out hq
        exact hty q cur _ hc (by decide))
      have hu9 := hu8.keep (fun q hq => by
        obtain ⟨cur, hc⟩ := own_type hu8 hq
        exact heap_put5 (put9 w8 (b + 1) (.int .i64 S.ctl.now) (.int .i64 S.ctl.most) (.int .i64 S.ctl.calm) (.int .i64 (S.size : Nat)) (.int .i64 (S.age : Nat)) (.int .i64 ((S.old : Int) + 1)) (.int .u32 (S.groups : Nat)) (.int .u32 (fs : Nat)) (.slice A n C)) (b + 1 + 1) (.int .u32 0) (.int .u32 0) (.int .i64 0) (.int .i64 0) (.slice none 0 0) q (two_types hc hg8 (by decide)))
      have hb9 := below_put5 (below_put9 HB8.out (show b ≤ b + 1 by omega) (.int .i64 S.ctl.now) (.int .i64 S.ctl.most) (.int .i64 S.ctl.calm) (.int .i64 (S.size : Nat)) (.int .i64 (S.age : Nat)) (.int .i64 ((S.old : Int) + 1)) (.int .u32 (S.groups : Nat)) (.int .u32 (fs : Nat)) (.slice A n C)) (show b ≤ b + 1 + 1 by omega) (.int .u32 0) (.int .u32 0) (.int .i64 0) (.int .i64 0) (.slice none 0 0)
      clear hty hu8
      unfold put9 at hq9 hg9 hs9 hb9 hu9
      obtain ⟨q0, q1, q2, q3, q4, q5, q6, q7, q8⟩ := hq9.cells
      obtain ⟨r0, r1, r2, r3, r4⟩ := hg9.cells
      have HF := Lib.hid (And.intro hs9 (And.intro hu9 hb9))
      clear hq9 hg8 hg9 hs9 hb9 hu9
      refine bodyPost_ret (v := .tuple #[.agg #[.int .i64 S.ctl.now, .int .i64 S.ctl.most, .int .i64 S.ctl.calm, .int .i64 (S.size : Nat), .int .i64 (S.age : Nat), .int .i64 ((S.old : Int) + 1), .int .u32 (S.groups : Nat), .int .u32 (fs : Nat), .slice A n C], .agg #[.int .u32 0, .int .u32 0, .int .i64 0, .int .i64 0, .slice none 0 0], .bool false]) (by simp [results, Try.results20, go_sem, q0, q1, q2, q3, q4, q5, q6, q7, q8, r0, r1, r2, r3, r4]) rfl ?_
      have hbw := HBW.out
      subst hbw
      rw [HLEN.out, HFSC.out]
      exact ⟨none, 0, A, C, rfl, Lib.hid HF.out.1, Lib.hid HF.out.2.1, Lib.hid (fun q hq => .inl hq), Lib.hid HF.out.2.2⟩
    · have j1 : ¬ (S.old : Int) + 1 < S.age := by omega
      have hc6 := HCL.out HZN.out w6 A C HU6.out.ins
      unfold DV at hc6
      rw [HLEN.out, HFSC.out] at hc6
      unfold RClosedTo Gd.val DV at hc6
      dsimp only [Bd.older] at hc6
      rw [show ((S.old + 1 : Nat) : Int) = (S.old : Int) + 1 from rfl] at hc6
      have HC6 := Lib.hid hc6
      clear hc6 HCL
      go_upto_region 7 with (first
        | (go_at_call 40; (with_reducible refine HC6.out.mono ?_); rintro e w7 ⟨A7, C7, rfl, HS7, HB7⟩)
        | fail)
      have hsz : (w7.alloc (.cells #[.int .i64 R.1.ctl.now, .int .i64 R.1.ctl.most, .int .i64 R.1.ctl.calm, .int .i64 (R.1.size : Nat), .int .i64 (R.1.age : Nat), .int .i64 (R.1.old : Nat), .int .u32 (R.1.groups : Nat), .int .u32 ((R.1.frames - R.1.z.length : Nat) : Int), .slice none R.1.z.length 0] 66)).heap.size = w7.heap.size + 1 := by simp
      have ha8 : Below w7.heap.size w7 ((w7.alloc (.cells #[.int .i64 R.1.ctl.now, .int .i64 R.1.ctl.most, .int .i64 R.1.ctl.calm, .int .i64 (R.1.size : Nat), .int .i64 (R.1.age : Nat), .int .i64 (R.1.old : Nat), .int .u32 (R.1.groups : Nat), .int .u32 ((R.1.frames - R.1.z.length : Nat) : Int), .slice none R.1.z.length 0] 66)).alloc (.cells #[.int .u32 R.2.no, .int .u32 R.2.fst, .int .i64 (R.2.z.length : Nat), .int .i64 (R.2.m : Nat), .slice A7 R.2.n C7] 34)) := ((Below.refl w7.heap.size w7).alloc (Nat.le_refl _) _).alloc (by simp) _
      have HT8 : Hid (B9 66 ((w7.alloc (.cells #[.int .i64 R.1.ctl.now, .int .i64 R.1.ctl.most, .int .i64 R.1.ctl.calm, .int .i64 (R.1.size : Nat), .int .i64 (R.1.age : Nat), .int .i64 (R.1.old : Nat), .int .u32 (R.1.groups : Nat), .int .u32 ((R.1.frames - R.1.z.length : Nat) : Int), .slice none R.1.z.length 0] 66)).alloc (.cells #[.int .u32 R.2.no, .int .u32 R.2.fst, .int .i64 (R.2.z.length : Nat), .int .i64 (R.2.m : Nat), .slice A7 R.2.n C7] 34)) w7.heap.size (.int .i64 R.1.ctl.now) (.int .i64 R.1.ctl.most) (.int .i64 R.1.ctl.calm) (.int .i64 (R.1.size : Nat)) (.int .i64 (R.1.age : Nat)) (.int .i64 (R.1.old : Nat)) (.int .u32 (R.1.groups : Nat)) (.int .u32 ((R.1.frames - R.1.z.length : Nat) : Int)) (.slice none R.1.z.length 0)) := Lib.hid (by
        have h := B9.new w7 66 (.int .i64 R.1.ctl.now) (.int .i64 R.1.ctl.most) (.int .i64 R.1.ctl.calm) (.int .i64 (R.1.size : Nat)) (.int .i64 (R.1.age : Nat)) (.int .i64 (R.1.old : Nat)) (.int .u32 (R.1.groups : Nat)) (.int .u32 ((R.1.frames - R.1.z.length : Nat) : Int)) (.slice none R.1.z.length 0)
        exact h.keep (Below.heap_alloc _ _ _ h.lt))
      have HX8 : Hid (B5 34 ((w7.alloc (.cells #[.int .i64 R.1.ctl.now, .int .i64 R.1.ctl.most, .int .i64 R.1.ctl.calm, .int .i64 (R.1.size : Nat), .int .i64 (R.1.age : Nat), .int .i64 (R.1.old : Nat), .int .u32 (R.1.groups : Nat), .int .u32 ((R.1.frames - R.1.z.length : Nat) : Int), .slice none R.1.z.length 0] 66)).alloc (.cells #[.int .u32 R.2.no, .int .u32 R.2.fst, .int .i64 (R.2.z.length : Nat), .int .i64 (R.2.m : Nat), .slice A7 R.2.n C7] 34)) (w7.heap.size + 1) (.int .u32 R.2.no) (.int .u32 R.2.fst) (.int .i64 (R.2.z.length : Nat)) (.int .i64 (R.2.m : Nat)) (.slice A7 R.2.n C7)) := Lib.hid (by
        rw [← hsz]
        exact B5.new _ _ _ _ _ _ _)
      have HQ8 := Lib.hid ((HQ6.out.below HB7.out HQ6.out.lt).below ha8 (HQ6.out.below HB7.out HQ6.out.lt).lt)
      have HG8 := Lib.hid ((HG6.out.below HB7.out HG6.out.lt).below ha8 (HG6.out.below HB7.out HG6.out.lt).lt)
      have HS8 := Lib.hid ((HS7.out.low (show b ≤ w6.heap.size by have := HZ6.out; omega)).below ha8 (Nat.le_refl _))
      have HB8 := Lib.hid ((HB6.out.trans (HB7.out.mono (by have := HZ6.out; omega))).trans (ha8.mono (by have := HZ6.out; have := HB7.out.size; omega)))
      have HU8 : Hid (OwnU ((w7.alloc (.cells #[.int .i64 R.1.ctl.now, .int .i64 R.1.ctl.most, .int .i64 R.1.ctl.calm, .int .i64 (R.1.size : Nat), .int .i64 (R.1.age : Nat), .int .i64 (R.1.old : Nat), .int .u32 (R.1.groups : Nat), .int .u32 ((R.1.frames - R.1.z.length : Nat) : Int), .slice none R.1.z.length 0] 66)).alloc (.cells #[.int .u32 R.2.no, .int .u32 R.2.fst, .int .i64 (R.2.z.length : Nat), .int .i64 (R.2.m : Nat), .slice A7 R.2.n C7] 34)) base (.slice none 0 0) 0 []) := Lib.hid (OwnU.none _ _)
      have HPP : Hid (b + 3 ≤ w7.heap.size) := Lib.hid (by have := HZ6.out; have := HB7.out.size; omega)
      clear c0 c1 c2 c3 c4 c5 c6 c7 c8 hsz ha8 HC6 HS7 HB7
      generalize (w7.alloc (.cells #[.int .i64 R.1.ctl.now, .int .i64 R.1.ctl.most, .int .i64 R.1.ctl.calm, .int .i64 (R.1.size : Nat), .int .i64 (R.1.age : Nat), .int .i64 (R.1.old : Nat), .int .u32 (R.1.groups : Nat), .int .u32 ((R.1.frames - R.1.z.length : Nat) : Int), .slice none R.1.z.length 0] 66)).alloc (.cells #[.int .u32 R.2.no, .int .u32 R.2.fst, .int .i64 (R.2.z.length : Nat), .int .i64 (R.2.m : Nat), .slice A7 R.2.n C7] 34) = w8 at *
      generalize w7.heap.size = p at *
      obtain ⟨c0, c1, c2, c3, c4, c5, c6, c7, c8⟩ := HT8.out.cells
      obtain ⟨x0, x1, x2, x3, x4⟩ := HX8.out.cells
      have hnp1 : p ≠ b + 1 := by have := HPP.out; omega
      have hnp2 : p ≠ b + 1 + 1 := by have := HPP.out; omega
      have hnp3 : p + 1 ≠ b + 1 := by have := HPP.out; omega
      have hnp4 : p + 1 ≠ b + 1 + 1 := by have := HPP.out; omega
      obtain ⟨q0, q1, q2, q3, q4, q5, q6, q7, q8⟩ := HQ8.out.cells
      obtain ⟨r0, r1, r2, r3, r4⟩ := HG8.out.cells
      have g0 := HQ8.out.frozen 0
      have g1 := HQ8.out.frozen 1
      have g2 := HQ8.out.frozen 2
      have g3 := HQ8.out.frozen 3
      have g4 := HQ8.out.frozen 4
      have g5 := HQ8.out.frozen 5
      have g6 := HQ8.out.frozen 6
      have g7 := HQ8.out.frozen 7
      have g8 := HQ8.out.frozen 8
      have v0 := HG8.out.frozen 0
      have v1 := HG8.out.frozen 1
      have v2 := HG8.out.frozen 2
      have v3 := HG8.out.frozen 3
      have v4 := HG8.out.frozen 4
      have hne1 : b + 1 ≠ b := by omega
      have hne2 : b + 1 + 1 ≠ b + 1 := by omega
      have hne5 : b ≠ b + 1 := by omega
      have hne6 : b ≠ b + 1 + 1 := by omega
      go_region
      clear c0 c1 c2 c3 c4 c5 c6 c7 c8 x0 x1 x2 x3 x4 hnp1 hnp2 hnp3 hnp4 q0 q1 q2 q3 q4 q5 q6 q7 q8 r0 r1 r2 r3 r4 g0 g1 g2 g3 g4 g5 g6 g7 g8 v0 v1 v2 v3 v4
      go_wp2
      have hq9 := (HQ8.out.put (.int .i64 R.1.ctl.now) (.int .i64 R.1.ctl.most) (.int .i64 R.1.ctl.calm) (.int .i64 (R.1.size : Nat)) (.int .i64 (R.1.age : Nat)) (.int .i64 (R.1.old : Nat)) (.int .u32 (R.1.groups : Nat)) (.int .u32 ((R.1.frames - R.1.z.length : Nat) : Int)) (.slice none R.1.z.length 0)).keep (heap_put5 (put9 w8 (b + 1) (.int .i64 R.1.ctl.now) (.int .i64 R.1.ctl.most) (.int .i64 R.1.ctl.calm) (.int .i64 (R.1.size : Nat)) (.int .i64 (R.1.age : Nat)) (.int .i64 (R.1.old : Nat)) (.int .u32 (R.1.groups : Nat)) (.int .u32 ((R.1.frames - R.1.z.length : Nat) : Int)) (.slice none R.1.z.length 0)) (b + 1 + 1) (.int .u32 R.2.no) (.int .u32 R.2.fst) (.int .i64 (R.2.z.length : Nat)) (.int .i64 (R.2.m : Nat)) (.slice A7 R.2.n C7) (b + 1) (by omega))
      have hg8 := HG8.out.keep (heap_put9 w8 (b + 1) (.int .i64 R.1.ctl.now) (.int .i64 R.1.ctl.most) (.int .i64 R.1.ctl.calm) (.int .i64 (R.1.size : Nat)) (.int .i64 (R.1.age : Nat)) (.int .i64 (R.1.old : Nat)) (.int .u32 (R.1.groups : Nat)) (.int .u32 ((R.1.frames - R.1.z.length : Nat) : Int)) (.slice none R.1.z.length 0) (b + 1 + 1) hne2)
      have hg9 := hg8.put (.int .u32 R.2.no) (.int .u32 R.2.fst) (.int .i64 (R.2.z.length : Nat)) (.int .i64 (R.2.m : Nat)) (.slice A7 R.2.n C7)
      have hty : ∀ (k : Nat) (D : Array Value) (ty : TypeId), w8.heap[k]? = some (Obj.cells D ty (0, 0)) → ty ≠ 66 → (put9 w8 (b + 1) (.int .i64 R.1.ctl.now) (.int .i64 R.1.ctl.most) (.int .i64 R.1.ctl.calm) (.int .i64 (R.1.size : Nat)) (.int .i64 (R.1.age : Nat)) (.int .i64 (R.1.old : Nat)) (.int .u32 (R.1.groups : Nat)) (.int .u32 ((R.1.frames - R.1.z.length : Nat) : Int)) (.slice none R.1.z.length 0)).heap[k]? = w8.heap[k]? := fun k D ty hk ht => heap_put9 w8 (b + 1) (.int .i64 R.1.ctl.now) (.int .i64 R.1.ctl.most) (.int .i64 R.1.ctl.calm) (.int .i64 (R.1.size : Nat)) (.int .i64 (R.1.age : Nat)) (.int .i64 (R.1.old : Nat)) (.int .u32 (R.1.groups : Nat)) (.int .u32 ((R.1.frames - R.1.z.length : Nat) : Int)) (.slice none R.1.z.length 0) k (two_types hk HQ8.out ht)
      have hs9 := (HS8.out.keep (w' := put9 w8 (b + 1) (.int .i64 R.1.ctl.now) (.int .i64 R.1.ctl.most) (.int .i64 R.1.ctl.calm) (.int .i64 (R.1.size : Nat)) (.int .i64 (R.1.age : Nat)) (.int .i64 (R.1.old : Nat)) (.int .u32 (R.1.groups : Nat)) (.int .u32 ((R.1.frames - R.1.z.length : Nat) : Int)) (.slice none R.1.z.length 0)) (fun k D ty hk ht => hty k D ty hk (by rcases ht with rfl | rfl <;> decide))).put hg8 (by decide) (by decide) (.int .u32 R.2.no) (.int .u32 R.2.fst) (.int .i64 (R.2.z.length : Nat)) (.int .i64 (R.2.m : Nat)) (.slice A7 R.2.n C7)
      have hu8 := HU8.out.keep (w' := put9 w8 (b + 1) (.int .i64 R.1.ctl.now) (.int .i64 R.1.ctl.most) (.int .i64 R.1.ctl.calm) (.int .i64 (R.1.size : Nat)) (.int .i64 (R.1.age : Nat)) (.int .i64 (R.1.old : Nat)) (.int .u32 (R.1.groups : Nat)) (.int .u32 ((R.1.frames - R.1.z.length : Nat) : Int)) (.slice none R.1.z.length 0)) (fun q hq => by
        obtain ⟨cur, hc⟩ := own_type HU8.out hq
        exact hty q cur _ hc (by decide))
      have hu9 := hu8.keep (fun q hq => by
        obtain ⟨cur, hc⟩ := own_type hu8 hq
        exact heap_put5 (put9 w8 (b + 1) (.int .i64 R.1.ctl.now) (.int .i64 R.1.ctl.most) (.int .i64 R.1.ctl.calm) (.int .i64 (R.1.size : Nat)) (.int .i64 (R.1.age : Nat)) (.int .i64 (R.1.old : Nat)) (.int .u32 (R.1.groups : Nat)) (.int .u32 ((R.1.frames - R.1.z.length : Nat) : Int)) (.slice none R.1.z.length 0)) (b + 1 + 1) (.int .u32 R.2.no) (.int .u32 R.2.fst) (.int .i64 (R.2.z.length : Nat)) (.int .i64 (R.2.m : Nat)) (.slice A7 R.2.n C7) q (two_types hc hg8 (by decide)))
      have hb9 := below_put5 (below_put9 HB8.out (show b ≤ b + 1 by omega) (.int .i64 R.1.ctl.now) (.int .i64 R.1.ctl.most) (.int .i64 R.1.ctl.calm) (.int .i64 (R.1.size : Nat)) (.int .i64 (R.1.age : Nat)) (.int .i64 (R.1.old : Nat)) (.int .u32 (R.1.groups : Nat)) (.int .u32 ((R.1.frames - R.1.z.length : Nat) : Int)) (.slice none R.1.z.length 0)) (show b ≤ b + 1 + 1 by omega) (.int .u32 R.2.no) (.int .u32 R.2.fst) (.int .i64 (R.2.z.length : Nat)) (.int .i64 (R.2.m : Nat)) (.slice A7 R.2.n C7)
      clear hty hu8
      unfold put9 at hq9 hg9 hs9 hb9 hu9
      obtain ⟨q0, q1, q2, q3, q4, q5, q6, q7, q8⟩ := hq9.cells
      obtain ⟨r0, r1, r2, r3, r4⟩ := hg9.cells
      have HF := Lib.hid (And.intro (hs9.below (Below.refl _ _).drew (Nat.le_refl _)) (And.intro (hu9.below (Below.refl _ _).drew (Nat.le_refl _)) hb9.drew))
      clear hq9 hg8 hg9 hs9 hb9 hu9
      refine bodyPost_ret (v := .tuple #[.agg #[.int .i64 R.1.ctl.now, .int .i64 R.1.ctl.most, .int .i64 R.1.ctl.calm, .int .i64 (R.1.size : Nat), .int .i64 (R.1.age : Nat), .int .i64 (R.1.old : Nat), .int .u32 (R.1.groups : Nat), .int .u32 ((R.1.frames - R.1.z.length : Nat) : Int), .slice none R.1.z.length 0], .agg #[.int .u32 R.2.no, .int .u32 R.2.fst, .int .i64 (R.2.z.length : Nat), .int .i64 (R.2.m : Nat), .slice A7 R.2.n C7], .bool true]) (by simp [results, Try.results20, go_sem, q0, q1, q2, q3, q4, q5, q6, q7, q8, r0, r1, r2, r3, r4]) rfl ?_
      have hbw := HBW.out
      subst hbw
      exact ⟨A7, C7, none, 0, rfl, Lib.hid HF.out.1, Lib.hid (by rw [HRZ.out]; exact OwnU.none _ _), Lib.hid (fun q hq => by simp [Value.ownBlock] at hq), Lib.hid HF.out.2.2⟩
end Go.Proofs.Ytphddcbkjikgfaa
