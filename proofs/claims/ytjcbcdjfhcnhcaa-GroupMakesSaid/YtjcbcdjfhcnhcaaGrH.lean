/-
  Own text: layer 17 (group): Add and Tick, walked.
-/
import Derived.Test.YtjcbcdjfhcnhcaaGrG
namespace Go.Proofs.Ytjcbcdjfhcnhcaa
open Go.RowKit

theorem own_type {w : World} {base n s : Nat} {e : TypeId} {v : Value} {l : List Value} (h : w.ownsRow base e s v n l) {q : Nat} (hq : v.ownBlock = some q) : ∃ cur, w.heap[q]? = some (.cells cur e (0, 0)) := by
  rcases h.2 with ⟨ev, _⟩ | ⟨g, cap, cur, ev, _, hg, _⟩
  · rw [ev] at hq
    simp [Value.ownBlock] at hq
  · rw [ev] at hq
    simp only [Value.ownBlock, Option.some.injEq] at hq
    exact ⟨cur, hq ▸ hg⟩
theorem heap_put5 (w : World) (p : Nat) (u0 u1 u2 u3 u4 : Value) (q : Nat) (hq : q ≠ p) : (((((w.setCell ⟨p, 0, none⟩ u0).setCell ⟨p, 1, none⟩ u1).setCell ⟨p, 2, none⟩ u2).setCell ⟨p, 3, none⟩ u3).setCell ⟨p, 4, none⟩ u4).heap[q]? = w.heap[q]? := by
  rw [Below.heap_setCell _ _ _ _ hq, Below.heap_setCell _ _ _ _ hq, Below.heap_setCell _ _ _ _ hq, Below.heap_setCell _ _ _ _ hq, Below.heap_setCell _ _ _ _ hq]
/-- A block of another type is no builder's. -/
theorem BSt.far {w : World} {B b c t : Nat} {A : Option Addr} {C : Nat} {S : Bd} (h : BSt w B b c t A C S) {p : Nat} {D : Array Value} {ty : TypeId} (hp : w.heap[p]? = some (.cells D ty (0, 0))) (h1 : ty ≠ 133) (h2 : ty ≠ 156) (h3 : ty ≠ 79) (h4 : ty ≠ 89) : b ≠ p ∧ c ≠ p ∧ t ≠ p ∧ ∀ q, (Value.slice A S.z.length C).ownBlock = some q → q ≠ p := by
  have hb := h.blk
  have hc := h.ctl
  obtain ⟨T, ht, _⟩ := h.tab
  unfold B8 at hb
  unfold Blk16 at hc
  refine ⟨two_types hb hp (Ne.symm h1), two_types hc hp (Ne.symm h2), two_types ht hp (Ne.symm h4), fun q hq => ?_⟩
  obtain ⟨cur, hg⟩ := own_type h.row hq
  exact two_types hg hp (Ne.symm h3)
/-- What holds when all four blocks are as they were. -/
theorem BSt.keep {w w' : World} {B b c t : Nat} {A : Option Addr} {C : Nat} {S : Bd} (h : BSt w B b c t A C S) {p : Nat} (hp : b ≠ p ∧ c ≠ p ∧ t ≠ p ∧ ∀ q, (Value.slice A S.z.length C).ownBlock = some q → q ≠ p) (e : ∀ q, q ≠ p → w'.heap[q]? = w.heap[q]?) : BSt w' B b c t A C S :=
  ⟨h.hb, h.hc, h.blk.keep (e b hp.1), h.ctl.keep (e c hp.2.1), World.rowIs.of_block h.tab (e t hp.2.2.1), h.row.keep (fun q hq => e q (hp.2.2.2 q hq))⟩
theorem FrG.put5 {b c : Nat} {v : Value} {w w' : World} (h : FrG b c v w w') {p : Nat} (hp : w.heap.size ≤ p) (u0 u1 u2 u3 u4 : Value) : FrG b c v w (((((w'.setCell ⟨p, 0, none⟩ u0).setCell ⟨p, 1, none⟩ u1).setCell ⟨p, 2, none⟩ u2).setCell ⟨p, 3, none⟩ u3).setCell ⟨p, 4, none⟩ u4) :=
  ((((h.setNew (p := ⟨p, 0, none⟩) hp _).setNew (p := ⟨p, 1, none⟩) hp _).setNew (p := ⟨p, 2, none⟩) hp _).setNew (p := ⟨p, 3, none⟩) hp _).setNew (p := ⟨p, 4, none⟩) hp _
theorem FrG.trans2 {b c : Nat} {v v' : Value} {w w1 w2 : World} (h : FrG b c v w w1) (hv : ∀ q, v'.ownBlock = some q → v.ownBlock = some q ∨ w.heap.size ≤ q) (k : FrG b c v' w1 w2) : FrG b c v w w2 :=
  ⟨k.os.trans h.os, k.tape.trans h.tape, k.output.trans h.output, Nat.le_trans h.size k.size, fun i hi h1 h2 h3 => (k.block i (Nat.lt_of_lt_of_le hi h.size) h1 h2 (fun e => by
    rcases hv i e.symm with h4 | h4
    · exact h3 h4.symm
    · omega)).trans (h.block i hi h1 h2 h3)⟩
/-- What Add and Tick answer. -/
def CallTo (r : Bd × Gd × Bool) (B b c t : Nat) (v : Value) (w : World) : Ending → World → Prop := ClosedTo r.1 r.2.1 B b c t v w (fun x => .tuple #[x, .bool r.2.2])
/-- Behind a call that closed, the box of the answer is written. -/
theorem closed_end {S' : Bd} {g : Gd} {B b c t : Nat} {v v5 : Value} {w w5 w7 : World} {A' : Option Addr} {C' C : Nat} {A : Option Addr} {p : Nat} (hp : w.heap.size ≤ p) (hS : Shs w7 w5.heap.size (.slice A g.n C) g.n (G17 g.z g.z.length)) (hB : BSt w7 B b c t A' C' S') (hF : FrG b c v5 w5 w7) (hq : ∀ q, (Value.slice A' S'.z.length C').ownBlock = some q → v5.ownBlock = some q ∨ w5.heap.size ≤ q)
    (hX : B5 28 w7 p (.int .u32 0) (.int .u32 0) (.int .i64 0) (.int .i64 0) (.slice none 0 0)) (hF5 : FrG b c v w w5) (hv : ∀ q, v5.ownBlock = some q → v.ownBlock = some q ∨ w.heap.size ≤ q) {u0 u1 u2 u3 u4 : Value} {W : World} (hW : W = ((((w7.setCell ⟨p, 0, none⟩ u0).setCell ⟨p, 1, none⟩ u1).setCell ⟨p, 2, none⟩ u2).setCell ⟨p, 3, none⟩ u3).setCell ⟨p, 4, none⟩ u4) :
    Hid (Shs W w.heap.size (.slice A g.n C) g.n (G17 g.z g.z.length)) ∧ Hid (BSt W B b c t A' C' S') ∧ Hid (FrG b c v w W) ∧ Hid (∀ q, (Value.slice A' S'.z.length C').ownBlock = some q → v.ownBlock = some q ∨ w.heap.size ≤ q) := by
  subst hW
  refine ⟨Lib.hid ((hS.low hF5.size).put hX (by decide) (by decide) _ _ _ _ _), Lib.hid (hB.keep (hB.far hX (by decide) (by decide) (by decide) (by decide)) (fun q hq => heap_put5 _ _ _ _ _ _ _ q hq)), Lib.hid ((hF5.trans2 hv hF).put5 hp _ _ _ _ _), Lib.hid (fun q e => ?_)⟩
  rcases hq q e with h | h
  · exact hv q h
  · exact .inr (Nat.le_trans hF5.size h)
set_option maxRecDepth 100000 in
set_option maxHeartbeats 1000000 in
theorem badd_any (B b c t C k : Nat) (A : Option Addr) (S : Bd) (hk : k ≤ 100) (hS : S.ok k) (i loss : Int) (h0 : 0 ≤ i) (h1 : i ≤ 65535) (w : World) (hB : B ≤ w.heap.size) (h : BSt w B b c t A C S) :
    Calls Try.prog 28 #[.pointer (some ⟨b, 0, none⟩), .int .u16 i, .int .i64 loss] w (CallTo (S.add i loss) B b c t (.slice A S.z.length C) w) := by
  have hap := h.apart
  have hok := Bd.add_ok hS i loss h0 h1
  have hclose := fun (u : World) (A' : Option Addr) (C' : Nat) (hu : BSt u B b c t A' C' (S.came i)) => closed_any B b c t C' A' (S.came i) loss u hu (by show 1 ≤ (S.z ++ [i]).length; simp) (by show (S.z ++ [i]).length ≤ 16; have h1 := hS.wait; have h2 := hS.s1; simp; omega) hS.ctl (by show S.frames + 1 ≤ 1000; have := hS.frames; omega) (by show (S.z ++ [i]).length ≤ S.frames + 1; have := hS.front; simp; omega) (by show S.groups ≤ 1000; have := hS.groups; omega) (fun z hz => by
    rcases List.mem_append.1 hz with hz | hz
    · exact hS.vals z hz
    · simp at hz
      subst hz
      exact ⟨h0, h1⟩)
  have hwt := hS.wait
  have hfr := hS.frames
  have hs1 := hS.s1
  unfold Bd.add at *
  have HCL := Lib.hid hclose
  clear hok hclose hS
  obtain ⟨W, hW⟩ : ∃ W, W = w.alloc (.cells #[.int .u32 0, .int .u32 0, .int .i64 0, .int .i64 0, .slice none 0 0] 28) := ⟨_, rfl⟩
  have HWB : Hid (Below w.heap.size w W) := Lib.hid (by rw [hW]; exact (Below.refl _ _).alloc (Nat.le_refl _) _)
  have HX0 : Hid (B5 28 W w.heap.size (.int .u32 0) (.int .u32 0) (.int .i64 0) (.int .i64 0) (.slice none 0 0)) := Lib.hid (by rw [hW]; exact B5.new _ _ _ _ _ _ _)
  have HSW := Lib.hid (h.below HWB.out (Nat.le_refl _))
  have HOWN := Lib.hid (HSW.out.row.below (below_put W (.cells #[.int .u16 i] 79)) (Nat.le_refl _))
  have HINS : Hid (Ins (W.alloc (.cells #[.int .u16 i] 79)) (some ⟨W.heap.size, 0, none⟩) 1 [i]) := Lib.hid ⟨rfl, .inr ⟨_, 0, rfl, by simp, fun j hj => by
    obtain rfl : j = 0 := by omega
    exact new_box W _ _⟩⟩
  have HN1 : Hid (S.z.length + 1 ≤ 100000) := Lib.hid (by omega)
  have HBW : Hid (B ≤ (W.alloc (.cells #[.int .u16 i] 79)).heap.size) := Lib.hid (by have := HWB.out.size; simp; omega)
  have HBK : Hid (∀ w4, (W.alloc (.cells #[.int .u16 i] 79)).grownBy w4 (Value.slice A S.z.length C).ownBlock → B8 w4 b t S.size S.age c (.slice A S.z.length C) S.old S.frames S.groups ∧ Blk16 156 w4 c S.ctl ∧ IsTab w4 t ∧ B5 28 w4 w.heap.size (.int .u32 0) (.int .u32 0) (.int .i64 0) (.int .i64 0) (.slice none 0 0) ∧ FrG b c (.slice A S.z.length C) w w4) := Lib.hid (fun w4 hg => by
    have hq : ∀ q, q < W.heap.size → some q ≠ (Value.slice A S.z.length C).ownBlock → w4.heap[q]? = W.heap[q]? := fun q h1 h2 => (hg.block q (by simp; omega) h2).trans (Below.heap_alloc _ _ _ h1)
    refine ⟨HSW.out.blk.keep (hq b HSW.out.blk.lt (fun e => (hap.2.2.2 b e.symm).1 rfl)), HSW.out.ctl.keep (hq c HSW.out.ctl.lt (fun e => (hap.2.2.2 c e.symm).2.1 rfl)), World.rowIs.of_block HSW.out.tab (hq t HSW.out.tab.lt (fun e => (hap.2.2.2 t e.symm).2.2 rfl)), HX0.out.keep (hq _ HX0.out.lt (fun e => ?_)), ?_⟩
    · have := (h.row.lt _ e.symm).2
      omega
    · exact (FrG.of_below (HWB.out.trans ((below_put W _).mono HWB.out.size))).trans (FrG.of_grown hg))
  have HH := Lib.hid h
  have HAP := Lib.hid hap
  have HBL := Lib.hid HSW.out.blk
  have hw1 : IntKind.i64.wrap ((S.frames : Int) + 1) = (S.frames : Int) + 1 := by rw [IntKind.wrap_i64]; omega
  clear h hap hB
  obtain ⟨n, hn⟩ : ∃ n, S.z.length = n := ⟨_, rfl⟩
  have HNN := Lib.hid hn
  simp only [hn] at HOWN HN1 HBK HBL ⊢ hwt
  clear hn
  go_enter Try.func28, Try.ntmps28
  go_upto_region 1 with fail
  rw [← hW]
  clear hW
  obtain ⟨c0, c1, c2, c3, c4, c5, c6, c7⟩ := HBL.out.cells
  go_upto_region 3 with (first
    | ((with_reducible refine wpList_append_us (w := W.alloc _) rfl (.tmp 12) (.tmp 14) rfl B A n C rfl S.z HOWN.out (some ⟨W.heap.size, 0, none⟩) 1 1 rfl [i] HINS.out (fun h => nomatch h) HN1.out HBW.out (n + 1) rfl (S.z ++ [i]) rfl ?_); intro A4 C4 w4 HO4 HG4 HF4; have HK4 := Lib.hid (HBK.out w4 HG4.out); clear c0 c1 c2 c3 c4 c5 c6 c7; obtain ⟨c0, c1, c2, c3, c4, c5, c6, c7⟩ := HK4.out.1.cells; have f4 := HK4.out.1.frozen 4; have f6 := HK4.out.1.frozen 6)
    | fail)
  have hbc : c ≠ b := Ne.symm HAP.out.1
  have hB8 := HK4.out.1
  unfold B8 at hB8
  have HST : Hid (BSt ((w4.setCell ⟨b, 4, none⟩ (.slice A4 (n + 1) C4)).setCell ⟨b, 6, none⟩ (.int .i64 ((S.frames : Int) + 1))) B b c t A4 C4 (S.came i)) := Lib.hid (by
    refine ⟨HH.out.hb, HH.out.hc, ?_, (HK4.out.2.1.other (p := ⟨b, 4, none⟩) hbc _).other (p := ⟨b, 6, none⟩) hbc _, (World.rowIs.setOther HK4.out.2.2.1 (a := ⟨b, 4, none⟩) HAP.out.2.1 _).setOther (a := ⟨b, 6, none⟩) HAP.out.2.1 _, ?_⟩
    · show B8 _ b t S.size S.age c (.slice A4 (S.z ++ [i]).length C4) S.old ((S.frames + 1 : Nat) : Int) S.groups
      rw [List.length_append, HNN.out, Int.natCast_add]
      exact (HK4.out.1.set4 (.slice A4 (n + 1) C4)).set6 ((S.frames : Int) + 1)
    · show OwnU _ B (.slice A4 (S.z ++ [i]).length C4) (S.z ++ [i]).length (S.z ++ [i])
      rw [List.length_append, HNN.out]
      refine HO4.out.keep (fun q hq => ?_)
      obtain ⟨cur, hg⟩ := own_type HO4.out hq
      have hne : q ≠ b := two_types hg hB8 (by decide)
      rw [Below.heap_setCell _ _ _ _ hne, Below.heap_setCell _ _ _ _ hne])
  have hpb : w.heap.size ≠ b := by have := HH.out.blk.lt; omega
  have HX5 : Hid (B5 28 ((w4.setCell ⟨b, 4, none⟩ (.slice A4 (n + 1) C4)).setCell ⟨b, 6, none⟩ (.int .i64 ((S.frames : Int) + 1))) w.heap.size (.int .u32 0) (.int .u32 0) (.int .i64 0) (.int .i64 0) (.slice none 0 0)) := Lib.hid ((HK4.out.2.2.2.1.keep (w' := w4.setCell ⟨b, 4, none⟩ (.slice A4 (n + 1) C4)) (Below.heap_setCell _ _ _ _ hpb)).keep (Below.heap_setCell _ _ _ _ hpb))
  have HF5 : Hid (FrG b c (.slice A n C) w ((w4.setCell ⟨b, 4, none⟩ (.slice A4 (n + 1) C4)).setCell ⟨b, 6, none⟩ (.int .i64 ((S.frames : Int) + 1)))) := Lib.hid ((HK4.out.2.2.2.2.set 4 _).set 6 _)
  have HV5 : Hid (∀ q, (Value.slice A4 (n + 1) C4).ownBlock = some q → (Value.slice A n C).ownBlock = some q ∨ w.heap.size ≤ q) := Lib.hid (fun q hq => by
    rcases HF4.out with e | e
    · exact .inl (e ▸ hq)
    · rw [e] at hq
      simp only [Option.some.injEq] at hq
      have := HWB.out.size
      simp at hq
      exact .inr (by omega))
  have HCB := HST.out.blk
  have hlen : (S.came i).z.length = n + 1 := by show (S.z ++ [i]).length = n + 1; rw [List.length_append, HNN.out]; rfl
  have HLEN := Lib.hid hlen
  rw [hlen] at HCB
  have HCB2 := Lib.hid HCB
  clear c0 c1 c2 c3 c4 c5 c6 c7 f4 f6 HCB hB8 HK4 HO4 HG4 HF4 HBK HOWN HINS HBL hlen hbc hpb
  generalize (w4.setCell ⟨b, 4, none⟩ (.slice A4 (n + 1) C4)).setCell ⟨b, 6, none⟩ (.int .i64 ((S.frames : Int) + 1)) = w5 at *
  obtain ⟨c0, c1, c2, c3, c4, c5, c6, c7⟩ := HCB2.out.cells
  have d1 : (S.came i).size = S.size := rfl
  rw [d1] at c1
  go_quiet (fail)
  clear c0 c1 c2 c3 c4 c5 c6 c7 d1
  have hb6 : Below w5.heap.size w5 (w5.drewN nq) := below_drewN (Below.refl _ _) nq
  have HST6 := Lib.hid (HST.out.below hb6 (Nat.le_refl _))
  have HX6 := Lib.hid (HX5.out.below hb6 HX5.out.lt)
  have HF6 := Lib.hid (HF5.out.trans (FrG.of_below hb6))
  clear hb6 HST HX5 HF5
  generalize w5.drewN nq = w6 at *
  by_cases hlt : n + 1 < S.size
  · have j1 : (n : Int) + 1 < S.size := by omega
    rw [if_pos hlt]
    obtain ⟨x0, x1, x2, x3, x4⟩ := HX6.out.cells
    have v0 := HX6.out.frozen 0
    have v1 := HX6.out.frozen 1
    have v2 := HX6.out.frozen 2
    have v3 := HX6.out.frozen 3
    have v4 := HX6.out.frozen 4
    clear HCL
    go_wp2
    obtain ⟨z0, z1, z2, z3, z4⟩ := put5_cells HX6.out (.int .u32 0) (.int .u32 0) (.int .i64 0) (.int .i64 0) (.slice none 0 0) rfl
    refine bodyPost_ret (v := .tuple #[.agg #[.int .u32 0, .int .u32 0, .int .i64 0, .int .i64 0, .slice none 0 0], .bool false]) (by simp [results, Try.results28, go_sem, z0, z1, z2, z3, z4]) rfl ?_
    exact ⟨none, 0, A4, C4, rfl, Lib.hid (Shs.nil _ _ _), Lib.hid (HST6.out.keep (HST6.out.far HX6.out (by decide) (by decide) (by decide) (by decide)) (fun q hq => heap_put5 _ _ _ _ _ _ _ q hq)), Lib.hid (HF6.out.put5 (Nat.le_refl _) _ _ _ _ _), Lib.hid (by dsimp only; rw [HLEN.out]; exact HV5.out)⟩
  · have j1 : ¬ (n : Int) + 1 < S.size := by omega
    rw [if_neg hlt]
    have HC6 := Lib.hid (HCL.out w6 A4 C4 HST6.out)
    rw [HLEN.out] at HC6
    unfold ClosedTo at HC6
    dsimp only [id] at HC6
    unfold Gd.val at HC6
    clear HCL
    go_wp2_with (first
      | (go_at_call 62; (with_reducible refine HC6.out.mono ?_); rintro e w7 ⟨A7, C7, A8, C8, rfl, HS7, HB7, HF7, HV7⟩; have HX7 := Lib.hid (HX6.out.keep (HST6.out.other rfl rfl (by rw [HLEN.out]; exact HF7.out) _ _ _ HX6.out (by decide) (by decide) (by decide))); obtain ⟨x0, x1, x2, x3, x4⟩ := HX7.out.cells; have v0 := HX7.out.frozen 0; have v1 := HX7.out.frozen 1; have v2 := HX7.out.frozen 2; have v3 := HX7.out.frozen 3; have v4 := HX7.out.frozen 4)
      | fail)
    obtain ⟨z0, z1, z2, z3, z4⟩ := put5_cells HX7.out (.int .u32 ((S.came i).close loss).2.no) (.int .u32 ((S.came i).close loss).2.fst) (.int .i64 (((S.came i).close loss).2.z.length : Nat)) (.int .i64 (((S.came i).close loss).2.m : Nat)) (.slice A7 ((S.came i).close loss).2.n C7) rfl
    refine bodyPost_ret (v := .tuple #[.agg #[.int .u32 ((S.came i).close loss).2.no, .int .u32 ((S.came i).close loss).2.fst, .int .i64 (((S.came i).close loss).2.z.length : Nat), .int .i64 (((S.came i).close loss).2.m : Nat), .slice A7 ((S.came i).close loss).2.n C7], .bool true]) (by simp [results, Try.results28, go_sem, z0, z1, z2, z3, z4]) rfl ?_
    obtain ⟨a1, a2, a3, a4⟩ := closed_end (w := w) (Nat.le_refl _) HS7.out HB7.out HF7.out HV7.out HX7.out HF6.out HV5.out rfl
    exact ⟨A7, C7, A8, C8, rfl, a1, a2, a3, a4⟩
end Go.Proofs.Ytjcbcdjfhcnhcaa
