/-
  Own text: layer 18 (reasm): a shard is put to those of its group, walked.
-/
import Derived.Test.YtjcbcdjfhcnhcaaK16
import Derived.BigRegion
import Derived.OrdersHeld
import Derived.Deep.RegionHeld3
namespace Go.Proofs.Ytjcbcdjfhcnhcaa
open Go.RowKit

theorem lies_get {w : World} {b o : Nat} {cs : Array Value} {v : Value} (h : Lies w b o cs) (i : Nat) (hv : cs[i]? = some v) : w.cell? ⟨b, o + i, none⟩ = some v := (h.cell i (Array.getElem?_eq_some_iff.1 hv).1).trans hv
theorem cell_blk {w w' : World} {b i : Nat} {v : Value} (h : w.cell? ⟨b, i, none⟩ = some v) (e : w'.heap[b]? = w.heap[b]?) : w'.cell? ⟨b, i, none⟩ = some v := by
  simp only [World.cell?] at h ⊢
  rw [e]
  exact h
theorem set_other18 (w : World) (b i k : Nat) (u : Value) (h : k ≠ b) : (w.setCell ⟨b, i, none⟩ u).heap[k]? = w.heap[k]? := by
  simp only [World.setCell, Array.getElem?_modify]
  rw [if_neg (fun e => h e.symm)]
theorem set_size18 (w : World) (p : Addr) (u : Value) : (w.setCell p u).heap.size = w.heap.size := by simp [World.setCell]
/-- A block of a type that no row of shards has. -/
def Typ (w : World) (b : Nat) (t : TypeId) : Prop := ∃ C, w.heap[b]? = some (.cells C t (0, 0))
theorem Typ.below {w w' : World} {b : Nat} {t : TypeId} (h : Typ w b t) {B : Nat} (hb : Below B w w') (hB : w.heap.size ≤ B) : Typ w' b t := by
  obtain ⟨C, hC⟩ := h
  exact ⟨C, (hb.block b (by have := (Array.getElem?_eq_some_iff.1 hC).1; omega)).trans hC⟩
theorem Typ.lt {w : World} {b : Nat} {t : TypeId} (h : Typ w b t) : b < w.heap.size := by
  obtain ⟨C, hC⟩ := h
  exact (Array.getElem?_eq_some_iff.1 hC).1
theorem Typ.ne {w : World} {b k : Nat} {t t' : TypeId} (h : Typ w b t) (h' : Typ w k t') (e : t ≠ t') : b ≠ k := by
  obtain ⟨C, hC⟩ := h
  obtain ⟨D, hD⟩ := h'
  intro eb
  rw [eb, hD] at hC
  simp at hC
  exact e hC.2.symm
theorem Typ.set {w : World} {b : Nat} {t : TypeId} (h : Typ w b t) (i : Nat) (u : Value) : Typ (w.setCell ⟨b, i, none⟩ u) b t := by
  obtain ⟨C, hC⟩ := h
  exact ⟨_, blk_set hC i u⟩
theorem ShO.setAt {w : World} {base b : Nat} {F : Nat → Prop} {v : Value} {s : List Sd} {t : TypeId} (h : ShO w base F v s) (hT : Typ w b t) (h1 : t ≠ 111) (h2 : t ≠ 5) (i : Nat) (u : Value) : ShO (w.setCell ⟨b, i, none⟩ u) base F v s :=
  h.keep (fun g hg => set_other18 w b i g u (fun e => by
    obtain ⟨_, _, cur, hc⟩ := h.typ hg
    exact (Typ.ne ⟨cur, hc⟩ hT (fun e2 => h1 e2.symm)) e)) (fun g cur _ hc => set_other18 w b i g u (fun e => (Typ.ne ⟨cur, hc⟩ hT (fun e2 => h2 e2.symm)) e))
/-- The five cells from o on. -/
def Sl5 (o j : Nat) : Prop := o ≤ j ∧ j < o + 5
/-- Three cells of a group's part are written. -/
theorem add_stores {b o base : Nat} {F : Nat → Prop} {v c0 c1 c2 c4 : Value} {s : List Sd} {W : World} (hL : Lies W b o #[c0, c1, c2, v, c4]) (hT : Typ W b 105) (hR : ShO W base F v s) (u0 u1 u2 : Value) {W1 : World} (hW1 : W1 = ((W.setCell ⟨b, o, none⟩ u0).setCell ⟨b, o + 1, none⟩ u1).setCell ⟨b, o + 2, none⟩ u2) :
    Lies W1 b o #[u0, u1, u2, v, c4] ∧ Typ W1 b 105 ∧ ShO W1 base F v s ∧ PrtR b v.ownBlock (Sl5 o) W W1 ∧ W1.heap.size = W.heap.size ∧ ∀ k, k ≠ b → W1.heap[k]? = W.heap[k]? := by
  subst hW1
  have a1 := hL.set0 u0
  have a2 := a1.set 1 u1
  have a3 := a2.set 2 u2
  refine ⟨a3.eq rfl, ((hT.set _ _).set _ _).set _ _, ((hR.setAt hT (by decide) (by decide) _ _).setAt (hT.set _ _) (by decide) (by decide) _ _).setAt ((hT.set _ _).set _ _) (by decide) (by decide) _ _, ?_, ?_, fun k hk => ?_⟩
  · exact (((PrtR.refl b _ (Sl5 o) W).set o (by unfold Sl5; omega) u0).set (o + 1) (by unfold Sl5; omega) u1).set (o + 2) (by unfold Sl5; omega) u2
  · rw [set_size18, set_size18, set_size18]
  · rw [set_other18 _ _ _ _ _ hk, set_other18 _ _ _ _ _ hk, set_other18 _ _ _ _ _ hk]
/-- What add leaves. -/
def AddTo (b o base : Nat) (u0 u1 u2 v c4 : Value) (s : List Sd) (z : Sd) (w : World) (e : Ending) (w' : World) : Prop :=
  (∃ u, e = .returned u) ∧ ∃ v', Hid (Lies w' b o #[u0, u1, u2, v', c4]) ∧ Hid (Typ w' b 105) ∧ Hid (ShO w' base (fun _ => True) v' (s ++ [z])) ∧ Hid (v'.ownBlock = v.ownBlock ∨ ∃ q, v'.ownBlock = some q ∧ w.heap.size ≤ q) ∧ Hid (PrtR b v.ownBlock (Sl5 o) w w')
set_option maxRecDepth 100000 in
set_option maxHeartbeats 4000000 in
theorem add18 (b o base g off dc : Nat) (kind ses seq path tick A B K M : Int) (c0 c1 c2 c4 v : Value) (s : List Sd) (z : Sd) (w : World) (hL : Lies w b o #[c0, c1, c2, v, c4]) (hT : Typ w b 105) (hR : ShO w base (fun _ => True) v s) (hbase : base ≤ w.heap.size) (hs : s.length ≤ 40) (hc : 2 ≤ dc) (hr : Rw w g off (f2 z)) :
    Calls Try.prog 51 #[.pointer (some ⟨b, o, none⟩), .agg #[.int .i64 kind, .int .u32 ses, .int .u32 seq, .int .i64 path, .int .u32 tick, .int .u32 A, .int .u32 B, .int .i64 K, .int .i64 M, .int .i64 (z.ix : Nat), .slice (some ⟨g, off, none⟩) 2 dc]] w (AddTo b o base (.int .u32 B) (.int .i64 K) (.int .i64 M) v c4 s z w) := by
  obtain ⟨W, hW⟩ : ∃ W, W = w.alloc (.cells #[.int .i64 kind, .int .u32 ses, .int .u32 seq, .int .i64 path, .int .u32 tick, .int .u32 A, .int .u32 B, .int .i64 K, .int .i64 M, .int .i64 (z.ix : Nat), .slice (some ⟨g, off, none⟩) 2 dc] 44) := ⟨_, rfl⟩
  have hb : Below w.heap.size w W := by rw [hW]; exact (Below.refl _ _).alloc (Nat.le_refl _) _
  have hsz : W.heap.size = w.heap.size + 1 := by rw [hW]; simp
  have hD : Lies W w.heap.size 0 #[.int .i64 kind, .int .u32 ses, .int .u32 seq, .int .i64 path, .int .u32 tick, .int .u32 A, .int .u32 B, .int .i64 K, .int .i64 M, .int .i64 (z.ix : Nat), .slice (some ⟨g, off, none⟩) 2 dc] := by rw [hW]; exact Lies.new _ _ _ (Below.refl _ _)
  have hbw : b < w.heap.size := hL.lt
  obtain ⟨W1, hW1⟩ : ∃ W1, W1 = ((W.setCell ⟨b, o, none⟩ (.int .u32 B)).setCell ⟨b, o + 1, none⟩ (.int .i64 K)).setCell ⟨b, o + 2, none⟩ (.int .i64 M) := ⟨_, rfl⟩
  have hL1 := hL.below hb hbw
  have hT1 := hT.below hb (Nat.le_refl _)
  have hR1 := hR.below hb (Nat.le_refl _)
  obtain ⟨s1, s2, s3, s4, s5, s6⟩ := add_stores hL1 hT1 hR1 (.int .u32 B) (.int .i64 K) (.int .i64 M) hW1
  have hD1 : Lies W1 w.heap.size 0 _ := hD.keep (s6 _ (by omega))
  have e6 : W.cell? ⟨w.heap.size, 6, none⟩ = some (.int .u32 B) := lies_get hD 6 rfl
  have e7 : W.cell? ⟨w.heap.size, 7, none⟩ = some (.int .i64 K) := lies_get hD 7 rfl
  have e8 : W.cell? ⟨w.heap.size, 8, none⟩ = some (.int .i64 M) := lies_get hD 8 rfl
  have l0 : W.cell? ⟨b, o, none⟩ = some c0 := lies_get hL1 0 rfl
  have l1 : W.cell? ⟨b, o + 1, none⟩ = some c1 := lies_get hL1 1 rfl
  have l2 : W.cell? ⟨b, o + 2, none⟩ = some c2 := lies_get hL1 2 rfl
  have q0 := hL1.frozen o
  have q1 := hL1.frozen (o + 1)
  have q2 := hL1.frozen (o + 2)
  have HRW : Hid (∀ u, Below W1.heap.size W1 u → Rw u g off (f2 z) ∧ ShO u base (fun _ => True) v s ∧ Lies u b o #[.int .u32 B, .int .i64 K, .int .i64 M, v, c4] ∧ Typ u b 105 ∧ u.cell? ⟨w.heap.size, 9, none⟩ = some (.int .i64 (z.ix : Nat)) ∧ u.cell? ⟨w.heap.size, 10, none⟩ = some (.slice (some ⟨g, off, none⟩) 2 dc) ∧ base ≤ u.heap.size) := Lib.hid (fun u hu => by
    have hg : g ≠ b := by
      obtain ⟨cur, hc⟩ := hr.1
      exact Typ.ne ⟨cur, hc⟩ hT (by decide)
    have h0 : Rw W1 g off (f2 z) := (hr.below hb (Nat.le_refl _)).keep (s6 g hg)
    have hD2 := hD1.below hu hD1.lt
    exact ⟨h0.below hu (Nat.le_refl _), s3.below hu (Nat.le_refl _), s1.below hu s1.lt, s2.below hu (Nat.le_refl _), lies_get hD2 9 rfl, lies_get hD2 10 rfl, by have := hu.size; have := hb.size; omega⟩)
  have HP1 : Hid (PrtR b v.ownBlock (Sl5 o) w W1) := Lib.hid ((PrtR.of_below hbw hb).trans s4)
  have HSZ : Hid (w.heap.size ≤ W1.heap.size ∧ b < W1.heap.size) := Lib.hid (by omega)
  have HB := Lib.hid hb
  have HVB : Hid (v.ownBlock ≠ some b) := Lib.hid (fun e => by
    obtain ⟨_, _, cur, hc⟩ := hR.typ e
    exact (Typ.ne ⟨cur, hc⟩ hT (by decide)) rfl)
  have HVD : Hid (v.ownBlock ≠ some w.heap.size) := Lib.hid (fun e => by
    obtain ⟨_, h2, _⟩ := hR.typ e
    omega)
  have HLN : Hid (s.length + 1 ≤ 100000) := Lib.hid (by omega)
  clear hL hT hR hr hD hL1 hT1 hR1 s1 s2 s3 s4 s5 s6 hD1 hb hbase hs hsz
  go_enter Try.func51, Try.ntmps51
  go_upto_region 1 with fail
  rw [← hW]
  clear hW
  go_region
  rw [← hW1]
  clear hW1 e6 e7 e8 l0 l1 l2 q0 q1 q2
  go_upto_region 2 with fail
  have HCL := Lib.hid (fun u (hu : Below W1.heap.size W1 u) => bclone2_any g off dc (f2 z) u (HRW.out u hu).1 hc)
  obtain ⟨W2, hW2⟩ : ∃ W2, W2 = W1.drew := ⟨_, rfl⟩
  have cc : Below W1.heap.size W1 W2.drew := by rw [hW2]; exact (Below.refl _ _).drew.drew
  rw [← hW2]
  clear hW2
  have HS2 : Hid (∀ u, Below W1.heap.size W1 u → u.cell? ⟨b, o + 3, none⟩ = some v ∧ u.cell? ⟨w.heap.size, 9, none⟩ = some (.int .i64 (z.ix : Nat)) ∧ u.cell? ⟨w.heap.size, 10, none⟩ = some (.slice (some ⟨g, off, none⟩) 2 dc)) := Lib.hid (fun u hu => by
    obtain ⟨_, _, hl, _, h9, h10, _⟩ := HRW.out u hu
    exact ⟨lies_get hl 3 rfl, h9, h10⟩)
  have HK5 : Hid (∀ u u', Below W1.heap.size W1 u → u.grownBy u' v.ownBlock → u'.cell? ⟨b, o + 3, none⟩ = some v ∧ u'.cell? ⟨w.heap.size, 9, none⟩ = some (.int .i64 (z.ix : Nat)) ∧ u'.cell? ⟨w.heap.size, 10, none⟩ = some (.slice (some ⟨g, off, none⟩) 2 dc)) := Lib.hid (fun u u' hu hg => by
    obtain ⟨h3, h9, h10⟩ := HS2.out u hu
    have e1 := hg.block b (World.block_lt_of_cell? u _ h3) (fun e => HVB.out e.symm)
    have e2 := hg.block w.heap.size (World.block_lt_of_cell? u _ h9) (fun e => HVD.out e.symm)
    exact ⟨cell_blk h3 e1, cell_blk h9 e2, cell_blk h10 e2⟩)
  have HL5 : Hid (∀ u u', Below W1.heap.size W1 u → u.grownBy u' v.ownBlock → Lies u' b o #[.int .u32 B, .int .i64 K, .int .i64 M, v, c4] ∧ Typ u' b 105) := Lib.hid (fun u u' hu hg => by
    obtain ⟨_, _, hl, ht, _⟩ := HRW.out u hu
    have e1 := hg.block b hl.lt (fun e => HVB.out e.symm)
    obtain ⟨C, hC⟩ := ht
    exact ⟨hl.keep e1, C, e1.trans hC⟩)
  clear hc
  obtain ⟨k3, k9, k10⟩ := HS2.out _ cc
  refine Code.wp_mono (Q := fun e a' w' => e = .normal ∧ ∃ t19 t20 t21 t22 t23 t24 t25 t26 t27 t28 t29 t30 t31 t32 t33 : Value, a' = { tmps := #[.pointer (some ⟨b, o, none⟩), .agg #[.int .i64 kind, .int .u32 ses, .int .u32 seq, .int .i64 path, .int .u32 tick, .int .u32 A, .int .u32 B, .int .i64 K, .int .i64 M, .int .i64 (z.ix : Nat), .slice (some ⟨g, off, none⟩) 2 dc], undef, .pointer (some ⟨w.heap.size, 0, none⟩), .pointer (some ⟨b, o, none⟩), .pointer (some ⟨b, o, none⟩), .pointer (some ⟨b, o, none⟩), .pointer (some ⟨w.heap.size, 6, none⟩), .int .u32 B, .pointer (some ⟨w.heap.size, 7, none⟩), .int .i64 K, .pointer (some ⟨w.heap.size, 8, none⟩), .int .i64 M, .pointer (some ⟨b, o, none⟩), .pointer (some ⟨b, o, none⟩), .pointer (some ⟨b, o, none⟩), .pointer (some ⟨b, o + 1, none⟩), .pointer (some ⟨b, o, none⟩), .pointer (some ⟨b, o + 2, none⟩), t19, t20, t21, t22, t23, t24, t25, t26, t27, t28, t29, t30, t31, t32, t33], defers := [] } ∧ ∃ v', Hid (Lies w' b o #[.int .u32 B, .int .i64 K, .int .i64 M, v', c4]) ∧ Hid (Typ w' b 105) ∧ Hid (ShO w' base (fun _ => True) v' (s ++ [z])) ∧ Hid (v'.ownBlock = v.ownBlock ∨ ∃ q, v'.ownBlock = some q ∧ w.heap.size ≤ q) ∧ Hid (PrtR b v.ownBlock (Sl5 o) w w')) ?post ?reg
  case reg =>
    refine wp_region_noPanic ?_
    go_region_law (first
      | (go_simp; go_at_call 37; (with_reducible refine (HCL.out _ cc).mono ?_); rintro e w3 ⟨g', c', rfl, H3⟩; have cc := cc.trans (H3.out.2.2.2.2.mono cc.size); obtain ⟨k3, k9, k10⟩ := HS2.out _ cc; have ka : ∀ x, (w3.alloc x).cell? ⟨b, o + 3, none⟩ = some v := fun x => (HS2.out _ (cc.alloc cc.size x)).1)
      | (refine step_append_sho (w := w3.alloc _) rfl (.tmp 23) (.tmp 30) rfl base (fun _ => True) v s (by simp [Act.eval]) (HRW.out _ (cc.alloc cc.size (.cells #[.int .i64 (z.ix : Nat), .slice (some ⟨g', 0, none⟩) 2 c'] 111))).2.1 w3.heap.size (by simp [Act.eval]) z g' 0 c' trivial H3.out.1 H3.out.2.1 (H3.out.2.2.2.1.keep (Below.heap_alloc _ _ _ H3.out.2.2.2.1.lt)) (new_shard w3 _ _ _ _) HLN.out (HRW.out _ (cc.alloc cc.size (.cells #[.int .i64 (z.ix : Nat), .slice (some ⟨g', 0, none⟩) 2 c'] 111))).2.2.2.2.2.2 _ rfl ?_; intro A5 C5 w5 HO HG HF; have HC5 := Lib.hid (cc.alloc cc.size (.cells #[.int .i64 (z.ix : Nat), .slice (some ⟨g', 0, none⟩) 2 c'] 111)); have f5 := (HL5.out _ _ HC5.out HG.out).1.frozen (o + 3); have l5 := lies_get (HL5.out _ _ HC5.out HG.out).1 3 rfl)
      | fail "arm")
    all_goals
      have h5 := HL5.out _ _ HC5.out HG.out
      refine NoPanic.normal ⟨rfl, _, _, _, _, _, _, _, _, _, _, _, _, _, _, _, rfl, .slice A5 (s.length + 1) C5, Lib.hid ((h5.1.set 3 _).eq rfl), Lib.hid (h5.2.set _ _), Lib.hid (HO.out.setAt h5.2 (by decide) (by decide) _ _), Lib.hid (HF.out.imp id (fun e => ⟨_, e, Nat.le_trans HSZ.out.1 HC5.out.size⟩)), Lib.hid (((HP1.out.below HSZ.out.2 HC5.out).grown (Nat.lt_of_lt_of_le HSZ.out.2 HC5.out.size) v.ownBlock (fun k h => .inl h) HVB.out HG.out).set (o + 3) (by unfold Sl5; omega) _)⟩
  case post =>
    rintro e a' W' ⟨rfl, t19, t20, t21, t22, t23, t24, t25, t26, t27, t28, t29, t30, t31, t32, t33, rfl, v', h1, h2, h3, h4, h5⟩
    dsimp only
    go_wp2
    go_end0
    exact ⟨⟨_, rfl⟩, v', h1, h2, h3, h4, h5⟩
end Go.Proofs.Ytjcbcdjfhcnhcaa
