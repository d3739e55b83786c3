/-
  Own text: matrix.Clone, Rank, walked.
-/
import Derived.Test.YtipaolkgafhliaaReduce
import Derived.Test.YtipaolkgafhliaaClone
import Derived.Deep.RegionHeld3
namespace Go.Proofs.Ytipaolkgafhliaa
open Go.RowKit

theorem own_dat {w : World} {base n C : Nat} {A : Option Addr} {l : List Int} (h : Own8 w base (.slice A n C) n l) (hz : By l) : n = 0 ∨ ∃ g, A = some ⟨g, 0, none⟩ ∧ base ≤ g ∧ Dat w g n l := by
  have hl := h.length
  rcases h.2 with ⟨e, h0⟩ | ⟨g, cap, cur, e, hb, hg, hn, hm, hs, ht⟩
  · exact .inl h0
  · simp only [Value.slice.injEq, true_and] at e
    obtain ⟨rfl, rfl⟩ := e
    refine .inr ⟨g, rfl, hb, hz, hl, cur.toList, by simpa using hg, ?_, by simpa using ht⟩
    rw [Array.length_toList, hs]; omega
/-- A matrix's rows lie apart. -/
theorem laid_rows (r c n : Nat) (h : r * c ≤ n) : Laid r c n (fun i => i * c) := by
  have key : ∀ i j, i < j → i * c + c ≤ j * c := fun i j h => by have := Nat.mul_le_mul_right c (show i + 1 ≤ j from h); rwa [Nat.succ_mul] at this
  refine ⟨fun i hi => by have := key i r hi; show i * c + c ≤ n; omega, fun i j _ _ hne => ?_⟩
  rcases Nat.lt_or_gt_of_ne hne with g | g
  · exact .inl (key i j g)
  · exact .inr (key j i g)
theorem reduce_zero (t h cnt C cols : Nat) (w : World) (h0 : cnt = 0 ∨ cols = 0) (hcols : cols ≤ 100000) :
    Calls Try.prog 45 #[.pointer (some ⟨t, 0, none⟩), .slice (some ⟨h, 0, none⟩) cnt C, .int .i64 cols] w fun e w' => e = .returned (.int .i64 0) ∧ Below w.heap.size w w' := by
  go_enter Try.func45, Try.ntmps45
  go_wp2
  go_loopw [7, 8, 9, 11] (fun dv _ _ i wr => ∃ k : Nat, k ≤ cols ∧ dv = .int .i64 0 ∧ i = .int .i64 (k : Nat) ∧ Hid (Below w.heap.size w wr)) (fun _ _ _ i _ => cols - (intOf i).toNat)
  case atStart => exact ⟨0, by omega, rfl, rfl, Lib.hid (Below.refl _ _)⟩
  case round =>
    obtain ⟨k, hk, rfl, rfl, HB⟩ := hrel
    obtain ⟨wo, ho⟩ : ∃ wo, wo = wr := ⟨_, rfl⟩
    subst ho
    by_cases hlt : k < cols
    · obtain rfl : cnt = 0 := by omega
      have HBc : Hid ((wo.alloc (.cells #[.int .i64 (k : Int)] 3)).cell? ⟨wo.heap.size, 0, none⟩ = some (.int .i64 (k : Int))) := Lib.hid (by simp only [World.cell?]; rw [Go.Deep.blk_alloc_new]; rfl)
      have HWK : Hid (wrap64 ((k : Int) + 1) = ((k + 1 : Nat) : Int)) := Lib.hid (by simp only [wrap64]; omega)
      have HI := Lib.hid (fun A c => index_any h 0 0 c (k + 1) k wo.heap.size A (fun _ => ⟨0, 0, none⟩) (fun _ => 0) (wo.alloc (.cells #[.int .i64 (k : Int)] 3)) (by omega) (fun h => absurd h (by omega)) (by omega)
        (fun j hj => absurd hj (by omega)) (fun j hj => absurd hj (by omega)) HBc.out)
      go_wp2_with ((with_reducible refine (HI.out _ _).mono ?_); rintro e w1 ⟨r, rfl, hf, rfl⟩; rcases hf with ⟨j0, hj0, rfl, hv⟩ | ⟨rfl, hz⟩)
      refine ⟨⟨k + 1, by omega, rfl, by go_num, Lib.hid (HB.out.alloc HB.out.size _)⟩, by first | (rw [HWK.out]; simp [intOf]; omega) | (simp [intOf]; omega)⟩
    · obtain rfl : k = cols := by omega
      go_wp2
      go_ret
      exact ⟨rfl, HB.out⟩
/-- What lies in a box, later on. -/
theorem box3 {W w1 : World} {B b : Nat} {x y z : Value} {t : TypeId} (h : W.heap[b]? = some (.cells #[x, y, z] t (0, 0))) (hb : Below B W w1) (hB : b < B) :
    w1.cell? ⟨b, 0, none⟩ = some x ∧ w1.cell? ⟨b, 1, none⟩ = some y ∧ w1.cell? ⟨b, 2, none⟩ = some z ∧ ∀ i, w1.frozen? ⟨b, i, none⟩ = false := by
  have h1 := (hb.block b hB).trans h
  refine ⟨?_, ?_, ?_, fun i => ?_⟩ <;> simp [World.cell?, World.frozen?, h1]
theorem alloc_one (w : World) (C : Array Value) (t : TypeId) : (w.alloc (.cells C t)).heap[w.heap.size]? = some (.cells C t (0, 0)) := Go.Deep.blk_alloc_new _ _
theorem alloc_two (w : World) (C : Array Value) (t : TypeId) (o : Obj) : ((w.alloc (.cells C t)).alloc o).heap[w.heap.size]? = some (.cells C t (0, 0)) :=
  (Below.heap_alloc _ _ _ (by simp)).trans (Go.Deep.blk_alloc_new _ _)
theorem alloc_last (w : World) (C : Array Value) (t : TypeId) (o : Obj) : ((w.alloc o).alloc (.cells C t)).heap[w.heap.size + 1]? = some (.cells C t (0, 0)) := by
  have := Go.Deep.blk_alloc_new (w.alloc o) (.cells C t)
  rwa [World.size_alloc] at this
theorem Own8.mono {w : World} {base base' : Nat} {v : Value} {n : Nat} {l : List Int} (h : Own8 w base v n l) (hb : base' ≤ base) : Own8 w base' v n l :=
  ⟨h.1, h.2.imp id fun ⟨g, cap, cur, e, h1, h2⟩ => ⟨g, cap, cur, e, Nat.le_trans hb h1, h2⟩⟩
theorem Own8.setBelow {w : World} {base : Nat} {v : Value} {n : Nat} {l : List Int} (h : Own8 w base v n l) {a : Addr} (ha : a.block < base) (u : Value) : Own8 (w.setCell a u) base v n l := ownsRow_setCell_below h ha u
/-- A box that is written whole. -/
theorem set_box {w : World} {b : Nat} {x y z x' y' z' : Value} {t : TypeId} (h : w.heap[b]? = some (.cells #[x, y, z] t (0, 0))) :
    (((w.setCell ⟨b, 0, none⟩ x').setCell ⟨b, 1, none⟩ y').setCell ⟨b, 2, none⟩ z').heap[b]? = some (.cells #[x', y', z'] t (0, 0)) := by
  simp [World.setCell, Array.getElem?_modify, h]
theorem box_cells {w : World} {b : Nat} {x y z : Value} {t : TypeId} (h : w.heap[b]? = some (.cells #[x, y, z] t (0, 0))) :
    w.cell? ⟨b, 0, none⟩ = some x ∧ w.cell? ⟨b, 1, none⟩ = some y ∧ w.cell? ⟨b, 2, none⟩ = some z ∧ ∀ i, w.frozen? ⟨b, i, none⟩ = false := by
  refine ⟨?_, ?_, ?_, fun i => ?_⟩ <;> simp [World.cell?, World.frozen?, h]
/-- Clone's answer. -/
def ClonedM (r c : Int) (n : Nat) (L : List Int) (w : World) (e : Ending) (w' : World) : Prop :=
  ∃ A C, e = .returned (.agg #[.int .i64 r, .int .i64 c, .slice A n C]) ∧ Own8 w' w.heap.size (.slice A n C) n L ∧ Below w.heap.size w w'
set_option maxRecDepth 100000 in
theorem mclone_any (r c : Int) (a : Option Addr) (n cap : Nat) (l : List Int) (w : World) (hl : Sl w a n cap l) (hn : n ≤ 100000) :
    Calls Try.prog 27 #[.agg #[.int .i64 r, .int .i64 c, .slice a n cap]] w (ClonedM r c n l w) := by
  have HC : Hid (∀ w', Below w.heap.size w w' → Calls Try.prog 38 #[.slice a n cap] w' (Cloned n l w')) := Lib.hid (fun w' hb => clone_any a n cap l w' (hl.below hb (Nat.le_refl _)) hn)
  clear hl
  have HSZ2 : Hid (∀ o p : Obj, w.heap.size + 1 < ((w.alloc o).alloc p).heap.size) := Lib.hid (fun o p => by simp)
  have HSZ : Hid (∀ o p : Obj, w.heap.size < ((w.alloc o).alloc p).heap.size) := Lib.hid (fun o p => by simp; omega)
  go_enter Try.func27, Try.ntmps27
  go_wp2_with (go_at_call 38; refine (HC.out _ (by go_grown)).mono ?_; rintro e w1 ⟨A, C, rfl, ho, hb⟩; have HO := Lib.hid ho; have HB := Lib.hid hb; clear ho hb; obtain ⟨k0, k1, k2, kf⟩ := box3 (alloc_two w _ _ _) HB.out (HSZ.out _ _); obtain ⟨j0, j1, j2, jf⟩ := box3 (alloc_last w _ _ _) HB.out (HSZ2.out _ _))
  obtain ⟨z0, z1, z2, _⟩ := box_cells (set_box (x' := .int .i64 r) (y' := .int .i64 c) (z' := .slice A n C) ((Below.heap_setCell w1 ⟨w.heap.size, 2, none⟩ (.slice A n C) (w.heap.size + 1) (by simp)).trans ((HB.out.block _ (HSZ2.out _ _)).trans (alloc_last w _ _ _))))
  refine bodyPost_ret (v := .agg #[.int .i64 r, .int .i64 c, .slice A n C]) (by simp [results, Try.results27, go_sem, z0, z1, z2]) rfl ?_
  clear z0 z1 z2
  refine ⟨A, C, rfl, ?_, ?_⟩
  · refine Own8.mono ((((HO.out.setBelow ?_ _).setBelow ?_ _).setBelow ?_ _).setBelow ?_ _) (by simp; omega)
    · exact HSZ.out _ _
    · exact HSZ2.out _ _
    · exact HSZ2.out _ _
    · exact HSZ2.out _ _
  · refine ((((((Below.refl _ w).alloc (Nat.le_refl _) _).alloc (by simp) _).trans (HB.out.mono (by simp; omega))).setCell ?_ _).setCell ?_ _).setCell ?_ _ |>.setCell ?_ _
    · exact Nat.le_refl _
    · exact Nat.le_succ _
    · exact Nat.le_succ _
    · exact Nat.le_succ _
set_option maxRecDepth 100000 in
theorem rank_none (t : Nat) (r c : Int) (a : Option Addr) (n cap : Nat) (w : World) (h : ¬ RightM r c n) :
    Calls Try.prog 32 #[.pointer (some ⟨t, 0, none⟩), .agg #[.int .i64 r, .int .i64 c, .slice a n cap]] w fun e w' => e = .returned (.int .i64 0) ∧ Below w.heap.size w w' := by
  have HC := Lib.hid (right_any r c n a cap)
  rw [decide_eq_false h] at HC
  clear h
  have HA : Hid (∀ o, w.heap.size ≤ (w.alloc o).heap.size) := Lib.hid (fun o => by simp)
  go_enter Try.func32, Try.ntmps32
  go_wp2_with (go_at_call 13; refine (HC.out _).mono ?_; rintro e w1 ⟨rfl, hb⟩; have HB := Lib.hid hb; clear hb)
  go_returns
  exact ⟨rfl, ((Below.refl _ w).alloc (Nat.le_refl _) _).trans (HB.out.mono (HA.out _))⟩
theorem gr_congr {O O' : Nat → Nat} {l : List Int} {r : Nat} (h : ∀ i, i < r → O i = O' i) (i c : Nat) (hi : i < r) : gr O l i c = gr O' l i c := by unfold gr; rw [h i hi]
/-- The rows of a copy are reduced. -/
theorem reduce_copy (t h r c B : Nat) (A : Option Addr) (C : Nat) (l : List Int) (w : World) (hr : r ≤ 255) (hc : c ≤ 255) (ho : Own8 w B (.slice A (r * c) C) (r * c) l) (hY : By l) (hh : B ≤ h) (hL : Lst w h r c (fun i => onA A (i * c))) (ht : IsTab w t) (hBt : t < B) (hlate : ∀ g, A = some ⟨g, 0, none⟩ → g < h) :
    Calls Try.prog 45 #[.pointer (some ⟨t, 0, none⟩), .slice (some ⟨h, 0, none⟩) r r, .int .i64 c] w fun e w' => ∃ d : Nat, e = .returned (.int .i64 d) ∧ RankIs (gr (fun i => i * c) l) r c d ∧ Below B w w' := by
  have hm : r * c ≤ 65025 := Nat.mul_le_mul hr hc
  rcases own_dat ho hY with h0 | ⟨g, rfl, hg, hD⟩
  · have hz : r = 0 ∨ c = 0 := Nat.mul_eq_zero.1 h0
    refine (reduce_zero t h r r c w hz (by omega)).mono ?_
    rintro e w' ⟨rfl, hb⟩
    refine ⟨0, rfl, ⟨fun _ _ => 0, fun _ _ _ i hi => absurd hi (by omega), fun i hi => absurd hi (by omega), fun i hi => ⟨fun _ => 0, fun k hk => by omega⟩⟩, hb.mono (by have := hL.lt; omega)⟩
  · have hL' : Lst w h r c (fun i => some ⟨g, i * c, none⟩) := World.rowIs.congr hL (fun i _ => by dsimp only; rw [onA_at, Nat.zero_add])
    refine (reduce_any t h g r r c (r * c) c B (fun i => i * c) l w hL' hD (laid_rows r c _ (Nat.le_refl _)) ht (by omega) (by omega) (by omega) (Nat.le_refl _) (Nat.le_refl _) (by have := hlate g rfl; omega) hBt hg hh).mono ?_
    rintro e w' ⟨d, O', l', p, rfl, _, hd, _, hR, hb⟩
    exact ⟨d, rfl, hR.ech.rank (gr_lt hd.by_ O') (Nat.le_refl _), hb⟩
set_option maxRecDepth 100000 in
theorem rank_some (t r c : Nat) (a : Option Addr) (cap : Nat) (l : List Int) (w : World) (hr : r ≤ 255) (hc : c ≤ 255) (hl : Sl w a (r * c) cap l) (ht : IsTab w t) :
    Calls Try.prog 32 #[.pointer (some ⟨t, 0, none⟩), .agg #[.int .i64 r, .int .i64 c, .slice a ((r * c : Nat)) cap]] w fun e w' => ∃ d : Nat, e = .returned (.int .i64 d) ∧ RankIs (gr (fun i => i * c) l) r c d ∧ Below w.heap.size w w' := by
  have hm : r * c ≤ 65025 := Nat.mul_le_mul hr hc
  have HC := Lib.hid (right_yes r c (r * c) hr hc rfl a cap)
  have HA : Hid (∀ o, w.heap.size < (w.alloc o).heap.size) := Lib.hid (fun o => by simp)
  have HCL : Hid (∀ w', Below w.heap.size w w' → Calls Try.prog 27 #[.agg #[.int .i64 r, .int .i64 c, .slice a (r * c) cap]] w' (ClonedM r c (r * c) l w')) := Lib.hid (fun w' hb => mclone_any r c a (r * c) cap l w' (hl.below hb (Nat.le_refl _)) (by omega))
  have HY : Hid (By l) := Lib.hid hl.bytes.range
  have HT := Lib.hid ht
  have HPT : Hid (∀ base w2 A C, Own8 w2 base (.slice A (r * c) C) (r * c) l → ∀ w', Calls Try.prog 39 #[.agg #[.int .i64 r, .int .i64 c, .slice A (r * c) C]] w' (CutTo r c A w')) :=
    Lib.hid (fun base w2 A C ho w' => parts_any A (r * c) C r c (by omega) (ho.sl HY.out).cap (Nat.le_refl _) (by omega) (ho.sl HY.out).nilc w')
  have HRD : Hid (∀ B h A C w', Own8 w' B (.slice A (r * c) C) (r * c) l → B ≤ h → Lst w' h r c (fun i => onA A (i * c)) → IsTab w' t → t < B → (∀ g, A = some ⟨g, 0, none⟩ → g < h) →
      Calls Try.prog 45 #[.pointer (some ⟨t, 0, none⟩), .slice (some ⟨h, 0, none⟩) r r, .int .i64 c] w' fun e w'' => ∃ d : Nat, e = .returned (.int .i64 d) ∧ RankIs (gr (fun i => i * c) l) r c d ∧ Below B w' w'') :=
    Lib.hid (fun B h A C w' ho hh hL ht hBt hlate => reduce_copy t h r c B A C l w' hr hc ho HY.out hh hL ht hBt hlate)
  obtain ⟨n, hn⟩ : ∃ n, r * c = n := ⟨_, rfl⟩
  rw [hn] at hm HC HCL HPT HRD ⊢
  clear hl hn ht
  go_enter Try.func32, Try.ntmps32
  go_wp2_with (go_at_call 13; refine (HC.out _).mono ?_; rintro e w1 ⟨rfl, hb⟩; have HB := Lib.hid hb; clear hb; obtain ⟨k0, k1, k2, kf⟩ := box3 (alloc_one w _ _) HB.out (HA.out _))
  clear kf
  have HL1 : Hid (w.heap.size < w1.heap.size) := Lib.hid (Nat.lt_of_lt_of_le (HA.out _) HB.out.size)
  have HB1 : Hid (Below w.heap.size w w1) := Lib.hid (((Below.refl _ w).alloc (Nat.le_refl _) _).trans (HB.out.mono (Nat.le_of_lt (HA.out _))))
  have HS : Hid (∀ w', Below w1.heap.size w1 w' → Below w1.heap.size w1 w' ∧ w'.cell? ⟨w.heap.size, 0, none⟩ = some (.int .i64 (r : Int)) ∧ w'.cell? ⟨w.heap.size, 1, none⟩ = some (.int .i64 (c : Int)) ∧ w'.cell? ⟨w.heap.size, 2, none⟩ = some (.slice a n cap)) :=
    Lib.hid (fun w' h => ⟨h, (h.cell HL1.out).trans k0, (h.cell HL1.out).trans k1, (h.cell HL1.out).trans k2⟩)
  clear HB k0 k1 k2
  go_region_held3 (fun w' => Below w1.heap.size w1 w' ∧ w'.cell? ⟨w.heap.size, 0, none⟩ = some (.int .i64 (r : Int)) ∧ w'.cell? ⟨w.heap.size, 1, none⟩ = some (.int .i64 (c : Int)) ∧ w'.cell? ⟨w.heap.size, 2, none⟩ = some (.slice a n cap))
    (first
      | exact HS.out _ (Below.refl _ _)
      | exact HS.out _ (Below.refl _ _).drew
      | exact HS.out _ ((((Below.refl _ _).drew.trans hb).trans (hb3.mono hb.size)).trans hb4)
      | exact HS.out _ (((Below.refl _ _).drew.trans hb).trans (hb3.mono hb.size))
      | exact HS.out _ ((Below.refl _ _).drew.trans hb))
    (first
      | (go_at_call 27; refine (HCL.out _ HB1.out.drew).mono ?_; rintro e w2 ⟨A, C, rfl, ho, hb⟩)
      | (go_at_call 39; refine (HPT.out _ _ _ _ ho _).mono ?_; rintro e w3 ⟨h, rfl, hh, hLL, hb3⟩)
      | (go_at_call 45; refine (HRD.out _ _ _ _ _ (ho.below hb3 (Nat.le_refl _)) (Nat.le_trans hb.size hh) hLL (HT.out.below (HB1.out.trans (((((Below.refl _ _).drew.trans hb).trans (hb3.mono hb.size))).mono (Nat.le_of_lt HL1.out))) HT.out.lt) (Nat.lt_trans HT.out.lt HL1.out) (fun g e => Nat.lt_of_lt_of_le (World.ownsRow.lt ho g (by rw [e]; rfl)).2 hh)).mono ?_; rintro e w4 ⟨d, rfl, hrank, hb4⟩))
  all_goals
    go_wp2
    go_ret
    exact ⟨d, rfl, hrank, HB1.out.trans (((((Below.refl _ _).drew.trans hb).trans (hb3.mono hb.size)).trans hb4).mono (Nat.le_of_lt HL1.out))⟩
end Go.Proofs.Ytipaolkgafhliaa
