/-
  Own text: which row has an element, reduce: walked.
-/
import Derived.Test.YtipaolkgafhliaaSettle
import Derived.BigRegion
namespace Go.Proofs.Ytipaolkgafhliaa
open Go.RowKit

theorem has_elem (A : Addr) (len cap k b v : Nat) (w : World) (hk : k < len) (hb : w.cell? ⟨b, 0, none⟩ = some (.int .i64 k)) (hv : w.cell? (A.add k) = some (.int .u8 v)) :
    Calls Try.prog 54 #[.slice (some A) len cap, .pointer (some ⟨b, 0, none⟩)] w fun e w' => e = .returned (.bool (decide (v ≠ 0))) ∧ w = w' := by
  go_enter Try.func54, Try.ntmps54
  go_wp2
  go_ret
  refine ⟨ret_bool ?_, rfl⟩
  by_cases h : v = 0
  · subst h; rfl
  · rw [decide_eq_true h]; simp; omega
/-- Where it is found. -/
def Found (m : Nat) (V : Nat → Nat) (r : Int) : Prop := (∃ j : Nat, j < m ∧ r = j ∧ V j ≠ 0) ∨ (r = -1 ∧ ∀ j, j < m → V j = 0)
theorem index_any (h off m cap len k b : Nat) (A : Option Addr) (P : Nat → Addr) (V : Nat → Nat) (w : World) (hk : k < len) (hA : 0 < m → A = some ⟨h, off, none⟩) (hm : m ≤ 1000)
    (hc : ∀ j, j < m → w.cell? ⟨h, off + j, none⟩ = some (.slice (some (P j)) len len)) (hv : ∀ j, j < m → w.cell? ((P j).add k) = some (.int .u8 (V j))) (hb : w.cell? ⟨b, 0, none⟩ = some (.int .i64 k)) :
    Calls Try.prog 53 #[.slice A m cap, .func (.func 54) #[] #[.pointer (some ⟨b, 0, none⟩)]] w fun e w' => ∃ r, e = .returned (.int .i64 r) ∧ Found m V r ∧ w = w' := by
  have HE := Lib.hid (fun j (hj : j < m) => has_elem (P j) len len k b (V j) w hk hb (hv j hj))
  have HC := Lib.hid hc
  have HAA := Lib.hid hA
  clear hc hv hb hA
  go_enter Try.func53, Try.ntmps53
  go_wp2
  go_loopw [5, 8] (fun _ i wr => ∃ j : Nat, j ≤ m ∧ i = .int .i64 j ∧ Hid (∀ i, i < j → V i = 0) ∧ wr = w) (fun _ i _ => m - (intOf i).toNat)
  case atStart => exact ⟨0, by omega, rfl, Lib.hid (fun _ h => by omega), rfl⟩
  case round =>
    obtain ⟨j, hj, rfl, HV, rfl⟩ := hrel
    obtain ⟨wo, ho⟩ : ∃ wo, wo = wr := ⟨_, rfl⟩
    subst ho
    by_cases hlt : j < m
    · obtain rfl := HAA.out (by omega)
      have cr := HC.out j hlt
      have he := HE.out j hlt
      by_cases hz : V j = 0
      · rw [show decide (V j ≠ 0) = false by simp [hz]] at he
        have HJ := Lib.hid he
        have HZ := Lib.hid hz
        clear he hz
        go_wp2_with ((with_reducible refine HJ.out.mono ?_); rintro e w1 ⟨rfl, rfl⟩)
        go_roundw
        case rel => exact ⟨j + 1, by omega, by go_num, Lib.hid (fun i hi => if e : i = j then e ▸ HZ.out else HV.out i (by omega)), trivial⟩
        case measure => simp [intOf]; omega
      · rw [show decide (V j ≠ 0) = true by simp [hz]] at he
        have HJ := Lib.hid he
        have HZ := Lib.hid hz
        clear he hz
        go_wp2_with ((with_reducible refine HJ.out.mono ?_); rintro e w1 ⟨rfl, rfl⟩)
        go_ret
        exact ⟨j, rfl, .inl ⟨j, hlt, rfl, HZ.out⟩, rfl⟩
    · obtain rfl : j = m := by omega
      go_wp2
      go_ret
      exact ⟨-1, rfl, .inr ⟨rfl, HV.out⟩, rfl⟩
theorem red_settle {M : Nat → Nat → Nat} {O : Nat → Nat} {l l' : List Int} {cnt len k d j : Nat} {p : Nat → Nat} (h : Red M (gr O l) cnt len k d p) (hl : By l) (h1 : d ≤ j) (h2 : j < cnt) (hk : k < len) (hp : gr O l j k ≠ 0)
    (hs : SetTo (fun i => O (sw d j i)) l cnt len d k cnt l') : Red M (gr (fun i => O (sw d j i)) l') cnt len (k + 1) (d + 1) (fun i => if i = d then k else p i) := by
  refine h.step (gr_lt hl O) h1 h2 hk hp (fun i c hi hc => ?_)
  rw [hs i c hi hc]
  show (if (i < cnt ∨ i = d) ∧ k ≤ c then settled (fun i => gr O l (sw d j i)) d k i c else gr O l (sw d j i) c) = _
  by_cases g : k ≤ c
  · rw [if_pos (by omega)]
  · rw [if_neg (by omega)]
    have z : gr O l (sw d j d) c = 0 := h.ech.rest _ c (by unfold sw; rw [if_pos rfl]; exact h1) (sw_lt (by omega) h2 (by omega)) (by omega)
    unfold settled
    dsimp only
    rw [z, mu_zero, mu_zero, Nat.xor_zero]
    by_cases e : i = d
    · rw [if_pos e, e, z]
    · rw [if_neg e]
/-- Rows that lie apart from each other. -/
structure Laid (cnt len n : Nat) (O : Nat → Nat) : Prop where
  fit : ∀ i, i < cnt → O i + len ≤ n
  apart : ∀ i j, i < cnt → j < cnt → i ≠ j → O i + len ≤ O j ∨ O j + len ≤ O i
theorem Laid.swap {cnt len n d j : Nat} {O : Nat → Nat} (h : Laid cnt len n O) (h1 : d < cnt) (h2 : j < cnt) : Laid cnt len n (fun i => O (sw d j i)) :=
  ⟨fun i hi => h.fit _ (sw_lt h1 h2 hi), fun i k hi hk hne => h.apart _ _ (sw_lt h1 h2 hi) (sw_lt h1 h2 hk) (fun e => hne (by have := congrArg (sw d j) e; rwa [sw_sw, sw_sw] at this))⟩
theorem lst_swap {w : World} {h cnt len d j g : Nat} {O : Nat → Nat} (H : Lst w h cnt len (fun i => some ⟨g, O i, none⟩)) (hne : d ≠ j) :
    Lst ((w.setCell ⟨h, d, none⟩ (.slice (some ⟨g, O j, none⟩) len len)).setCell ⟨h, j, none⟩ (.slice (some ⟨g, O d, none⟩) len len)) h cnt len (fun i => some ⟨g, O (sw d j i), none⟩) :=
  World.rowIs.congr (World.rowIs.set (World.rowIs.set H d _) j _) (fun i _ => by
    unfold sw
    dsimp only
    by_cases e : i = j
    · rw [if_pos e, if_neg (by omega), if_pos e]
    · rw [if_neg e]
      by_cases e2 : i = d
      · rw [if_pos e2, if_pos e2]
      · rw [if_neg e2, if_neg e2, if_neg e])
theorem lst_stay {w : World} {h cnt len d g : Nat} {O : Nat → Nat} (H : Lst w h cnt len (fun i => some ⟨g, O i, none⟩)) :
    Lst ((w.setCell ⟨h, d, none⟩ (.slice (some ⟨g, O d, none⟩) len len)).setCell ⟨h, d, none⟩ (.slice (some ⟨g, O d, none⟩) len len)) h cnt len (fun i => some ⟨g, O (sw d d i), none⟩) :=
  World.rowIs.congr (World.rowIs.set (World.rowIs.set H d _) d _) (fun i _ => by
    unfold sw
    dsimp only
    by_cases e : i = d
    · rw [if_pos e, if_pos e]
    · rw [if_neg e, if_neg e, if_neg e, if_neg e])
theorem far {w : World} {g n h a b : Nat} {u v : Value} {l : List Int} (H : Dat w g n l) (hne : g ≠ h) : Dat ((w.setCell ⟨h, a, none⟩ u).setCell ⟨h, b, none⟩ v).drew g n l :=
  H.keep ((Below.heap_setCell _ ⟨h, b, none⟩ _ g hne).trans (Below.heap_setCell _ ⟨h, a, none⟩ _ g hne))
theorem farT {w : World} {t h a b : Nat} {u v : Value} (H : IsTab w t) (hne : t ≠ h) : IsTab ((w.setCell ⟨h, a, none⟩ u).setCell ⟨h, b, none⟩ v).drew t :=
  H.keep ((Below.heap_setCell _ ⟨h, b, none⟩ _ t hne).trans (Below.heap_setCell _ ⟨h, a, none⟩ _ t hne))
theorem farC {w : World} {c h a b : Nat} {u v x : Value} (H : w.cell? ⟨c, 0, none⟩ = some x) (hne : c ≠ h) : ((w.setCell ⟨h, a, none⟩ u).setCell ⟨h, b, none⟩ v).drew.cell? ⟨c, 0, none⟩ = some x :=
  (World.cell?_of_block (w := w) ((Below.heap_setCell _ ⟨h, b, none⟩ _ c hne).trans (Below.heap_setCell _ ⟨h, a, none⟩ _ c hne))).trans H
/-- What reduce leaves: the rows, in some order, and how many it has settled. -/
def Reduced (B h g cnt len n cols : Nat) (M : Nat → Nat → Nat) (w : World) (e : Ending) (w' : World) : Prop :=
  ∃ d O' l' p, e = .returned (.int .i64 (d : Nat)) ∧ Lst w' h cnt len (fun i => some ⟨g, O' i, none⟩) ∧ Dat w' g n l' ∧ Laid cnt len n O' ∧ Red M (gr O' l') cnt len cols d p ∧ Below B w w'
set_option maxRecDepth 100000 in
set_option maxHeartbeats 2000000 in
theorem reduce_any (t h g cnt C len n cols B : Nat) (O : Nat → Nat) (l : List Int) (w : World) (hL : Lst w h cnt len (fun i => some ⟨g, O i, none⟩)) (hD : Dat w g n l) (hO : Laid cnt len n O) (ht : IsTab w t) (hn : n ≤ 1000000) (hcnt : cnt ≤ 1000) (hlen : len ≤ 100000)
    (hcols : cols ≤ len) (hC : cnt ≤ C) (hhg : h ≠ g) (hBt : t < B) (hBg : B ≤ g) (hBh : B ≤ h) :
    Calls Try.prog 45 #[.pointer (some ⟨t, 0, none⟩), .slice (some ⟨h, 0, none⟩) cnt C, .int .i64 cols] w (Reduced B h g cnt len n cols (gr O l) w) := by
  have HL0 := Lib.hid hL
  have HD0 := Lib.hid hD
  have HO0 := Lib.hid hO
  have HT := Lib.hid ht
  have HN := Lib.hid (⟨hhg, hBt, hBg, hBh⟩ : h ≠ g ∧ t < B ∧ B ≤ g ∧ B ≤ h)
  have HR0 := Lib.hid (Red.start (gr_lt hD.by_ O) cnt len (fun _ => 0))
  clear hL hD hO ht hhg hBt hBg hBh
  go_enter Try.func45, Try.ntmps45
  go_wp2
  go_loopw [7, 8, 9, 11] (fun dv _ _ i wr => ∃ (k d : Nat) (O' : Nat → Nat) (lc : List Int) (p : Nat → Nat), k ≤ cols ∧ d ≤ cnt ∧ dv = .int .i64 (d : Nat) ∧ i = .int .i64 (k : Nat) ∧ Hid (Lst wr h cnt len (fun i => some ⟨g, O' i, none⟩)) ∧ Hid (Dat wr g n lc) ∧ Hid (Laid cnt len n O') ∧
    Hid (Red (gr O l) (gr O' lc) cnt len k d p) ∧ Hid (Below B w wr)) (fun _ _ _ i _ => cols - (intOf i).toNat)
  case atStart => exact ⟨0, 0, O, l, _, by omega, by omega, rfl, rfl, HL0, HD0, HO0, HR0, Lib.hid (Below.refl _ _)⟩
  case round =>
    obtain ⟨k, d, O', lc, p, hk, hd, rfl, rfl, HL, HD, HO, HR, HB⟩ := hrel
    obtain ⟨wo, ho⟩ : ∃ wo, wo = wr := ⟨_, rfl⟩
    subst ho
    by_cases hlt : k < cols
    · have HSZ := Lib.hid (⟨HL.out.lt, HD.out.lt⟩ : h < wo.heap.size ∧ g < wo.heap.size)
      have HLa : Hid (Lst (wo.alloc (.cells #[.int .i64 (k : Int)] 3)) h cnt len (fun i => some ⟨g, O' i, none⟩)) := Lib.hid (HL.out.keep (Below.heap_alloc _ _ _ HSZ.out.1))
      have HDa : Hid (Dat (wo.alloc (.cells #[.int .i64 (k : Int)] 3)) g n lc) := Lib.hid (HD.out.keep (Below.heap_alloc _ _ _ HSZ.out.2))
      have HBa : Hid (Below B w (wo.alloc (.cells #[.int .i64 (k : Int)] 3))) := Lib.hid (HB.out.alloc (by have := HSZ.out; have := HN.out; omega) _)
      have HBc : Hid ((wo.alloc (.cells #[.int .i64 (k : Int)] 3)).cell? ⟨wo.heap.size, 0, none⟩ = some (.int .i64 (k : Int))) := Lib.hid (by simp only [World.cell?]; rw [Go.Deep.blk_alloc_new]; rfl)
      have HWK : Hid (wrap64 ((k : Int) + 1) = ((k + 1 : Nat) : Int)) := Lib.hid (by simp only [wrap64]; omega)
      by_cases hdc : d < cnt
      · have HI := Lib.hid (index_any h d (cnt - d) (C - d) len k wo.heap.size (some ⟨h, d, none⟩) (fun j => ⟨g, O' (d + j), none⟩) (fun j => gr O' lc (d + j) k) (wo.alloc (.cells #[.int .i64 (k : Int)] 3)) (by omega) (fun _ => rfl) (by omega)
          (fun j hj => HLa.out.cell (d + j) (by omega)) (fun j hj => by rw [add_any]; exact HDa.out.cell _ (by have := HO.out.fit (d + j) (by omega); omega)) HBc.out)
        have d1 : (d : Int) ≤ cnt := by omega
        have hCd : ¬ C = d := by omega
        go_wp2_with ((with_reducible refine HI.out.mono ?_); rintro e w1 ⟨r, rfl, hf, rfl⟩; have HF := Lib.hid hf; clear hf)
        case roundEnd =>
          refine ⟨⟨k + 1, d, O', lc, p, by omega, by omega, rfl, by go_num, HLa, HDa, HO, Lib.hid (HR.out.skip (fun i h1 h2 => ?_)), HBa⟩, by first | (rw [HWK.out]; simp [intOf]; omega) | (simp [intOf]; omega)⟩
          rcases HF.out with ⟨j0, hj0, e, hv⟩ | ⟨_, hz⟩
          · omega
          · have : gr O' lc (d + (i - d)) k = 0 := hz (i - d) (by omega)
            rwa [show d + (i - d) = i by omega] at this
        obtain ⟨j0, hj0, rfl, hv⟩ : ∃ j0 : Nat, j0 < cnt - d ∧ r = j0 ∧ gr O' lc (d + j0) k ≠ 0 := by
          rcases HF.out with ⟨j0, a, e, b⟩ | ⟨e, _⟩
          · exact ⟨j0, a, e, b⟩
          · omega
        clear HF HI
        have HS : ∀ W : World, Lst W h cnt len (fun i => some ⟨g, O' (sw d (d + j0) i), none⟩) → Dat W g n lc → IsTab W t → Calls Try.prog 55 #[.pointer (some ⟨t, 0, none⟩), .slice (some ⟨h, 0, none⟩) cnt C, .int .i64 d, .int .i64 k] W (Settled g cnt len n d k (fun i => O' (sw d (d + j0) i)) lc W) := fun W h1 h2 h3 =>
          settle_any t h g cnt C len n d k _ lc W ⟨h1, h2, HN.out.1, (HO.out.swap hdc (by omega)).fit, (HO.out.swap hdc (by omega)).apart⟩ h3 (by have := HN.out; omega) hdc (by omega) (by unfold sw; rw [if_pos rfl]; exact hv) hn hcnt hlen
        have HSS := Lib.hid HS
        have HRR := Lib.hid (fun l' h => red_settle (l' := l') HR.out HD.out.by_ (show d ≤ d + j0 by omega) (by omega) (show k < len by omega) hv h)
        have HSW := Lib.hid ((HO.out.swap hdc (show d + j0 < cnt by omega)))
        clear HS hv
        have HTa : Hid (IsTab (wo.alloc (.cells #[.int .i64 (k : Int)] 3)) t) := Lib.hid ((HT.out.below HB.out HN.out.2.1).keep (Below.heap_alloc _ _ _ (by have := HSZ.out; have := HN.out; omega)))
        have k1 := HLa.out.cell d hdc
        have k2 := HLa.out.cell (d + j0) (by omega)
        have k5 := HBc.out
        have f1 := World.rowIs.frozen HLa.out d
        have f2 := World.rowIs.frozen HLa.out (d + j0)
        have HBb := Lib.hid (show h ≠ wo.heap.size by have := HSZ.out.1; omega)
        generalize wo.alloc (.cells #[.int .i64 (k : Int)] 3) = wa at *
        generalize wo.heap.size = b at *
        by_cases hj : j0 = 0
        · subst hj
          have HP : Hid ((Lst ((wa.setCell ⟨h, d, none⟩ (.slice (some ⟨g, O' d, none⟩) len len)).setCell ⟨h, d, none⟩ (.slice (some ⟨g, O' d, none⟩) len len)).drew h cnt len (fun i => some ⟨g, O' (sw d (d + 0) i), none⟩)) ∧ Dat ((wa.setCell ⟨h, d, none⟩ (.slice (some ⟨g, O' d, none⟩) len len)).setCell ⟨h, d, none⟩ (.slice (some ⟨g, O' d, none⟩) len len)).drew g n lc ∧ IsTab ((wa.setCell ⟨h, d, none⟩ (.slice (some ⟨g, O' d, none⟩) len len)).setCell ⟨h, d, none⟩ (.slice (some ⟨g, O' d, none⟩) len len)).drew t ∧ ((wa.setCell ⟨h, d, none⟩ (.slice (some ⟨g, O' d, none⟩) len len)).setCell ⟨h, d, none⟩ (.slice (some ⟨g, O' d, none⟩) len len)).drew.cell? ⟨b, 0, none⟩ = some (.int .i64 (k : Int)) ∧ Below B w ((wa.setCell ⟨h, d, none⟩ (.slice (some ⟨g, O' d, none⟩) len len)).setCell ⟨h, d, none⟩ (.slice (some ⟨g, O' d, none⟩) len len)).drew) :=
            Lib.hid ⟨lst_stay HLa.out, far HDa.out (fun e => HN.out.1 e.symm), farT HTa.out (by have := HN.out; omega), farC HBc.out (fun e => HBb.out e.symm), (HBa.out.setCell HN.out.2.2.2 _).setCell HN.out.2.2.2 _ |>.drew⟩
          go_region
          generalize hwb : World.drew _ = wb at HP ⊢
          clear hwb k1 k2 f1 f2 k5
          have k6 := HP.out.2.2.2.1
          go_wp2_with (go_at_call 55; refine (HSS.out _ HP.out.1 HP.out.2.1 HP.out.2.2.1).mono ?_; rintro e w2 ⟨rfl, l2, hd2, hs2, hw2⟩; have HD2 := Lib.hid hd2; have HS2 := Lib.hid hs2; have HW2 := Lib.hid hw2; clear hd2 hs2 hw2)
          refine ⟨⟨k + 1, d + 1, _, l2, _, by omega, by omega, by go_num, by go_num, Lib.hid (HP.out.1.grown HW2.out (fun e => HN.out.1 (by cases e; rfl))), HD2, HSW, Lib.hid (HRR.out l2 HS2.out), Lib.hid (HP.out.2.2.2.2.trans (below_grows HW2.out HN.out.2.2.1 (by have := HP.out.1.lt; have := HN.out; omega)))⟩, by first | (rw [HWK.out]; simp [intOf]; omega) | (simp [intOf]; omega)⟩
        · have n1 : ¬ j0 = 0 := hj
          have HP : Hid ((Lst ((wa.setCell ⟨h, d, none⟩ (.slice (some ⟨g, O' (d + j0), none⟩) len len)).setCell ⟨h, d + j0, none⟩ (.slice (some ⟨g, O' d, none⟩) len len)).drew h cnt len (fun i => some ⟨g, O' (sw d (d + j0) i), none⟩)) ∧ Dat ((wa.setCell ⟨h, d, none⟩ (.slice (some ⟨g, O' (d + j0), none⟩) len len)).setCell ⟨h, d + j0, none⟩ (.slice (some ⟨g, O' d, none⟩) len len)).drew g n lc ∧ IsTab ((wa.setCell ⟨h, d, none⟩ (.slice (some ⟨g, O' (d + j0), none⟩) len len)).setCell ⟨h, d + j0, none⟩ (.slice (some ⟨g, O' d, none⟩) len len)).drew t ∧ ((wa.setCell ⟨h, d, none⟩ (.slice (some ⟨g, O' (d + j0), none⟩) len len)).setCell ⟨h, d + j0, none⟩ (.slice (some ⟨g, O' d, none⟩) len len)).drew.cell? ⟨b, 0, none⟩ = some (.int .i64 (k : Int)) ∧ Below B w ((wa.setCell ⟨h, d, none⟩ (.slice (some ⟨g, O' (d + j0), none⟩) len len)).setCell ⟨h, d + j0, none⟩ (.slice (some ⟨g, O' d, none⟩) len len)).drew) :=
            Lib.hid ⟨lst_swap HLa.out (show d ≠ d + j0 by omega), far HDa.out (fun e => HN.out.1 e.symm), farT HTa.out (by have := HN.out; omega), farC HBc.out (fun e => HBb.out e.symm), (HBa.out.setCell HN.out.2.2.2 _).setCell HN.out.2.2.2 _ |>.drew⟩
          go_region
          generalize hwb : World.drew _ = wb at HP ⊢
          clear hwb k1 k2 f1 f2 k5
          have k6 := HP.out.2.2.2.1
          go_wp2_with (go_at_call 55; refine (HSS.out _ HP.out.1 HP.out.2.1 HP.out.2.2.1).mono ?_; rintro e w2 ⟨rfl, l2, hd2, hs2, hw2⟩; have HD2 := Lib.hid hd2; have HS2 := Lib.hid hs2; have HW2 := Lib.hid hw2; clear hd2 hs2 hw2)
          refine ⟨⟨k + 1, d + 1, _, l2, _, by omega, by omega, by go_num, by go_num, Lib.hid (HP.out.1.grown HW2.out (fun e => HN.out.1 (by cases e; rfl))), HD2, HSW, Lib.hid (HRR.out l2 HS2.out), Lib.hid (HP.out.2.2.2.2.trans (below_grows HW2.out HN.out.2.2.1 (by have := HP.out.1.lt; have := HN.out; omega)))⟩, by first | (rw [HWK.out]; simp [intOf]; omega) | (simp [intOf]; omega)⟩
      · obtain rfl : d = cnt := by omega
        have HI := Lib.hid (fun A c => index_any h d 0 c len k wo.heap.size A (fun j => ⟨g, O' (d + j), none⟩) (fun j => gr O' lc (d + j) k) (wo.alloc (.cells #[.int .i64 (k : Int)] 3)) (by omega) (fun h => absurd h (by omega)) (by omega)
          (fun j hj => absurd hj (by omega)) (fun j hj => absurd hj (by omega)) HBc.out)
        go_wp2_with ((with_reducible refine (HI.out _ _).mono ?_); rintro e w1 ⟨r, rfl, hf, rfl⟩; rcases hf with ⟨j0, hj0, rfl, hv⟩ | ⟨rfl, hz⟩)
        refine ⟨⟨k + 1, d, O', lc, p, by omega, by omega, rfl, by go_num, HLa, HDa, HO, Lib.hid (HR.out.skip (fun i h1 h2 => absurd h1 (by omega))), HBa⟩, by first | (rw [HWK.out]; simp [intOf]; omega) | (simp [intOf]; omega)⟩
    · obtain rfl : k = cols := by omega
      go_wp2
      go_ret
      exact ⟨d, O', lc, p, rfl, HL.out, HD.out, HO.out, HR.out, HB.out⟩
end Go.Proofs.Ytipaolkgafhliaa
