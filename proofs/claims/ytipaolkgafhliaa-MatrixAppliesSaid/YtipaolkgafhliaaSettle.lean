/-
  Own text: rows that lie in one block, and a list of them; settle, walked.
-/
import Derived.Test.YtipaolkgafhliaaMixD
import Derived.Test.YtipaolkgafhliaaEchM
namespace Go.Proofs.Ytipaolkgafhliaa
open Go.RowKit

/-- A list of rows that lie in one block, apart from each other. -/
structure Grid (w : World) (h g cnt len n : Nat) (O : Nat → Nat) (l : List Int) : Prop where
  lst : Lst w h cnt len (fun i => some ⟨g, O i, none⟩)
  dat : Dat w g n l
  ne : h ≠ g
  fit : ∀ i, i < cnt → O i + len ≤ n
  apart : ∀ i j, i < cnt → j < cnt → i ≠ j → O i + len ≤ O j ∨ O j + len ≤ O i
theorem Lst.cell {w : World} {h cnt len : Nat} {A : Nat → Option Addr} (H : Lst w h cnt len A) (i : Nat) (hi : i < cnt) : w.cell? ⟨h, i, none⟩ = some (.slice (A i) len len) := World.rowIs.cell H hi
theorem Lst.lt {w : World} {h cnt len : Nat} {A : Nat → Option Addr} (H : Lst w h cnt len A) : h < w.heap.size := World.rowIs.lt H
theorem Lst.keep {w w' : World} {h cnt len : Nat} {A : Nat → Option Addr} (H : Lst w h cnt len A) (e : w'.heap[h]? = w.heap[h]?) : Lst w' h cnt len A := World.rowIs.of_block H e
theorem Lst.below {w w' : World} {h cnt len B : Nat} {A : Nat → Option Addr} (H : Lst w h cnt len A) (hb : Below B w w') (hB : h < B) : Lst w' h cnt len A := H.keep (hb.block h hB)
theorem Lst.grown {w w' : World} {h cnt len : Nat} {A : Nat → Option Addr} {row : Option Nat} (H : Lst w h cnt len A) (hb : w.grownBy w' row) (hr : some h ≠ row) : Lst w' h cnt len A := H.keep (hb.block h H.lt hr)
theorem IsTab.keep {w w' : World} {t : Nat} (h : IsTab w t) (e : w'.heap[t]? = w.heap[t]?) : IsTab w' t := World.rowIs.of_block h e
theorem IsTab.grown {w w' : World} {t : Nat} {row : Option Nat} (h : IsTab w t) (hb : w.grownBy w' row) (hr : some t ≠ row) : IsTab w' t := h.keep (hb.block t h.lt hr)
theorem co_sc (a : Nat) (ha : a < 256) {X : List Int} (hX : By X) (i : Nat) (h : i < X.length) : co (sc a X) i = mu a (co X i) := by
  show ((sc a X).getD i 0).toNat = _
  rw [sc_get a X i h, Int.toNat_natCast]
  exact (mu_eq ha (hX.lt i)).symm
/-- An element. -/
def gr (O : Nat → Nat) (l : List Int) (i c : Nat) : Nat := co l (O i + c)
theorem gr_lt {l : List Int} (h : By l) (O : Nat → Nat) (i c : Nat) : gr O l i c < 256 := h.lt _
/-- The rows, as far as they are settled. -/
def SetTo (O : Nat → Nat) (l : List Int) (cnt len d k j : Nat) (l' : List Int) : Prop :=
  ∀ i c, i < cnt → c < len → gr O l' i c = if (i < j ∨ i = d) ∧ k ≤ c then settled (gr O l) d k i c else gr O l i c
/-- The first one: its row by its element's inverse. -/
theorem setto_first {O : Nat → Nat} {l : List Int} {cnt len n d k : Nat} (hl : By l) (hs : l.length = n) (fit : ∀ i, i < cnt → O i + len ≤ n) (apart : ∀ i j, i < cnt → j < cnt → i ≠ j → O i + len ≤ O j ∨ O j + len ≤ O i)
    (hd : d < cnt) (hk : k < len) (X : List Int) (hX : X = sc (gi (gr O l d k)) (seg l (O d + k) (len - k))) : SetTo O l cnt len d k 0 (splice l (O d + k) X) := by
  intro i c hi hc
  have fd := fit d hd
  have hXl : X.length = len - k := by rw [hX, sc_length, seg_length _ _ _ (by omega)]
  unfold gr
  rw [splice_co _ _ _ _ (by omega)]
  by_cases e : i = d
  · subst e
    by_cases g : k ≤ c
    · rw [if_pos (by omega), if_pos (by omega), hX, co_sc _ (gi_lt _) (seg_by hl _ _) _ (by rw [seg_length _ _ _ (by omega)]; omega), seg_co _ _ _ _ (by omega)]
      unfold settled gr
      rw [if_pos rfl, show O i + k + (O i + c - (O i + k)) = O i + c by omega]
    · rw [if_neg (by omega), if_neg (by omega)]
  · rw [if_neg (by have := apart i d hi hd e; omega), if_neg (by omega)]
theorem setto_skip {O : Nat → Nat} {l l' : List Int} {cnt len d k : Nat} (h : SetTo O l cnt len d k d l') : SetTo O l cnt len d k (d + 1) l' := by
  intro i c hi hc
  rw [h i c hi hc]
  by_cases g : (i < d ∨ i = d) ∧ k ≤ c
  · rw [if_pos g, if_pos (by omega)]
  · rw [if_neg g, if_neg (by omega)]
theorem setto_step {O : Nat → Nat} {l l' : List Int} {cnt len n d k j : Nat} (hl : By l) (hs : l.length = n) (hs' : l'.length = n) (fit : ∀ i, i < cnt → O i + len ≤ n) (apart : ∀ i j, i < cnt → j < cnt → i ≠ j → O i + len ≤ O j ∨ O j + len ≤ O i)
    (hd : d < cnt) (hk : k < len) (hj : j < cnt) (hne : j ≠ d) (X : List Int) (hX : X = sc (gi (gr O l d k)) (seg l (O d + k) (len - k)))
    (h : SetTo O l cnt len d k j l') : SetTo O l cnt len d k (j + 1) (mixO l' (O j + k) (sc (gr O l j k) X) (len - k)) := by
  intro i c hi hc
  have fj := fit j hj
  have fi := fit i hi
  have fd := fit d hd
  have hXl : X.length = len - k := by rw [hX, sc_length, seg_length _ _ _ (by omega)]
  have hXb : By X := by rw [hX]; exact sc_range _ (gi_lt _) _ (seg_by hl _ _)
  have h0 := h i c hi hc
  unfold gr at h0 ⊢
  rw [mixO_co _ _ _ _ _ (by omega), h0]
  by_cases e : i = j
  · subst e
    by_cases g : k ≤ c
    · rw [if_pos (by omega), if_neg (by omega), if_pos (by omega), co_sc _ (hl.lt _) hXb _ (by omega), hX, co_sc _ (gi_lt _) (seg_by hl _ _) _ (by rw [seg_length _ _ _ (by omega)]; omega), seg_co _ _ _ _ (by omega)]
      unfold settled gr
      rw [if_neg hne, show O d + k + (O i + c - (O i + k)) = O d + c by omega]
    · rw [if_neg (by omega), if_neg (by omega), if_neg (by omega)]
  · rw [if_neg (by have := apart i j hi hj e; omega)]
    by_cases g : (i < j ∨ i = d) ∧ k ≤ c
    · rw [if_pos g, if_pos (by omega)]
    · rw [if_neg g, if_neg (by omega)]
/-- What settle leaves. -/
def Settled (g cnt len n d k : Nat) (O : Nat → Nat) (l : List Int) (w : World) (e : Ending) (w' : World) : Prop :=
  e = .returned (.tuple #[]) ∧ ∃ l', Dat w' g n l' ∧ SetTo O l cnt len d k cnt l' ∧ w.grownBy w' (some g)
set_option maxRecDepth 100000 in
set_option maxHeartbeats 1000000 in
theorem settle_any (t h g cnt C len n d k : Nat) (O : Nat → Nat) (l : List Int) (w : World) (hG : Grid w h g cnt len n O l) (ht : IsTab w t) (htg : t ≠ g) (hd : d < cnt) (hk : k < len) (hp : co l (O d + k) ≠ 0) (hn : n ≤ 1000000) (hcnt : cnt ≤ 1000) (hlen : len ≤ 100000) :
    Calls Try.prog 55 #[.pointer (some ⟨t, 0, none⟩), .slice (some ⟨h, 0, none⟩) cnt C, .int .i64 d, .int .i64 k] w (Settled g cnt len n d k O l w) := by
  have HL := Lib.hid hG.lst
  have HD := Lib.hid hG.dat
  have HT := Lib.hid ht
  have fd := hG.fit d hd
  have HF := Lib.hid hG.fit
  have HA := Lib.hid hG.apart
  have HN := Lib.hid (⟨hG.ne, htg, hG.lst.lt, hG.dat.lt, ht.lt⟩ : h ≠ g ∧ t ≠ g ∧ h < w.heap.size ∧ g < w.heap.size ∧ t < w.heap.size)
  have c0 := hG.lst.cell d hd
  have c1 := hG.dat.cell (O d + k) (by omega)
  have lp := hG.dat.by_.lt (O d + k)
  have HP := Lib.hid (show gr O l d k = co l (O d + k) from rfl)
  have HB1 := Lib.hid (hG.dat.bytes (O d + k) (len - k) (by omega) (by omega))
  have HY := Lib.hid hG.dat.by_
  have HS := Lib.hid hG.dat.size
  have kl : ¬ len = k := by omega
  clear hG ht htg
  generalize hpp : co l (O d + k) = p at *
  have HPP := Lib.hid hpp
  clear hpp
  have k0 : (0 : Int) ≤ k := by omega
  have k1 : (k : Int) ≤ len := by omega
  obtain ⟨X, hX⟩ : ∃ X, X = sc (gi p) (seg l (O d + k) (len - k)) := ⟨_, rfl⟩
  have hXl : X.length = len - k := by rw [hX, sc_length, HB1.out.size]
  have hXb : By X := by rw [hX]; exact sc_range _ (gi_lt p) _ HB1.out.range
  have HW : Hid (∀ (w2 : World) (g0 : Nat), Row8 w2 g0 5 X → Bytes w2 (some ⟨g0, 0, none⟩) (len - k) X) := Lib.hid (fun w2 g0 h => h.whole hXb (len - k) hXl.symm (by omega))
  have HSC : Hid (Calls Try.prog 57 #[.pointer (some ⟨t, 0, none⟩), .int .u8 (gi p), .slice (some ⟨g, O d + k, none⟩) (len - k) (len - k)] w
      (fun e w2 => ∃ g0, e = .returned (.slice (some ⟨g0, 0, none⟩) (len - k) (len - k)) ∧ w.heap.size ≤ g0 ∧ Row8 w2 g0 5 X ∧ Below w.heap.size w w2)) :=
    Lib.hid (by rw [hX]; exact scale_any t (gi p) (some ⟨g, O d + k, none⟩) (len - k) (len - k) _ w (gi_lt p) HT.out HB1.out (by omega))
  have HX : Hid (X = sc (gi (gr O l d k)) (seg l (O d + k) (len - k))) := Lib.hid (by rw [HP.out]; exact hX)
  have hfit : O d + k + (len - k) ≤ n := by omega
  have HFIT := Lib.hid hfit
  have HK1 := Lib.hid hk
  clear hX hXl hXb HB1
  go_enter Try.func55, Try.ntmps55
  go_wp2_with first
    | (go_at_call 58; refine (inv_some t p lp hp _ HT.out).mono ?_; rintro e w1 ⟨rfl, rfl⟩)
    | (go_at_call 57; refine HSC.out.mono ?_; rintro e w2 ⟨g0, rfl, hg0, hr0, hb1⟩; have HG0 := Lib.hid hg0; have HR0 := Lib.hid hr0; have HB2 := Lib.hid hb1; clear hg0 hr0 hb1; have c2 := (HL.out.below HB2.out HN.out.2.2.1).cell d hd)
    | ((with_reducible refine wpList_copy_dat rfl (.tmp 39) (.tmp 40) rfl _ _ _ _ _ _ rfl rfl g (O d + k) n _ (HD.out.below HB2.out HN.out.2.2.2.1) _ (HW.out _ _ HR0.out) rfl (fun _ => rfl) HFIT.out ?_); intro w3 hd3 hw3; have HD3 := Lib.hid hd3; have HW3 := Lib.hid hw3; clear hd3 hw3)
  clear c0 c1 c2
  have hg0 : g0 ≠ g := by have := HG0.out; have := HN.out.2.2.2.1; omega
  have HGN := Lib.hid hg0
  have HW0 : Hid (w.grownBy w3 (some g)) := Lib.hid (grown_trans (grown_below HB2.out _) HW3.out)
  have HR3 : Hid (Row8 w3 g0 5 X) := Lib.hid ((HW3.out.block g0 HR0.out.lt (fun e => HGN.out (by cases e; rfl))).trans HR0.out)
  have HS0 : Hid (SetTo O l cnt len d k 0 (splice l (O d + k) X)) := Lib.hid (setto_first HY.out HS.out HF.out HA.out hd hk X HX.out)
  generalize splice l (O d + k) X = l3 at *
  go_loopw [11, 12, 44] (fun _ _ i wr => ∃ j lc, j ≤ cnt ∧ i = .int .i64 (j : Nat) ∧ Hid (Dat wr g n lc) ∧ Hid (SetTo O l cnt len d k j lc) ∧ Hid (Row8 wr g0 5 X) ∧ Hid (w.grownBy wr (some g))) (fun _ _ i _ => cnt - (intOf i).toNat)
  case atStart => exact ⟨0, l3, by omega, rfl, HD3, HS0, HR3, HW0⟩
  case round =>
    obtain ⟨j, lc, hj, rfl, HDj, HSj, HRj, HWj⟩ := hrel
    obtain ⟨wo, ho⟩ : ∃ wo, wo = wr := ⟨_, rfl⟩
    subst ho
    by_cases hlt : j < cnt
    · have cr := (HL.out.grown HWj.out (fun e => HN.out.1 (by cases e; rfl))).cell j hlt
      by_cases hjd : j = d
      · subst hjd
        go_wp2
        go_roundw
        case rel => exact ⟨j + 1, lc, by omega, by go_num, HDj, Lib.hid (setto_skip HSj.out), HRj, HWj⟩
        case measure => simp [intOf]; omega
      · have hne : ((j : Int) != d) = true := by simp; omega
        have fj := HF.out j hlt
        have ce := HDj.out.cell (O j + k) (by omega)
        have hv : co lc (O j + k) = gr O l j k := by
          have := HSj.out j k hlt hk
          rw [if_neg (by omega)] at this
          exact this
        rw [hv] at ce
        have lv := gr_lt HY.out O j k
        have HJ := Lib.hid (fun lc hs' h => setto_step (l' := lc) HY.out HS.out hs' HF.out HA.out hd hk hlt hjd X HX.out h)
        clear hv
        generalize gr O l j k = v at *
        have HTj := Lib.hid (HT.out.grown HWj.out (fun e => HN.out.2.1 (by cases e; rfl)))
        have HM := Lib.hid (mixd_any t v g (O j + k) n (len - k) (len - k) (some ⟨g, O j + k, none⟩) lc (some ⟨g0, 0, none⟩) (len - k) X wo.drew lv HTj.out.drew (HDj.out.keep rfl) ((HW.out wo g0 HRj.out).drew) (Nat.le_refl _) hn (by omega) (by omega) (fun _ => rfl))
        go_wp2
        refine wp_region_still_tail 9 (by kernel_rfl) (by kernel_rfl) ?_
        simp only [List.take_succ_cons, List.take_zero, List.drop_succ_cons, List.drop_zero]
        repeat still_step
        refine wpStill_nil ?_
        change wpList _ _ _ _ _ wo.drew
        go_wp2_with (go_at_call 52; refine HM.out.mono ?_; rintro e w4 ⟨rfl, hd4, hw4⟩; have HD4 := Lib.hid hd4; have HW4 := Lib.hid hw4; clear hd4 hw4)
        go_roundw
        case rel =>
          refine ⟨j + 1, _, by omega, by go_num, HD4, Lib.hid (HJ.out lc HDj.out.size HSj.out), Lib.hid ((HW4.out.block g0 HRj.out.lt (fun e => HGN.out (by cases e; rfl))).trans HRj.out), Lib.hid (grown_trans HWj.out ?_)⟩
          exact grown_from_drew HW4.out
        case measure => simp [intOf]; omega
    · obtain rfl : j = cnt := by omega
      go_wp2
      go_end0
      exact ⟨rfl, lc, HDj.out, HSj.out, HWj.out⟩
end Go.Proofs.Ytipaolkgafhliaa
