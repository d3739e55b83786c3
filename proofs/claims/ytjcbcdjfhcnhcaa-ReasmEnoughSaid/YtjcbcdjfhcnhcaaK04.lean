/-
  Own text: rows that lie in one block, and a list of them; settle, walked.
    which row has an element, reduce: walked.
    slices with their capacity; slices.Clone, walked.
    matrix.Clone, Rank, walked.
-/
import Derived.Test.YtjcbcdjfhcnhcaaK03
import Derived.Test.YtjcbcdjfhcnhcaaK02
import Derived.BigRegion
import Derived.Lib.SliceRun
import Derived.Deep.RegionHeld3
namespace Go.Proofs.Ytjcbcdjfhcnhcaa
open Go.RowKit

/-- A list of rows that lie in one block, apart from each other. -/
structure Grid (w : World) (h g cnt len n : Nat) (O : Nat → Nat) (l : List Int) : Prop where
  lst : Lst w h cnt len (fun i => some ⟨g, O i, none⟩)
  dat : Dat w g n l
  ne : h ≠ g
  fit : ∀ i, i < cnt → O i + len ≤ n
  apart : ∀ i j, i < cnt → j < cnt → i ≠ j → O i + len ≤ O j ∨ O j + len ≤ O i
theorem Lst.cell {w : World} {h cnt len : Nat} {A : Nat → Option Addr} (H : Lst w h cnt len A) (i : Nat) (hi : i < cnt) : w.cell? ⟨h, i, none⟩ = some (.slice (A i) len len) := World.rowIs.cell H hi
theorem Lst.lt {w : World} {h cnt len : Nat} {A : Nat → Option Addr} (H : Lst w h cnt len A) : h < w.heap.size := World.rowIs.lt H
theorem Lst.keep {w w' : World} {h cnt len : Nat} {A : Nat → Option Addr} (H : Lst w h cnt len A) (e : w'.heap[h]? = w.heap[h]?) : Lst w' h cnt len A := World.rowIs.of_block H e
theorem Lst.below {w w' : World} {h cnt len B : Nat} {A : Nat → Option Addr} (H : Lst w h cnt len A) (hb : Below B w w') (hB : h < B) : Lst w' h cnt len A := H.keep (hb.block h hB)
theorem Lst.grown {w w' : World} {h cnt len : Nat} {A : Nat → Option Addr} {row : Option Nat} (H : Lst w h cnt len A) (hb : w.grownBy w' row) (hr : some h ≠ row) : Lst w' h cnt len A := H.keep (hb.block h H.lt hr)
theorem IsTab.keep {w w' : World} {t : Nat} (h : IsTab w t) (e : w'.heap[t]? = w.heap[t]?) : IsTab w' t := World.rowIs.of_block h e
theorem IsTab.grown {w w' : World} {t : Nat} {row : Option Nat} (h : IsTab w t) (hb : w.grownBy w' row) (hr : some t ≠ row) : IsTab w' t := h.keep (hb.block t h.lt hr)
theorem co_sc (a : Nat) (ha : a < 256) {X : List Int} (hX : By X) (i : Nat) (h : i < X.length) : co (sc a X) i = mu a (co X i) := by
  show ((sc a X).getD i 0).toNat = _
  rw [sc_get a X i h, Int.toNat_natCast]
  exact (mu_eq ha (hX.lt i)).symm
/-- An element. -/
def gr (O : Nat → Nat) (l : List Int) (i c : Nat) : Nat := co l (O i + c)
theorem gr_lt {l : List Int} (h : By l) (O : Nat → Nat) (i c : Nat) : gr O l i c < 256 := h.lt _
/-- The rows, as far as they are settled. -/
def SetTo (O : Nat → Nat) (l : List Int) (cnt len d k j : Nat) (l' : List Int) : Prop :=
  ∀ i c, i < cnt → c < len → gr O l' i c = if (i < j ∨ i = d) ∧ k ≤ c then settled (gr O l) d k i c else gr O l i c
/-- The first one: its row by its element's inverse. -/
theorem setto_first {O : Nat → Nat} {l : List Int} {cnt len n d k : Nat} (hl : By l) (hs : l.length = n) (fit : ∀ i, i < cnt → O i + len ≤ n) (apart : ∀ i j, i < cnt → j < cnt → i ≠ j → O i + len ≤ O j ∨ O j + len ≤ O i)
    (hd : d < cnt) (hk : k < len) (X : List Int) (hX : X = sc (gi (gr O l d k)) (seg l (O d + k) (len - k))) : SetTo O l cnt len d k 0 (splice l (O d + k) X) := by
  intro i c hi hc
  have fd := fit d hd
  have hXl : X.length = len - k := by rw [hX, sc_length, seg_length _ _ _ (by omega)]
  unfold gr
  rw [splice_co _ _ _ _ (by omega)]
  by_cases e : i = d
  · subst e
    by_cases g : k ≤ c
    · rw [if_pos (by omega), if_pos (by omega), hX, co_sc _ (gi_lt _) (seg_by hl _ _) _ (by rw [seg_length _ _ _ (by omega)]; omega), seg_co _ _ _ _ (by omega)]
      unfold settled gr
      rw [if_pos rfl, show O i + k + (O i + c - (O i + k)) = O i + c by omega]
    · rw [if_neg (by omega), if_neg (by omega)]
  · rw [if_neg (by have := apart i d hi hd e; omega), if_neg (by omega)]
theorem setto_skip {O : Nat → Nat} {l l' : List Int} {cnt len d k : Nat} (h : SetTo O l cnt len d k d l') : SetTo O l cnt len d k (d + 1) l' := by
  intro i c hi hc
  rw [h i c hi hc]
  by_cases g : (i < d ∨ i = d) ∧ k ≤ c
  · rw [if_pos g, if_pos (by omega)]
  · rw [if_neg g, if_neg (by omega)]
theorem setto_step {O : Nat → Nat} {l l' : List Int} {cnt len n d k j : Nat} (hl : By l) (hs : l.length = n) (hs' : l'.length = n) (fit : ∀ i, i < cnt → O i + len ≤ n) (apart : ∀ i j, i < cnt → j < cnt → i ≠ j → O i + len ≤ O j ∨ O j + len ≤ O i)
    (hd : d < cnt) (hk : k < len) (hj : j < cnt) (hne : j ≠ d) (X : List Int) (hX : X = sc (gi (gr O l d k)) (seg l (O d + k) (len - k)))
    (h : SetTo O l cnt len d k j l') : SetTo O l cnt len d k (j + 1) (mixO l' (O j + k) (sc (gr O l j k) X) (len - k)) := by
  intro i c hi hc
  have fj := fit j hj
  have fi := fit i hi
  have fd := fit d hd
  have hXl : X.length = len - k := by rw [hX, sc_length, seg_length _ _ _ (by omega)]
  have hXb : By X := by rw [hX]; exact sc_range _ (gi_lt _) _ (seg_by hl _ _)
  have h0 := h i c hi hc
  unfold gr at h0 ⊢
  rw [mixO_co _ _ _ _ _ (by omega), h0]
  by_cases e : i = j
  · subst e
    by_cases g : k ≤ c
    · rw [if_pos (by omega), if_neg (by omega), if_pos (by omega), co_sc _ (hl.lt _) hXb _ (by omega), hX, co_sc _ (gi_lt _) (seg_by hl _ _) _ (by rw [seg_length _ _ _ (by omega)]; omega), seg_co _ _ _ _ (by omega)]
      unfold settled gr
      rw [if_neg hne, show O d + k + (O i + c - (O i + k)) = O d + c by omega]
    · rw [if_neg (by omega), if_neg (by omega), if_neg (by omega)]
  · rw [if_neg (by have := apart i j hi hj e; omega)]
    by_cases g : (i < j ∨ i = d) ∧ k ≤ c
    · rw [if_pos g, if_pos (by omega)]
    · rw [if_neg g, if_neg (by omega)]
/-- What settle leaves. -/
def Settled (g cnt len n d k : Nat) (O : Nat → Nat) (l : List Int) (w : World) (e : Ending) (w' : World) : Prop :=
  e = .returned (.tuple #[]) ∧ ∃ l', Dat w' g n l' ∧ SetTo O l cnt len d k cnt l' ∧ w.grownBy w' (some g)
set_option maxRecDepth 100000 in
set_option maxHeartbeats 1000000 in
theorem settle_any (t h g cnt C len n d k : Nat) (O : Nat → Nat) (l : List Int) (w : World) (hG : Grid w h g cnt len n O l) (ht : IsTab w t) (htg : t ≠ g) (hd : d < cnt) (hk : k < len) (hp : co l (O d + k) ≠ 0) (hn : n ≤ 1000000) (hcnt : cnt ≤ 1000) (hlen : len ≤ 100000) :
    Calls Try.prog 117 #[.pointer (some ⟨t, 0, none⟩), .slice (some ⟨h, 0, none⟩) cnt C, .int .i64 d, .int .i64 k] w (Settled g cnt len n d k O l w) := by
  have HL := Lib.hid hG.lst
  have HD := Lib.hid hG.dat
  have HT := Lib.hid ht
  have fd := hG.fit d hd
  have HF := Lib.hid hG.fit
  have HA := Lib.hid hG.apart
  have HN := Lib.hid (⟨hG.ne, htg, hG.lst.lt, hG.dat.lt, ht.lt⟩ : h ≠ g ∧ t ≠ g ∧ h < w.heap.size ∧ g < w.heap.size ∧ t < w.heap.size)
  have c0 := hG.lst.cell d hd
  have c1 := hG.dat.cell (O d + k) (by omega)
  have lp := hG.dat.by_.lt (O d + k)
  have HP := Lib.hid (show gr O l d k = co l (O d + k) from rfl)
  have HB1 := Lib.hid (hG.dat.bytes (O d + k) (len - k) (by omega) (by omega))
  have HY := Lib.hid hG.dat.by_
  have HS := Lib.hid hG.dat.size
  have kl : ¬ len = k := by omega
  clear hG ht htg
  generalize hpp : co l (O d + k) = p at *
  have HPP := Lib.hid hpp
  clear hpp
  have k0 : (0 : Int) ≤ k := by omega
  have k1 : (k : Int) ≤ len := by omega
  obtain ⟨X, hX⟩ : ∃ X, X = sc (gi p) (seg l (O d + k) (len - k)) := ⟨_, rfl⟩
  have hXl : X.length = len - k := by rw [hX, sc_length, HB1.out.size]
  have hXb : By X := by rw [hX]; exact sc_range _ (gi_lt p) _ HB1.out.range
  have HW : Hid (∀ (w2 : World) (g0 : Nat), Row8 w2 g0 5 X → Bytes w2 (some ⟨g0, 0, none⟩) (len - k) X) := Lib.hid (fun w2 g0 h => h.whole hXb (len - k) hXl.symm (by omega))
  have HSC : Hid (Calls Try.prog 127 #[.pointer (some ⟨t, 0, none⟩), .int .u8 (gi p), .slice (some ⟨g, O d + k, none⟩) (len - k) (len - k)] w
      (fun e w2 => ∃ g0, e = .returned (.slice (some ⟨g0, 0, none⟩) (len - k) (len - k)) ∧ w.heap.size ≤ g0 ∧ Row8 w2 g0 5 X ∧ Below w.heap.size w w2)) :=
    Lib.hid (by rw [hX]; exact scale_any t (gi p) (some ⟨g, O d + k, none⟩) (len - k) (len - k) _ w (gi_lt p) HT.out HB1.out (by omega))
  have HX : Hid (X = sc (gi (gr O l d k)) (seg l (O d + k) (len - k))) := Lib.hid (by rw [HP.out]; exact hX)
  have hfit : O d + k + (len - k) ≤ n := by omega
  have HFIT := Lib.hid hfit
  have HK1 := Lib.hid hk
  clear hX hXl hXb HB1
  go_enter Try.func117, Try.ntmps117
  go_wp2_with first
    | (go_at_call 126; refine (inv_some t p lp hp _ HT.out).mono ?_; rintro e w1 ⟨rfl, rfl⟩)
    | (go_at_call 127; refine HSC.out.mono ?_; rintro e w2 ⟨g0, rfl, hg0, hr0, hb1⟩; have HG0 := Lib.hid hg0; have HR0 := Lib.hid hr0; have HB2 := Lib.hid hb1; clear hg0 hr0 hb1; have c2 := (HL.out.below HB2.out HN.out.2.2.1).cell d hd)
    | ((with_reducible refine wpList_copy_dat rfl (.tmp 39) (.tmp 40) rfl _ _ _ _ _ _ rfl rfl g (O d + k) n _ (HD.out.below HB2.out HN.out.2.2.2.1) _ (HW.out _ _ HR0.out) rfl (fun _ => rfl) HFIT.out ?_); intro w3 hd3 hw3; have HD3 := Lib.hid hd3; have HW3 := Lib.hid hw3; clear hd3 hw3)
  clear c0 c1 c2
  have hg0 : g0 ≠ g := by have := HG0.out; have := HN.out.2.2.2.1; omega
  have HGN := Lib.hid hg0
  have HW0 : Hid (w.grownBy w3 (some g)) := Lib.hid (grown_trans (grown_below HB2.out _) HW3.out)
  have HR3 : Hid (Row8 w3 g0 5 X) := Lib.hid ((HW3.out.block g0 HR0.out.lt (fun e => HGN.out (by cases e; rfl))).trans HR0.out)
  have HS0 : Hid (SetTo O l cnt len d k 0 (splice l (O d + k) X)) := Lib.hid (setto_first HY.out HS.out HF.out HA.out hd hk X HX.out)
  generalize splice l (O d + k) X = l3 at *
  go_loopw [11, 12, 44] (fun _ _ i wr => ∃ j lc, j ≤ cnt ∧ i = .int .i64 (j : Nat) ∧ Hid (Dat wr g n lc) ∧ Hid (SetTo O l cnt len d k j lc) ∧ Hid (Row8 wr g0 5 X) ∧ Hid (w.grownBy wr (some g))) (fun _ _ i _ => cnt - (intOf i).toNat)
  case atStart => exact ⟨0, l3, by omega, rfl, HD3, HS0, HR3, HW0⟩
  case round =>
    obtain ⟨j, lc, hj, rfl, HDj, HSj, HRj, HWj⟩ := hrel
    obtain ⟨wo, ho⟩ : ∃ wo, wo = wr := ⟨_, rfl⟩
    subst ho
    by_cases hlt : j < cnt
    · have cr := (HL.out.grown HWj.out (fun e => HN.out.1 (by cases e; rfl))).cell j hlt
      by_cases hjd : j = d
      · subst hjd
        go_wp2
        go_roundw
        case rel => exact ⟨j + 1, lc, by omega, by go_num, HDj, Lib.hid (setto_skip HSj.out), HRj, HWj⟩
        case measure => simp [intOf]; omega
      · have hne : ((j : Int) != d) = true := by simp; omega
        have fj := HF.out j hlt
        have ce := HDj.out.cell (O j + k) (by omega)
        have hv : co lc (O j + k) = gr O l j k := by
          have := HSj.out j k hlt hk
          rw [if_neg (by omega)] at this
          exact this
        rw [hv] at ce
        have lv := gr_lt HY.out O j k
        have HJ := Lib.hid (fun lc hs' h => setto_step (l' := lc) HY.out HS.out hs' HF.out HA.out hd hk hlt hjd X HX.out h)
        clear hv
        generalize gr O l j k = v at *
        have HTj := Lib.hid (HT.out.grown HWj.out (fun e => HN.out.2.1 (by cases e; rfl)))
        have HM := Lib.hid (mixd_any t v g (O j + k) n (len - k) (len - k) (some ⟨g, O j + k, none⟩) lc (some ⟨g0, 0, none⟩) (len - k) X wo.drew lv HTj.out.drew (HDj.out.keep rfl) ((HW.out wo g0 HRj.out).drew) (Nat.le_refl _) hn (by omega) (by omega) (fun _ => rfl))
        go_wp2
        refine wp_region_still_tail 9 (by kernel_rfl) (by kernel_rfl) ?_
        simp only [List.take_succ_cons, List.take_zero, List.drop_succ_cons, List.drop_zero]
        repeat still_step
        refine wpStill_nil ?_
        change wpList _ _ _ _ _ wo.drew
        go_wp2_with (go_at_call 118; refine HM.out.mono ?_; rintro e w4 ⟨rfl, hd4, hw4⟩; have HD4 := Lib.hid hd4; have HW4 := Lib.hid hw4; clear hd4 hw4)
        go_roundw
        case rel =>
          refine ⟨j + 1, _, by omega, by go_num, HD4, Lib.hid (HJ.out lc HDj.out.size HSj.out), Lib.hid ((HW4.out.block g0 HRj.out.lt (fun e => HGN.out (by cases e; rfl))).trans HRj.out), Lib.hid (grown_trans HWj.out ?_)⟩
          exact grown_from_drew HW4.out
        case measure => simp [intOf]; omega
    · obtain rfl : j = cnt := by omega
      go_wp2
      go_end0
      exact ⟨rfl, lc, HDj.out, HSj.out, HWj.out⟩
end Go.Proofs.Ytjcbcdjfhcnhcaa
namespace Go.Proofs.Ytjcbcdjfhcnhcaa
open Go.RowKit

theorem has_elem (A : Addr) (len cap k b v : Nat) (w : World) (hk : k < len) (hb : w.cell? ⟨b, 0, none⟩ = some (.int .i64 k)) (hv : w.cell? (A.add k) = some (.int .u8 v)) :
    Calls Try.prog 116 #[.slice (some A) len cap, .pointer (some ⟨b, 0, none⟩)] w fun e w' => e = .returned (.bool (decide (v ≠ 0))) ∧ w = w' := by
  go_enter Try.func116, Try.ntmps116
  go_wp2
  go_ret
  refine ⟨ret_bool ?_, rfl⟩
  by_cases h : v = 0
  · subst h; rfl
  · rw [decide_eq_true h]; simp; omega
/-- Where it is found. -/
def Found (m : Nat) (V : Nat → Nat) (r : Int) : Prop := (∃ j : Nat, j < m ∧ r = j ∧ V j ≠ 0) ∨ (r = -1 ∧ ∀ j, j < m → V j = 0)
theorem index_any (h off m cap len k b : Nat) (A : Option Addr) (P : Nat → Addr) (V : Nat → Nat) (w : World) (hk : k < len) (hA : 0 < m → A = some ⟨h, off, none⟩) (hm : m ≤ 1000)
    (hc : ∀ j, j < m → w.cell? ⟨h, off + j, none⟩ = some (.slice (some (P j)) len len)) (hv : ∀ j, j < m → w.cell? ((P j).add k) = some (.int .u8 (V j))) (hb : w.cell? ⟨b, 0, none⟩ = some (.int .i64 k)) :
    Calls Try.prog 108 #[.slice A m cap, .func (.func 116) #[] #[.pointer (some ⟨b, 0, none⟩)]] w fun e w' => ∃ r, e = .returned (.int .i64 r) ∧ Found m V r ∧ w = w' := by
  have HE := Lib.hid (fun j (hj : j < m) => has_elem (P j) len len k b (V j) w hk hb (hv j hj))
  have HC := Lib.hid hc
  have HAA := Lib.hid hA
  clear hc hv hb hA
  go_enter Try.func108, Try.ntmps108
  go_wp2
  go_loopw [5, 8] (fun _ i wr => ∃ j : Nat, j ≤ m ∧ i = .int .i64 j ∧ Hid (∀ i, i < j → V i = 0) ∧ wr = w) (fun _ i _ => m - (intOf i).toNat)
  case atStart => exact ⟨0, by omega, rfl, Lib.hid (fun _ h => by omega), rfl⟩
  case round =>
    obtain ⟨j, hj, rfl, HV, rfl⟩ := hrel
    obtain ⟨wo, ho⟩ : ∃ wo, wo = wr := ⟨_, rfl⟩
    subst ho
    by_cases hlt : j < m
    · obtain rfl := HAA.out (by omega)
      have cr := HC.out j hlt
      have he := HE.out j hlt
      by_cases hz : V j = 0
      · rw [show decide (V j ≠ 0) = false by simp [hz]] at he
        have HJ := Lib.hid he
        have HZ := Lib.hid hz
        clear he hz
        go_wp2_with ((with_reducible refine HJ.out.mono ?_); rintro e w1 ⟨rfl, rfl⟩)
        go_roundw
        case rel => exact ⟨j + 1, by omega, by go_num, Lib.hid (fun i hi => if e : i = j then e ▸ HZ.out else HV.out i (by omega)), trivial⟩
        case measure => simp [intOf]; omega
      · rw [show decide (V j ≠ 0) = true by simp [hz]] at he
        have HJ := Lib.hid he
        have HZ := Lib.hid hz
        clear he hz
        go_wp2_with ((with_reducible refine HJ.out.mono ?_); rintro e w1 ⟨rfl, rfl⟩)
        go_ret
        exact ⟨j, rfl, .inl ⟨j, hlt, rfl, HZ.out⟩, rfl⟩
    · obtain rfl : j = m := by omega
      go_wp2
      go_ret
      exact ⟨-1, rfl, .inr ⟨rfl, HV.out⟩, rfl⟩
theorem red_settle {M : Nat → Nat → Nat} {O : Nat → Nat} {l l' : List Int} {cnt len k d j : Nat} {p : Nat → Nat} (h : Red M (gr O l) cnt len k d p) (hl : By l) (h1 : d ≤ j) (h2 : j < cnt) (hk : k < len) (hp : gr O l j k ≠ 0)
    (hs : SetTo (fun i => O (sw d j i)) l cnt len d k cnt l') : Red M (gr (fun i => O (sw d j i)) l') cnt len (k + 1) (d + 1) (fun i => if i = d then k else p i) := by
  refine h.step (gr_lt hl O) h1 h2 hk hp (fun i c hi hc => ?_)
  rw [hs i c hi hc]
  show (if (i < cnt ∨ i = d) ∧ k ≤ c then settled (fun i => gr O l (sw d j i)) d k i c else gr O l (sw d j i) c) = _
  by_cases g : k ≤ c
  · rw [if_pos (by omega)]
  · rw [if_neg (by omega)]
    have z : gr O l (sw d j d) c = 0 := h.ech.rest _ c (by unfold sw; rw [if_pos rfl]; exact h1) (sw_lt (by omega) h2 (by omega)) (by omega)
    unfold settled
    dsimp only
    rw [z, mu_zero, mu_zero, Nat.xor_zero]
    by_cases e : i = d
    · rw [if_pos e, e, z]
    · rw [if_neg e]
/-- Rows that lie apart from each other. -/
structure Laid (cnt len n : Nat) (O : Nat → Nat) : Prop where
  fit : ∀ i, i < cnt → O i + len ≤ n
  apart : ∀ i j, i < cnt → j < cnt → i ≠ j → O i + len ≤ O j ∨ O j + len ≤ O i
theorem Laid.swap {cnt len n d j : Nat} {O : Nat → Nat} (h : Laid cnt len n O) (h1 : d < cnt) (h2 : j < cnt) : Laid cnt len n (fun i => O (sw d j i)) :=
  ⟨fun i hi => h.fit _ (sw_lt h1 h2 hi), fun i k hi hk hne => h.apart _ _ (sw_lt h1 h2 hi) (sw_lt h1 h2 hk) (fun e => hne (by have := congrArg (sw d j) e; rwa [sw_sw, sw_sw] at this))⟩
theorem lst_swap {w : World} {h cnt len d j g : Nat} {O : Nat → Nat} (H : Lst w h cnt len (fun i => some ⟨g, O i, none⟩)) (hne : d ≠ j) :
    Lst ((w.setCell ⟨h, d, none⟩ (.slice (some ⟨g, O j, none⟩) len len)).setCell ⟨h, j, none⟩ (.slice (some ⟨g, O d, none⟩) len len)) h cnt len (fun i => some ⟨g, O (sw d j i), none⟩) :=
  World.rowIs.congr (World.rowIs.set (World.rowIs.set H d _) j _) (fun i _ => by
    unfold sw
    dsimp only
    by_cases e : i = j
    · rw [if_pos e, if_neg (by omega), if_pos e]
    · rw [if_neg e]
      by_cases e2 : i = d
      · rw [if_pos e2, if_pos e2]
      · rw [if_neg e2, if_neg e2, if_neg e])
theorem lst_stay {w : World} {h cnt len d g : Nat} {O : Nat → Nat} (H : Lst w h cnt len (fun i => some ⟨g, O i, none⟩)) :
    Lst ((w.setCell ⟨h, d, none⟩ (.slice (some ⟨g, O d, none⟩) len len)).setCell ⟨h, d, none⟩ (.slice (some ⟨g, O d, none⟩) len len)) h cnt len (fun i => some ⟨g, O (sw d d i), none⟩) :=
  World.rowIs.congr (World.rowIs.set (World.rowIs.set H d _) d _) (fun i _ => by
    unfold sw
    dsimp only
    by_cases e : i = d
    · rw [if_pos e, if_pos e]
    · rw [if_neg e, if_neg e, if_neg e, if_neg e])
theorem far {w : World} {g n h a b : Nat} {u v : Value} {l : List Int} (H : Dat w g n l) (hne : g ≠ h) : Dat ((w.setCell ⟨h, a, none⟩ u).setCell ⟨h, b, none⟩ v).drew g n l :=
  H.keep ((Below.heap_setCell _ ⟨h, b, none⟩ _ g hne).trans (Below.heap_setCell _ ⟨h, a, none⟩ _ g hne))
theorem farT {w : World} {t h a b : Nat} {u v : Value} (H : IsTab w t) (hne : t ≠ h) : IsTab ((w.setCell ⟨h, a, none⟩ u).setCell ⟨h, b, none⟩ v).drew t :=
  H.keep ((Below.heap_setCell _ ⟨h, b, none⟩ _ t hne).trans (Below.heap_setCell _ ⟨h, a, none⟩ _ t hne))
theorem farC {w : World} {c h a b : Nat} {u v x : Value} (H : w.cell? ⟨c, 0, none⟩ = some x) (hne : c ≠ h) : ((w.setCell ⟨h, a, none⟩ u).setCell ⟨h, b, none⟩ v).drew.cell? ⟨c, 0, none⟩ = some x :=
  (World.cell?_of_block (w := w) ((Below.heap_setCell _ ⟨h, b, none⟩ _ c hne).trans (Below.heap_setCell _ ⟨h, a, none⟩ _ c hne))).trans H
/-- What reduce leaves: the rows, in some order, and how many it has settled. -/
def Reduced (B h g cnt len n cols : Nat) (M : Nat → Nat → Nat) (w : World) (e : Ending) (w' : World) : Prop :=
  ∃ d O' l' p, e = .returned (.int .i64 (d : Nat)) ∧ Lst w' h cnt len (fun i => some ⟨g, O' i, none⟩) ∧ Dat w' g n l' ∧ Laid cnt len n O' ∧ Red M (gr O' l') cnt len cols d p ∧ Below B w w'
set_option maxRecDepth 100000 in
set_option maxHeartbeats 2000000 in
theorem reduce_any (t h g cnt C len n cols B : Nat) (O : Nat → Nat) (l : List Int) (w : World) (hL : Lst w h cnt len (fun i => some ⟨g, O i, none⟩)) (hD : Dat w g n l) (hO : Laid cnt len n O) (ht : IsTab w t) (hn : n ≤ 1000000) (hcnt : cnt ≤ 1000) (hlen : len ≤ 100000)
    (hcols : cols ≤ len) (hC : cnt ≤ C) (hhg : h ≠ g) (hBt : t < B) (hBg : B ≤ g) (hBh : B ≤ h) :
    Calls Try.prog 106 #[.pointer (some ⟨t, 0, none⟩), .slice (some ⟨h, 0, none⟩) cnt C, .int .i64 cols] w (Reduced B h g cnt len n cols (gr O l) w) := by
  have HL0 := Lib.hid hL
  have HD0 := Lib.hid hD
  have HO0 := Lib.hid hO
  have HT := Lib.hid ht
  have HN := Lib.hid (⟨hhg, hBt, hBg, hBh⟩ : h ≠ g ∧ t < B ∧ B ≤ g ∧ B ≤ h)
  have HR0 := Lib.hid (Red.start (gr_lt hD.by_ O) cnt len (fun _ => 0))
  clear hL hD hO ht hhg hBt hBg hBh
  go_enter Try.func106, Try.ntmps106
  go_wp2
  go_loopw [7, 8, 9, 11] (fun dv _ _ i wr => ∃ (k d : Nat) (O' : Nat → Nat) (lc : List Int) (p : Nat → Nat), k ≤ cols ∧ d ≤ cnt ∧ dv = .int .i64 (d : Nat) ∧ i = .int .i64 (k : Nat) ∧ Hid (Lst wr h cnt len (fun i => some ⟨g, O' i, none⟩)) ∧ Hid (Dat wr g n lc) ∧ Hid (Laid cnt len n O') ∧
    Hid (Red (gr O l) (gr O' lc) cnt len k d p) ∧ Hid (Below B w wr)) (fun _ _ _ i _ => cols - (intOf i).toNat)
  case atStart => exact ⟨0, 0, O, l, _, by omega, by omega, rfl, rfl, HL0, HD0, HO0, HR0, Lib.hid (Below.refl _ _)⟩
  case round =>
    obtain ⟨k, d, O', lc, p, hk, hd, rfl, rfl, HL, HD, HO, HR, HB⟩ := hrel
    obtain ⟨wo, ho⟩ : ∃ wo, wo = wr := ⟨_, rfl⟩
    subst ho
    by_cases hlt : k < cols
    · have HSZ := Lib.hid (⟨HL.out.lt, HD.out.lt⟩ : h < wo.heap.size ∧ g < wo.heap.size)
      have HLa : Hid (Lst (wo.alloc (.cells #[.int .i64 (k : Int)] 3)) h cnt len (fun i => some ⟨g, O' i, none⟩)) := Lib.hid (HL.out.keep (Below.heap_alloc _ _ _ HSZ.out.1))
      have HDa : Hid (Dat (wo.alloc (.cells #[.int .i64 (k : Int)] 3)) g n lc) := Lib.hid (HD.out.keep (Below.heap_alloc _ _ _ HSZ.out.2))
      have HBa : Hid (Below B w (wo.alloc (.cells #[.int .i64 (k : Int)] 3))) := Lib.hid (HB.out.alloc (by have := HSZ.out; have := HN.out; omega) _)
      have HBc : Hid ((wo.alloc (.cells #[.int .i64 (k : Int)] 3)).cell? ⟨wo.heap.size, 0, none⟩ = some (.int .i64 (k : Int))) := Lib.hid (by simp only [World.cell?]; rw [Go.Deep.blk_alloc_new]; rfl)
      have HWK : Hid (wrap64 ((k : Int) + 1) = ((k + 1 : Nat) : Int)) := Lib.hid (by simp only [wrap64]; omega)
      by_cases hdc : d < cnt
      · have HI := Lib.hid (index_any h d (cnt - d) (C - d) len k wo.heap.size (some ⟨h, d, none⟩) (fun j => ⟨g, O' (d + j), none⟩) (fun j => gr O' lc (d + j) k) (wo.alloc (.cells #[.int .i64 (k : Int)] 3)) (by omega) (fun _ => rfl) (by omega)
          (fun j hj => HLa.out.cell (d + j) (by omega)) (fun j hj => by rw [onto_any]; exact HDa.out.cell _ (by have := HO.out.fit (d + j) (by omega); omega)) HBc.out)
        have d1 : (d : Int) ≤ cnt := by omega
        have hCd : ¬ C = d := by omega
        go_wp2_with ((with_reducible refine HI.out.mono ?_); rintro e w1 ⟨r, rfl, hf, rfl⟩; have HF := Lib.hid hf; clear hf)
        case roundEnd =>
          refine ⟨⟨k + 1, d, O', lc, p, by omega, by omega, rfl, by go_num, HLa, HDa, HO, Lib.hid (HR.out.skip (fun i h1 h2 => ?_)), HBa⟩, by first | (rw [HWK.out]; simp [intOf]; omega) | (simp [intOf]; omega)⟩
          rcases HF.out with ⟨j0, hj0, e, hv⟩ | ⟨_, hz⟩
          · omega
          · have : gr O' lc (d + (i - d)) k = 0 := hz (i - d) (by omega)
            rwa [show d + (i - d) = i by omega] at this
        obtain ⟨j0, hj0, rfl, hv⟩ : ∃ j0 : Nat, j0 < cnt - d ∧ r = j0 ∧ gr O' lc (d + j0) k ≠ 0 := by
          rcases HF.out with ⟨j0, a, e, b⟩ | ⟨e, _⟩
          · exact ⟨j0, a, e, b⟩
          · omega
        clear HF HI
        have HS : ∀ W : World, Lst W h cnt len (fun i => some ⟨g, O' (sw d (d + j0) i), none⟩) → Dat W g n lc → IsTab W t → Calls Try.prog 117 #[.pointer (some ⟨t, 0, none⟩), .slice (some ⟨h, 0, none⟩) cnt C, .int .i64 d, .int .i64 k] W (Settled g cnt len n d k (fun i => O' (sw d (d + j0) i)) lc W) := fun W h1 h2 h3 =>
          settle_any t h g cnt C len n d k _ lc W ⟨h1, h2, HN.out.1, (HO.out.swap hdc (by omega)).fit, (HO.out.swap hdc (by omega)).apart⟩ h3 (by have := HN.out; omega) hdc (by omega) (by unfold sw; rw [if_pos rfl]; exact hv) hn hcnt hlen
        have HSS := Lib.hid HS
        have HRR := Lib.hid (fun l' h => red_settle (l' := l') HR.out HD.out.by_ (show d ≤ d + j0 by omega) (by omega) (show k < len by omega) hv h)
        have HSW := Lib.hid ((HO.out.swap hdc (show d + j0 < cnt by omega)))
        clear HS hv
        have HTa : Hid (IsTab (wo.alloc (.cells #[.int .i64 (k : Int)] 3)) t) := Lib.hid ((HT.out.below HB.out HN.out.2.1).keep (Below.heap_alloc _ _ _ (by have := HSZ.out; have := HN.out; omega)))
        have k1 := HLa.out.cell d hdc
        have k2 := HLa.out.cell (d + j0) (by omega)
        have k5 := HBc.out
        have f1 := World.rowIs.frozen HLa.out d
        have f2 := World.rowIs.frozen HLa.out (d + j0)
        have HBb := Lib.hid (show h ≠ wo.heap.size by have := HSZ.out.1; omega)
        generalize wo.alloc (.cells #[.int .i64 (k : Int)] 3) = wa at *
        generalize wo.heap.size = b at *
        by_cases hj : j0 = 0
        · subst hj
          have HP : Hid ((Lst ((wa.setCell ⟨h, d, none⟩ (.slice (some ⟨g, O' d, none⟩) len len)).setCell ⟨h, d, none⟩ (.slice (some ⟨g, O' d, none⟩) len len)).drew h cnt len (fun i => some ⟨g, O' (sw d (d + 0) i), none⟩)) ∧ Dat ((wa.setCell ⟨h, d, none⟩ (.slice (some ⟨g, O' d, none⟩) len len)).setCell ⟨h, d, none⟩ (.slice (some ⟨g, O' d, none⟩) len len)).drew g n lc ∧ IsTab ((wa.setCell ⟨h, d, none⟩ (.slice (some ⟨g, O' d, none⟩) len len)).setCell ⟨h, d, none⟩ (.slice (some ⟨g, O' d, none⟩) len len)).drew t ∧ ((wa.setCell ⟨h, d, none⟩ (.slice (some ⟨g, O' d, none⟩) len len)).setCell ⟨h, d, none⟩ (.slice (some ⟨g, O' d, none⟩) len len)).drew.cell? ⟨b, 0, none⟩ = some (.int .i64 (k : Int)) ∧ Below B w ((wa.setCell ⟨h, d, none⟩ (.slice (some ⟨g, O' d, none⟩) len len)).setCell ⟨h, d, none⟩ (.slice (some ⟨g, O' d, none⟩) len len)).drew) :=
            Lib.hid ⟨lst_stay HLa.out, far HDa.out (fun e => HN.out.1 e.symm), farT HTa.out (by have := HN.out; omega), farC HBc.out (fun e => HBb.out e.symm), (HBa.out.setCell HN.out.2.2.2 _).setCell HN.out.2.2.2 _ |>.drew⟩
          go_region
          generalize hwb : World.drew _ = wb at HP ⊢
          clear hwb k1 k2 f1 f2 k5
          have k6 := HP.out.2.2.2.1
          go_wp2_with (go_at_call 117; refine (HSS.out _ HP.out.1 HP.out.2.1 HP.out.2.2.1).mono ?_; rintro e w2 ⟨rfl, l2, hd2, hs2, hw2⟩; have HD2 := Lib.hid hd2; have HS2 := Lib.hid hs2; have HW2 := Lib.hid hw2; clear hd2 hs2 hw2)
          refine ⟨⟨k + 1, d + 1, _, l2, _, by omega, by omega, by go_num, by go_num, Lib.hid (HP.out.1.grown HW2.out (fun e => HN.out.1 (by cases e; rfl))), HD2, HSW, Lib.hid (HRR.out l2 HS2.out), Lib.hid (HP.out.2.2.2.2.trans (below_grows HW2.out HN.out.2.2.1 (by have := HP.out.1.lt; have := HN.out; omega)))⟩, by first | (rw [HWK.out]; simp [intOf]; omega) | (simp [intOf]; omega)⟩
        · have n1 : ¬ j0 = 0 := hj
          have HP : Hid ((Lst ((wa.setCell ⟨h, d, none⟩ (.slice (some ⟨g, O' (d + j0), none⟩) len len)).setCell ⟨h, d + j0, none⟩ (.slice (some ⟨g, O' d, none⟩) len len)).drew h cnt len (fun i => some ⟨g, O' (sw d (d + j0) i), none⟩)) ∧ Dat ((wa.setCell ⟨h, d, none⟩ (.slice (some ⟨g, O' (d + j0), none⟩) len len)).setCell ⟨h, d + j0, none⟩ (.slice (some ⟨g, O' d, none⟩) len len)).drew g n lc ∧ IsTab ((wa.setCell ⟨h, d, none⟩ (.slice (some ⟨g, O' (d + j0), none⟩) len len)).setCell ⟨h, d + j0, none⟩ (.slice (some ⟨g, O' d, none⟩) len len)).drew t ∧ ((wa.setCell ⟨h, d, none⟩ (.slice (some ⟨g, O' (d + j0), none⟩) len len)).setCell ⟨h, d + j0, none⟩ (.slice (some ⟨g, O' d, none⟩) len len)).drew.cell? ⟨b, 0, none⟩ = some (.int .i64 (k : Int)) ∧ Below B w ((wa.setCell ⟨h, d, none⟩ (.slice (some ⟨g, O' (d + j0), none⟩) len len)).setCell ⟨h, d + j0, none⟩ (.slice (some ⟨g, O' d, none⟩) len len)).drew) :=
            Lib.hid ⟨lst_swap HLa.out (show d ≠ d + j0 by omega), far HDa.out (fun e => HN.out.1 e.symm), farT HTa.out (by have := HN.out; omega), farC HBc.out (fun e => HBb.out e.symm), (HBa.out.setCell HN.out.2.2.2 _).setCell HN.out.2.2.2 _ |>.drew⟩
          go_region
          generalize hwb : World.drew _ = wb at HP ⊢
          clear hwb k1 k2 f1 f2 k5
          have k6 := HP.out.2.2.2.1
          go_wp2_with (go_at_call 117; refine (HSS.out _ HP.out.1 HP.out.2.1 HP.out.2.2.1).mono ?_; rintro e w2 ⟨rfl, l2, hd2, hs2, hw2⟩; have HD2 := Lib.hid hd2; have HS2 := Lib.hid hs2; have HW2 := Lib.hid hw2; clear hd2 hs2 hw2)
          refine ⟨⟨k + 1, d + 1, _, l2, _, by omega, by omega, by go_num, by go_num, Lib.hid (HP.out.1.grown HW2.out (fun e => HN.out.1 (by cases e; rfl))), HD2, HSW, Lib.hid (HRR.out l2 HS2.out), Lib.hid (HP.out.2.2.2.2.trans (below_grows HW2.out HN.out.2.2.1 (by have := HP.out.1.lt; have := HN.out; omega)))⟩, by first | (rw [HWK.out]; simp [intOf]; omega) | (simp [intOf]; omega)⟩
      · obtain rfl : d = cnt := by omega
        have HI := Lib.hid (fun A c => index_any h d 0 c len k wo.heap.size A (fun j => ⟨g, O' (d + j), none⟩) (fun j => gr O' lc (d + j) k) (wo.alloc (.cells #[.int .i64 (k : Int)] 3)) (by omega) (fun h => absurd h (by omega)) (by omega)
          (fun j hj => absurd hj (by omega)) (fun j hj => absurd hj (by omega)) HBc.out)
        go_wp2_with ((with_reducible refine (HI.out _ _).mono ?_); rintro e w1 ⟨r, rfl, hf, rfl⟩; rcases hf with ⟨j0, hj0, rfl, hv⟩ | ⟨rfl, hz⟩)
        refine ⟨⟨k + 1, d, O', lc, p, by omega, by omega, rfl, by go_num, HLa, HDa, HO, Lib.hid (HR.out.skip (fun i h1 h2 => absurd h1 (by omega))), HBa⟩, by first | (rw [HWK.out]; simp [intOf]; omega) | (simp [intOf]; omega)⟩
    · obtain rfl : k = cols := by omega
      go_wp2
      go_ret
      exact ⟨d, O', lc, p, rfl, HL.out, HD.out, HO.out, HR.out, HB.out⟩
end Go.Proofs.Ytjcbcdjfhcnhcaa
namespace Go.Proofs.Ytjcbcdjfhcnhcaa
open Go.RowKit

/-- A slice that reads as a list of bytes, its capacity too. -/
structure Sl (w : World) (a : Option Addr) (n c : Nat) (l : List Int) : Prop where
  bytes : Bytes w a n l
  cap : n ≤ c
  top : c ≤ 9223372036854775807
  nilc : a = none → c = 0
theorem Sl.below {w w' : World} {a : Option Addr} {n c : Nat} {l : List Int} (h : Sl w a n c l) {B : Nat} (hb : Below B w w') (hB : w.heap.size ≤ B) : Sl w' a n c l :=
  ⟨h.bytes.below hb hB, h.cap, h.top, h.nilc⟩
theorem Sl.nil (w : World) : Sl w none 0 0 [] := ⟨Bytes.nil w, Nat.le_refl _, by omega, fun _ => rfl⟩
theorem IsRow.sl {w : World} {a : Option Addr} {len cap : Nat} {zs : List Int} (h : IsRow .u8 w a len cap zs) : Sl w a len cap (zs.take len) :=
  ⟨h.bytes, h.bound.1, h.bound.2, h.nil_cap⟩
theorem Sl.front {w : World} {a : Option Addr} {n m c : Nat} {l : List Int} (h : Sl w a m c l) (hn : n ≤ m) : Sl w a n c (l.take n) :=
  ⟨h.bytes.front hn, by have := h.cap; omega, h.top, h.nilc⟩
/-- A slice is handed back that reads as a list; what was there is as it was. -/
def Sliced (L : List Int) (w : World) (e : Ending) (w' : World) : Prop := ∃ A n C, e = .returned (.slice A n C) ∧ Sl w' A n C L ∧ Below w.heap.size w w'
theorem Own8.sl {w : World} {base : Nat} {A : Option Addr} {n C : Nat} {l : List Int} (h : Own8 w base (.slice A n C) n l) (hz : ∀ z ∈ l, 0 ≤ z ∧ z ≤ 255) : Sl w A n C l := by
  obtain ⟨A', C', e, h1, h2⟩ := h.slice
  simp only [Value.slice.injEq, true_and] at e
  obtain ⟨rfl, rfl⟩ := e
  refine ⟨h.bytes hz, h1, by unfold maxLen at h2; omega, fun e => ?_⟩
  rcases h.2 with ⟨e2, _⟩ | ⟨g, cap, cur, e2, _⟩
  · simp at e2; omega
  · subst e; simp at e2
/-- A slice of the call's own is handed back. -/
def Cloned (n : Nat) (L : List Int) (w : World) (e : Ending) (w' : World) : Prop := ∃ A C, e = .returned (.slice A n C) ∧ Own8 w' w.heap.size (.slice A n C) n L ∧ Below w.heap.size w w'
theorem Own8.none (w : World) (base : Nat) : Own8 w base (.slice none 0 0) 0 [] := ⟨rfl, .inl ⟨rfl, rfl⟩⟩
end Go.Proofs.Ytjcbcdjfhcnhcaa
namespace Go.Proofs.Ytjcbcdjfhcnhcaa
open Go.RowKit

/-- A matrix's rows lie apart. -/
theorem laid_rows (r c n : Nat) (h : r * c ≤ n) : Laid r c n (fun i => i * c) := by
  have key : ∀ i j, i < j → i * c + c ≤ j * c := fun i j h => by have := Nat.mul_le_mul_right c (show i + 1 ≤ j from h); rwa [Nat.succ_mul] at this
  refine ⟨fun i hi => by have := key i r hi; show i * c + c ≤ n; omega, fun i j _ _ hne => ?_⟩
  rcases Nat.lt_or_gt_of_ne hne with g | g
  · exact .inl (key i j g)
  · exact .inr (key j i g)
theorem alloc_two (w : World) (C : Array Value) (t : TypeId) (o : Obj) : ((w.alloc (.cells C t)).alloc o).heap[w.heap.size]? = some (.cells C t (0, 0)) :=
  (Below.heap_alloc _ _ _ (by simp)).trans (Go.Deep.blk_alloc_new _ _)
theorem alloc_last (w : World) (C : Array Value) (t : TypeId) (o : Obj) : ((w.alloc o).alloc (.cells C t)).heap[w.heap.size + 1]? = some (.cells C t (0, 0)) := by
  have := Go.Deep.blk_alloc_new (w.alloc o) (.cells C t)
  rwa [World.size_alloc] at this
theorem Own8.mono {w : World} {base base' : Nat} {v : Value} {n : Nat} {l : List Int} (h : Own8 w base v n l) (hb : base' ≤ base) : Own8 w base' v n l :=
  ⟨h.1, h.2.imp id fun ⟨g, cap, cur, e, h1, h2⟩ => ⟨g, cap, cur, e, Nat.le_trans hb h1, h2⟩⟩
/-- A box that is written whole. -/
theorem set_box {w : World} {b : Nat} {x y z x' y' z' : Value} {t : TypeId} (h : w.heap[b]? = some (.cells #[x, y, z] t (0, 0))) :
    (((w.setCell ⟨b, 0, none⟩ x').setCell ⟨b, 1, none⟩ y').setCell ⟨b, 2, none⟩ z').heap[b]? = some (.cells #[x', y', z'] t (0, 0)) := by
  simp [World.setCell, Array.getElem?_modify, h]
theorem box_cells {w : World} {b : Nat} {x y z : Value} {t : TypeId} (h : w.heap[b]? = some (.cells #[x, y, z] t (0, 0))) :
    w.cell? ⟨b, 0, none⟩ = some x ∧ w.cell? ⟨b, 1, none⟩ = some y ∧ w.cell? ⟨b, 2, none⟩ = some z ∧ ∀ i, w.frozen? ⟨b, i, none⟩ = false := by
  refine ⟨?_, ?_, ?_, fun i => ?_⟩ <;> simp [World.cell?, World.frozen?, h]
/-- Clone's answer. -/
def ClonedM (r c : Int) (n : Nat) (L : List Int) (w : World) (e : Ending) (w' : World) : Prop :=
  ∃ A C, e = .returned (.agg #[.int .i64 r, .int .i64 c, .slice A n C]) ∧ Own8 w' w.heap.size (.slice A n C) n L ∧ Below w.heap.size w w'
end Go.Proofs.Ytjcbcdjfhcnhcaa
