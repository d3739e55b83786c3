/-
  Own text: Invert, walked.
-/
import Derived.Test.YtipaolkgafhliaaBeside
namespace Go.Proofs.Ytipaolkgafhliaa
open Go.RowKit

theorem alloc_lt3 (w : World) (o p : Obj) : w.heap.size + 1 < ((w.alloc o).alloc p).heap.size := by simp
theorem alloc_lt2 (w : World) (o p : Obj) : w.heap.size < ((w.alloc o).alloc p).heap.size := by simp; omega
set_option maxRecDepth 100000 in
theorem invert_size (t : Nat) (r c : Int) (a : Option Addr) (m cap : Nat) (w : World) (h : ¬ (RightM r c m ∧ r = c)) :
    Calls Try.prog 30 #[.pointer (some ⟨t, 0, none⟩), .agg #[.int .i64 r, .int .i64 c, .slice a m cap]] w (Refused 50 w) := by
  have HR := Lib.hid (right_any r c m a cap)
  have hcase : (decide (RightM r c m) = true ∧ (r != c) = true) ∨ decide (RightM r c m) = false := by
    by_cases hr : RightM r c m
    · refine .inl ⟨decide_eq_true hr, ?_⟩
      have hne : ¬ r = c := fun e => h ⟨hr, e⟩
      simpa using hne
    · exact .inr (decide_eq_false hr)
  clear h
  rcases hcase with ⟨hd, hnb⟩ | hd
  all_goals
    rw [hd] at HR
    clear hd
    go_enter Try.func30, Try.ntmps30
    go_wp2_with (go_at_call 13; refine (HR.out _).mono ?_; rintro e w1 ⟨rfl, hb⟩; have HB := Lib.hid hb; clear hb; obtain ⟨k0, k1, k2, kf⟩ := box3 (alloc_two w _ _ _) HB.out (alloc_lt2 _ _ _); obtain ⟨j0, j1, j2, jf⟩ := box3 (alloc_last w _ _ _) HB.out (alloc_lt3 _ _ _))
    clear k0 k1 k2 kf j0 j1 j2 jf
    have HX : Bx w1 (w.heap.size + 1) (.int .i64 0) (.int .i64 0) (.slice none 0 0) := (HB.out.block (w.heap.size + 1) (alloc_lt3 _ _ _)).trans (alloc_last w _ _ _)
    obtain ⟨z0, z1, z2, _⟩ := (HX.write (x' := .int .i64 0) (y' := .int .i64 0) (z' := .slice none 0 0)).cells
    refine bodyPost_ret (v := .tuple #[.agg #[.int .i64 0, .int .i64 0, .slice none 0 0], .int .i64 50]) (by simp [results, Try.results30, go_sem, z0, z1, z2]) rfl ?_
    clear z0 z1 z2
    exact ⟨rfl, below_set3 ((((Below.refl _ w).alloc (Nat.le_refl _) _).alloc (Nat.le_of_lt (alloc_lt _ _)) _).trans (HB.out.mono (Nat.le_of_lt (alloc_lt2 _ _ _)))) (Nat.le_succ _)⟩
theorem Dat.sl {w : World} {g n : Nat} {l : List Int} (h : Dat w g n l) (hn : n ≤ 1000000) : Sl w (some ⟨g, 0, none⟩) n n l := by
  have hb := h.bytes 0 n (by omega) (by omega)
  have e : seg l 0 n = l := by unfold seg; rw [List.drop_zero, List.take_of_length_le (by rw [h.size]; exact Nat.le_refl _)]
  rw [e] at hb
  exact ⟨hb, Nat.le_refl _, by omega, fun e => nomatch e⟩
theorem bx_cells_alloc {w : World} {b : Nat} {x y z : Value} (h : Bx w b x y z) : (∀ o, (w.alloc o).cell? ⟨b, 0, none⟩ = some x) ∧ (∀ o, (w.alloc o).cell? ⟨b, 1, none⟩ = some y) ∧ (∀ o, (w.alloc o).cell? ⟨b, 2, none⟩ = some z) ∧ ∀ o i, (w.alloc o).frozen? ⟨b, i, none⟩ = false :=
  ⟨fun o => (bx_alloc h o).cells.1, fun o => (bx_alloc h o).cells.2.1, fun o => (bx_alloc h o).cells.2.2.1, fun o => (bx_alloc h o).cells.2.2.2⟩
/-- What Invert answers: there is none; or it is handed back. -/
def InvertedTo (n : Nat) (F : Nat → Nat → Nat) (w : World) (e : Ending) (w' : World) : Prop :=
  (∃ d, d < n ∧ RankIs F n n d ∧ Refused 51 w e w') ∨
  ∃ V : Nat → Nat → Nat, RankIs F n n n ∧ (∀ i k, V i k < 256) ∧ (∀ i k, i < n → k < n → dots (V i) (fun j => F j k) n = if i = k then 1 else 0) ∧ Handed n n V w e w'
theorem RankIs.congr {M M' : Nat → Nat → Nat} {R C n : Nat} (h : RankIs M R C n) (e : ∀ i k, i < R → k < C → M i k = M' i k) : RankIs M' R C n := by
  obtain ⟨U, a, b, c⟩ := h
  refine ⟨U, a, fun i hi => ?_, fun i hi => ?_⟩
  · obtain ⟨x, hx⟩ := b i hi
    exact ⟨x, fun k hk => by rw [hx k hk]; exact dots_congr _ (fun _ _ => rfl) (fun j hj => e j k hj hk)⟩
  · obtain ⟨x, hx⟩ := c i hi
    exact ⟨x, fun k hk => by rw [← e i k hi hk]; exact hx k hk⟩
theorem Red.from {M M' N : Nat → Nat → Nat} {R C k d : Nat} {p : Nat → Nat} (h : Red M N R C k d p) (e : ∀ i c, i < R → c < C → M i c = M' i c) : Red M' N R C k d p := by
  have hm : Mates M' N R C := ⟨fun i hi => by
      obtain ⟨x, hx⟩ := h.ech.mates.1 i hi
      exact ⟨x, fun k hk => by rw [hx k hk]; exact dots_congr _ (fun _ _ => rfl) (fun j hj => e j k hj hk)⟩,
    fun i hi => by
      obtain ⟨x, hx⟩ := h.ech.mates.2 i hi
      exact ⟨x, fun k hk => by rw [← e i k hi hk]; exact hx k hk⟩⟩
  exact ⟨⟨hm, h.ech.dR, h.ech.piv, h.ech.low, h.ech.rest⟩, h.up, h.one, h.alone, h.dk⟩
set_option maxRecDepth 100000 in
set_option maxHeartbeats 4000000 in
theorem invert_any (t n : Nat) (hn : n ≤ 255) (a : Option Addr) (cap : Nat) (l : List Int) (w : World) (hl : Sl w a (n * n) cap l) (ht : IsTab w t) :
    Calls Try.prog 30 #[.pointer (some ⟨t, 0, none⟩), .agg #[.int .i64 n, .int .i64 n, .slice a ((n * n : Nat)) cap]] w (InvertedTo n (gr (fun i => i * n) l) w) := by
  have hm : n * n ≤ 65025 := Nat.mul_le_mul hn hn
  have HR := Lib.hid (right_yes n n (n * n) hn hn rfl a cap)
  have HID := Lib.hid (ident_some n hn)
  have HBS : Hid (∀ w' g lo, Below w.heap.size w w' → Dat w' g (n * n) lo → Calls Try.prog 44 #[.agg #[.int .i64 n, .int .i64 n, .slice a ((n * n : Nat)) cap], .agg #[.int .i64 n, .int .i64 n, .slice (some ⟨g, 0, none⟩) ((n * n : Nat)) (n * n)]] w' (Besided n l lo w')) :=
    Lib.hid (fun w' g lo hb hd => beside_any n hn a _ cap _ l lo w' (hl.below hb (Nat.le_refl _)) (hd.sl (by omega)))
  have HRD : Hid (∀ h g lc B w', Lst w' h n (n + n) (fun i => some ⟨g, i * (n + n), none⟩) → Dat w' g (n * (n + n)) lc → IsTab w' t → t < B → B ≤ g → g < h → Calls Try.prog 45 #[.pointer (some ⟨t, 0, none⟩), .slice (some ⟨h, 0, none⟩) n n, .int .i64 n] w' (Reduced B h g n (n + n) (n * (n + n)) n (gr (fun i => i * (n + n)) lc) w')) :=
    Lib.hid (fun h g lc B w' h1 h2 h3 h4 h5 h6 => reduce_any t h g n n (n + n) (n * (n + n)) n B _ lc w' h1 h2 (laid_rows n (n + n) _ (Nat.le_refl _)) h3 (by rw [Nat.mul_add]; omega) (by omega) (by omega) (by omega) (Nat.le_refl _) (by omega) h4 h5 (by omega))
  have HP := Lib.hid (fun g => parts_any (some ⟨g, 0, none⟩) (n * n) (n * n) n n (by omega) (Nat.le_refl _) (Nat.le_refl _) (by omega) (fun h => nomatch h))
  have HT := Lib.hid ht
  have HY : Hid (By l) := Lib.hid hl.bytes.range
  obtain ⟨m, hmm⟩ : ∃ m, m = n * n := ⟨_, rfl⟩
  have HMM := Lib.hid hmm
  unfold Handed at HID
  rw [← hmm] at hm HR HID HBS HP ⊢
  clear hmm hl ht
  go_enter Try.func30, Try.ntmps30
  have HXa0 : Hid (∀ w1 c1 c2, Below ((w.alloc (.cells c1 24)).alloc (.cells c2 24)).heap.size ((w.alloc (.cells c1 24)).alloc (.cells c2 24)) w1 → w1.heap[w.heap.size]? = some (.cells c1 24 (0, 0)) ∧ w1.heap[w.heap.size + 1]? = some (.cells c2 24 (0, 0)) ∧ Below w.heap.size w w1 ∧ w.heap.size + 1 < w1.heap.size) :=
    Lib.hid (fun w1 c1 c2 h => ⟨(h.block _ (alloc_lt2 _ _ _)).trans (alloc_two w _ _ _), (h.block (w.heap.size + 1) (alloc_lt3 _ _ _)).trans (alloc_last w _ _ _), ((((Below.refl _ w).alloc (Nat.le_refl _) _).alloc (Nat.le_of_lt (alloc_lt _ _)) _).trans (h.mono (Nat.le_of_lt (alloc_lt2 _ _ _)))), Nat.lt_of_lt_of_le (alloc_lt3 _ _ _) h.size⟩)
  go_wp2_with first
    | (go_at_call 13; refine (HR.out _).mono ?_; rintro e w1 ⟨rfl, hb⟩; obtain ⟨hxa, hxr, hbb, hsz⟩ := HXa0.out _ _ _ hb; have HXa1 : Hid (Bx w1 w.heap.size _ _ _) := Lib.hid hxa; have HXr1 : Hid (Bx w1 (w.heap.size + 1) _ _ _) := Lib.hid hxr; have HB1 := Lib.hid hbb; have HS1 := Lib.hid hsz; clear hb hxa hxr hbb hsz; obtain ⟨k0, k1, k2, kf⟩ := HXa1.out.cells)
    | (go_at_call 19; refine (HID.out _).mono ?_; rintro e w2 ⟨g1, l1, rfl, hg1, hd1, hc1, hb1⟩; clear k0 k1 k2 kf; have HG1 := Lib.hid hg1; have HD1 := Lib.hid hd1; have HC1 := Lib.hid hc1; have HB2 := Lib.hid hb1; clear hg1 hd1 hc1 hb1; have HXa2 := Lib.hid (HXa1.out.below HB2.out HXa1.out.lt); have HXr2 := Lib.hid (HXr1.out.below HB2.out HXr1.out.lt); obtain ⟨k0, k1, k2, kf⟩ := bx_cells_alloc HXa2.out)
    | (go_at_call 44; refine (HBS.out (w2.alloc _) g1 l1 ((HB1.out.trans (HB2.out.mono HB1.out.size)).alloc (Nat.le_trans HB1.out.size HB2.out.size) _) (HD1.out.keep (Below.heap_alloc _ _ _ HD1.out.lt))).mono ?_; rintro e w4 ⟨h, g, lb, rfl, hg, hgh, hL4, hD4, hC4, hb4⟩; clear k0 k1 k2 kf; have HG := Lib.hid hg; have HGH := Lib.hid hgh; have HL4 := Lib.hid hL4; have HD4 := Lib.hid hD4; have HC4 := Lib.hid hC4; have HB4 := Lib.hid hb4; clear hg hgh hL4 hD4 hC4 hb4)
    | (go_at_call 45; refine (HRD.out h g lb (w2.alloc _).heap.size _ HL4.out HD4.out (((HT.out.below (HB1.out.trans (HB2.out.mono HB1.out.size)) HT.out.lt).keep (Below.heap_alloc _ _ _ (Nat.lt_of_lt_of_le HT.out.lt (Nat.le_trans HB1.out.size HB2.out.size)))).below HB4.out (Nat.lt_of_lt_of_le HT.out.lt (Nat.le_trans (Nat.le_trans HB1.out.size HB2.out.size) (Nat.le_of_lt (alloc_lt _ _))))) (Nat.lt_of_lt_of_le HT.out.lt (Nat.le_trans (Nat.le_trans HB1.out.size HB2.out.size) (Nat.le_of_lt (alloc_lt _ _)))) HG.out HGH.out).mono ?_; rintro e w5 ⟨d, O', l', p, rfl, hL5, hD5, hO5, hR5, hb5⟩; have HL5 := Lib.hid hL5; have HD5 := Lib.hid hD5; have HO5 := Lib.hid hO5; have HR5 := Lib.hid hR5; have HB5 := Lib.hid (HB4.out.trans hb5); clear hL5 hD5 hO5 hR5 hb5; have HXo5 : Hid (Bx w5 w2.heap.size _ _ _) := Lib.hid ((alloc_bx w2 _ _ _).below HB5.out (alloc_lt _ _)); have HXr5 := Lib.hid ((bx_alloc HXr2.out _).below HB5.out (Nat.lt_trans HXr2.out.lt (alloc_lt _ _))); obtain ⟨o0, o1, o2, of⟩ := HXo5.out.cells; obtain ⟨r0, r1, r2, rf⟩ := HXr5.out.cells)
    | (go_at_call 39; refine (HP.out g1 _).mono ?_; rintro e w6 ⟨hp, rfl, hhp, hlp, hb6⟩; have HHP := Lib.hid hhp; have HLP := Lib.hid hlp; have HB6 := Lib.hid hb6; clear hhp hlp hb6 o0 o1 o2 of r0 r1 r2 rf)
  · rename_i hdn
    clear o0 o1 o2 of r0 r1 r2 rf
    obtain ⟨z0, z1, z2, _⟩ := (HXr5.out.write (x' := .int .i64 0) (y' := .int .i64 0) (z' := .slice none 0 0)).cells
    refine bodyPost_ret (v := .tuple #[.agg #[.int .i64 0, .int .i64 0, .slice none 0 0], .int .i64 51]) (by simp [results, Try.results30, go_sem, z0, z1, z2]) rfl ?_
    clear z0 z1 z2
    refine .inl ⟨d, by omega, ?_, rfl, below_set3 ?_ (Nat.le_succ _)⟩
    · exact (HR5.out.ech.rank (gr_lt HD5.out.by_ O') (by omega)).congr (fun i k hi hk => by show co lb (i * (n + n) + k) = co l (i * n + k); rw [HC4.out i k hi (by omega), if_pos hk])
    · exact ((HB1.out.trans (HB2.out.mono HB1.out.size)).alloc (Nat.le_trans HB1.out.size HB2.out.size) _).trans (HB5.out.mono (Nat.le_trans (Nat.le_trans HB1.out.size HB2.out.size) (Nat.le_of_lt (alloc_lt _ _))))
  · rename_i hdn
    have hd : d = n := by have := HR5.out.ech.dR; omega
    subst hd
    have HRK : Hid (RankIs (gr (fun i => i * d) l) d d d) := Lib.hid ((HR5.out.ech.rank (gr_lt HD5.out.by_ O') (by omega)).congr (fun i k hi hk => by show co lb (i * (d + d) + k) = co l (i * d + k); rw [HC4.out i k hi (by omega), if_pos hk]))
    have HINV : Hid (∀ i k, i < d → k < d → dots (fun j => gr O' l' i (d + j)) (fun j => gr (fun i => i * d) l j k) d = if i = k then 1 else 0) := Lib.hid (by
      have h1 := HR5.out.from (M' := fun i c => if c < d then gr (fun i => i * d) l i c else if c = d + i then 1 else 0) (fun i c hi hc => by
        show co lb (i * (d + d) + c) = _
        rw [HC4.out i c hi hc]
        by_cases g : c < d
        · rw [if_pos g, if_pos g]; rfl
        · rw [if_neg g, if_neg g, HC1.out i (c - d) hi (by omega)]
          by_cases e : c = d + i
          · rw [if_pos e, if_pos (by omega)]
          · rw [if_neg e, if_neg (by omega)])
      rw [← Nat.two_mul] at h1
      exact h1.inverse (gr_lt HD5.out.by_ O'))
    have HO : Hid (w.heap.size + 1 < g1 ∧ g1 < w2.heap.size ∧ w2.heap.size < g ∧ g < h ∧ h < w5.heap.size) := Lib.hid ⟨Nat.lt_of_lt_of_le HS1.out HG1.out, HD1.out.lt, Nat.lt_of_lt_of_le (alloc_lt _ _) HG.out, HGH.out, HL5.out.lt⟩
    have HB05 : Hid (Below w.heap.size w w5) := Lib.hid (((HB1.out.trans (HB2.out.mono HB1.out.size)).alloc (Nat.le_trans HB1.out.size HB2.out.size) _).trans (HB5.out.mono (Nat.le_trans (Nat.le_trans HB1.out.size HB2.out.size) (Nat.le_of_lt (alloc_lt _ _)))))
    have HB06 := Lib.hid (HB05.out.trans (HB6.out.mono HB05.out.size))
    have HXo6 := Lib.hid (HXo5.out.below HB6.out HXo5.out.lt)
    have HXr6 := Lib.hid (HXr5.out.below HB6.out HXr5.out.lt)
    have HL6 := Lib.hid (HL5.out.below HB6.out HL5.out.lt)
    have HD6 := Lib.hid (HD5.out.below HB6.out HD5.out.lt)
    have HO6 : Hid (Dat w6 g1 m l1) := Lib.hid (((HD1.out.keep (Below.heap_alloc _ _ _ HD1.out.lt)).below HB5.out (Nat.lt_trans HD1.out.lt (alloc_lt _ _))).below HB6.out (by have := HO.out; omega))
    have HF : Hid (∀ i, i < d → O' i + (d + d) ≤ d * (d + d)) := Lib.hid HO5.out.fit
    have HB8 : Hid (d * (d + d) ≤ 130050) := Lib.hid (by rw [Nat.mul_add]; have := HMM.out; omega)
    have HGR0 := Lib.hid (grown_refl w6 (some g1))
    clear HXa0 HXa1 HXr1 HB1 HS1 HG1 HD1 HB2 HXa2 HXr2 HG HGH HL4 HD4 HC4 HB4 HL5 HD5 HR5 HB5 HXo5 HXr5 HB05 HB6 HBS HRD HP HID HR
    generalize w2.heap.size = b7 at *
    obtain ⟨W, hW⟩ : ∃ W, W = d + d := ⟨_, rfl⟩
    have HWW := Lib.hid hW
    rw [← hW] at HL6 HF
    clear hW
    go_loopw [10, 11, 43] (fun _ _ i wr => ∃ (j : Nat) (lc : List Int), j ≤ d ∧ i = .int .i64 (j : Nat) ∧ Hid (Dat wr g1 m lc) ∧ Hid (∀ i k, i < d → k < d → co lc (i * d + k) = if i < j then gr O' l' i (d + k) else if i = k then 1 else 0) ∧ Hid (w6.grownBy wr (some g1))) (fun _ _ i _ => d - (intOf i).toNat)
    case atStart => exact ⟨0, l1, by omega, rfl, HO6, Lib.hid (fun i k hi hk => by rw [if_neg (by omega), HC1.out i k hi hk]), HGR0⟩
    case round =>
      obtain ⟨j, lc, hj, rfl, HDj, HCj, HGj⟩ := hrel
      obtain ⟨wo, ho⟩ : ∃ wo, wo = wr := ⟨_, rfl⟩
      subst ho
      by_cases hlt : j < d
      · have cr := (HLP.out.grown HGj.out (fun e => by have := HO.out; have := HHP.out; cases e; omega)).cell j hlt
        rw [onA_at, Nat.zero_add] at cr
        have ch := (HL6.out.grown HGj.out (fun e => by have := HO.out; cases e; omega)).cell j hlt
        have hw := HWW.out
        have HBY : Hid (Bytes wo (some ⟨g, O' j + d, none⟩) (W - d) (seg l' (O' j + d) (W - d))) := Lib.hid ((HD6.out.grown HGj.out (fun e => by have := HO.out; cases e; omega)).bytes (O' j + d) (W - d) (by have := HF.out j hlt; rw [← hw]; omega) (by omega))
        have HFI : Hid (W - d = d ∧ j * d + (W - d) ≤ m) := Lib.hid (by have := spot_lt hlt (show d - 1 < d by omega); have := HMM.out; constructor <;> omega)
        have hcut : ¬ W = d := by omega
        have hcut1 : (d : Int) ≤ W := by omega
        have hcut0 : (0 : Int) ≤ d := by omega
        clear hw
        go_wp2_with ((with_reducible refine wpList_copy_dat rfl (.tmp 48) (.tmp 54) rfl _ _ _ _ _ _ rfl rfl g1 (j * d) m _ HDj.out _ HBY.out HFI.out.1 (fun _ => rfl) HFI.out.2 ?_); intro w7 hd7 hw7; have HD7 := Lib.hid hd7; have HW7 := Lib.hid hw7; clear hd7 hw7)
        refine ⟨⟨j + 1, _, by omega, by go_num, HD7, Lib.hid (fun i k hi hk => ?_), Lib.hid (grown_trans HGj.out HW7.out)⟩, by simp [intOf]; omega⟩
        have h1 := HFI.out
        have h2 : (seg l' (O' j + d) (W - d)).length = W - d := seg_length _ _ _ (by have := HF.out j hlt; have := HD6.out.size; rw [← HWW.out] at this; have := HWW.out; omega)
        rw [splice_co _ _ _ _ (by have := HDj.out.size; omega), h2]
        by_cases e : i = j
        · subst e
          rw [if_pos (by omega), if_pos (show i < i + 1 by omega), seg_co _ _ _ _ (by omega), show O' i + d + (i * d + k - i * d) = O' i + (d + k) by omega]
          rfl
        · have hap : i * d + d ≤ j * d ∨ j * d + d ≤ i * d := (laid_rows d d (d * d) (Nat.le_refl _)).apart i j hi hlt e
          rw [if_neg (by omega), HCj.out i k hi hk]
          by_cases g : i < j
          · rw [if_pos g, if_pos (show i < j + 1 by omega)]
          · rw [if_neg g, if_neg (show ¬ i < j + 1 by omega)]
      · obtain rfl : j = d := by omega
        obtain ⟨k0, k1, k2, kf⟩ := (HXo6.out.keep (HGj.out.block b7 HXo6.out.lt (fun e => by have := HO.out; cases e; omega))).cells
        have HXr7 := Lib.hid (HXr6.out.keep (HGj.out.block _ HXr6.out.lt (fun e => by have := HO.out; cases e; omega)))
        obtain ⟨r0, r1, r2, rf⟩ := HXr7.out.cells
        go_wp2
        clear k0 k1 k2 kf r0 r1 r2 rf
        obtain ⟨z0, z1, z2, _⟩ := (HXr7.out.write (x' := .int .i64 j) (y' := .int .i64 j) (z' := .slice (some ⟨g1, 0, none⟩) m m)).cells
        refine bodyPost_ret (v := .tuple #[.agg #[.int .i64 j, .int .i64 j, .slice (some ⟨g1, 0, none⟩) m m], .int .i64 0]) (by simp [results, Try.results30, go_sem, z0, z1, z2]) rfl ?_
        clear z0 z1 z2
        refine .inr ⟨fun i k => gr O' l' i (j + k), HRK.out, fun i k => gr_lt HD6.out.by_ O' _ _, HINV.out, ?_⟩
        unfold Handed
        rw [← HMM.out]
        refine ⟨g1, lc, rfl, by have := HO.out; omega, dat_set3 HDj.out (by have := HO.out; omega), fun i k hi hk => ?_, below_set3 (HB06.out.trans (below_grows HGj.out (by have := HO.out; omega) HB06.out.size)) (Nat.le_succ _)⟩
        rw [HCj.out i k hi hk, if_pos hi]
end Go.Proofs.Ytipaolkgafhliaa
