/-
  Own text: mix, Mul of package matrix: walked.
    Mul of package matrix, walked.
    Pick of package matrix, walked.
-/
import Derived.Test.YtjcbcdjfhcnhcaaK05
import Derived.Test.YtjcbcdjfhcnhcaaK03
namespace Go.Proofs.Ytjcbcdjfhcnhcaa
open Go.RowKit

/-- Lists of bytes, equally long, that a list of slices holds. -/
structure Src (w : World) (v : Value) (cnt len : Nat) (X : Nat → List Int) : Prop where
  rows : ∃ (a : Option Addr) (cap : Nat) (A : Nat → Option Addr) (C : Nat → Nat), v = .slice a cnt cap ∧ cnt ≤ cap ∧ ∀ k, k < cnt → ∃ b off, a = some ⟨b, off, none⟩ ∧ w.cell? ⟨b, off + k, none⟩ = some (.slice (A k) len (C k)) ∧ len ≤ C k ∧ Bytes w (A k) len (X k)
/-- What has been added so far: j rows whole, and of the next one q summands. -/
def mixE (M : Nat → Nat → Nat) (X : Nat → List Int) (N j q : Nat) (i c : Nat) : Nat :=
  if i < j then xs (fun k => mu (M i k) (co (X k) c)) N else if i = j then xs (fun k => mu (M i k) (co (X k) c)) q else 0
theorem mixE_row (M : Nat → Nat → Nat) (X : Nat → List Int) (N j i c : Nat) : mixE M X N j N i c = mixE M X N (j + 1) 0 i c := by
  unfold mixE
  by_cases h : i < j
  · rw [if_pos h, if_pos (by omega)]
  · rw [if_neg h]
    by_cases e : i = j
    · rw [if_pos e, if_pos (by omega)]
    · rw [if_neg e, if_neg (by omega)]
      by_cases e2 : i = j + 1
      · rw [if_pos e2]; rfl
      · rw [if_neg e2]
/-- What mix leaves. -/
def MixedM (g R len n : Nat) (O : Nat → Nat) (E : Nat → Nat → Nat) (w : World) (e : Ending) (w' : World) : Prop :=
  e = .returned (.tuple #[]) ∧ ∃ l, Dat w' g n l ∧ (∀ i c, i < R → c < len → gr O l i c = E i c) ∧ w.grownBy w' (some g)
theorem mix_plain {R len n j q N : Nat} {O : Nat → Nat} {lc : List Int} {M : Nat → Nat → Nat} {X : Nat → List Int} (hO : Laid R len n O) (hl : lc.length = n) (hj : j < R) (hM : M j q < 256) (hX : By (X q)) (hXl : (X q).length = len)
    (h : ∀ i c, i < R → c < len → gr O lc i c = mixE M X N j q i c) :
    ∀ i c, i < R → c < len → gr O (mixO lc (O j) (sc (M j q) (X q)) len) i c = mixE M X N j (q + 1) i c := by
  intro i c hi hc
  have fi := hO.fit i hi
  have fj := hO.fit j hj
  have h0 := h i c hi hc
  unfold gr at h0 ⊢
  rw [mixO_co _ _ _ _ _ (by omega), h0]
  unfold mixE
  by_cases e : i = j
  · subst e
    rw [if_pos (by omega), if_neg (by omega), if_pos rfl, if_neg (by omega), if_pos rfl, show O i + c - O i = c by omega, co_sc _ hM hX _ (by omega)]
    rfl
  · rw [if_neg (by have := hO.apart i j hi hj e; omega)]
    by_cases g : i < j
    · rw [if_pos g, if_pos g]
    · rw [if_neg g, if_neg e, if_neg g, if_neg e]
set_option maxRecDepth 100000 in
set_option maxHeartbeats 4000000 in
theorem mix_rows (t h g R N len n capA capI : Nat) (aA : Option Addr) (la : List Int) (v : Value) (X : Nat → List Int) (O : Nat → Nat) (l : List Int) (w : World) (hR : R ≤ 255) (hN : N ≤ 255) (hlen : len ≤ 100000) (hn : n ≤ 1000000) (hRI : R ≤ capI)
    (ha : Sl w aA (R * N) capA la) (hS : ∀ w', w.grownBy w' (some g) → Src w' v N len X) (hL : Lst w h R len (fun i => some ⟨g, O i, none⟩)) (hD : Dat w g n l) (hO : Laid R len n O) (hz : ∀ i c, i < R → c < len → gr O l i c = 0) (ht : IsTab w t) (htg : t ≠ g) (hgh : h ≠ g)
    (hag : ∀ b off, aA = some ⟨b, off, none⟩ → 0 < R * N → b ≠ g) :
    Calls Try.prog 107 #[.pointer (some ⟨t, 0, none⟩), .slice (some ⟨h, 0, none⟩) R capI, .agg #[.int .i64 R, .int .i64 N, .slice aA ((R * N : Nat)) capA], v] w (MixedM g R len n O (fun i c => xs (fun k => mu (co la (i * N + k)) (co (X k) c)) N) w) := by
  have hm : R * N ≤ 65025 := Nat.mul_le_mul hR hN
  have HP := Lib.hid (parts_any aA (R * N) capA R N (by omega) ha.cap (Nat.le_refl _) (by omega) ha.nilc)
  have HA0 := Lib.hid ha.bytes
  have HS0 := Lib.hid hS
  have HL0 := Lib.hid hL
  have HD0 := Lib.hid hD
  have HOO := Lib.hid hO
  have HT0 := Lib.hid ht
  have HNE := Lib.hid (⟨htg, hgh⟩ : t ≠ g ∧ h ≠ g)
  have HAG := Lib.hid hag
  have HSZ : Hid (g < w.heap.size ∧ h < w.heap.size) := Lib.hid ⟨hD.lt, hL.lt⟩
  have HX : Hid (∀ k, k < N → By (X k) ∧ (X k).length = len) := Lib.hid (fun k hk => by
    obtain ⟨_, _, _, _, _, _, hc⟩ := (hS w (grown_refl w _)).rows
    obtain ⟨_, _, _, _, _, hb⟩ := hc k hk
    exact ⟨hb.by_, hb.size⟩)
  obtain ⟨a, cap, A, C, rfl, hcap, _⟩ : ∃ (a : Option Addr) (cap : Nat) (A : Nat → Option Addr) (C : Nat → Nat), v = .slice a N cap ∧ N ≤ cap ∧ True := by
    obtain ⟨a, cap, A, C, e, h1, _⟩ := (hS w (grown_refl w _)).rows
    exact ⟨a, cap, A, C, e, h1, trivial⟩
  have HMX : Hid (∀ i c, i < R → c < len → gr O l i c = mixE (fun i k => co la (i * N + k)) X N 0 0 i c) := Lib.hid (fun i c hi hc => by
    rw [hz i c hi hc]
    unfold mixE
    rw [if_neg (by omega)]
    split <;> rfl)
  obtain ⟨m, hmm⟩ : ∃ m, R * N = m := ⟨_, rfl⟩
  have HMM := Lib.hid hmm
  rw [hmm] at hm HP HA0 HAG ⊢
  clear hmm ha hS hL hD hO hz ht htg hgh hag
  go_enter Try.func107, Try.ntmps107
  go_wp2_with (go_at_call 99; refine (HP.out _).mono ?_; rintro e w1 ⟨hp, rfl, hh, hl, hb⟩; have HH := Lib.hid hh; have HLP := Lib.hid hl; have HB := Lib.hid (later1 hb); clear hh hl hb)
  have HG1 : Hid (w.grownBy w1 (some g)) := Lib.hid (grown_below HB.out _)
  have HD1 := Lib.hid (HD0.out.below HB.out HSZ.out.1)
  have HHP : Hid (hp ≠ g) := Lib.hid (by have := HH.out; have := HSZ.out.1; have := alloc_lt w (.cells #[.int .i64 R, .int .i64 N, .slice aA m capA] 137); omega)
  have HGR0 := Lib.hid (grown_refl w1 (some g))
  go_loopw [8, 9, 10, 11, 15] (fun _ _ _ _ i wr => ∃ (j : Nat) (lc : List Int), j ≤ R ∧ i = .int .i64 (j : Nat) ∧ Hid (Dat wr g n lc) ∧ Hid (∀ i c, i < R → c < len → gr O lc i c = mixE (fun i k => co la (i * N + k)) X N j 0 i c) ∧ Hid (w1.grownBy wr (some g))) (fun _ _ _ _ i _ => R - (intOf i).toNat)
  case atStart => exact ⟨0, l, by omega, rfl, HD1, HMX, HGR0⟩
  case round =>
    obtain ⟨j, lc, hj, rfl, HDj, HCj, HGj⟩ := hrel
    obtain ⟨wo, ho⟩ : ∃ wo, wo = wr := ⟨_, rfl⟩
    subst ho
    by_cases hlt : j < R
    · have cr := (HLP.out.grown HGj.out (fun e => HHP.out (by cases e; rfl))).cell j hlt
      go_wp2
      clear cr
      go_loopw [10, 11, 22] (fun _ _ i wr => ∃ (q : Nat) (lc : List Int), q ≤ N ∧ i = .int .i64 (q : Nat) ∧ Hid (Dat wr g n lc) ∧ Hid (∀ i c, i < R → c < len → gr O lc i c = mixE (fun i k => co la (i * N + k)) X N j q i c) ∧ Hid (w1.grownBy wr (some g))) (fun _ _ i _ => N - (intOf i).toNat)
      case atStart => exact ⟨0, lc, by omega, rfl, HDj, HCj, HGj⟩
      case round =>
        clear HDj HCj HGj lc
        obtain ⟨q, lc, hq, rfl, HDj, HCj, HGj⟩ := hrel
        obtain ⟨wi, hi⟩ : ∃ wi, wi = wr := ⟨_, rfl⟩
        subst hi
        by_cases hlq : q < N
        · have HGw := Lib.hid (grown_trans HG1.out HGj.out)
          have hm0 : 0 < m := by have := spot_lt hlt hlq; rw [HMM.out] at this; omega
          have HBA := Lib.hid ((HA0.out.grown HGw.out (fun b off e e2 => HAG.out b off e hm0 (by cases e2; rfl))).part (j * N) N (by have := spot_lt hlt (show N - 1 < N by omega); rw [HMM.out] at this; omega))
          have hav : ∃ b off, onA aA (j * N) = some ⟨b, off, none⟩ ∧ wi.cell? ⟨b, off + q, none⟩ = some (.int .u8 (co la (j * N + q) : Int)) := by
            rcases HBA.out.cell with h0 | ⟨_, b, off, e, _, hc⟩
            · omega
            · have := hc q hlq
              rw [HBA.out.by_.get, seg_co _ _ _ _ hlq] at this
              exact ⟨b, off, e, this⟩
          obtain ⟨ba, oa, hae, hac⟩ := hav
          have ci := (HL0.out.grown HGw.out (fun e => HNE.out.2 (by cases e; rfl))).cell j hlt
          obtain ⟨a', cap', A', C', e', _, hsrc⟩ := (HS0.out wi HGw.out).rows
          obtain ⟨bl, ol, hal, hlc, hC, hBX⟩ := hsrc q hlq
          cases e'
          have HXq := HX.out q hlq
          have HPL := Lib.hid (mix_plain (M := fun i k => co la (i * N + k)) HOO.out HDj.out.size hlt (HA0.out.by_.lt _) HXq.1 HXq.2 HCj.out)
          have lv := HA0.out.by_.lt (j * N + q)
          generalize hv : co la (j * N + q) = v at *
          have HMD := Lib.hid (mixd_any t v g (O j) n len len (some ⟨g, O j, none⟩) lc (A' q) (C' q) (X q) wi.drew lv ((HT0.out.grown HGw.out (fun e => HNE.out.1 (by cases e; rfl))).keep rfl) (HDj.out.keep rfl) hBX.drew hC hn hlen (HOO.out.fit j hlt) (fun _ => rfl))
          rw [hae]
          rw [hal]
          clear hsrc HXq hBX hal hae HBA hv
          go_wp2
          refine wp_region_still_tail 10 (by kernel_rfl) (by kernel_rfl) ?_
          simp only [List.take_succ_cons, List.take_zero, List.drop_succ_cons, List.drop_zero]
          repeat still_step
          refine wpStill_nil ?_
          change wpList _ _ _ _ _ wi.drew
          go_wp2_with (go_at_call 118; refine HMD.out.mono ?_; rintro e w4 ⟨rfl, hd4, hw4⟩; have HD4 := Lib.hid hd4; have HW4 := Lib.hid hw4; clear hd4 hw4)
          refine ⟨⟨q + 1, _, by omega, by go_num, HD4, Lib.hid ?_, Lib.hid (grown_trans HGj.out (grown_from_drew HW4.out))⟩, by simp [intOf]; omega⟩
          exact HPL.out
        · obtain rfl : q = N := by omega
          go_wp2
          go_roundw
          case rel => exact ⟨j + 1, lc, by omega, by go_num, HDj, Lib.hid (fun i c hi hc => by rw [HCj.out i c hi hc]; exact mixE_row _ _ _ _ _ _), HGj⟩
          case measure => simp [intOf]; omega
    · obtain rfl : j = R := by omega
      go_wp2
      go_end0
      refine ⟨rfl, lc, HDj.out, fun i c hi hc => ?_, grown_trans HG1.out HGj.out⟩
      rw [HCj.out i c hi hc]
      unfold mixE
      rw [if_pos hi]
theorem src_parts {w : World} {g h N len : Nat} {a : Option Addr} {l : List Int} (hL : Lst w h N len (fun k => onA a (k * len))) (hB : Bytes w a (N * len) l) (hne : h ≠ g) (hag : ∀ b off, a = some ⟨b, off, none⟩ → 0 < N * len → b ≠ g) :
    ∀ w', w.grownBy w' (some g) → Src w' (.slice (some ⟨h, 0, none⟩) N N) N len (fun k => seg l (k * len) len) := fun w' hw => by
  have hL' := hL.grown hw (fun e => hne (by cases e; rfl))
  refine ⟨some ⟨h, 0, none⟩, N, fun k => onA a (k * len), fun _ => len, rfl, Nat.le_refl _, fun k hk => ⟨h, 0, rfl, by rw [Nat.zero_add]; exact hL'.cell k hk, Nat.le_refl _, ?_⟩⟩
  have hp := hB.part (k * len) len ((laid_rows N len _ (Nat.le_refl _)).fit k hk)
  refine ⟨hp.size, hp.max, hp.byte, hp.cell.imp id ?_⟩
  rintro ⟨h0, b, off, e, hl, hc⟩
  have hbg : b ≠ g := by
    cases a with
    | none => simp [onA] at e
    | some x =>
      rcases hB.cell with h1 | ⟨h1, b', off', e', _, _⟩
      · have := Nat.mul_pos (show 0 < N by omega) h0; omega
      · have e2 : x = ⟨b', off', none⟩ := by simpa using e'
        rw [e2, onA_at] at e
        cases e
        exact hag _ _ (congrArg some e2) h1
  exact ⟨h0, b, off, e, Nat.lt_of_lt_of_le hl hw.size, fun i hi => (hw.cell (a := ⟨b, off + i, none⟩) (hc i hi) (fun e => hbg (by cases e; rfl)))⟩
end Go.Proofs.Ytjcbcdjfhcnhcaa
namespace Go.Proofs.Ytjcbcdjfhcnhcaa
open Go.RowKit

/-- Do they fit? -/
def FitM (r c : Int) (n : Nat) (r' c' : Int) (n' : Nat) : Prop := RightM r c n ∧ RightM r' c' n' ∧ c = r'
instance (r c : Int) (n : Nat) (r' c' : Int) (n' : Nat) : Decidable (FitM r c n r' c' n') := by unfold FitM; infer_instance
theorem alloc3 (w : World) (a b c : Array Value) (t : TypeId) : (((w.alloc (.cells a t)).alloc (.cells b t)).alloc (.cells c t)).heap[w.heap.size]? = some (.cells a t (0, 0)) ∧ (((w.alloc (.cells a t)).alloc (.cells b t)).alloc (.cells c t)).heap[w.heap.size + 1]? = some (.cells b t (0, 0)) ∧
    (((w.alloc (.cells a t)).alloc (.cells b t)).alloc (.cells c t)).heap[w.heap.size + 1 + 1]? = some (.cells c t (0, 0)) ∧ w.heap.size + 1 + 1 < (((w.alloc (.cells a t)).alloc (.cells b t)).alloc (.cells c t)).heap.size ∧ Below w.heap.size w (((w.alloc (.cells a t)).alloc (.cells b t)).alloc (.cells c t)) := by
  refine ⟨(Below.heap_alloc _ _ _ (by simp; omega)).trans (alloc_two w a t _), (Below.heap_alloc _ _ _ (by simp)).trans (alloc_last w b t _), ?_, by simp, by go_grown⟩
  have := Go.Deep.blk_alloc_new ((w.alloc (.cells a t)).alloc (.cells b t)) (.cells c t)
  rwa [World.size_alloc, World.size_alloc] at this
/-- Three boxes, later on. -/
theorem boxes3 {w w1 : World} {x0 x1 x2 y0 y1 y2 z0 z1 z2 : Value}
    (hb : Below (((w.alloc (.cells #[x0, x1, x2] 137)).alloc (.cells #[y0, y1, y2] 137)).alloc (.cells #[z0, z1, z2] 137)).heap.size (((w.alloc (.cells #[x0, x1, x2] 137)).alloc (.cells #[y0, y1, y2] 137)).alloc (.cells #[z0, z1, z2] 137)) w1) :
    Bx w1 w.heap.size x0 x1 x2 ∧ Bx w1 (w.heap.size + 1) y0 y1 y2 ∧ Bx w1 (w.heap.size + 1 + 1) z0 z1 z2 ∧ Below w.heap.size w w1 := by
  obtain ⟨h1, h2, h3, h4, h5⟩ := alloc3 w #[x0, x1, x2] #[y0, y1, y2] #[z0, z1, z2] 137
  exact ⟨(hb.block _ (by omega)).trans h1, (hb.block _ (by omega)).trans h2, (hb.block _ h4).trans h3, h5.trans (hb.mono (by omega))⟩
set_option maxRecDepth 100000 in
set_option maxHeartbeats 4000000 in
theorem mmul_some (t R N Cn : Nat) (hR : R ≤ 255) (hN : N ≤ 255) (hC : Cn ≤ 255) (aA aB : Option Addr) (ca cb : Nat) (la lb : List Int) (w : World) (ha : Sl w aA (R * N) ca la) (hb : Sl w aB (N * Cn) cb lb) (ht : IsTab w t) :
    Calls Try.prog 85 #[.pointer (some ⟨t, 0, none⟩), .agg #[.int .i64 R, .int .i64 N, .slice aA ((R * N : Nat)) ca], .agg #[.int .i64 N, .int .i64 Cn, .slice aB ((N * Cn : Nat)) cb]] w (Handed R Cn (fun i k => dots (fun j => co la (i * N + j)) (fun j => co lb (j * Cn + k)) N) w) := by
  have hm1 : R * N ≤ 65025 := Nat.mul_le_mul hR hN
  have hm2 : N * Cn ≤ 65025 := Nat.mul_le_mul hN hC
  have hm3 : R * Cn ≤ 65025 := Nat.mul_le_mul hR hC
  have HR := Lib.hid (right_yes R N (R * N) hR hN rfl aA ca)
  have HQ := Lib.hid (right_yes N Cn (N * Cn) hN hC rfl aB cb)
  have HNW := Lib.hid (new_some R Cn hR hC)
  have HPM := Lib.hid (fun g => parts_any (some ⟨g, 0, none⟩) (R * Cn) (R * Cn) R Cn (by omega) (Nat.le_refl _) (Nat.le_refl _) (by omega) (fun h => nomatch h))
  have HPB := Lib.hid (parts_any aB (N * Cn) cb N Cn (by omega) hb.cap (Nat.le_refl _) (by omega) hb.nilc)
  have HMX : Hid (∀ g h h2 w', Below w.heap.size w w' → w.heap.size ≤ g → g < h → g < h2 → Dat w' g (R * Cn) (List.replicate (R * Cn) 0) → Lst w' h R Cn (fun i => onA (some ⟨g, 0, none⟩) (i * Cn)) → Lst w' h2 N Cn (fun k => onA aB (k * Cn)) →
      Calls Try.prog 107 #[.pointer (some ⟨t, 0, none⟩), .slice (some ⟨h, 0, none⟩) R R, .agg #[.int .i64 R, .int .i64 N, .slice aA ((R * N : Nat)) ca], .slice (some ⟨h2, 0, none⟩) N N] w' (MixedM g R Cn (R * Cn) (fun i => i * Cn) (fun i c => xs (fun k => mu (co la (i * N + k)) (co (seg lb (k * Cn) Cn) c)) N) w')) :=
    Lib.hid (fun g h h2 w' hbw h1 h3 h4 hd hl1 hl2 => by
      have noA : ∀ (a : Option Addr) (m : Nat) (l : List Int), Bytes w a m l → ∀ b off, a = some ⟨b, off, none⟩ → 0 < m → b ≠ g := fun a m l hB b off e h0 => by
        rcases hB.cell with h5 | ⟨_, b', off', e', hl, _⟩
        · omega
        · rw [e] at e'; cases e'; omega
      exact mix_rows t h g R N Cn (R * Cn) ca R aA la _ _ (fun i => i * Cn) _ w' hR hN (by omega) (by omega) (Nat.le_refl _) (ha.below hbw (Nat.le_refl _)) (src_parts hl2 (hb.bytes.below hbw (Nat.le_refl _)) (by omega) (noA _ _ _ hb.bytes)) (World.rowIs.congr hl1 (fun i _ => by dsimp only; rw [onA_at, Nat.zero_add])) hd (laid_rows R Cn _ (Nat.le_refl _)) (fun i c _ _ => co_zero _ _) (ht.below hbw ht.lt) (by have := ht.lt; omega) (by omega) (noA _ _ _ ha.bytes))
  have HLB := Lib.hid hb.bytes.size
  unfold Handed
  unfold Newed at HNW
  obtain ⟨m1, hm1e⟩ : ∃ m, R * N = m := ⟨_, rfl⟩
  obtain ⟨m2, hm2e⟩ : ∃ m, N * Cn = m := ⟨_, rfl⟩
  obtain ⟨m3, hm3e⟩ : ∃ m, R * Cn = m := ⟨_, rfl⟩
  have HM2 := Lib.hid hm2e
  rw [hm1e] at hm1 HR HMX
  rw [hm2e] at hm2 HQ HPB HLB
  rw [hm3e] at hm3 HNW HPM HMX
  rw [hm1e, hm2e, hm3e]
  clear hm1e hm2e hm3e ha hb ht
  go_enter Try.func85, Try.ntmps85
  go_wp2_with first
    | (go_at_call 101; (with_reducible refine (HR.out _).mono ?_); rintro e w1 ⟨rfl, hb⟩; obtain ⟨hxa, hxb, hxr, hbw⟩ := boxes3 hb; have HXA := Lib.hid hxa; have HXB := Lib.hid hxb; have HXR := Lib.hid hxr; have HB := Lib.hid hbw; clear hb hxa hxb hxr hbw; obtain ⟨k0, k1, k2, kf⟩ := HXA.out.cells; obtain ⟨j0, j1, j2, jf⟩ := HXB.out.cells)
    | (go_at_call 101; (with_reducible refine (HQ.out _).mono ?_); rintro e w2 ⟨rfl, hb⟩; have HB2 := Lib.hid hb; clear hb k0 k1 k2 kf j0 j1 j2 jf; obtain ⟨k0, k1, k2, kf⟩ := (HXA.out.below HB2.out HXA.out.lt).cells; obtain ⟨j0, j1, j2, jf⟩ := (HXB.out.below HB2.out HXB.out.lt).cells)
    | (go_at_call 98; refine (HNW.out _).mono ?_; rintro e w3 ⟨g, rfl, hg, hr, hb⟩; have HG := Lib.hid hg; have HRO := Lib.hid hr; have HB3 := Lib.hid hb; clear hg hr hb k0 k1 k2 kf j0 j1 j2 jf)
  have HO : Hid (w.heap.size + 1 + 1 < g ∧ g < w3.heap.size) := Lib.hid ⟨Nat.lt_of_lt_of_le (Nat.lt_of_lt_of_le HXR.out.lt HB2.out.size) HG.out, HRO.out.lt⟩
  have HB03 : Hid (Below w.heap.size w w3) := Lib.hid (by
    have h1 := HB.out.trans (HB2.out.mono HB.out.size)
    exact h1.trans (HB3.out.mono h1.size))
  have HD3 : Hid (Dat w3 g m3 (List.replicate m3 0)) := Lib.hid (by
    have := HRO.out.dat (by_zero m3)
    rwa [List.length_replicate] at this)
  have HXA3 := Lib.hid ((HXA.out.below HB2.out HXA.out.lt).below HB3.out (Nat.lt_of_lt_of_le HXA.out.lt HB2.out.size))
  have HXB3 := Lib.hid ((HXB.out.below HB2.out HXB.out.lt).below HB3.out (Nat.lt_of_lt_of_le HXB.out.lt HB2.out.size))
  have HXR3 := Lib.hid ((HXR.out.below HB2.out HXR.out.lt).below HB3.out (Nat.lt_of_lt_of_le HXR.out.lt HB2.out.size))
  have HXA4 := Lib.hid (bx_alloc HXA3.out (.cells #[.int .i64 R, .int .i64 Cn, .slice (some ⟨g, 0, none⟩) m3 m3] 137))
  have HXB4 := Lib.hid (bx_alloc HXB3.out (.cells #[.int .i64 R, .int .i64 Cn, .slice (some ⟨g, 0, none⟩) m3 m3] 137))
  have HXR4 := Lib.hid (bx_alloc HXR3.out (.cells #[.int .i64 R, .int .i64 Cn, .slice (some ⟨g, 0, none⟩) m3 m3] 137))
  have HXM4 := Lib.hid (alloc_bx w3 (.int .i64 R) (.int .i64 Cn) (.slice (some ⟨g, 0, none⟩) m3 m3))
  have HD4 := Lib.hid (HD3.out.keep (Below.heap_alloc _ (.cells #[.int .i64 R, .int .i64 Cn, .slice (some ⟨g, 0, none⟩) m3 m3] 137) _ HD3.out.lt))
  have HB04 := Lib.hid (HB03.out.alloc HB03.out.size (.cells #[.int .i64 R, .int .i64 Cn, .slice (some ⟨g, 0, none⟩) m3 m3] 137))
  clear HXA HXB HXR HB HB2 HB3 HG HRO HXA3 HXB3 HXR3 HD3 HB03 HR HQ HNW
  generalize w3.alloc (.cells #[.int .i64 R, .int .i64 Cn, .slice (some ⟨g, 0, none⟩) m3 m3] 137) = w4 at *
  generalize w3.heap.size = b8 at *
  have HS : Hid (∀ w', w4.grownBy w' (some g) → w4.grownBy w' (some g) ∧ w'.cell? ⟨w.heap.size, 0, none⟩ = some (.int .i64 (R : Int)) ∧ w'.cell? ⟨w.heap.size, 1, none⟩ = some (.int .i64 (N : Int)) ∧ w'.cell? ⟨w.heap.size, 2, none⟩ = some (.slice aA m1 ca) ∧
      w'.cell? ⟨w.heap.size + 1, 0, none⟩ = some (.int .i64 (N : Int)) ∧ w'.cell? ⟨w.heap.size + 1, 1, none⟩ = some (.int .i64 (Cn : Int)) ∧ w'.cell? ⟨w.heap.size + 1, 2, none⟩ = some (.slice aB m2 cb) ∧
      w'.cell? ⟨b8, 0, none⟩ = some (.int .i64 (R : Int)) ∧ w'.cell? ⟨b8, 1, none⟩ = some (.int .i64 (Cn : Int)) ∧ w'.cell? ⟨b8, 2, none⟩ = some (.slice (some ⟨g, 0, none⟩) m3 m3)) :=
    Lib.hid (fun w' h => by
      have o := HO.out
      have hA := (HXA4.out.keep (h.block _ HXA4.out.lt (fun e => by cases e; omega))).cells
      have hB := (HXB4.out.keep (h.block _ HXB4.out.lt (fun e => by cases e; omega))).cells
      have hM := (HXM4.out.keep (h.block _ HXM4.out.lt (fun e => by cases e; omega))).cells
      exact ⟨h, hA.1, hA.2.1, hA.2.2.1, hB.1, hB.2.1, hB.2.2.1, hM.1, hM.2.1, hM.2.2.1⟩)
  go_region_held3 (fun w' => w4.grownBy w' (some g) ∧ w'.cell? ⟨w.heap.size, 0, none⟩ = some (.int .i64 (R : Int)) ∧ w'.cell? ⟨w.heap.size, 1, none⟩ = some (.int .i64 (N : Int)) ∧ w'.cell? ⟨w.heap.size, 2, none⟩ = some (.slice aA m1 ca) ∧
      w'.cell? ⟨w.heap.size + 1, 0, none⟩ = some (.int .i64 (N : Int)) ∧ w'.cell? ⟨w.heap.size + 1, 1, none⟩ = some (.int .i64 (Cn : Int)) ∧ w'.cell? ⟨w.heap.size + 1, 2, none⟩ = some (.slice aB m2 cb) ∧
      w'.cell? ⟨b8, 0, none⟩ = some (.int .i64 (R : Int)) ∧ w'.cell? ⟨b8, 1, none⟩ = some (.int .i64 (Cn : Int)) ∧ w'.cell? ⟨b8, 2, none⟩ = some (.slice (some ⟨g, 0, none⟩) m3 m3))
    (first
      | exact HS.out _ (grown_refl _ _)
      | exact HS.out _ (grown_below (Below.refl _ _).drew _)
      | exact HS.out _ (grown_trans (grown_below (((Below.refl _ _).drew.trans hb5).trans (hb6.mono hb5.size)) _) hw7)
      | exact HS.out _ (grown_below (((Below.refl _ _).drew.trans hb5).trans (hb6.mono hb5.size)) _)
      | exact HS.out _ (grown_below ((Below.refl _ _).drew.trans hb5) _))
    (first
      | (go_at_call 99; (with_reducible refine (HPM.out g _).mono ?_); rintro e w5 ⟨h, rfl, hh, hl, hb5⟩)
      | (go_at_call 99; (with_reducible refine (HPB.out _).mono ?_); rintro e w6 ⟨h2, rfl, hh2, hl2, hb6⟩)
      | (go_at_call 107; refine (HMX.out g h h2 _ (HB04.out.trans ((((Below.refl _ _).drew.trans hb5).trans (hb6.mono hb5.size)).mono HB04.out.size)) (Nat.le_of_lt (Nat.lt_trans (Nat.lt_trans (Nat.lt_succ_self _) (Nat.lt_succ_self _)) HO.out.1)) (Nat.lt_of_lt_of_le HD4.out.lt hh) (Nat.lt_of_lt_of_le HD4.out.lt (Nat.le_trans hb5.size hh2)) (HD4.out.below (((Below.refl _ _).drew.trans hb5).trans (hb6.mono hb5.size)) HD4.out.lt) (hl.below hb6 hl.lt) hl2).mono ?_; rintro e w7 ⟨rfl, l7, hd7, hc7, hw7⟩))
  all_goals
    have HD7 := Lib.hid hd7
    have HC7 := Lib.hid hc7
    have HW7 := Lib.hid (grown_trans (grown_below (A := w4) (((Below.refl _ _).drew.trans hb5).trans (hb6.mono hb5.size)) (some g)) hw7)
    clear hh hl hb5 hh2 hl2 hb6 hd7 hc7 hw7
    have HXM7 := Lib.hid (HXM4.out.keep (HW7.out.block _ HXM4.out.lt (fun e => by have := HO.out; cases e; omega)))
    have HXR7 := Lib.hid (HXR4.out.keep (HW7.out.block _ HXR4.out.lt (fun e => by have := HO.out; cases e; omega)))
    obtain ⟨k0, k1, k2, kf⟩ := HXM7.out.cells
    obtain ⟨r0, r1, r2, rf⟩ := HXR7.out.cells
    rename_i hHeld
    clear hHeld
    go_wp2
    clear k0 k1 k2 kf r0 r1 r2 rf
    obtain ⟨z0, z1, z2, _⟩ := (HXR7.out.write (x' := .int .i64 R) (y' := .int .i64 Cn) (z' := .slice (some ⟨g, 0, none⟩) m3 m3)).cells
    refine bodyPost_ret (v := .tuple #[.agg #[.int .i64 R, .int .i64 Cn, .slice (some ⟨g, 0, none⟩) m3 m3], .int .i64 0]) (by simp [results, Try.results85, go_sem, z0, z1, z2]) rfl ?_
    clear z0 z1 z2
    refine ⟨g, l7, rfl, by have := HO.out; omega, dat_set3 HD7.out (by have := HO.out; omega), fun i k hi hk => ?_, below_set3 (HB04.out.trans (below_grows HW7.out (by have := HO.out; omega) HB04.out.size)) (by omega)⟩
    have e := HC7.out i k hi hk
    unfold gr at e
    rw [e]
    refine xs_congr N (fun j hj => ?_)
    show mu _ (co (seg lb (j * Cn) Cn) k) = mu _ (co lb (j * Cn + k))
    rw [seg_co _ _ _ _ hk]
end Go.Proofs.Ytjcbcdjfhcnhcaa
namespace Go.Proofs.Ytjcbcdjfhcnhcaa
open Go.RowKit

/-- Two boxes, later on. -/
theorem boxes2 {w w1 : World} {x0 x1 x2 y0 y1 y2 : Value}
    (hb : Below ((w.alloc (.cells #[x0, x1, x2] 137)).alloc (.cells #[y0, y1, y2] 137)).heap.size ((w.alloc (.cells #[x0, x1, x2] 137)).alloc (.cells #[y0, y1, y2] 137)) w1) :
    Bx w1 w.heap.size x0 x1 x2 ∧ Bx w1 (w.heap.size + 1) y0 y1 y2 ∧ Below w.heap.size w w1 :=
  ⟨(hb.block _ (alloc_lt2 _ _ _)).trans (alloc_two w _ _ _), (hb.block (w.heap.size + 1) (alloc_lt3 _ _ _)).trans (alloc_last w _ _ _), (((Below.refl _ w).alloc (Nat.le_refl _) _).alloc (Nat.le_of_lt (alloc_lt _ _)) _).trans (hb.mono (Nat.le_of_lt (alloc_lt2 _ _ _)))⟩
/-- May these rows be picked? -/
def PickM (r c : Int) (n R : Nat) (P : Nat → Int) : Prop := RightM r c n ∧ R ≤ 255 ∧ ∀ i, i < R → 0 ≤ P i ∧ P i < r
/-- A slice that reads as so many numbers, of any sign. -/
def Ints (w : World) (a : Option Addr) (n : Nat) (P : Nat → Int) : Prop := n = 0 ∨ ∃ b off, a = some ⟨b, off, none⟩ ∧ b < w.heap.size ∧ ∀ i, i < n → w.cell? ⟨b, off + i, none⟩ = some (.int .i64 (P i))
theorem Ints.below {w w' : World} {a : Option Addr} {n B : Nat} {P : Nat → Int} (h : Ints w a n P) (hb : Below B w w') (hB : w.heap.size ≤ B) : Ints w' a n P :=
  h.imp id fun ⟨b, off, e, hl, hc⟩ => ⟨b, off, e, Nat.lt_of_lt_of_le hl hb.size, fun i hi => (hb.cell (p := ⟨b, off + i, none⟩) (by show b < B; omega)).trans (hc i hi)⟩
/-- What Pick answers: all, or nothing. -/
def Picked (r c R : Nat) (P : Nat → Int) (l : List Int) (w : World) (e : Ending) (w' : World) : Prop :=
  ((∀ i, i < R → 0 ≤ P i ∧ P i < r) ∧ Handed R c (fun i k => co l ((P i).toNat * c + k)) w e w') ∨ ((¬ ∀ i, i < R → 0 ≤ P i ∧ P i < r) ∧ Refused 50 w e w')
set_option maxRecDepth 100000 in
set_option maxHeartbeats 4000000 in
theorem mpick_any (r c R cap capP : Nat) (hr : r ≤ 255) (hc : c ≤ 255) (hR : R ≤ 255) (a aP : Option Addr) (l : List Int) (P : Nat → Int) (w : World) (ha : Sl w a (r * c) cap l) (hP : Ints w aP R P) :
    Calls Try.prog 83 #[.agg #[.int .i64 r, .int .i64 c, .slice a ((r * c : Nat)) cap], .slice aP R capP] w (Picked r c R P l w) := by
  have hm1 : r * c ≤ 65025 := Nat.mul_le_mul hr hc
  have hm2 : R * c ≤ 65025 := Nat.mul_le_mul hR hc
  have HR := Lib.hid (right_yes r c (r * c) hr hc rfl a cap)
  have HF := Lib.hid (fits_yes R hR)
  have HNW := Lib.hid (new_some R c hR hc)
  have HPM := Lib.hid (fun g => parts_any (some ⟨g, 0, none⟩) (R * c) (R * c) R c (by omega) (Nat.le_refl _) (Nat.le_refl _) (by omega) (fun h => nomatch h))
  have HPA := Lib.hid (parts_any a (r * c) cap r c (by omega) ha.cap (Nat.le_refl _) (by omega) ha.nilc)
  have HHS := Lib.hid (fun i w => has_any r c i (r * c) a cap w)
  have HBA := Lib.hid ha.bytes
  have HPI := Lib.hid hP
  have HLD := Lib.hid (laid_rows R c (R * c) (Nat.le_refl _))
  have HLE := Lib.hid (laid_rows r c (r * c) (Nat.le_refl _))
  unfold Newed at HNW
  unfold Picked Handed
  obtain ⟨m1, hm1e⟩ : ∃ m, r * c = m := ⟨_, rfl⟩
  obtain ⟨m2, hm2e⟩ : ∃ m, R * c = m := ⟨_, rfl⟩
  rw [hm1e] at hm1 HR HPA HHS HBA HLE
  rw [hm2e] at hm2 HNW HPM HLD
  rw [hm1e, hm2e]
  clear hm1e hm2e ha hP
  go_enter Try.func83, Try.ntmps83
  go_wp2_with first
    | (go_at_call 101; refine (HR.out _).mono ?_; rintro e w1 ⟨rfl, hb⟩; obtain ⟨hxa, hxr, hbw⟩ := boxes2 hb; have HXA := Lib.hid hxa; have HXR := Lib.hid hxr; have HB := Lib.hid hbw; clear hb hxa hxr hbw; obtain ⟨k0, k1, k2, kf⟩ := HXA.out.cells)
    | (go_at_call 102; refine (HF.out _).mono ?_; rintro e w2 ⟨rfl, rfl⟩)
    | (go_at_call 98; refine (HNW.out _).mono ?_; rintro e w3 ⟨g, rfl, hg, hr, hb⟩; have HG := Lib.hid hg; have HRO := Lib.hid hr; have HB3 := Lib.hid hb; clear hg hr hb k0 k1 k2 kf)
  have HO : Hid (w.heap.size + 1 < g ∧ g < w3.heap.size) := Lib.hid ⟨Nat.lt_of_lt_of_le HXR.out.lt HG.out, HRO.out.lt⟩
  have HB03 : Hid (Below w.heap.size w w3) := Lib.hid (HB.out.trans (HB3.out.mono HB.out.size))
  have HD3 : Hid (Dat w3 g m2 (List.replicate m2 0)) := Lib.hid (by
    have := HRO.out.dat (by_zero m2)
    rwa [List.length_replicate] at this)
  have HXA4 := Lib.hid (bx_alloc (HXA.out.below HB3.out HXA.out.lt) (.cells #[.int .i64 R, .int .i64 c, .slice (some ⟨g, 0, none⟩) m2 m2] 137))
  have HXR4 := Lib.hid (bx_alloc (HXR.out.below HB3.out HXR.out.lt) (.cells #[.int .i64 R, .int .i64 c, .slice (some ⟨g, 0, none⟩) m2 m2] 137))
  have HXM4 := Lib.hid (alloc_bx w3 (.int .i64 R) (.int .i64 c) (.slice (some ⟨g, 0, none⟩) m2 m2))
  have HD4 := Lib.hid (HD3.out.keep (Below.heap_alloc _ (.cells #[.int .i64 R, .int .i64 c, .slice (some ⟨g, 0, none⟩) m2 m2] 137) _ HD3.out.lt))
  have HB04 := Lib.hid (HB03.out.alloc HB03.out.size (.cells #[.int .i64 R, .int .i64 c, .slice (some ⟨g, 0, none⟩) m2 m2] 137))
  clear HXA HXR HB HB3 HG HRO HD3 HB03 HR HF HNW
  generalize w3.alloc (.cells #[.int .i64 R, .int .i64 c, .slice (some ⟨g, 0, none⟩) m2 m2] 137) = w4 at *
  generalize w3.heap.size = b6 at *
  have HS : Hid (∀ w', Below w4.heap.size w4 w' → Below w4.heap.size w4 w' ∧ w'.cell? ⟨w.heap.size, 0, none⟩ = some (.int .i64 (r : Int)) ∧ w'.cell? ⟨w.heap.size, 1, none⟩ = some (.int .i64 (c : Int)) ∧ w'.cell? ⟨w.heap.size, 2, none⟩ = some (.slice a m1 cap) ∧
      w'.cell? ⟨b6, 0, none⟩ = some (.int .i64 (R : Int)) ∧ w'.cell? ⟨b6, 1, none⟩ = some (.int .i64 (c : Int)) ∧ w'.cell? ⟨b6, 2, none⟩ = some (.slice (some ⟨g, 0, none⟩) m2 m2)) :=
    Lib.hid (fun w' h => ⟨h, (HXA4.out.below h HXA4.out.lt).cells.1, (HXA4.out.below h HXA4.out.lt).cells.2.1, (HXA4.out.below h HXA4.out.lt).cells.2.2.1, (HXM4.out.below h HXM4.out.lt).cells.1, (HXM4.out.below h HXM4.out.lt).cells.2.1, (HXM4.out.below h HXM4.out.lt).cells.2.2.1⟩)
  go_region_held3 (fun w' => Below w4.heap.size w4 w' ∧ w'.cell? ⟨w.heap.size, 0, none⟩ = some (.int .i64 (r : Int)) ∧ w'.cell? ⟨w.heap.size, 1, none⟩ = some (.int .i64 (c : Int)) ∧ w'.cell? ⟨w.heap.size, 2, none⟩ = some (.slice a m1 cap) ∧
      w'.cell? ⟨b6, 0, none⟩ = some (.int .i64 (R : Int)) ∧ w'.cell? ⟨b6, 1, none⟩ = some (.int .i64 (c : Int)) ∧ w'.cell? ⟨b6, 2, none⟩ = some (.slice (some ⟨g, 0, none⟩) m2 m2))
    (first
      | exact HS.out _ (Below.refl _ _)
      | exact HS.out _ (Below.refl _ _).drew
      | exact HS.out _ (((Below.refl _ _).drew.trans hb5).trans (hb6.mono hb5.size))
      | exact HS.out _ ((Below.refl _ _).drew.trans hb5))
    (first
      | (go_at_call 99; (with_reducible refine (HPM.out g _).mono ?_); rintro e w5 ⟨h, rfl, hh, hl, hb5⟩)
      | (go_at_call 99; (with_reducible refine (HPA.out _).mono ?_); rintro e w6 ⟨h2, rfl, hh2, hl2, hb6⟩))
  have HB46 : Hid (Below w4.heap.size w4 w6) := Lib.hid (((Below.refl _ _).drew.trans hb5).trans (hb6.mono hb5.size))
  have HLI : Hid (Lst w6 h R c (fun i => onA (some ⟨g, 0, none⟩) (i * c))) := Lib.hid (hl.below hb6 hl.lt)
  have HLF := Lib.hid hl2
  have HO2 : Hid (g < h ∧ g < h2) := Lib.hid ⟨Nat.lt_of_lt_of_le HD4.out.lt hh, Nat.lt_of_lt_of_le HD4.out.lt (Nat.le_trans hb5.size hh2)⟩
  rename_i hHeld
  clear hHeld hh hl hb5 hh2 hl2 hb6
  have HXA6 := Lib.hid (HXA4.out.below HB46.out HXA4.out.lt)
  have HXR6 := Lib.hid (HXR4.out.below HB46.out HXR4.out.lt)
  have HXM6 := Lib.hid (HXM4.out.below HB46.out HXM4.out.lt)
  have HD6 := Lib.hid (HD4.out.below HB46.out HD4.out.lt)
  have HB06 := Lib.hid (HB04.out.trans (HB46.out.mono HB04.out.size))
  have HBA6 := Lib.hid (HBA.out.below HB06.out (Nat.le_refl _))
  have HPI6 := Lib.hid (HPI.out.below HB06.out (Nat.le_refl _))
  have HAG : Hid (∀ b off, a = some ⟨b, off, none⟩ → 0 < m1 → b ≠ g) := Lib.hid (fun b off e h0 => by
    rcases HBA.out.cell with h1 | ⟨_, b', off', e', hl, _⟩
    · omega
    · rw [e] at e'; cases e'; have := HO.out; omega)
  have HPG : Hid (∀ b off, aP = some ⟨b, off, none⟩ → 0 < R → b < w.heap.size ∧ ∀ i, i < R → w6.cell? ⟨b, off + i, none⟩ = some (.int .i64 (P i))) := Lib.hid (fun b off e h0 => by
    rcases HPI.out with h1 | ⟨b', off', e', hl, _⟩
    · omega
    · rcases HPI6.out with h1 | ⟨b2, off2, e2, _, hc⟩
      · omega
      · rw [e] at e' e2; cases e'; cases e2; exact ⟨hl, hc⟩)
  have hPP : 0 < R → ∃ b off, aP = some ⟨b, off, none⟩ := fun h0 => by
    rcases HPI.out with h1 | ⟨b', off', e', _⟩
    · omega
    · exact ⟨b', off', e'⟩
  have HPP := Lib.hid hPP
  have HG0 := Lib.hid (grown_refl w6 (some g))
  clear hPP HXA4 HXR4 HXM4 HD4 HB04 HB46 HS HPM HPA HBA HPI HPI6
  go_wp2
  go_loopw [10, 11, 36] (fun _ _ i wr => ∃ (j : Nat) (lc : List Int), j ≤ R ∧ i = .int .i64 (j : Nat) ∧ Hid (∀ i, i < j → 0 ≤ P i ∧ P i < r) ∧ Hid (Dat wr g m2 lc) ∧ Hid (∀ i k, i < R → k < c → co lc (i * c + k) = if i < j then co l ((P i).toNat * c + k) else 0) ∧ Hid (w6.grownBy wr (some g))) (fun _ _ i _ => R - (intOf i).toNat)
  case atStart => exact ⟨0, _, by omega, rfl, Lib.hid (fun i h => by omega), HD6, Lib.hid (fun i k _ _ => by rw [co_zero, if_neg (by omega)]), HG0⟩
  case round =>
    obtain ⟨j, lc, hj, rfl, HPj, HDj, HCj, HGj⟩ := hrel
    obtain ⟨wo, ho⟩ : ∃ wo, wo = wr := ⟨_, rfl⟩
    subst ho
    have HXRo := Lib.hid (HXR6.out.keep (HGj.out.block _ HXR6.out.lt (fun e => by have := HO.out; cases e; omega)))
    by_cases hlt : j < R
    · obtain ⟨pb, po, rfl⟩ := HPP.out (by omega)
      obtain ⟨hpl, hpc⟩ := HPG.out pb po rfl (by omega)
      have cp := HGj.out.cell (a := ⟨pb, po + j, none⟩) (hpc j hlt) (fun e => by have := HO.out; have e2 : pb = g := Option.some.inj e; omega)
      have HXAo := Lib.hid (HXA6.out.keep (HGj.out.block _ HXA6.out.lt (fun e => by have := HO.out; cases e; omega)))
      obtain ⟨k0, k1, k2, kf⟩ := HXAo.out.cells
      obtain ⟨p, hp⟩ : ∃ p, p = P j := ⟨_, rfl⟩
      have HPJ := Lib.hid hp
      rw [← hp] at cp
      clear hp hpc
      by_cases hok : 0 ≤ p ∧ p < r
      · have HHS1 := Lib.hid (HHS.out p wo)
        rw [decide_eq_true hok] at HHS1
        obtain ⟨q, rfl⟩ : ∃ q : Nat, p = q := ⟨p.toNat, by omega⟩
        have hqr : q < r := by omega
        go_wp2_with (go_at_call 103; refine HHS1.out.mono ?_; rintro e w7 ⟨rfl, hb7⟩; have HB7 := Lib.hid hb7; clear hb7)
        clear k0 k1 k2 kf
        have HG7 : Hid (w6.grownBy w7 (some g)) := Lib.hid (grown_trans HGj.out (grown_below HB7.out _))
        have ci := (HLI.out.grown HG7.out (fun e => by have := HO2.out; cases e; omega)).cell j hlt
        rw [onA_at, Nat.zero_add] at ci
        have cf := (HLF.out.grown HG7.out (fun e => by have := HO2.out; cases e; omega)).cell q hqr
        have HBY := Lib.hid (fun (h0 : 0 < m1) => (HBA6.out.grown HG7.out (fun b off e e2 => HAG.out b off e h0 (by cases e2; rfl))).part (q * c) c (HLE.out.fit q hqr))
        have HBZ : Hid (Bytes w7 (onA a (q * c)) c (seg l (q * c) c)) := Lib.hid (by
          rcases Nat.eq_zero_or_pos m1 with h0 | h0
          · have hf : q * c + c ≤ m1 := HLE.out.fit q hqr
            have hc0 : c = 0 := by omega
            refine ⟨seg_length _ _ _ (by have := HBA6.out.size; omega), by omega, fun i hi => by omega, .inl hc0⟩
          · exact HBY.out h0)
        have HDD : Hid (Dat w7.drew g m2 lc) := Lib.hid ((HDj.out.below HB7.out HDj.out.lt).keep rfl)
        have HFT : Hid (j * c + c ≤ m2) := Lib.hid (HLD.out.fit j hlt)
        have hj0 : (0 : Int) ≤ j := by omega
        have hj1 : (j : Int) < R := by omega
        have hq0 : (0 : Int) ≤ q := by omega
        have hq1 : (q : Int) < r := by omega
        clear hok cp HBY
        refine wp_region_still_tail 8 (by kernel_rfl) (by kernel_rfl) ?_
        simp only [List.take_succ_cons, List.take_zero, List.drop_succ_cons, List.drop_zero]
        repeat still_step
        refine wpStill_nil ?_
        change wpList _ _ _ _ _ w7.drew
        refine wpList_copy_dat (w := w7.drew) rfl (.tmp 49) (.tmp 53) rfl _ _ _ _ _ _ rfl rfl g (j * c) m2 lc HDD.out _ HBZ.out.drew rfl (fun _ => rfl) HFT.out ?_
        intro w8 hd8 hw8
        have HD8 := Lib.hid hd8
        have HG8 := Lib.hid (grown_trans HG7.out (grown_from_drew hw8))
        clear hd8 hw8 ci cf
        go_wp2
        go_roundw
        case rel =>
          refine ⟨j + 1, _, by omega, by go_num, Lib.hid (fun i hi => ?_), HD8, Lib.hid (fun i k hi hk => ?_), HG8⟩
          · rcases Nat.lt_or_ge i j with h1 | h1
            · exact HPj.out i h1
            · have : i = j := by omega
              rw [this, ← HPJ.out]; omega
          · have hl0 := HDj.out.size
            have hs0 : (seg l (q * c) c).length = c := seg_length _ _ _ (by have h5 : q * c + c ≤ m1 := HLE.out.fit q hqr; have := HBA6.out.size; omega)
            have hf0 := HFT.out
            rw [splice_co _ _ _ _ (by omega), hs0]
            by_cases e : i = j
            · rw [e, if_pos (by omega), if_pos (show j < j + 1 by omega), seg_co _ _ _ _ (by omega), ← HPJ.out, Int.toNat_natCast, show q * c + (j * c + k - j * c) = q * c + k by omega]
            · have hap : i * c + c ≤ j * c ∨ j * c + c ≤ i * c := HLD.out.apart i j hi hlt e
              rw [if_neg (by omega), HCj.out i k hi hk]
              by_cases g1 : i < j
              · rw [if_pos g1, if_pos (show i < j + 1 by omega)]
              · rw [if_neg g1, if_neg (show ¬ i < j + 1 by omega)]
        case measure => simp [intOf]; omega
      · have HHS1 := Lib.hid (HHS.out p wo)
        rw [decide_eq_false hok] at HHS1
        go_wp2_with (go_at_call 103; refine HHS1.out.mono ?_; rintro e w7 ⟨rfl, hb7⟩; have HB7 := Lib.hid hb7; clear hb7 k0 k1 k2 kf; obtain ⟨r0, r1, r2, rf⟩ := (HXRo.out.below HB7.out HXRo.out.lt).cells)
        clear r0 r1 r2 rf
        obtain ⟨z0, z1, z2, _⟩ := ((HXRo.out.below HB7.out HXRo.out.lt).write (x' := .int .i64 0) (y' := .int .i64 0) (z' := .slice none 0 0)).cells
        refine bodyPost_ret (v := .tuple #[.agg #[.int .i64 0, .int .i64 0, .slice none 0 0], .int .i64 50]) (by simp [results, Try.results83, go_sem, z0, z1, z2]) rfl ?_
        clear z0 z1 z2
        have hb9 : Below w.heap.size w w7 := by
          have h1 := HB06.out.trans (below_grows HGj.out (by have := HO.out; omega) HB06.out.size)
          exact h1.trans (HB7.out.mono h1.size)
        exact .inr ⟨fun h => hok (by rw [HPJ.out]; exact h j hlt), rfl, below_set3 hb9 (by omega)⟩
    · obtain rfl : j = R := by omega
      obtain ⟨k0, k1, k2, kf⟩ := (HXM6.out.keep (HGj.out.block b6 HXM6.out.lt (fun e => by have := HO.out; cases e; omega))).cells
      obtain ⟨r0, r1, r2, rf⟩ := HXRo.out.cells
      go_wp2
      clear k0 k1 k2 kf r0 r1 r2 rf
      obtain ⟨z0, z1, z2, _⟩ := (HXRo.out.write (x' := .int .i64 j) (y' := .int .i64 c) (z' := .slice (some ⟨g, 0, none⟩) m2 m2)).cells
      refine bodyPost_ret (v := .tuple #[.agg #[.int .i64 j, .int .i64 c, .slice (some ⟨g, 0, none⟩) m2 m2], .int .i64 0]) (by simp [results, Try.results83, go_sem, z0, z1, z2]) rfl ?_
      clear z0 z1 z2
      exact .inl ⟨HPj.out, g, lc, rfl, by have := HO.out; omega, dat_set3 HDj.out (by have := HO.out; omega), fun i k hi hk => by rw [HCj.out i k hi hk, if_pos hi], below_set3 (HB06.out.trans (below_grows HGj.out (by have := HO.out; omega) HB06.out.size)) (by omega)⟩
end Go.Proofs.Ytjcbcdjfhcnhcaa
