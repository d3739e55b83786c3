/-
  Own text: mix, Mul of package matrix: walked.
-/
import Derived.Test.YtipaolkgafhliaaInvert
import Derived.Test.YtipaolkgafhliaaAwakeM
namespace Go.Proofs.Ytipaolkgafhliaa
open Go.RowKit

/-- Lists of bytes, equally long, that a list of slices holds. -/
structure Src (w : World) (v : Value) (cnt len : Nat) (X : Nat → List Int) : Prop where
  rows : ∃ (a : Option Addr) (cap : Nat) (A : Nat → Option Addr) (C : Nat → Nat), v = .slice a cnt cap ∧ cnt ≤ cap ∧ ∀ k, k < cnt → ∃ b off, a = some ⟨b, off, none⟩ ∧ w.cell? ⟨b, off + k, none⟩ = some (.slice (A k) len (C k)) ∧ len ≤ C k ∧ Bytes w (A k) len (X k)
/-- What has been added so far: j rows whole, and of the next one q summands. -/
def mixE (M : Nat → Nat → Nat) (X : Nat → List Int) (N j q : Nat) (i c : Nat) : Nat :=
  if i < j then xs (fun k => mu (M i k) (co (X k) c)) N else if i = j then xs (fun k => mu (M i k) (co (X k) c)) q else 0
theorem mixE_row (M : Nat → Nat → Nat) (X : Nat → List Int) (N j i c : Nat) : mixE M X N j N i c = mixE M X N (j + 1) 0 i c := by
  unfold mixE
  by_cases h : i < j
  · rw [if_pos h, if_pos (by omega)]
  · rw [if_neg h]
    by_cases e : i = j
    · rw [if_pos e, if_pos (by omega)]
    · rw [if_neg e, if_neg (by omega)]
      by_cases e2 : i = j + 1
      · rw [if_pos e2]; rfl
      · rw [if_neg e2]
/-- What mix leaves. -/
def MixedM (g R len n : Nat) (O : Nat → Nat) (E : Nat → Nat → Nat) (w : World) (e : Ending) (w' : World) : Prop :=
  e = .returned (.tuple #[]) ∧ ∃ l, Dat w' g n l ∧ (∀ i c, i < R → c < len → gr O l i c = E i c) ∧ w.grownBy w' (some g)
theorem mix_plain {R len n j q N : Nat} {O : Nat → Nat} {lc : List Int} {M : Nat → Nat → Nat} {X : Nat → List Int} (hO : Laid R len n O) (hl : lc.length = n) (hj : j < R) (hM : M j q < 256) (hX : By (X q)) (hXl : (X q).length = len)
    (h : ∀ i c, i < R → c < len → gr O lc i c = mixE M X N j q i c) :
    ∀ i c, i < R → c < len → gr O (mixO lc (O j) (sc (M j q) (X q)) len) i c = mixE M X N j (q + 1) i c := by
  intro i c hi hc
  have fi := hO.fit i hi
  have fj := hO.fit j hj
  have h0 := h i c hi hc
  unfold gr at h0 ⊢
  rw [mixO_co _ _ _ _ _ (by omega), h0]
  unfold mixE
  by_cases e : i = j
  · subst e
    rw [if_pos (by omega), if_neg (by omega), if_pos rfl, if_neg (by omega), if_pos rfl, show O i + c - O i = c by omega, co_sc _ hM hX _ (by omega)]
    rfl
  · rw [if_neg (by have := hO.apart i j hi hj e; omega)]
    by_cases g : i < j
    · rw [if_pos g, if_pos g]
    · rw [if_neg g, if_neg e, if_neg g, if_neg e]
set_option maxRecDepth 100000 in
set_option maxHeartbeats 4000000 in
theorem mix_rows (t h g R N len n capA capI : Nat) (aA : Option Addr) (la : List Int) (v : Value) (X : Nat → List Int) (O : Nat → Nat) (l : List Int) (w : World) (hR : R ≤ 255) (hN : N ≤ 255) (hlen : len ≤ 100000) (hn : n ≤ 1000000) (hRI : R ≤ capI)
    (ha : Sl w aA (R * N) capA la) (hS : ∀ w', w.grownBy w' (some g) → Src w' v N len X) (hL : Lst w h R len (fun i => some ⟨g, O i, none⟩)) (hD : Dat w g n l) (hO : Laid R len n O) (hz : ∀ i c, i < R → c < len → gr O l i c = 0) (ht : IsTab w t) (htg : t ≠ g) (hgh : h ≠ g)
    (hag : ∀ b off, aA = some ⟨b, off, none⟩ → 0 < R * N → b ≠ g) :
    Calls Try.prog 43 #[.pointer (some ⟨t, 0, none⟩), .slice (some ⟨h, 0, none⟩) R capI, .agg #[.int .i64 R, .int .i64 N, .slice aA ((R * N : Nat)) capA], v] w (MixedM g R len n O (fun i c => xs (fun k => mu (co la (i * N + k)) (co (X k) c)) N) w) := by
  have hm : R * N ≤ 65025 := Nat.mul_le_mul hR hN
  have HP := Lib.hid (parts_any aA (R * N) capA R N (by omega) ha.cap (Nat.le_refl _) (by omega) ha.nilc)
  have HA0 := Lib.hid ha.bytes
  have HS0 := Lib.hid hS
  have HL0 := Lib.hid hL
  have HD0 := Lib.hid hD
  have HOO := Lib.hid hO
  have HT0 := Lib.hid ht
  have HNE := Lib.hid (⟨htg, hgh⟩ : t ≠ g ∧ h ≠ g)
  have HAG := Lib.hid hag
  have HSZ : Hid (g < w.heap.size ∧ h < w.heap.size) := Lib.hid ⟨hD.lt, hL.lt⟩
  have HX : Hid (∀ k, k < N → By (X k) ∧ (X k).length = len) := Lib.hid (fun k hk => by
    obtain ⟨_, _, _, _, _, _, hc⟩ := (hS w (grown_refl w _)).rows
    obtain ⟨_, _, _, _, _, hb⟩ := hc k hk
    exact ⟨hb.by_, hb.size⟩)
  obtain ⟨a, cap, A, C, rfl, hcap, _⟩ : ∃ (a : Option Addr) (cap : Nat) (A : Nat → Option Addr) (C : Nat → Nat), v = .slice a N cap ∧ N ≤ cap ∧ True := by
    obtain ⟨a, cap, A, C, e, h1, _⟩ := (hS w (grown_refl w _)).rows
    exact ⟨a, cap, A, C, e, h1, trivial⟩
  have HMX : Hid (∀ i c, i < R → c < len → gr O l i c = mixE (fun i k => co la (i * N + k)) X N 0 0 i c) := Lib.hid (fun i c hi hc => by
    rw [hz i c hi hc]
    unfold mixE
    rw [if_neg (by omega)]
    split <;> rfl)
  obtain ⟨m, hmm⟩ : ∃ m, R * N = m := ⟨_, rfl⟩
  have HMM := Lib.hid hmm
  rw [hmm] at hm HP HA0 HAG ⊢
  clear hmm ha hS hL hD hO hz ht htg hgh hag
  go_enter Try.func43, Try.ntmps43
  go_wp2_with (go_at_call 39; refine (HP.out _).mono ?_; rintro e w1 ⟨hp, rfl, hh, hl, hb⟩; have HH := Lib.hid hh; have HLP := Lib.hid hl; have HB := Lib.hid (later1 hb); clear hh hl hb)
  have HG1 : Hid (w.grownBy w1 (some g)) := Lib.hid (grown_below HB.out _)
  have HD1 := Lib.hid (HD0.out.below HB.out HSZ.out.1)
  have HHP : Hid (hp ≠ g) := Lib.hid (by have := HH.out; have := HSZ.out.1; have := alloc_lt w (.cells #[.int .i64 R, .int .i64 N, .slice aA m capA] 24); omega)
  have HGR0 := Lib.hid (grown_refl w1 (some g))
  go_loopw [8, 9, 10, 11, 15] (fun _ _ _ _ i wr => ∃ (j : Nat) (lc : List Int), j ≤ R ∧ i = .int .i64 (j : Nat) ∧ Hid (Dat wr g n lc) ∧ Hid (∀ i c, i < R → c < len → gr O lc i c = mixE (fun i k => co la (i * N + k)) X N j 0 i c) ∧ Hid (w1.grownBy wr (some g))) (fun _ _ _ _ i _ => R - (intOf i).toNat)
  case atStart => exact ⟨0, l, by omega, rfl, HD1, HMX, HGR0⟩
  case round =>
    obtain ⟨j, lc, hj, rfl, HDj, HCj, HGj⟩ := hrel
    obtain ⟨wo, ho⟩ : ∃ wo, wo = wr := ⟨_, rfl⟩
    subst ho
    by_cases hlt : j < R
    · have cr := (HLP.out.grown HGj.out (fun e => HHP.out (by cases e; rfl))).cell j hlt
      go_wp2
      clear cr
      go_loopw [10, 11, 22] (fun _ _ i wr => ∃ (q : Nat) (lc : List Int), q ≤ N ∧ i = .int .i64 (q : Nat) ∧ Hid (Dat wr g n lc) ∧ Hid (∀ i c, i < R → c < len → gr O lc i c = mixE (fun i k => co la (i * N + k)) X N j q i c) ∧ Hid (w1.grownBy wr (some g))) (fun _ _ i _ => N - (intOf i).toNat)
      case atStart => exact ⟨0, lc, by omega, rfl, HDj, HCj, HGj⟩
      case round =>
        clear HDj HCj HGj lc
        obtain ⟨q, lc, hq, rfl, HDj, HCj, HGj⟩ := hrel
        obtain ⟨wi, hi⟩ : ∃ wi, wi = wr := ⟨_, rfl⟩
        subst hi
        by_cases hlq : q < N
        · have HGw := Lib.hid (grown_trans HG1.out HGj.out)
          have hm0 : 0 < m := by have := spot_lt hlt hlq; rw [HMM.out] at this; omega
          have HBA := Lib.hid ((HA0.out.grown HGw.out (fun b off e e2 => HAG.out b off e hm0 (by cases e2; rfl))).part (j * N) N (by have := spot_lt hlt (show N - 1 < N by omega); rw [HMM.out] at this; omega))
          have hav : ∃ b off, onA aA (j * N) = some ⟨b, off, none⟩ ∧ wi.cell? ⟨b, off + q, none⟩ = some (.int .u8 (co la (j * N + q) : Int)) := by
            rcases HBA.out.cell with h0 | ⟨_, b, off, e, _, hc⟩
            · omega
            · have := hc q hlq
              rw [HBA.out.by_.get, seg_co _ _ _ _ hlq] at this
              exact ⟨b, off, e, this⟩
          obtain ⟨ba, oa, hae, hac⟩ := hav
          have ci := (HL0.out.grown HGw.out (fun e => HNE.out.2 (by cases e; rfl))).cell j hlt
          obtain ⟨a', cap', A', C', e', _, hsrc⟩ := (HS0.out wi HGw.out).rows
          obtain ⟨bl, ol, hal, hlc, hC, hBX⟩ := hsrc q hlq
          cases e'
          have HXq := HX.out q hlq
          have HPL := Lib.hid (mix_plain (M := fun i k => co la (i * N + k)) HOO.out HDj.out.size hlt (HA0.out.by_.lt _) HXq.1 HXq.2 HCj.out)
          have lv := HA0.out.by_.lt (j * N + q)
          generalize hv : co la (j * N + q) = v at *
          have HMD := Lib.hid (mixd_any t v g (O j) n len len (some ⟨g, O j, none⟩) lc (A' q) (C' q) (X q) wi.drew lv ((HT0.out.grown HGw.out (fun e => HNE.out.1 (by cases e; rfl))).keep rfl) (HDj.out.keep rfl) hBX.drew hC hn hlen (HOO.out.fit j hlt) (fun _ => rfl))
          rw [hae]
          rw [hal]
          clear hsrc HXq hBX hal hae HBA hv
          go_wp2
          refine wp_region_still_tail 10 (by kernel_rfl) (by kernel_rfl) ?_
          simp only [List.take_succ_cons, List.take_zero, List.drop_succ_cons, List.drop_zero]
          repeat still_step
          refine wpStill_nil ?_
          change wpList _ _ _ _ _ wi.drew
          go_wp2_with (go_at_call 52; refine HMD.out.mono ?_; rintro e w4 ⟨rfl, hd4, hw4⟩; have HD4 := Lib.hid hd4; have HW4 := Lib.hid hw4; clear hd4 hw4)
          refine ⟨⟨q + 1, _, by omega, by go_num, HD4, Lib.hid ?_, Lib.hid (grown_trans HGj.out (grown_from_drew HW4.out))⟩, by simp [intOf]; omega⟩
          exact HPL.out
        · obtain rfl : q = N := by omega
          go_wp2
          go_roundw
          case rel => exact ⟨j + 1, lc, by omega, by go_num, HDj, Lib.hid (fun i c hi hc => by rw [HCj.out i c hi hc]; exact mixE_row _ _ _ _ _ _), HGj⟩
          case measure => simp [intOf]; omega
    · obtain rfl : j = R := by omega
      go_wp2
      go_end0
      refine ⟨rfl, lc, HDj.out, fun i c hi hc => ?_, grown_trans HG1.out HGj.out⟩
      rw [HCj.out i c hi hc]
      unfold mixE
      rw [if_pos hi]
theorem src_parts {w : World} {g h N len : Nat} {a : Option Addr} {l : List Int} (hL : Lst w h N len (fun k => onA a (k * len))) (hB : Bytes w a (N * len) l) (hne : h ≠ g) (hag : ∀ b off, a = some ⟨b, off, none⟩ → 0 < N * len → b ≠ g) :
    ∀ w', w.grownBy w' (some g) → Src w' (.slice (some ⟨h, 0, none⟩) N N) N len (fun k => seg l (k * len) len) := fun w' hw => by
  have hL' := hL.grown hw (fun e => hne (by cases e; rfl))
  refine ⟨some ⟨h, 0, none⟩, N, fun k => onA a (k * len), fun _ => len, rfl, Nat.le_refl _, fun k hk => ⟨h, 0, rfl, by rw [Nat.zero_add]; exact hL'.cell k hk, Nat.le_refl _, ?_⟩⟩
  have hp := hB.part (k * len) len ((laid_rows N len _ (Nat.le_refl _)).fit k hk)
  refine ⟨hp.size, hp.max, hp.byte, hp.cell.imp id ?_⟩
  rintro ⟨h0, b, off, e, hl, hc⟩
  have hbg : b ≠ g := by
    cases a with
    | none => simp [onA] at e
    | some x =>
      rcases hB.cell with h1 | ⟨h1, b', off', e', _, _⟩
      · have := Nat.mul_pos (show 0 < N by omega) h0; omega
      · have e2 : x = ⟨b', off', none⟩ := by simpa using e'
        rw [e2, onA_at] at e
        cases e
        exact hag _ _ (congrArg some e2) h1
  exact ⟨h0, b, off, e, Nat.lt_of_lt_of_le hl hw.size, fun i hi => (hw.cell (a := ⟨b, off + i, none⟩) (hc i hi) (fun e => hbg (by cases e; rfl)))⟩
end Go.Proofs.Ytipaolkgafhliaa
