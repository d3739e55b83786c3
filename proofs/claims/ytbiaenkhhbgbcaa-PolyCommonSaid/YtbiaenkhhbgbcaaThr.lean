/-
  Own text: Through, walked.
-/
import Derived.Test.YtbiaenkhhbgbcaaThrM
namespace Go.Proofs.Ytbiaenkhhbgbcaa
open Go.RowKit

/-- Points that came in. -/
structure Pts (w : World) (a : Option Addr) (n : Nat) (X Y : Nat → Nat) : Prop where
  max : n ≤ 4611686018427387903
  x : ∀ i, i < n → X i < 256
  y : ∀ i, i < n → Y i < 256
  cell : n = 0 ∨ ∃ b off, a = some ⟨b, off, none⟩ ∧ b < w.heap.size ∧ ∀ i, i < n → w.cell? ⟨b, off + i * 2, none⟩ = some (.int .u8 (X i)) ∧ w.cell? ⟨b, off + i * 2 + 1, none⟩ = some (.int .u8 (Y i))
theorem Pts.below {w w' : World} {a : Option Addr} {n : Nat} {X Y : Nat → Nat} (h : Pts w a n X Y) {B : Nat} (hb : Below B w w') (hB : w.heap.size ≤ B) : Pts w' a n X Y :=
  ⟨h.max, h.x, h.y, h.cell.imp id fun ⟨b, off, e, hl, hc⟩ => ⟨b, off, e, Nat.lt_of_lt_of_le hl hb.size, fun i hi => ⟨(hb.cell (p := ⟨b, off + i * 2, none⟩) (by show b < B; omega)).trans (hc i hi).1, (hb.cell (p := ⟨b, off + i * 2 + 1, none⟩) (by show b < B; omega)).trans (hc i hi).2⟩⟩⟩
/-- What Through leaves. -/
def Went (n : Nat) (X Y : Nat → Nat) (w : World) (e : Ending) (w' : World) : Prop :=
  Below w.heap.size w w' ∧ (((∃ i j, i < j ∧ j < n ∧ X i = X j) ∧ e = .returned (.tuple #[.slice none 0 0, .int .i64 40])) ∨
    (∃ A m C P Q, Thr X Y n P Q ∧ e = .returned (.tuple #[.slice A m C, .int .i64 0]) ∧ Sl w' A m C P))
theorem one_sl (w : World) : Sl (w.alloc (.cells #[.int .u8 1] 5)) (some ⟨w.heap.size, 0, none⟩) 1 1 [1] :=
  ⟨one_block w 1 (by omega), Nat.le_refl _, by omega, fun h => nomatch h⟩
theorem two_sl (w : World) (x : Nat) (hx : x < 256) : Sl (w.alloc (.cells #[.int .u8 (x : Int), .int .u8 1] 5)) (some ⟨w.heap.size, 0, none⟩) 2 2 [(x : Int), 1] :=
  ⟨new_block w #[.int .u8 (x : Int), .int .u8 1] 5 (0, 0) _ rfl [(x : Int), 1] rfl (by simp) (two_by hx) 2 rfl, Nat.le_refl _, by omega, fun h => nomatch h⟩
set_option maxRecDepth 100000 in
set_option maxHeartbeats 2000000 in
theorem through_any (t : Nat) (a : Option Addr) (n c : Nat) (X Y : Nat → Nat) (w : World) (ht : IsTab w t) (hp : Pts w a n X Y) (hn : n ≤ 100) :
    Calls Try.prog 25 #[.pointer (some ⟨t, 0, none⟩), .slice a n c] w (Went n X Y w) := by
  have HT := Lib.hid ht
  have HLT := Lib.hid ht.lt
  have HP := Lib.hid hp
  have H1 := Lib.hid (one_sl w)
  have HB0 : Hid (Below w.heap.size w (w.alloc (.cells #[.int .u8 1] 5))) := Lib.hid ((Below.refl _ _).alloc (Nat.le_refl _) _)
  have HN := Lib.hid (Sl.nil (w.alloc (.cells #[.int .u8 1] 5)))
  have HZ := Lib.hid (thr_zero X Y)
  clear ht hp
  go_enter Try.func25, Try.ntmps25
  go_wp2
  go_loopw [6, 7, 16] (fun p q i wr => ∃ (k m C r D : Nat) (A B : Option Addr) (P Q : List Int), k ≤ n ∧ i = .int .i64 k ∧ p = .slice A m C ∧ q = .slice B r D ∧ Hid (Sl wr A m C P) ∧ Hid (Sl wr B r D Q) ∧ Hid (Thr X Y k P Q) ∧ Hid (Below w.heap.size w wr)) (fun _ _ i _ => n - (intOf i).toNat)
  case atStart => exact ⟨0, _, _, _, _, _, _, _, _, by omega, rfl, rfl, rfl, HN, H1, HZ, HB0⟩
  case round =>
    obtain ⟨k, m, C, r, D, A, B, P, Q, hk, rfl, rfl, rfl, HSP, HSQ, HTH, HB⟩ := hrel
    obtain ⟨wo, ho⟩ : ∃ wo, wo = wr := ⟨_, rfl⟩
    subst ho
    by_cases hlt : k < n
    · obtain ⟨b, off, rfl, c1, c2⟩ : ∃ b off, a = some ⟨b, off, none⟩ ∧ wo.cell? ⟨b, off + k * 2, none⟩ = some (.int .u8 (X k)) ∧ wo.cell? ⟨b, off + k * 2 + 1, none⟩ = some (.int .u8 (Y k)) := by
        rcases (HP.out.below HB.out (Nat.le_refl _)).cell with h | ⟨b, off, e, _, h⟩
        · omega
        · exact ⟨b, off, e, h k hlt⟩
      have lx := HP.out.x k hlt
      have ly := HP.out.y k hlt
      have k0 : (0 : Int) ≤ k := by omega
      have k1 : (k : Int) < n := by omega
      have hm : m ≤ 1000 := by have := HTH.out.plen; have := HSP.out.bytes.size; omega
      have hr : r ≤ 1000 := by have := HTH.out.qlen; have := HSQ.out.bytes.size; omega
      have lp := evL_lt (x := X k) HTH.out.pby
      have lq := evL_lt (x := X k) HTH.out.qby
      have HST := Lib.hid (fun h1 h2 h3 => HTH.out.step h1 h2 h3)
      have HNO := Lib.hid ((HTH.out.nought (X k) lx).1)
      have HXA := Lib.hid (fun i (h : i < k + 1) => HP.out.x i (by omega))
      go_upto_region 6 with fail
      obtain ⟨W, hW⟩ : ∃ W, W = wo.alloc (.cells #[.int .u8 (X k), .int .u8 (Y k)] 43) := ⟨_, rfl⟩
      have hnew := Go.Deep.blk_alloc_new wo (.cells #[.int .u8 (X k), .int .u8 (Y k)] 43)
      have cx : W.cell? ⟨wo.heap.size, 0, none⟩ = some (.int .u8 (X k)) := by rw [hW]; simp only [World.cell?]; rw [hnew]; rfl
      have cy : W.cell? ⟨wo.heap.size, 1, none⟩ = some (.int .u8 (Y k)) := by rw [hW]; simp only [World.cell?]; rw [hnew]; rfl
      have hzW : W.heap.size = wo.heap.size + 1 := by rw [hW]; simp
      have hbW : Below wo.heap.size wo W := by rw [hW]; exact (Below.refl _ _).alloc (Nat.le_refl _) _
      rw [← hW]
      have HFA : Hid (∀ w', Below W.heap.size W w' → IsTab w' t ∧ Sl w' A m C P ∧ Sl w' B r D Q ∧ Below w.heap.size w w') := Lib.hid (fun w' h => by
        have h2 : Below wo.heap.size wo w' := hbW.trans (h.mono (by omega))
        exact ⟨(HT.out.below HB.out HLT.out).below h2 (Nat.lt_of_lt_of_le HLT.out HB.out.size), HSP.out.below h2 (Nat.le_refl _), HSQ.out.below h2 (Nat.le_refl _), HB.out.trans (h2.mono HB.out.size)⟩)
      have hlW : wo.heap.size < W.heap.size := by omega
      obtain ⟨R, hR⟩ : ∃ R, R = wo.heap.size := ⟨_, rfl⟩
      rw [← hR] at cx cy hlW
      rw [← hR]
      clear hW hzW hbW c1 c2 hR HB HSP HSQ hnew
      have CE := Lib.hid (eval_any t A m C P (X k) lx W.drew (HFA.out W.drew (Below.refl _ _).drew).1 (HFA.out W.drew (Below.refl _ _).drew).2.1.bytes)
      have CQ := Lib.hid (fun w' h => eval_any t B r D Q (X k) lx w' (HFA.out w' h).1 (HFA.out w' h).2.2.1.bytes)
      generalize hx : X k = x at *
      generalize hy : Y k = y at *
      generalize hep : evL x P = ep at *
      generalize heq : evL x Q = eq at *
      have CA := Lib.hid (fun w => add_block [(y : Int), (ep : Int)] #[.int .u8 (y : Int), .int .u8 (ep : Int)] rfl (fun z hz => by simp at hz; omega) 2 rfl (by omega) (y ^^^ ep) (by simp [xorL]) w 2)
      have HX := Lib.hid hx
      have HY := Lib.hid hy
      have HEP := Lib.hid hep
      have HEQ := Lib.hid heq
      have ls := xor_lt ly lp
      clear hx hy hep heq
      obtain ⟨s, hs⟩ : ∃ s, y ^^^ ep = s := ⟨_, rfl⟩
      rw [hs] at CA ls
      have HS := Lib.hid hs
      clear hs
      go_region_held3 (fun w' => Below W.heap.size W w' ∧ w'.cell? ⟨R, 0, none⟩ = some (.int .u8 x) ∧ w'.cell? ⟨R, 1, none⟩ = some (.int .u8 y))
        (first
          | exact ⟨Below.refl _ _, cx, cy⟩
          | exact ⟨(Below.refl _ _).drew, cx, cy⟩
          | exact ⟨(Below.refl _ _).drew.trans hb1, (hb1.cell (p := ⟨R, 0, none⟩) hlW).trans cx, (hb1.cell (p := ⟨R, 1, none⟩) hlW).trans cy⟩
          | exact ⟨((Below.refl _ _).drew.trans hb1).alloc hb1.size _, ((hb1.alloc hb1.size _).cell (p := ⟨R, 0, none⟩) hlW).trans cx, ((hb1.alloc hb1.size _).cell (p := ⟨R, 1, none⟩) hlW).trans cy⟩)
        (first
          | (go_at_call 21; refine CE.out.mono ?_; rintro e w1 ⟨rfl, hb1⟩)
          | (go_at_call 30; refine (CA.out _).mono ?_; rintro e w2 ⟨rfl, rfl⟩))
      rename_i hHeld
      obtain ⟨hb2, cx2, _⟩ := hHeld
      generalize w1.alloc (.cells #[.int .u8 (y : Int), .int .u8 (ep : Int)] 5) = W2 at *
      have CQ2 := Lib.hid (CQ.out W2 hb2)
      have HB2 := Lib.hid hb2
      have cxA : Hid (∀ w', Below W.heap.size W w' → w'.cell? ⟨R, 0, none⟩ = some (.int .u8 x)) := Lib.hid (fun w' h => (h.cell (p := ⟨R, 0, none⟩) hlW).trans cx)
      clear CQ hb2 hb1 CE CA cx cy
      by_cases he : eq = 0
      · have HE := Lib.hid he
        rw [he] at CQ2
        rw [show ((0 : Nat) : Int) = 0 from rfl] at CQ2
        clear he lq
        go_wp2_with (first
          | (go_at_call 21; refine CQ2.out.mono ?_; rintro e w3 ⟨rfl, hb3⟩; have HB3 := Lib.hid (HB2.out.trans (hb3.mono HB2.out.size)); clear hb3)
          | (go_at_call 35; refine (div_none t s _).mono ?_; rintro e w4 ⟨rfl, rfl⟩))
        go_ret2
        obtain ⟨i, h1, h2⟩ := HNO.out HE.out
        exact ⟨(HFA.out _ HB3.out).2.2.2, .inl ⟨⟨i, k, h1, hlt, by rw [HX.out, h2]⟩, rfl⟩⟩
      · have lc : gm s (gi eq) < 256 := gm_lt ls (gi_lt eq)
        have HTW := Lib.hid (fun h => HST.out HXA.out h he)
        rw [HS.out] at HTW
        generalize hc : gm s (gi eq) = cc at *
        have HC := Lib.hid hc
        have HSL := Lib.hid (sc_length cc Q)
        have HSZ := Lib.hid ((HFA.out W (Below.refl _ _)).2.2.1.bytes.size)
        have HBY := Lib.hid (sc_by lc HTH.out.qby)
        have HE := Lib.hid he
        clear hc he
        go_wp2_with (first
          | (go_at_call 21; refine CQ2.out.mono ?_; rintro e w3 ⟨rfl, hb3⟩; have HB3 := Lib.hid (HB2.out.trans (hb3.mono HB2.out.size)); clear hb3)
          | (go_at_call 35; refine (div_some t s eq ls lq HE.out w3 (HFA.out _ HB3.out).1).mono ?_; rw [HC.out]; rintro e w4 ⟨rfl, q4, rfl⟩; have HB4 := Lib.hid (below_drewN HB3.out q4))
          | (go_at_call 36; refine (scale_any t cc B r D Q _ lc (HFA.out _ HB4.out).1 (HFA.out _ HB4.out).2.2.1.bytes (by omega)).mono ?_; rintro e w5 ⟨g, rfl, _, hr0, hb5⟩; have HB5 := Lib.hid (HB4.out.trans (hb5.mono HB4.out.size)); have HS5 := Lib.hid ((Own8.row hr0 (Nat.zero_le _) (HSL.out.trans HSZ.out) (by unfold maxLen; omega)).sl HBY.out); clear hr0 hb5)
          | (go_at_call 14; refine (padd_any A _ m r C r P (sc cc Q) w5 (HFA.out _ HB5.out).2.1 HS5.out (by omega) (by omega)).mono ?_; rintro e w6 ⟨A6, m6, C6, rfl, hs6, hb6⟩; have HS6 := Lib.hid hs6; have HB6 := Lib.hid (HB5.out.trans (hb6.mono HB5.out.size)); have cx6 := cxA.out w6 HB6.out; clear hs6 hb6)
          | (go_at_call 16; refine (pmul_any t B _ r 2 D 2 Q [(x : Int), 1] _ (HFA.out _ (HB6.out.alloc HB6.out.size _)).1 (HFA.out _ (HB6.out.alloc HB6.out.size _)).2.2.1 (two_sl w6 x lx) (by omega) (by omega)).mono ?_; rintro e w7 ⟨A7, r7, C7, rfl, hs7, hb7⟩; have HS7 := Lib.hid hs7; have HB7 := Lib.hid hb7; clear hs7 hb7))
        go_roundw
        case rel =>
          have h67 : Below w6.heap.size w6 w7 := ((Below.refl w6.heap.size w6).alloc (Nat.le_refl _) _).trans (HB7.out.mono (by simp))
          exact ⟨k + 1, m6, C6, r7, C7, A6, A7, addL P (sc cc Q), mulL Q [(x : Int), 1], by omega, by go_num, rfl, rfl, Lib.hid (HS6.out.below h67 (Nat.le_refl _)), HS7, Lib.hid (HTW.out ly), Lib.hid (HFA.out _ (HB6.out.trans (h67.mono HB6.out.size))).2.2.2⟩
        case measure => simp [intOf] <;> omega
    · obtain rfl : k = n := by omega
      go_wp2
      go_ret2
      exact ⟨HB.out, .inr ⟨A, m, C, P, Q, HTH.out, rfl, HSP.out⟩⟩
end Go.Proofs.Ytbiaenkhhbgbcaa
