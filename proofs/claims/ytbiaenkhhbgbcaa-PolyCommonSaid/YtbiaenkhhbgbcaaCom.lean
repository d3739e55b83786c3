/-
  Own text: Common, walked.
-/
import Derived.Test.YtbiaenkhhbgbcaaComM
import Derived.Test.YtbiaenkhhbgbcaaDivN
namespace Go.Proofs.Ytbiaenkhhbgbcaa
open Go.RowKit

/-- How long a slice is. -/
def lenOf : Value → Nat
  | .slice _ n _ => n
  | _ => 0
/-- What Common leaves. -/
def Comm (x y : List Int) (w : World) (e : Ending) (w' : World) : Prop := ∃ A n C d, e = .returned (.slice A n C) ∧ Sl w' A n C d ∧ ComOK x y d ∧ d.length = n ∧ n ≤ 10000 ∧ Below w.heap.size w w'
set_option maxRecDepth 100000 in
set_option maxHeartbeats 2000000 in
theorem common_any (t : Nat) (a b : Option Addr) (n m c d : Nat) (x y : List Int) (w : World) (ht : IsTab w t) (hx : Sl w a n c x) (hy : Sl w b m d y) (hn : n ≤ 10000) (hm : m ≤ 10000) :
    Calls Try.prog 26 #[.pointer (some ⟨t, 0, none⟩), .slice a n c, .slice b m d] w (Comm x y w) := by
  have HE0 := Lib.hid (eu_zero (x := x) (y := y) hx.bytes.range hy.bytes.range)
  have HT := Lib.hid ht
  have HLT := Lib.hid ht.lt
  have C1 := Lib.hid (cutn_any a n c x w hx)
  have HY := Lib.hid hy
  have C2 := Lib.hid (fun w h => cutn_any b m d y w h)
  have q1 := dn_le x
  have q2 := dn_le y
  rw [hx.bytes.size] at q1
  rw [hy.bytes.size] at q2
  clear ht hx hy
  generalize dn x = p at *
  generalize dn y = q at *
  go_enter Try.func26, Try.ntmps26
  go_wp2_with (first
    | (go_at_call 28; (with_reducible refine C1.out.mono ?_); rintro e w1 ⟨A1, D1, rfl, h1, h2⟩; have H1 := Lib.hid h1; have H2 := Lib.hid h2; have HY1 := Lib.hid (HY.out.below h2 (Nat.le_refl _)); clear h1 h2)
    | (go_at_call 28; (with_reducible refine (C2.out _ HY1.out).mono ?_); rintro e w2 ⟨A2, D2, rfl, h3, h4⟩; have H3 := Lib.hid h3; have H4 := Lib.hid h4; have HX2 := Lib.hid (H1.out.below h4 (Nat.le_refl _)); clear h3 h4))
  have HB2 : Hid (Below w.heap.size w w2) := Lib.hid (H2.out.trans (H4.out.mono H2.out.size))
  go_loopw [1, 2] (fun u v wr => ∃ (n1 c1 m1 d1 : Nat) (A B : Option Addr) (P Q : List Int), n1 ≤ 10000 ∧ m1 ≤ 10000 ∧ u = .slice A n1 c1 ∧ v = .slice B m1 d1 ∧ Hid (Sl wr A n1 c1 P) ∧ Hid (Sl wr B m1 d1 Q) ∧ Hid (Eu x y P Q) ∧ Hid (Below w.heap.size w wr)) (fun _ v _ => lenOf v)
  case atStart => exact ⟨_, _, _, _, _, _, _, _, by omega, by omega, rfl, rfl, HX2, H3, HE0, HB2⟩
  case round =>
    obtain ⟨n1, c1, m1, d1, A, B, P, Q, ln, lm, rfl, rfl, HP, HQ, HE, HB⟩ := hrel
    obtain ⟨wo, ho⟩ : ∃ wo, wo = wr := ⟨_, rfl⟩
    subst ho
    have sq := HQ.out.bytes.size
    have sp := HP.out.bytes.size
    by_cases h0 : m1 = 0
    · obtain rfl : Q = [] := List.eq_nil_of_length_eq_zero (by omega)
      clear sq
      by_cases h1 : n1 = 0
      · obtain rfl : P = [] := List.eq_nil_of_length_eq_zero (by omega)
        clear sp
        subst h0 h1
        go_wp2
        go_ret
        exact ⟨_, _, _, _, rfl, Sl.nil _, eu_null HE.out, rfl, Nat.zero_le _, HB.out⟩
      · have HC := Lib.hid (eu_end HE.out (by omega))
        have hl := HE.out.aneat.last HE.out.aby (by omega)
        have hb := HE.out.aby.lt (P.length - 1)
        rw [sp] at hl hb HC
        obtain ⟨k, hk⟩ : ∃ k, n1 - 1 = k := ⟨_, rfl⟩
        rw [hk] at hl hb HC
        have kk : (n1 : Int) - 1 = (k : Int) := by omega
        have k0 : (0 : Int) ≤ k := by omega
        have k1 : (k : Int) < n1 := by omega
        obtain ⟨b', off', rfl, ck⟩ : ∃ b off, A = some ⟨b, off, none⟩ ∧ wo.cell? ⟨b, off + k, none⟩ = some (.int .u8 (P.getD k 0)) := by
          rcases HP.out.bytes.cell with h | ⟨_, b, off, e, _, h⟩
          · omega
          · exact ⟨b, off, e, h k (by omega)⟩
        rw [HE.out.aby.get k] at ck
        have HT1 := Lib.hid (HT.out.below HB.out HLT.out)
        have hne : ((n1 : Int) == 0) = false := by rw [beq_eq_false_iff_ne]; omega
        generalize co P k = u at *
        have CI := Lib.hid (inv_some t u hb hl wo HT1.out)
        have CS := Lib.hid (scale_any t (gi u) (some ⟨b', off', none⟩) n1 c1 P wo (gi_lt u) HT1.out HP.out.bytes (by omega))
        have HSP := Lib.hid sp
        subst h0
        clear hl hk sp
        go_wp2_with (first
          | (go_at_call 34; refine CI.out.mono ?_; rintro e w3 ⟨rfl, rfl⟩)
          | (go_at_call 36; refine CS.out.mono ?_; rintro e w4 ⟨g, rfl, hg, hr0, hb0⟩; have HR0 := Lib.hid hr0; have HB0 := Lib.hid hb0; clear hg hr0 hb0))
        go_ret
        exact ⟨_, _, _, _, rfl, (Own8.row HR0.out (Nat.zero_le _) (by rw [sc_length]; exact HSP.out) (by unfold maxLen; omega)).sl HC.out.dby, HC.out, by rw [sc_length]; exact HSP.out, ln, HB.out.trans (HB0.out.mono HB.out.size)⟩
    · have hdq : dn Q = m1 := by rw [HE.out.bneat]; exact sq
      have CD := Lib.hid (divide_some t A B n1 m1 c1 d1 P Q wo (HT.out.below HB.out HLT.out) HP.out HQ.out ln lm (by omega))
      have m0 : (0 : Int) < m1 := by omega
      clear sq sp
      go_wp2_with (go_at_call 24; refine CD.out.mono ?_; rintro e w3 ⟨A3, k3, C3, A4, k4, C4, q3, r3, rfl, h3, h4, h5, h6⟩; have H3a := Lib.hid h3; have H4a := Lib.hid h4; have H5a := Lib.hid h5; have H6a := Lib.hid h6; clear h3 h4 h5 h6)
      have hk4 : k4 < m1 := by
        have := H5a.out.rlen
        rw [H4a.out.bytes.size, hdq] at this
        exact this
      go_roundw
      case rel => exact ⟨m1, d1, k4, C4, B, A4, Q, r3, lm, by omega, rfl, rfl, Lib.hid (HQ.out.below H6a.out (Nat.le_refl _)), H4a, Lib.hid (HE.out.step H5a.out), Lib.hid (HB.out.trans (H6a.out.mono HB.out.size))⟩
      case measure => simp [lenOf]; omega
end Go.Proofs.Ytbiaenkhhbgbcaa
