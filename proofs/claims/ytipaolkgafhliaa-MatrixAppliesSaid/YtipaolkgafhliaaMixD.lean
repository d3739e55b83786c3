/-
  Own text: Mix into a part of a block of the call's own, walked: all other blocks are as they were.
-/
import Derived.Test.YtipaolkgafhliaaDat
namespace Go.Proofs.Ytipaolkgafhliaa
open Go.RowKit

/-- From a place on, so many places take what another list has. -/
def mixO (l : List Int) (off : Nat) (s : List Int) (k : Nat) : List Int := l.mapIdx (fun i z => if off ≤ i ∧ i < off + k then ((z.toNat ^^^ (s.getD (i - off) 0).toNat : Nat) : Int) else z)
theorem mixO_length (l : List Int) (off : Nat) (s : List Int) (k : Nat) : (mixO l off s k).length = l.length := by simp [mixO]
theorem mixO_get (l : List Int) (off : Nat) (s : List Int) (k i : Nat) (h : i < l.length) : (mixO l off s k).getD i 0 = if off ≤ i ∧ i < off + k then (((l.getD i 0).toNat ^^^ (s.getD (i - off) 0).toNat : Nat) : Int) else l.getD i 0 := by
  unfold mixO
  simp [List.getD_eq_getElem?_getD, List.getElem?_eq_getElem h]
theorem mixO_zero (l : List Int) (off : Nat) (s : List Int) : mixO l off s 0 = l := by
  refine same_getD (mixO_length _ _ _ _) (fun i hi => ?_)
  rw [mixO_get _ _ _ _ _ (by rwa [mixO_length] at hi), if_neg (by omega)]
theorem mixO_step (l : List Int) (off : Nat) (s : List Int) (k : Nat) (h : off + k < l.length) : (mixO l off s k).set (off + k) (((l.getD (off + k) 0).toNat ^^^ (s.getD k 0).toNat : Nat) : Int) = mixO l off s (k + 1) := by
  refine same_getD (by rw [List.length_set, mixO_length, mixO_length]) (fun i hi => ?_)
  rw [List.length_set, mixO_length] at hi
  rw [set_get _ _ _ _ (by rw [mixO_length]; exact hi), mixO_get _ _ _ _ _ hi, mixO_get _ _ _ _ _ hi]
  by_cases e : i = off + k
  · subst e; rw [if_pos rfl, if_pos (by omega), show off + k - off = k by omega]
  · rw [if_neg e]
    by_cases g : off ≤ i ∧ i < off + k
    · rw [if_pos g, if_pos (by omega)]
    · rw [if_neg g, if_neg (by omega)]
theorem mixO_same (a off : Nat) (l x : List Int) (K : Nat) (hK : K = min (l.length - off) x.length) : mixO l off (sc a (x.take K)) K = mixO l off (sc a x) x.length := by
  refine same_getD (by rw [mixO_length, mixO_length]) (fun i hi => ?_)
  rw [mixO_length] at hi
  rw [mixO_get _ _ _ _ _ hi, mixO_get _ _ _ _ _ hi]
  by_cases g : off ≤ i ∧ i < off + K
  · rw [if_pos g, if_pos (by omega), sc_get _ _ _ (by rw [List.length_take]; omega), sc_get _ _ _ (by omega)]
    have : i - off < K := by omega
    simp [List.getD_eq_getElem?_getD, this]
  · rw [if_neg g, if_neg (by omega)]
theorem mixO_by {l s : List Int} (off k : Nat) (hl : By l) (hs : By s) : By (mixO l off s k) := by
  intro z hz
  obtain ⟨i, hi, rfl⟩ := List.mem_iff_getElem.1 hz
  have hi' : i < l.length := by rwa [mixO_length] at hi
  have e := mixO_get l off s k i hi'
  rw [List.getD_eq_getElem?_getD, List.getElem?_eq_getElem hi] at e
  have e' : (mixO l off s k)[i] = if off ≤ i ∧ i < off + k then (((l.getD i 0).toNat ^^^ (s.getD (i - off) 0).toNat : Nat) : Int) else l.getD i 0 := e
  have h1 := hl.at_ i
  have h2 := hs.at_ (i - off)
  rw [e']
  split
  · have := Nat.xor_lt_two_pow (n := 8) (show (l.getD i 0).toNat < 2 ^ 8 by omega) (show (s.getD (i - off) 0).toNat < 2 ^ 8 by omega)
    omega
  · exact h1
theorem mixO_co (l : List Int) (off : Nat) (s : List Int) (k i : Nat) (h : i < l.length) : co (mixO l off s k) i = if off ≤ i ∧ i < off + k then co l i ^^^ co s (i - off) else co l i := by
  unfold co
  rw [mixO_get _ _ _ _ _ h]
  split
  · rw [Int.toNat_natCast]
  · rfl
theorem row8_far {w : World} {b : Nat} {t : TypeId} {Z : List Int} (h : Row8 w b t Z) {p : Addr} (hp : b ≠ p.block) (u : Value) : Row8 (w.setCell p u) b t Z := (Below.heap_setCell w p u b hp).trans h
/-- What Mix leaves. -/
def MixedD (g n : Nat) (L : List Int) (w : World) (e : Ending) (w' : World) : Prop :=
  e = .returned (.tuple #[]) ∧ Dat w' g n L ∧ w.grownBy w' (some g)
set_option maxRecDepth 100000 in
set_option maxHeartbeats 1000000 in
theorem mixd_any (t a g off n m C' : Nat) (A : Option Addr) (l : List Int) (x : Option Addr) (cap : Nat) (X : List Int) (w : World) (ha : a < 256) (ht : IsTab w t) (ho : Dat w g n l)
    (hx : Bytes w x m X) (hmc : m ≤ cap) (hn : n ≤ 1000000) (hm5 : m ≤ 100000) (hoff : off + m ≤ n) (hA : 0 < m → A = some ⟨g, off, none⟩) :
    Calls Try.prog 52 #[.pointer (some ⟨t, 0, none⟩), .slice A m C', .int .u8 a, .slice x m cap] w (MixedD g n (mixO l off (sc a X) m) w) := by
  have HF := Lib.hid hx
  have HT := Lib.hid ht
  have HG := Lib.hid ho.lt
  have HO0 := Lib.hid ho
  have HSZ := Lib.hid ho.size
  have HFZ := Lib.hid hx.size
  have HR := Lib.hid (show By (sc a X) from sc_range a ha X hx.range)
  have HL := Lib.hid ho.by_
  have HZ := Lib.hid (sc_length a X)
  have HKK := Lib.hid hm5
  have HAA := Lib.hid hA
  clear hx ht ho hA
  go_enter Try.func52, Try.ntmps52
  go_wp2_with (go_at_call 57; refine (scale_any t a x _ _ _ _ ha HT.out HF.out HKK.out).mono ?_; rintro e w1 ⟨g0, rfl, hg0, hr0, hb1⟩; have HG0 := Lib.hid hg0; have HR0 := Lib.hid hr0; have HB1 := Lib.hid hb1; clear hg0 hr0 hb1)
  have HS0 : Hid (Dat w1 g n (mixO l off (sc a X) 0)) := Lib.hid (by rw [mixO_zero]; exact HO0.out.below HB1.out HG.out)
  have HW1 : Hid (w.grownBy w1 (some g)) := Lib.hid (grown_below HB1.out _)
  have HZ2 : Hid ((sc a X).length = m) := Lib.hid (HZ.out.trans HFZ.out)
  clear HB1
  generalize sc a X = s at *
  go_loopw [8, 9, 21] (fun _ _ i wr => ∃ k : Nat, k ≤ m ∧ i = .int .i64 k ∧ Hid (Dat wr g n (mixO l off s k)) ∧ Hid (Row8 wr g0 5 s) ∧ Hid (w.grownBy wr (some g))) (fun _ _ i _ => m - (intOf i).toNat)
  case atStart => exact ⟨0, by omega, rfl, HS0, HR0, HW1⟩
  case round =>
    obtain ⟨k, hk, rfl, HO, HR1, HB⟩ := hrel
    obtain ⟨wo, ho⟩ : ∃ wo, wo = wr := ⟨_, rfl⟩
    subst ho
    by_cases hlt : k < m
    · obtain rfl := HAA.out (by omega)
      have hne : g0 ≠ g := by have := HG0.out; have := HG.out; omega
      have c0 := HO.out.cell (off + k) (by omega)
      have f0 := HO.out.frozen (off + k)
      rw [mixO_co _ _ _ _ _ (by rw [HSZ.out]; omega), if_neg (by omega)] at c0
      have c1 := HR1.out.cell k (by rw [HZ2.out]; exact hlt)
      have HSS := Lib.hid (mixO_step l off s k (by rw [HSZ.out]; omega))
      rw [HR.out.get k] at c1
      rw [HL.out.get (off + k), HR.out.get k] at HSS
      have l1 := HL.out.lt (off + k)
      have l2 := HR.out.lt k
      have HNE := Lib.hid hne
      clear hne
      generalize co l (off + k) = u at *
      generalize co s k = v at *
      have bx := bits_u8 u v (by omega) (by omega)
      have HXL := Lib.hid (xor_lt l1 l2)
      have k0 : (0 : Int) ≤ k := by omega
      have k1 : (k : Int) < m := by omega
      go_wp2
      go_roundw
      case rel =>
        refine ⟨k + 1, by omega, by go_num, ?_, Lib.hid (row8_far HR1.out (p := ⟨g, off + k, none⟩) HNE.out _), Lib.hid (grown_trans HB.out (grown_set _ _ _ _))⟩
        have h := HO.out.set (off + k) (u ^^^ v) HXL.out
        have e := HSS.out
        rw [Int.toNat_natCast, Int.toNat_natCast] at e
        rw [e] at h
        exact Lib.hid h
      case measure => simp [intOf] <;> omega
    · obtain rfl : k = m := by omega
      go_wp2
      go_end0
      exact ⟨rfl, HO.out, HB.out⟩
end Go.Proofs.Ytipaolkgafhliaa
