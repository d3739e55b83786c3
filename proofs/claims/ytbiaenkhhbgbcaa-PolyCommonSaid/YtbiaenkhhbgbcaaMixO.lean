/-
  Own text: Mix into a part of a row of the call's own, walked: all other blocks are as they were.
-/
import Derived.Test.YtbiaenkhhbgbcaaAdd
namespace Go.Proofs.Ytbiaenkhhbgbcaa
open Go.RowKit

theorem grown_refl (w : World) (row : Option Nat) : w.grownBy w row := ⟨rfl, rfl, rfl, Nat.le_refl _, fun _ _ _ => rfl⟩
theorem grown_trans {A B C : World} {row : Option Nat} (h : A.grownBy B row) (k : B.grownBy C row) : A.grownBy C row :=
  ⟨k.os.trans h.os, k.tape.trans h.tape, k.output.trans h.output, Nat.le_trans h.size k.size, fun i hi hr => (k.block i (Nat.lt_of_lt_of_le hi h.size) hr).trans (h.block i hi hr)⟩
theorem grown_below {A B : World} (h : Below A.heap.size A B) (row : Option Nat) : A.grownBy B row := ⟨h.os, h.tape, h.output, h.size, fun i hi _ => h.block i hi⟩
theorem grown_set (W : World) (b o : Nat) (v : Value) : W.grownBy (W.setCell ⟨b, o, none⟩ v) (some b) :=
  ⟨rfl, rfl, rfl, (KeepsWalks.setCell W _ v).size, fun k _ hk => Below.heap_setCell _ _ _ k (fun e => hk (by rw [e]))⟩
theorem grown_drew {A B : World} {row : Option Nat} (h : A.grownBy B row) (n : Nat) : A.grownBy (B.drewN n) row := ⟨h.os, h.tape, h.output, h.size, h.block⟩
theorem below_grows {A B : World} {g base : Nat} (h : A.grownBy B (some g)) (h1 : base ≤ g) (h2 : base ≤ A.heap.size) : Below base A B :=
  below_grown (Below.refl base A) h h2 (fun k e => by cases e; exact h1)
/-- From a place on, so many places take what another list has. -/
def mixO (l : List Int) (off : Nat) (s : List Int) (k : Nat) : List Int := l.mapIdx (fun i z => if off ≤ i ∧ i < off + k then ((z.toNat ^^^ (s.getD (i - off) 0).toNat : Nat) : Int) else z)
theorem mixO_length (l : List Int) (off : Nat) (s : List Int) (k : Nat) : (mixO l off s k).length = l.length := by simp [mixO]
theorem mixO_get (l : List Int) (off : Nat) (s : List Int) (k i : Nat) (h : i < l.length) : (mixO l off s k).getD i 0 = if off ≤ i ∧ i < off + k then (((l.getD i 0).toNat ^^^ (s.getD (i - off) 0).toNat : Nat) : Int) else l.getD i 0 := by
  unfold mixO
  simp [List.getD_eq_getElem?_getD, List.getElem?_eq_getElem h]
theorem mixO_zero (l : List Int) (off : Nat) (s : List Int) : mixO l off s 0 = l := by
  refine same_getD (mixO_length _ _ _ _) (fun i hi => ?_)
  rw [mixO_get _ _ _ _ _ (by rwa [mixO_length] at hi), if_neg (by omega)]
theorem mixO_step (l : List Int) (off : Nat) (s : List Int) (k : Nat) (h : off + k < l.length) : (mixO l off s k).set (off + k) (((l.getD (off + k) 0).toNat ^^^ (s.getD k 0).toNat : Nat) : Int) = mixO l off s (k + 1) := by
  refine same_getD (by rw [List.length_set, mixO_length, mixO_length]) (fun i hi => ?_)
  rw [List.length_set, mixO_length] at hi
  rw [set_get _ _ _ _ (by rw [mixO_length]; exact hi), mixO_get _ _ _ _ _ hi, mixO_get _ _ _ _ _ hi]
  by_cases e : i = off + k
  · subst e; rw [if_pos rfl, if_pos (by omega), show off + k - off = k by omega]
  · rw [if_neg e]
    by_cases g : off ≤ i ∧ i < off + k
    · rw [if_pos g, if_pos (by omega)]
    · rw [if_neg g, if_neg (by omega)]
theorem mixO_same (a off : Nat) (l x : List Int) (K : Nat) (hK : K = min (l.length - off) x.length) : mixO l off (sc a (x.take K)) K = mixO l off (sc a x) x.length := by
  refine same_getD (by rw [mixO_length, mixO_length]) (fun i hi => ?_)
  rw [mixO_length] at hi
  rw [mixO_get _ _ _ _ _ hi, mixO_get _ _ _ _ _ hi]
  by_cases g : off ≤ i ∧ i < off + K
  · rw [if_pos g, if_pos (by omega), sc_get _ _ _ (by rw [List.length_take]; omega), sc_get _ _ _ (by omega)]
    have : i - off < K := by omega
    simp [List.getD_eq_getElem?_getD, this]
  · rw [if_neg g, if_neg (by omega)]
theorem mixO_by {l s : List Int} (off k : Nat) (hl : By l) (hs : By s) : By (mixO l off s k) := by
  intro z hz
  obtain ⟨i, hi, rfl⟩ := List.mem_iff_getElem.1 hz
  have hi' : i < l.length := by rwa [mixO_length] at hi
  have e := mixO_get l off s k i hi'
  rw [List.getD_eq_getElem?_getD, List.getElem?_eq_getElem hi] at e
  have e' : (mixO l off s k)[i] = if off ≤ i ∧ i < off + k then (((l.getD i 0).toNat ^^^ (s.getD (i - off) 0).toNat : Nat) : Int) else l.getD i 0 := e
  have h1 := hl.at_ i
  have h2 := hs.at_ (i - off)
  rw [e']
  split
  · have := Nat.xor_lt_two_pow (n := 8) (show (l.getD i 0).toNat < 2 ^ 8 by omega) (show (s.getD (i - off) 0).toNat < 2 ^ 8 by omega)
    omega
  · exact h1
theorem mixO_co (l : List Int) (off : Nat) (s : List Int) (k i : Nat) (h : i < l.length) : co (mixO l off s k) i = if off ≤ i ∧ i < off + k then co l i ^^^ co s (i - off) else co l i := by
  unfold co
  rw [mixO_get _ _ _ _ _ h]
  split
  · rw [Int.toNat_natCast]
  · rfl
theorem row8_far {w : World} {b : Nat} {t : TypeId} {Z : List Int} (h : Row8 w b t Z) {p : Addr} (hp : b ≠ p.block) (u : Value) : Row8 (w.setCell p u) b t Z := (Below.heap_setCell w p u b hp).trans h
/-- What Mix leaves. -/
def MixedO (base g n C : Nat) (L : List Int) (w : World) (e : Ending) (w' : World) : Prop :=
  e = .returned (.tuple #[]) ∧ Own8 w' base (.slice (some ⟨g, 0, none⟩) n C) n L ∧ w.grownBy w' (some g)
set_option maxRecDepth 100000 in
set_option maxHeartbeats 1000000 in
theorem mixo_core (t a g off n n' C C' : Nat) (l : List Int) (x : Option Addr) (m cap : Nat) (X : List Int) (w : World) (base K : Nat) (ha : a < 256) (ht : IsTab w t) (ho : Own8 w base (.slice (some ⟨g, 0, none⟩) n C) n l)
    (hx : Bytes w x m X) (_ : m ≤ 100000) (hmc : m ≤ cap) (hn : n ≤ 100000) (hoff : off + n' = n) (h0 : 0 < n') (hl : By l) (hK : (K = n' ∧ n' ≤ m) ∨ (K = m ∧ ¬ n' ≤ m)) :
    Calls Try.prog 31 #[.pointer (some ⟨t, 0, none⟩), .slice (some ⟨g, off, none⟩) n' C', .int .u8 a, .slice x m cap] w (MixedO base g n C (mixO l off (sc a (X.take K)) K) w) := by
  have hKm : K ≤ m := by omega
  have hKn : K ≤ n' := by omega
  have hF := hx.front (n := K) hKm
  have HF := Lib.hid hF
  have HT := Lib.hid ht
  have hg : g < w.heap.size := by
    obtain ⟨g2, e, _, h, _⟩ := ho.at_ (by omega)
    obtain rfl : g = g2 := by simpa using e
    exact h
  have HG := Lib.hid hg
  have HO0 := Lib.hid ho
  have HSZ := Lib.hid ho.length
  have HFZ := Lib.hid hF.size
  have HR := Lib.hid (show By (sc a (X.take K)) from sc_range a ha (X.take K) hF.range)
  have HL := Lib.hid hl
  have HZ := Lib.hid (sc_length a (X.take K))
  have HKK := Lib.hid (show K ≤ 100000 by omega)
  clear hx ht ho hl hF hg
  rcases hK with ⟨rfl, g0⟩ | ⟨rfl, g0⟩
  all_goals
    go_enter Try.func31, Try.ntmps31
    go_wp2_with (go_at_call 36; refine (scale_any t a x _ _ _ _ ha HT.out HF.out HKK.out).mono ?_; rintro e w1 ⟨g0, rfl, hg0, hr0, hb1⟩; have HG0 := Lib.hid hg0; have HR0 := Lib.hid hr0; have HB1 := Lib.hid hb1; clear hg0 hr0 hb1)
    have HS0 : Hid (Own8 w1 base (.slice (some ⟨g, 0, none⟩) n C) n (mixO l off (sc a (X.take K)) 0)) := Lib.hid (by rw [mixO_zero]; exact HO0.out.below HB1.out (Nat.le_refl _))
    have HW1 : Hid (w.grownBy w1 (some g)) := Lib.hid (grown_below HB1.out _)
    have HZ2 : Hid ((sc a (X.take K)).length = K) := Lib.hid (HZ.out.trans HFZ.out)
    clear HB1
    generalize sc a (X.take K) = s at *
    go_loopw [8, 9, 21] (fun _ _ i wr => ∃ k : Nat, k ≤ K ∧ i = .int .i64 k ∧ Hid (Own8 wr base (.slice (some ⟨g, 0, none⟩) n C) n (mixO l off s k)) ∧ Hid (Row8 wr g0 5 s) ∧ Hid (w.grownBy wr (some g))) (fun _ _ i _ => K - (intOf i).toNat)
    case atStart => exact ⟨0, by omega, rfl, HS0, HR0, HW1⟩
    case round =>
      obtain ⟨k, hk, rfl, HO, HR1, HB⟩ := hrel
      obtain ⟨wo, ho⟩ : ∃ wo, wo = wr := ⟨_, rfl⟩
      subst ho
      by_cases hlt : k < K
      · obtain ⟨b2, e2, _, _, hc, hf, hst⟩ := HO.out.at_ (by omega)
        obtain rfl : g = b2 := by simpa using e2
        have hne : g0 ≠ g := by have := HG0.out; have := HG.out; omega
        have c0 := hc (off + k) (by omega)
        have f0 := hf (off + k)
        have HST := Lib.hid (hst (off + k))
        rw [mixO_get _ _ _ _ _ (by rw [HSZ.out]; omega), if_neg (by omega)] at c0
        have c1 := HR1.out.cell k (by rw [HZ2.out]; exact hlt)
        have HSS := Lib.hid (mixO_step l off s k (by rw [HSZ.out]; omega))
        rw [HL.out.get (off + k)] at c0
        rw [HR.out.get k] at c1
        rw [HL.out.get (off + k), HR.out.get k] at HSS
        have l1 := HL.out.lt (off + k)
        have l2 := HR.out.lt k
        have HNE := Lib.hid hne
        clear hc hf hst e2 hne
        generalize co l (off + k) = u at *
        generalize co s k = v at *
        have bx := bits_u8 u v (by omega) (by omega)
        have k0 : (0 : Int) ≤ k := by omega
        have k1 : (k : Int) < K := by omega
        try have k2 : (k : Int) < n' := by omega
        go_wp2
        go_roundw
        case rel =>
          refine ⟨k + 1, by omega, by go_num, ?_, Lib.hid (row8_far HR1.out (p := ⟨g, off + k, none⟩) HNE.out _), Lib.hid (grown_trans HB.out (grown_set _ _ _ _))⟩
          have h := HST.out ((u ^^^ v : Nat) : Int)
          have e := HSS.out
          rw [Int.toNat_natCast, Int.toNat_natCast] at e
          rw [e] at h
          exact Lib.hid h
        case measure => simp [intOf] <;> omega
      · obtain rfl : k = K := by omega
        go_wp2
        go_end0
        exact ⟨rfl, HO.out, HB.out⟩
theorem mixo_any (t a g off n n' C C' : Nat) (l : List Int) (x : Option Addr) (m cap : Nat) (X : List Int) (w : World) (base : Nat) (ha : a < 256) (ht : IsTab w t) (ho : Own8 w base (.slice (some ⟨g, 0, none⟩) n C) n l)
    (hx : Bytes w x m X) (hm : m ≤ 100000) (hmc : m ≤ cap) (hn : n ≤ 100000) (hoff : off + n' = n) (h0 : 0 < n') (hl : By l) :
    Calls Try.prog 31 #[.pointer (some ⟨t, 0, none⟩), .slice (some ⟨g, off, none⟩) n' C', .int .u8 a, .slice x m cap] w (MixedO base g n C (mixO l off (sc a X) m) w) := by
  have e := mixO_same a off l X (min n' m) (by rw [ho.length, hx.size]; congr 1; omega)
  rw [hx.size] at e
  rw [← e]
  exact mixo_core t a g off n n' C C' l x m cap X w base (min n' m) ha ht ho hx hm hmc hn hoff h0 hl (by omega)
end Go.Proofs.Ytbiaenkhhbgbcaa
