/-
  Own text: Mix, walked.
-/
import Derived.Test.YtcdikbnbkaahjaaGfR3
namespace Go.Proofs.Ytcdikbnbkaahjaa
open Go.RowKit

theorem Row8.far {w : World} {b : Nat} {t : TypeId} {Z : List Int} (h : Row8 w b t Z) {p : Addr} (hp : b ≠ p.block) (u : Value) : Row8 (w.setCell p u) b t Z := (Below.heap_setCell w p u b hp).trans h
theorem Own8.place {w : World} {base : Nat} {A : Option Addr} {n C : Nat} {l : List Int} (h : Own8 w base (.slice A n C) n l) (hn : 0 < n) : ∃ g, A = some ⟨g, 0, none⟩ ∧ base ≤ g ∧ g < w.heap.size := by
  obtain ⟨g, h1, h2, h3, _⟩ := h.at_ hn
  exact ⟨g, h1, h2, h3⟩
/-- What Mix leaves. -/
def Mixed (base : Nat) (A : Option Addr) (n C : Nat) (L : List Int) (w : World) (e : Ending) (w' : World) : Prop :=
  e = .returned (.tuple #[]) ∧ Own8 w' base (.slice A n C) n L ∧ Below base w w'
set_option maxRecDepth 100000 in
theorem mix_le (t a : Nat) (A : Option Addr) (n C : Nat) (l : List Int) (x : Option Addr) (m cap : Nat) (X : List Int) (w : World) (base : Nat) (ha : a < 256) (ht : IsTab w t) (ho : Own8 w base (.slice A n C) n l)
    (hb : base ≤ w.heap.size) (hx : Bytes w x m X) (hm : m ≤ 100000) (hmc : m ≤ cap) (hn : n ≤ 100000) (hl : ∀ z ∈ l, 0 ≤ z ∧ z ≤ 255) (g : n ≤ m) :
    Calls Try.prog 22 #[.pointer (some ⟨t, 0, none⟩), .slice A n C, .int .u8 a, .slice x m cap] w (Mixed base A n C (mixL l (sc a (X.take n)) n) w) := by
  have hF := hx.front (n := n) (by omega)
  have HF := Lib.hid hF
  have HT := Lib.hid ht
  have HLT := Lib.hid ht.lt
  have HA := Lib.hid (fun (h : 0 < n) => ho.place h)
  have HO0 := Lib.hid ho
  have HSZ := Lib.hid ho.length
  have HFZ := Lib.hid hF.size
  have HR := Lib.hid (sc_range a ha (X.take n) hF.range)
  have HL := Lib.hid hl
  have HBB := Lib.hid hb
  have HZ := Lib.hid (sc_length a (X.take n))
  clear hx ht ho hl hF hb
  go_enter Try.func22, Try.ntmps22
  go_wp2_with (go_at_call 21; refine (scale_any t a x n _ (X.take n) _ ha HT.out HF.out (by omega)).mono ?_; rintro e w1 ⟨g0, rfl, hg0, hr0, hb1⟩; have HG0 := Lib.hid hg0; have HR0 := Lib.hid hr0; have HB1 := Lib.hid hb1; clear hg0 hr0 hb1)
  have HS0 : Hid (Own8 w1 base (.slice A n C) n (mixL l (sc a (X.take n)) 0)) := Lib.hid (by rw [mixL_zero]; exact HO0.out.below HB1.out (Nat.le_refl _))
  have HW1 : Hid (Below base w w1) := Lib.hid (HB1.out.mono HBB.out)
  have HZ2 : Hid ((sc a (X.take n)).length = n) := Lib.hid (HZ.out.trans HFZ.out)
  generalize sc a (X.take n) = s at *
  go_loopw [8, 9, 21] (fun _ _ i wr => ∃ k : Nat, k ≤ n ∧ i = .int .i64 k ∧ Hid (Own8 wr base (.slice A n C) n (mixL l s k)) ∧ Hid (Row8 wr g0 5 s) ∧ Hid (Below base w wr)) (fun _ _ i _ => n - (intOf i).toNat)
  case atStart => exact ⟨0, by omega, rfl, HS0, HR0, HW1⟩
  case round =>
    obtain ⟨k, hk, rfl, HO, HR1, HB⟩ := hrel
    obtain ⟨wo, ho⟩ : ∃ wo, wo = wr := ⟨_, rfl⟩
    subst ho
    by_cases hlt : k < n
    · have kn : k < n := by omega
      obtain ⟨b, rfl, hb0, hb1⟩ := HA.out (by omega)
      obtain ⟨b2, e2, _, _, hc, hf, hst⟩ := HO.out.at_ (by omega)
      obtain rfl : b = b2 := by simpa using e2
      have hne : g0 ≠ b := by have := HG0.out; omega
      have c0 := hc k kn
      have f0 := hf k
      have HST := Lib.hid (hst k)
      rw [mixL_get _ _ _ _ (by rw [HSZ.out]; exact kn), if_neg (by omega)] at c0
      have c1 := HR1.out.cell k (by rw [HZ2.out]; exact hlt)
      have HSS := Lib.hid (mixL_step l s k (by rw [HSZ.out]; exact kn))
      have r0 : 0 ≤ l.getD k 0 ∧ l.getD k 0 ≤ 255 := by
        rw [List.getD_eq_getElem?_getD, List.getElem?_eq_getElem (by rw [HSZ.out]; exact kn)]; exact HL.out _ (List.getElem_mem _)
      have r1 : 0 ≤ s.getD k 0 ∧ s.getD k 0 ≤ 255 := by
        rw [List.getD_eq_getElem?_getD, List.getElem?_eq_getElem (by rw [HZ2.out]; exact hlt)]; exact HR.out _ (List.getElem_mem _)
      have HNE := Lib.hid hne
      clear hc hf hst e2 hne hb0 hb1
      generalize l.getD k 0 = u0 at *
      generalize s.getD k 0 = v0 at *
      obtain ⟨u, rfl⟩ : ∃ u : Nat, u0 = u := ⟨u0.toNat, by omega⟩
      obtain ⟨v, rfl⟩ : ∃ u : Nat, v0 = u := ⟨v0.toNat, by omega⟩
      have bx := bits_u8 u v (by omega) (by omega)
      have HBA := Lib.hid (HO.out.place (by omega))
      go_wp2
      go_roundw
      case rel =>
        refine ⟨k + 1, by omega, by go_num, ?_, Lib.hid (HR1.out.far (p := ⟨b, k, none⟩) HNE.out _), ?_⟩
        · have h := HST.out ((u ^^^ v : Nat) : Int)
          have e := HSS.out
          rw [Int.toNat_natCast, Int.toNat_natCast] at e
          rw [e] at h
          exact Lib.hid h
        · obtain ⟨b3, e3, h3, _⟩ := HBA.out
          obtain rfl : b = b3 := by simpa using e3
          exact Lib.hid (HB.out.setCell (p := ⟨b, k, none⟩) h3 _)
      case measure => simp [intOf]; omega
    · obtain rfl : k = n := by omega
      go_wp2
      go_end0
      exact ⟨rfl, HO.out, HB.out⟩
set_option maxRecDepth 100000 in
theorem mix_gt (t a : Nat) (A : Option Addr) (n C : Nat) (l : List Int) (x : Option Addr) (m cap : Nat) (X : List Int) (w : World) (base : Nat) (ha : a < 256) (ht : IsTab w t) (ho : Own8 w base (.slice A n C) n l)
    (hb : base ≤ w.heap.size) (hx : Bytes w x m X) (hm : m ≤ 100000) (hmc : m ≤ cap) (hn : n ≤ 100000) (hl : ∀ z ∈ l, 0 ≤ z ∧ z ≤ 255) (g : ¬ n ≤ m) :
    Calls Try.prog 22 #[.pointer (some ⟨t, 0, none⟩), .slice A n C, .int .u8 a, .slice x m cap] w (Mixed base A n C (mixL l (sc a (X.take m)) m) w) := by
  have hF := hx.front (n := m) (by omega)
  have HF := Lib.hid hF
  have HT := Lib.hid ht
  have HLT := Lib.hid ht.lt
  have HA := Lib.hid (fun (h : 0 < n) => ho.place h)
  have HO0 := Lib.hid ho
  have HSZ := Lib.hid ho.length
  have HFZ := Lib.hid hF.size
  have HR := Lib.hid (sc_range a ha (X.take m) hF.range)
  have HL := Lib.hid hl
  have HBB := Lib.hid hb
  have HZ := Lib.hid (sc_length a (X.take m))
  clear hx ht ho hl hF hb
  go_enter Try.func22, Try.ntmps22
  go_wp2_with (go_at_call 21; refine (scale_any t a x m _ (X.take m) _ ha HT.out HF.out (by omega)).mono ?_; rintro e w1 ⟨g0, rfl, hg0, hr0, hb1⟩; have HG0 := Lib.hid hg0; have HR0 := Lib.hid hr0; have HB1 := Lib.hid hb1; clear hg0 hr0 hb1)
  have HS0 : Hid (Own8 w1 base (.slice A n C) n (mixL l (sc a (X.take m)) 0)) := Lib.hid (by rw [mixL_zero]; exact HO0.out.below HB1.out (Nat.le_refl _))
  have HW1 : Hid (Below base w w1) := Lib.hid (HB1.out.mono HBB.out)
  have HZ2 : Hid ((sc a (X.take m)).length = m) := Lib.hid (HZ.out.trans HFZ.out)
  generalize sc a (X.take m) = s at *
  go_loopw [8, 9, 21] (fun _ _ i wr => ∃ k : Nat, k ≤ m ∧ i = .int .i64 k ∧ Hid (Own8 wr base (.slice A n C) n (mixL l s k)) ∧ Hid (Row8 wr g0 5 s) ∧ Hid (Below base w wr)) (fun _ _ i _ => m - (intOf i).toNat)
  case atStart => exact ⟨0, by omega, rfl, HS0, HR0, HW1⟩
  case round =>
    obtain ⟨k, hk, rfl, HO, HR1, HB⟩ := hrel
    obtain ⟨wo, ho⟩ : ∃ wo, wo = wr := ⟨_, rfl⟩
    subst ho
    by_cases hlt : k < m
    · have kn : k < n := by omega
      obtain ⟨b, rfl, hb0, hb1⟩ := HA.out (by omega)
      obtain ⟨b2, e2, _, _, hc, hf, hst⟩ := HO.out.at_ (by omega)
      obtain rfl : b = b2 := by simpa using e2
      have hne : g0 ≠ b := by have := HG0.out; omega
      have c0 := hc k kn
      have f0 := hf k
      have HST := Lib.hid (hst k)
      rw [mixL_get _ _ _ _ (by rw [HSZ.out]; exact kn), if_neg (by omega)] at c0
      have c1 := HR1.out.cell k (by rw [HZ2.out]; exact hlt)
      have HSS := Lib.hid (mixL_step l s k (by rw [HSZ.out]; exact kn))
      have r0 : 0 ≤ l.getD k 0 ∧ l.getD k 0 ≤ 255 := by
        rw [List.getD_eq_getElem?_getD, List.getElem?_eq_getElem (by rw [HSZ.out]; exact kn)]; exact HL.out _ (List.getElem_mem _)
      have r1 : 0 ≤ s.getD k 0 ∧ s.getD k 0 ≤ 255 := by
        rw [List.getD_eq_getElem?_getD, List.getElem?_eq_getElem (by rw [HZ2.out]; exact hlt)]; exact HR.out _ (List.getElem_mem _)
      have HNE := Lib.hid hne
      clear hc hf hst e2 hne hb0 hb1
      generalize l.getD k 0 = u0 at *
      generalize s.getD k 0 = v0 at *
      obtain ⟨u, rfl⟩ : ∃ u : Nat, u0 = u := ⟨u0.toNat, by omega⟩
      obtain ⟨v, rfl⟩ : ∃ u : Nat, v0 = u := ⟨v0.toNat, by omega⟩
      have bx := bits_u8 u v (by omega) (by omega)
      have HBA := Lib.hid (HO.out.place (by omega))
      go_wp2
      go_roundw
      case rel =>
        refine ⟨k + 1, by omega, by go_num, ?_, Lib.hid (HR1.out.far (p := ⟨b, k, none⟩) HNE.out _), ?_⟩
        · have h := HST.out ((u ^^^ v : Nat) : Int)
          have e := HSS.out
          rw [Int.toNat_natCast, Int.toNat_natCast] at e
          rw [e] at h
          exact Lib.hid h
        · obtain ⟨b3, e3, h3, _⟩ := HBA.out
          obtain rfl : b = b3 := by simpa using e3
          exact Lib.hid (HB.out.setCell (p := ⟨b, k, none⟩) h3 _)
      case measure => simp [intOf]; omega
    · obtain rfl : k = m := by omega
      go_wp2
      go_end0
      exact ⟨rfl, HO.out, HB.out⟩
theorem mix_any (t a : Nat) (A : Option Addr) (n C : Nat) (l : List Int) (x : Option Addr) (m cap : Nat) (X : List Int) (w : World) (base : Nat) (ha : a < 256) (ht : IsTab w t) (ho : Own8 w base (.slice A n C) n l)
    (hb : base ≤ w.heap.size) (hx : Bytes w x m X) (hm : m ≤ 100000) (hmc : m ≤ cap) (hn : n ≤ 100000) (hl : ∀ z ∈ l, 0 ≤ z ∧ z ≤ 255) :
    Calls Try.prog 22 #[.pointer (some ⟨t, 0, none⟩), .slice A n C, .int .u8 a, .slice x m cap] w (Mixed base A n C (mixL l (sc a X) m) w) := by
  have e := mix_same a l X (min n m) (by rw [ho.length, hx.size])
  rw [hx.size] at e
  rw [← e]
  by_cases g : n ≤ m
  · rw [Nat.min_eq_left g]; exact mix_le t a A n C l x m cap X w base ha ht ho hb hx hm hmc hn hl g
  · rw [Nat.min_eq_right (by omega)]; exact mix_gt t a A n C l x m cap X w base ha ht ho hb hx hm hmc hn hl g
end Go.Proofs.Ytcdikbnbkaahjaa
