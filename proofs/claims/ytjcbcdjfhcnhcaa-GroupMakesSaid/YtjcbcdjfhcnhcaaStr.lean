/-
  Own text: even of package rs, walked.
  bytes as strings: bytes.Equal, slices.EqualFunc, the document's Same of lists: walked.
-/
import Derived.Test.YtjcbcdjfhcnhcaaMApply
import Derived.Laws.BytesArg
import Derived.BigQuiet
namespace Go.Proofs.Ytjcbcdjfhcnhcaa
open Go.RowKit

theorem even_one (h off n cap b L0 C0 m c : Nat) (A0 a : Option Addr) (w : World) (hb : w.cell? ⟨b, 0, none⟩ = some (.slice (some ⟨h, off, none⟩) n cap)) (h0 : 0 < n) (hc : w.cell? ⟨h, off, none⟩ = some (.slice A0 L0 C0)) :
    Calls Try.prog 87 #[.slice a m c, .pointer (some ⟨b, 0, none⟩)] w fun e w' => e = .returned (.bool (decide (m ≠ L0 ∨ 1200 < m))) ∧ w = w' := by
  have hp : (0 : Int) < n := by omega
  by_cases g : m = L0
  · subst g
    go_enter Try.func87, Try.ntmps87
    go_wp2
    go_ret
    exact ⟨ret_bool (by simp; omega), rfl⟩
  · have g1 : ¬ (m : Int) = L0 := by omega
    have g2 : ((m : Int) != L0) = true := by simpa using g1
    have hd : decide (m ≠ L0 ∨ 1200 < m) = true := decide_eq_true (.inl g)
    rw [hd]
    clear g g1 hd
    go_enter Try.func87, Try.ntmps87
    go_wp2
    go_ret
    exact ⟨rfl, rfl⟩
/-- Does one of them bear the mark? -/
def Marked (m : Nat) (V : Nat → Bool) (r : Int) : Prop := (∃ j : Nat, j < m ∧ r = j ∧ V j = true) ∨ (r = -1 ∧ ∀ j, j < m → V j = false)
theorem index_even (h off m cap b : Nat) (a : Option Addr) (A : Nat → Option Addr) (L C : Nat → Nat) (V : Nat → Bool) (w : World) (hA : 0 < m → a = some ⟨h, off, none⟩) (hm : m ≤ 1000)
    (hc : ∀ j, j < m → w.cell? ⟨h, off + j, none⟩ = some (.slice (A j) (L j) (C j))) (hV : ∀ j, j < m → Calls Try.prog 87 #[.slice (A j) (L j) (C j), .pointer (some ⟨b, 0, none⟩)] w fun e w' => e = .returned (.bool (V j)) ∧ w = w') :
    Calls Try.prog 108 #[.slice a m cap, .func (.func 87) #[] #[.pointer (some ⟨b, 0, none⟩)]] w fun e w' => ∃ r, e = .returned (.int .i64 r) ∧ Marked m V r ∧ w = w' := by
  have HE := Lib.hid hV
  have HC := Lib.hid hc
  have HAA := Lib.hid hA
  clear hc hA hV
  go_enter Try.func108, Try.ntmps108
  go_wp2
  go_loopw [5, 8] (fun _ i wr => ∃ j : Nat, j ≤ m ∧ i = .int .i64 j ∧ Hid (∀ i, i < j → V i = false) ∧ wr = w) (fun _ i _ => m - (intOf i).toNat)
  case atStart => exact ⟨0, by omega, rfl, Lib.hid (fun _ h => by omega), rfl⟩
  case round =>
    obtain ⟨j, hj, rfl, HV, rfl⟩ := hrel
    obtain ⟨wo, ho⟩ : ∃ wo, wo = wr := ⟨_, rfl⟩
    subst ho
    by_cases hlt : j < m
    · obtain rfl := HAA.out (by omega)
      have cr := HC.out j hlt
      have he := HE.out j hlt
      cases hz : V j with
      | false =>
        rw [hz] at he
        have HJ := Lib.hid he
        have HZ := Lib.hid hz
        clear he hz
        go_wp2_with ((with_reducible refine HJ.out.mono ?_); rintro e w1 ⟨rfl, rfl⟩)
        go_roundw
        case rel => exact ⟨j + 1, by omega, by go_num, Lib.hid (fun i hi => if e : i = j then e ▸ HZ.out else HV.out i (by omega)), trivial⟩
        case measure => simp [intOf]; omega
      | true =>
        rw [hz] at he
        have HJ := Lib.hid he
        have HZ := Lib.hid hz
        clear he hz
        go_wp2_with ((with_reducible refine HJ.out.mono ?_); rintro e w1 ⟨rfl, rfl⟩)
        go_ret
        exact ⟨j, rfl, .inl ⟨j, hlt, rfl, HZ.out⟩, rfl⟩
    · obtain rfl : j = m := by omega
      go_wp2
      go_ret
      exact ⟨-1, rfl, .inr ⟨rfl, HV.out⟩, rfl⟩
/-- Equally long, and none too long? -/
def EvenL (n : Nat) (L : Nat → Nat) : Prop := ∀ j, j < n → L j = L 0 ∧ L j ≤ 1200
theorem evenL_dec (n : Nat) (L : Nat → Nat) : EvenL n L ∨ ∃ j, j < n ∧ (L j ≠ L 0 ∨ 1200 < L j) := by
  by_cases h : EvenL n L
  · exact .inl h
  · refine .inr (Classical.byContradiction fun g => h fun j hj => ⟨Classical.byContradiction fun e => g ⟨j, hj, .inl e⟩, Nat.le_of_not_lt fun e => g ⟨j, hj, .inr e⟩⟩)
theorem contains_even (m cap b : Nat) (a : Option Addr) (A : Nat → Option Addr) (L C : Nat → Nat) (X : Nat → List Int) (w : World) (hc : ColsIn w a m cap A L C X) (hm : m ≤ 1000) (hb : w.cell? ⟨b, 0, none⟩ = some (.slice a m cap)) (v : Bool) (hv : v = false → EvenL m L) (hv2 : v = true → ∃ j, j < m ∧ (L j ≠ L 0 ∨ 1200 < L j)) :
    Calls Try.prog 86 #[.slice a m cap, .func (.func 87) #[] #[.pointer (some ⟨b, 0, none⟩)]] w fun e w' => e = .returned (.bool v) ∧ w = w' := by
  obtain ⟨h, off, h1, h2⟩ := hc.at_
  have hV : ∀ j, j < m → Calls Try.prog 87 #[.slice (A j) (L j) (C j), .pointer (some ⟨b, 0, none⟩)] w fun e w' => e = .returned (.bool (decide (L j ≠ L 0 ∨ 1200 < L j))) ∧ w = w' := fun j hj => by
    have e := h1 (by omega)
    rw [e] at hb
    exact even_one h off m cap b (L 0) (C 0) (L j) (C j) (A 0) (A j) w hb (by omega) (by have := h2 0 (by omega); rwa [Nat.add_zero] at this)
  have HI := Lib.hid (index_even h off m cap b a A L C _ w h1 hm h2 hV)
  have HV := Lib.hid (And.intro hv hv2)
  clear hv hv2 hc h1 h2 hb hV
  go_enter Try.func86, Try.ntmps86
  go_wp2_with (go_at_call 108; refine HI.out.mono ?_; rintro e w1 ⟨r, rfl, hu, rfl⟩; have HU := Lib.hid hu; clear hu)
  go_ret
  refine ⟨ret_bool ?_, rfl⟩
  rcases HU.out with ⟨j, hj, e, hne⟩ | ⟨e, hall⟩
  · rw [e]
    cases v with
    | true => simp
    | false =>
      have := HV.out.1 rfl j hj
      have h4 := of_decide_eq_true hne
      omega
  · rw [e]
    cases v with
    | false => simp
    | true =>
      obtain ⟨j, hj, hne⟩ := HV.out.2 rfl
      exact absurd hne (of_decide_eq_false (hall j hj))
theorem new_box (W : World) (v : Value) (t : TypeId) : (W.alloc (.cells #[v] t)).cell? ⟨W.heap.size, 0, none⟩ = some v := by
  have h := Go.Deep.blk_alloc_new W (.cells #[v] t)
  simp only [World.cell?, h]
  rfl
/-- What even answers. -/
theorem even_any (n cap : Nat) (a : Option Addr) (A : Nat → Option Addr) (L C : Nat → Nat) (X : Nat → List Int) (w : World) (hc : ColsIn w a n cap A L C X) (hn : n ≤ 1000) (v : Bool) (hv : v = true → EvenL n L) (hv2 : v = false → ∃ j, j < n ∧ (L j ≠ L 0 ∨ 1200 < L j)) :
    Calls Try.prog 65 #[.slice a n cap] w fun e w' => e = .returned (.bool v) ∧ Below w.heap.size w w' := by
  have HC := Lib.hid (contains_even n cap w.heap.size a A L C X (w.alloc (.cells #[.slice a n cap] 26)) (hc.below ((Below.refl _ w).alloc (Nat.le_refl _) _) (Nat.le_refl _)) hn (new_box w _ _) (!v) (fun h => hv (by simpa using h)) (fun h => hv2 (by simpa using h)))
  have HX := Lib.hid (new_box w (.slice a n cap) 26)
  clear hv hv2 hc
  go_enter Try.func65, Try.ntmps65
  have k0 := HX.out
  go_wp2_with (go_at_call 86; refine HC.out.mono ?_; rintro e w1 ⟨rfl, rfl⟩)
  go_ret
  exact ⟨ret_bool (by simp), (Below.refl _ w).alloc (Nat.le_refl _) _⟩
end Go.Proofs.Ytjcbcdjfhcnhcaa
namespace Go.Proofs.Ytjcbcdjfhcnhcaa
open Go.RowKit

/-- Are two lists the same? -/
def sameB6 (x y : List Int) : Bool := decide (x = y)
theorem str_zero (w : World) (p : Option Addr) (c : Nat) : (convert 42 9 (.slice p 0 c)).run Try.prog w = .ok (.string (strOfNums [])) w := by
  rw [run_convert_bytes_string w 42 9 5 _ 0 c Try.underlying42 Try.underlying5 Try.underlying9]
  cases p <;> simp [Conv.bytesToString, loadCells]
  all_goals rfl
theorem Bytes.str {w : World} {a : Option Addr} {n : Nat} {l : List Int} (h : Bytes w a n l) (c : Nat) : (convert 42 9 (.slice a n c)).run Try.prog w = .ok (.string (strOfNums l)) w := by
  rcases h.cell with h0 | ⟨_, b, off, rfl, _, hc⟩
  · subst h0
    obtain rfl : l = [] := List.eq_nil_of_length_eq_zero h.size
    exact str_zero w a c
  · exact run_convert_bytes_arg (P := Try.prog) w 42 5 Try.underlying42 Try.underlying5 b off n c l h.size hc 9 Try.underlying9
theorem str_inj : ∀ {x y : List Int}, By x → By y → strOfNums x = strOfNums y → x = y := by
  intro x y hx hy h
  have e : x.map (fun n => UInt8.ofNat n.toNat) = y.map (fun n => UInt8.ofNat n.toNat) := by
    rw [← strOfNums_data, ← strOfNums_data, h]
  have hl : x.length = y.length := by have := congrArg List.length e; simpa using this
  refine same_getD hl (fun i hi => ?_)
  have ei : (x.map (fun n => UInt8.ofNat n.toNat))[i]? = (y.map (fun n => UInt8.ofNat n.toNat))[i]? := by rw [e]
  rw [List.getElem?_map, List.getElem?_map, List.getElem?_eq_getElem hi, List.getElem?_eq_getElem (by omega)] at ei
  simp only [Option.map_some, Option.some.injEq] at ei
  have h1 := hx _ (List.getElem_mem hi)
  have h2 := hy _ (List.getElem_mem (show i < y.length by omega))
  rw [List.getD_eq_getElem?_getD, List.getD_eq_getElem?_getD, List.getElem?_eq_getElem hi, List.getElem?_eq_getElem (by omega)]
  have e3 := congrArg UInt8.toNat ei
  simp only [UInt8.toNat_ofNat'] at e3
  simp only [Option.getD_some]
  omega
theorem str_eq {x y : List Int} (hx : By x) (hy : By y) : ((strOfNums x).toList == (strOfNums y).toList) = sameB6 x y := by
  unfold sameB6
  by_cases h : x = y
  · subst h; simp
  · rw [decide_eq_false h, beq_eq_false_iff_ne]
    intro e
    rw [ByteArray.toList_eq, ByteArray.toList_eq] at e
    refine h (str_inj hx hy ?_)
    have e2 : (strOfNums x).data = (strOfNums y).data := Array.toList_inj.1 e
    exact congrArg ByteArray.mk e2
/-- Are two lists of lists the same, so far? -/
def SameTo (n : Nat) (X Y : Nat → List Int) : Prop := ∀ j, j < n → X j = Y j
theorem ColsIn.drewN {w : World} {a : Option Addr} {n c : Nat} {A : Nat → Option Addr} {L C : Nat → Nat} {X : Nat → List Int} (h : ColsIn w a n c A L C X) (k : Nat) : ColsIn (w.drewN k) a n c A L C X :=
  ⟨h.1, h.2.1, h.2.2.1, fun r hr => ⟨(h.2.2.2 r hr).1, ⟨(h.2.2.2 r hr).2.bytes.drewN k, (h.2.2.2 r hr).2.cap, (h.2.2.2 r hr).2.top, (h.2.2.2 r hr).2.nilc⟩⟩⟩
set_option maxRecDepth 100000 in
theorem rsame_lists (a b : Option Addr) (n m ca cb : Nat) (A B : Nat → Option Addr) (L C L' C' : Nat → Nat) (X Y : Nat → List Int) (w : World) (hx : ColsIn w a n ca A L C X) (hy : ColsIn w b m cb B L' C' Y) (hn : n ≤ 1000) (hm : m ≤ 1000) (v : Bool)
    (hv : v = true → n = m ∧ SameTo n X Y) (hv2 : v = false → ¬ (n = m ∧ SameTo n X Y)) :
    Calls Try.prog 35 #[.slice a n ca, .slice b m cb] w fun e w' => e = .returned (.bool v) ∧ ∃ k, w' = w.drewN k := by
  by_cases hnm : n = m
  case neg =>
    have hne : ¬ (n : Int) = m := by omega
    have hb : ((n : Int) != m) = true := by simpa using hne
    have hf : v = false := by
      cases v with
      | false => rfl
      | true => exact absurd (hv rfl).1 hnm
    subst hf
    clear hv hv2 hx hy hnm hne
    go_enter Try.func35, Try.ntmps35
    go_wp2
    go_ret
    exact ⟨rfl, 0, rfl⟩
  case pos =>
  subst hnm
  have HV := Lib.hid (And.intro hv hv2)
  have HX := Lib.hid hx
  have HY := Lib.hid hy
  clear hv hv2 hx hy
  go_enter Try.func35, Try.ntmps35
  go_wp2
  go_loopw [5] (fun i wr => ∃ j k : Nat, j ≤ n ∧ i = .int .i64 (j : Nat) ∧ Hid (SameTo j X Y) ∧ wr = w.drewN k) (fun i _ => n - (intOf i).toNat)
  case atStart => exact ⟨0, 0, by omega, rfl, Lib.hid (fun _ h => by omega), rfl⟩
  case round =>
    obtain ⟨j, k, hj, rfl, HS, hw⟩ := hrel
    have HXk := Lib.hid (HX.out.drewN k)
    have HYk := Lib.hid (HY.out.drewN k)
    rw [← hw] at HXk HYk
    have HW := Lib.hid hw
    clear hw
    by_cases hlt : j < n
    · obtain ⟨⟨h, off, rfl, _, c1⟩, s1⟩ := HXk.out.2.2.2 j hlt
      obtain ⟨⟨h', off', rfl, _, c2⟩, s2⟩ := HYk.out.2.2.2 j hlt
      have k1 := fun q => (s1.bytes.drewN q).str (C j)
      have k2 := fun q => (s2.bytes.drewN q).str (C' j)
      have j0 : (0 : Int) ≤ j := by omega
      have j1 : (j : Int) < n := by omega
      have hq := str_eq (show By (X j) from s1.bytes.range) (show By (Y j) from s2.bytes.range)
      clear s1 s2
      generalize hsx : strOfNums (X j) = sx at *
      generalize hsy : strOfNums (Y j) = sy at *
      cases hz : sameB6 (X j) (Y j) with
      | true =>
        rw [hz] at hq
        have hqn : (!sx.toList == sy.toList) = false := by simp only [hq, Bool.not_true]
        have HZ := Lib.hid hz
        clear hq hz hsx hsy
        go_wp2
        go_quiet (fail)
        go_wp2
        go_roundw
        case rel =>
          rw [HW.out]
          exact ⟨j + 1, _, by omega, by go_num, Lib.hid (fun i hi => if e : i = j then e ▸ of_decide_eq_true HZ.out else HS.out i (by omega)), by rw [World.drewN_drewN]⟩
        case measure => simp [intOf]; omega
      | false =>
        rw [hz] at hq
        have hqn : (!sx.toList == sy.toList) = true := by simp only [hq, Bool.not_false]
        have HZ := Lib.hid hz
        clear hq hz hsx hsy
        go_wp2
        go_quiet (fail)
        go_wp2
        go_ret
        rw [HW.out]
        refine ⟨ret_bool ?_, _, by rw [World.drewN_drewN]⟩
        cases v with
        | false => rfl
        | true => exact absurd ((HV.out.1 rfl).2 j hlt) (of_decide_eq_false HZ.out)
    · obtain rfl : j = n := by omega
      go_wp2
      go_ret
      rw [HW.out]
      refine ⟨ret_bool ?_, k, rfl⟩
      cases v with
      | true => rfl
      | false => exact absurd ⟨trivial, HS.out⟩ (HV.out.2 rfl)
end Go.Proofs.Ytjcbcdjfhcnhcaa
