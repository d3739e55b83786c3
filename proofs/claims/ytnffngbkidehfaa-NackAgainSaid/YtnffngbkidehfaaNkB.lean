/-
  Own text: how many runs are due by a time: the binary search, walked; the place of a key, walked.
-/
import Derived.Test.YtnffngbkidehfaaNkA
namespace Go.Proofs.Ytnffngbkidehfaa.Nk
open Go.RowKit

theorem cmpI_neg {x y : Int} : cmpI x y < 0 ↔ x < y := by
  unfold cmpI
  by_cases h1 : x < y
  · rw [if_pos h1]; simp [h1]
  · rw [if_neg h1]
    by_cases h2 : y < x
    · rw [if_pos h2]; simp [h1]
    · rw [if_neg h2]; simp [h1]
/-- How many are due ahead of a time. -/
structure Place (l : List It) (x : Int) (P : Nat) : Prop where
  le : P ≤ l.length
  lo : ∀ t y, t < P → l[t]? = some y → y.due < x
  hi : ∀ t y, P ≤ t → l[t]? = some y → ¬ y.due < x
/-- What the search answers. -/
def FoundAt (P : Nat) (e : Ending) : Prop := ∃ b, e = .returned (.tuple #[.int .i64 (P : Int), .bool b])
set_option maxRecDepth 100000 in
theorem search_any (x : Int) (P : Nat) (A : Option Addr) (n C : Nat) (l : List It) (hP : Place l x P) (hn : n ≤ 1000) (w : World) (h : OwnT w 0 (.slice A n C) n l) :
    Calls Try.prog 107 #[.slice A n C, .int .i64 x, .func (.func 108) #[] #[]] w fun e w' => FoundAt P e ∧ Below w.heap.size w w' := by
  have HP := Lib.hid hP
  have hl := h.length
  have hPn : P ≤ n := by have := hP.le; omega
  have HC := Lib.hid (fun y => due_any y x)
  have HALL : Hid (∀ w', Below w.heap.size w w' → OwnT w' 0 (.slice A n C) n l) := Lib.hid (fun w' hb => h.below hb (Nat.le_refl _))
  clear h hP
  unfold It.val at *
  have HL := Lib.hid hl
  clear hl
  go_enter Try.func107, Try.ntmps107
  go_wp2
  go_loopw [9, 10] (fun i j wr => ∃ (lo hi : Nat), lo ≤ P ∧ P ≤ hi ∧ hi ≤ n ∧ i = .int .i64 lo ∧ j = .int .i64 hi ∧ Hid (Below w.heap.size w wr)) (fun i j _ => (intOf j).toNat - (intOf i).toNat)
  case atStart => exact ⟨0, n, Nat.zero_le _, hPn, Nat.le_refl _, rfl, rfl, Lib.hid (Below.refl _ _)⟩
  case round =>
    obtain ⟨lo, hi, h1, h2, h3, rfl, rfl, HB⟩ := hrel
    by_cases hlt : lo < hi
    · have ho := HALL.out wr HB.out
      have hm : (lo + hi) / 2 < n := by omega
      obtain ⟨y, hy⟩ : ∃ y, l[(lo + hi) / 2]? = some y := ⟨_, List.getElem?_eq_getElem (by rw [HL.out]; exact hm)⟩
      obtain ⟨g, rfl, _, hgl, c0, c1⟩ := ho.at_ _ y hy
      have HSW : Hid (∀ w', Below wr.heap.size wr w' → w'.cell? ⟨g, (lo + hi) / 2 * 2, none⟩ = some (.int .u32 y.key) ∧ w'.cell? ⟨g, (lo + hi) / 2 * 2 + 1, none⟩ = some (.int .i64 y.due)) := Lib.hid (fun w' hb =>
        ⟨(hb.cell (p := ⟨g, _, none⟩) hgl).trans c0, (hb.cell (p := ⟨g, _, none⟩) hgl).trans c1⟩)
      clear c0 c1 hgl
      have CY := Lib.hid (HC.out y)
      have HYL := Lib.hid (fun h => HP.out.lo _ y h hy)
      have HYH := Lib.hid (fun h => HP.out.hi _ y h hy)
      have HZ := Lib.hid (cmpI_neg (x := y.due) (y := x))
      clear ho hy
      generalize cmpI y.due x = z at *
      generalize y.key = yk at *
      generalize y.due = yd at *
      go_upto_region 5 with fail
      obtain ⟨m, hmm⟩ : ∃ m, m = (lo + hi) / 2 := ⟨_, rfl⟩
      have hmz : ((lo : Int) + (hi : Int)) / 2 = (m : Int) := by omega
      rw [← hmm] at hm HSW HYL HYH
      have hlm : lo ≤ m ∧ m < hi := by omega
      have i1 : (m : Int) < (n : Int) := by omega
      have i2 : (m : Int) ≤ 1000 := by omega
      have HM : Hid (lo ≤ m ∧ m < hi ∧ lo ≤ P ∧ P ≤ hi ∧ hi ≤ n) := Lib.hid ⟨hlm.1, hlm.2, h1, h2, h3⟩
      rw [hmz]
      clear hmm hmz hlm h1 h2 h3 hm hn hPn hlt
      obtain ⟨q0, q1⟩ := HSW.out _ (Below.refl _ _)
      by_cases hz : z < 0
      · have z1 : P ≤ m → False := fun h => HYH.out h (HZ.out.1 hz)
        have Z1 := Lib.hid z1
        clear z1
        go_wp2_with (first
          | (go_at_call 108; (with_reducible refine (CY.out _).mono ?_); rintro e w1 ⟨rfl, hb⟩; have HB1 := Lib.hid hb; clear hb)
          | fail)
        go_roundw
        case rel => exact ⟨m + 1, hi, Nat.lt_of_not_le Z1.out, HM.out.2.2.2.1, HM.out.2.2.2.2, by go_num, rfl, Lib.hid (HB.out.trans (HB1.out.mono HB.out.size))⟩
        case measure => have := HM.out; simp [intOf] <;> omega
      · have z1 : m < P → False := fun h => hz (HZ.out.2 (HYL.out h))
        have Z1 := Lib.hid z1
        clear z1
        go_wp2_with (first
          | (go_at_call 108; (with_reducible refine (CY.out _).mono ?_); rintro e w1 ⟨rfl, hb⟩; have HB1 := Lib.hid hb; clear hb)
          | fail)
        go_roundw
        case rel => exact ⟨lo, m, HM.out.2.2.1, Nat.le_of_not_lt Z1.out, by have := HM.out; omega, rfl, rfl, Lib.hid (HB.out.trans (HB1.out.mono HB.out.size))⟩
        case measure => have := HM.out; simp [intOf] <;> omega
    · obtain rfl : lo = P := by omega
      obtain rfl : hi = lo := by omega
      clear h1 h2 hlt
      by_cases hlt : hi < n
      · have ho := HALL.out wr HB.out
        obtain ⟨y, hy⟩ : ∃ y, l[hi]? = some y := ⟨_, List.getElem?_eq_getElem (by rw [HL.out]; exact hlt)⟩
        obtain ⟨g, rfl, _, hgl, c0, c1⟩ := ho.at_ _ y hy
        have HSW : Hid (∀ w', Below wr.heap.size wr w' → w'.cell? ⟨g, hi * 2, none⟩ = some (.int .u32 y.key) ∧ w'.cell? ⟨g, hi * 2 + 1, none⟩ = some (.int .i64 y.due)) := Lib.hid (fun w' hb =>
          ⟨(hb.cell (p := ⟨g, _, none⟩) hgl).trans c0, (hb.cell (p := ⟨g, _, none⟩) hgl).trans c1⟩)
        have CY := Lib.hid (HC.out y)
        clear ho hy c0 c1 hgl
        generalize cmpI y.due x = z at *
        generalize y.key = yk at *
        generalize y.due = yd at *
        have i1 : (hi : Int) < (n : Int) := by omega
        obtain ⟨q0, q1⟩ := HSW.out _ (Below.refl _ _)
        go_wp2_with (first
          | (go_at_call 108; (with_reducible refine (CY.out _).mono ?_); rintro e w1 ⟨rfl, hb⟩; have HB1 := Lib.hid hb; clear hb)
          | fail)
        go_ret2
        exact ⟨⟨_, rfl⟩, HB.out.trans (HB1.out.mono HB.out.size)⟩
      · have i1 : ¬ (hi : Int) < (n : Int) := by omega
        go_wp2
        go_ret2
        exact ⟨⟨_, rfl⟩, HB.out⟩
/-- Where a key stands; how many there are, if it doesn't. -/
def fidx (k : Int) (l : List It) : Nat := (l.takeWhile (fun x => !decide (x.key = k))).length
theorem fidx_le (k : Int) (l : List It) : fidx k l ≤ l.length := List.IsPrefix.length_le (List.takeWhile_prefix _)
theorem fidx_lo (k : Int) (l : List It) : ∀ t y, t < fidx k l → l[t]? = some y → ¬ y.key = k := by
  intro t y ht hy
  unfold fidx at ht
  have hp : (l.takeWhile (fun x => !decide (x.key = k))) <+: l := List.takeWhile_prefix _
  have h2 : (l.takeWhile (fun x => !decide (x.key = k)))[t]? = some y := by
    rw [← hy]
    obtain ⟨s, hs⟩ := hp
    rw [← hs, List.getElem?_append_left]
    rw [hs]; exact ht
  have hm := List.mem_of_getElem? h2
  have := List.all_takeWhile (l := l) (p := fun x => !decide (x.key = k))
  rw [List.all_eq_true] at this
  simpa using this y hm
theorem fidx_at (k : Int) (l : List It) (y : It) (h : l[fidx k l]? = some y) : y.key = k := by
  induction l with
  | nil => simp at h
  | cons x l ih =>
    unfold fidx at *
    rw [List.takeWhile_cons] at h
    split at h
    · simp only [List.length_cons, List.getElem?_cons_succ] at h
      exact ih h
    · rename_i hx
      simp at h hx
      subst h
      exact hx
/-- The place that is told: -1, if there is none. -/
def fAt (k : Int) (l : List It) : Int := if fidx k l < l.length then (fidx k l : Int) else -1
theorem index_any (k : Int) (A : Option Addr) (n C c : Nat) (l : List It) (hn : n ≤ 1000) (w : World) (h : OwnT w 0 (.slice A n C) n l) (hc : w.cell? ⟨c, 0, none⟩ = some (.int .u32 k)) :
    Calls Try.prog 110 #[.slice A n C, .func (.func 111) #[] #[.pointer (some ⟨c, 0, none⟩)]] w fun e w' => e = .returned (.int .i64 (fAt k l)) ∧ Below w.heap.size w w' := by
  have HL := Lib.hid h.length
  have hcl : c < w.heap.size := World.block_lt_of_cell? w _ hc
  have HALL : Hid (∀ w', Below w.heap.size w w' → OwnT w' 0 (.slice A n C) n l ∧ w'.cell? ⟨c, 0, none⟩ = some (.int .u32 k)) := Lib.hid (fun w' hb => ⟨h.below hb (Nat.le_refl _), (hb.cell (p := ⟨c, 0, none⟩) hcl).trans hc⟩)
  obtain ⟨P, hP⟩ : ∃ P, P = fidx k l := ⟨_, rfl⟩
  have hPn : P ≤ n := by have := fidx_le k l; have := HL.out; omega
  have HF : Hid (fAt k l = if P < n then (P : Int) else -1) := Lib.hid (by unfold fAt; rw [HL.out, ← hP])
  have HLO := Lib.hid (fidx_lo k l)
  have HAT := Lib.hid (fidx_at k l)
  rw [← hP] at HLO HAT
  generalize fAt k l = z at *
  clear h hc hcl hP
  go_enter Try.func110, Try.ntmps110
  go_wp2
  go_loopw [8] (fun j wr => ∃ q : Nat, q ≤ P ∧ j = .int .i64 (q : Int) ∧ Hid (Below w.heap.size w wr)) (fun j _ => n - (intOf j).toNat)
  case atStart => exact ⟨0, Nat.zero_le _, rfl, Lib.hid (Below.refl _ _)⟩
  case round =>
    obtain ⟨q, hq, rfl, HB⟩ := hrel
    by_cases hqn : q < n
    · obtain ⟨y, hy⟩ : ∃ y, l[q]? = some y := ⟨_, List.getElem?_eq_getElem (by rw [HL.out]; exact hqn)⟩
      obtain ⟨ho, hc⟩ := HALL.out wr HB.out
      obtain ⟨g, rfl, _, hgl, c0, c1⟩ := ho.at_ q y hy
      have CG := Lib.hid (is_any y k c wr hc)
      have i1 : (q : Int) < n := by omega
      unfold It.val at CG
      by_cases hlt : q < P
      · rw [decide_eq_false (HLO.out q y hlt hy)] at CG
        clear hy hgl ho hc
        generalize y.key = yk at *
        generalize y.due = yd at *
        go_wp2_with (first
          | (go_at_call 111; (with_reducible refine (CG.out).mono ?_); rintro e w1 ⟨rfl, hb⟩; have HB1 := Lib.hid hb; clear hb)
          | fail)
        go_roundw
        case rel => exact ⟨q + 1, by omega, by go_num, Lib.hid (HB.out.trans (HB1.out.mono HB.out.size))⟩
        case measure => simp [intOf] <;> omega
      · obtain rfl : q = P := by omega
        rw [decide_eq_true (HAT.out y hy)] at CG
        have hz := HF.out
        rw [if_pos hqn] at hz
        subst hz
        clear hy hgl ho hc
        generalize y.key = yk at *
        generalize y.due = yd at *
        go_wp2_with (first
          | (go_at_call 111; (with_reducible refine (CG.out).mono ?_); rintro e w1 ⟨rfl, hb⟩; have HB1 := Lib.hid hb; clear hb)
          | fail)
        go_ret
        exact ⟨rfl, HB.out.trans (HB1.out.mono HB.out.size)⟩
    · obtain rfl : q = n := by omega
      have hz := HF.out
      rw [if_neg (by omega)] at hz
      subst hz
      go_wp2
      go_ret
      exact ⟨rfl, HB.out⟩
end Go.Proofs.Ytnffngbkidehfaa.Nk
