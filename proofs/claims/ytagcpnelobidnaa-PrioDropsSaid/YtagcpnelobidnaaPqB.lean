/-
  Own text: the place of an item among sorted ones: the binary search, walked.
-/
import Derived.Test.YtagcpnelobidnaaPqA
import Derived.BigRegion
import Derived.Deep.Cut
import Derived.Deep.RegionLaw
namespace Go.Proofs.Ytagcpnelobidnaa
open Go.RowKit

/-- Where an item belongs. -/
structure Place (l : List It) (x : It) (P : Nat) : Prop where
  le : P ≤ l.length
  lo : ∀ t y, t < P → l[t]? = some y → cmpT y x < 0
  hi : ∀ t y, P ≤ t → l[t]? = some y → ¬ cmpT y x < 0
/-- What the search answers. -/
def FoundAt (P : Nat) (e : Ending) : Prop := ∃ b, e = .returned (.tuple #[.int .i64 (P : Int), .bool b])
set_option maxRecDepth 100000 in
theorem search_any (x : It) (P : Nat) (A : Option Addr) (n C : Nat) (l : List It) (hP : Place l x P) (hn : n ≤ 1000) (w : World) (h : OwnT w 0 (.slice A n C) n l) :
    Calls Try.prog 19 #[.slice A n C, x.val, .func (.func 20) #[] #[]] w fun e w' => FoundAt P e ∧ Below w.heap.size w w' := by
  have HP := Lib.hid hP
  have hl := h.length
  have hPn : P ≤ n := by have := hP.le; omega
  have HC := Lib.hid (fun y => compare_any y x)
  obtain ⟨W0, hW⟩ : ∃ W0, W0 = w.alloc (.cells #[.int .i64 x.rank, .int .i64 x.num, .int .i64 x.v] 62) := ⟨_, rfl⟩
  have hb0 : Below w.heap.size w W0 := by rw [hW]; exact (Below.refl w.heap.size w).alloc (Nat.le_refl _) _
  have hs0 : W0.heap.size = w.heap.size + 1 := by rw [hW]; simp
  have HALL : Hid (∀ w', Below W0.heap.size W0 w' → (w'.cell? ⟨w.heap.size, 0, none⟩ = some (.int .i64 x.rank) ∧ w'.cell? ⟨w.heap.size, 1, none⟩ = some (.int .i64 x.num) ∧ w'.cell? ⟨w.heap.size, 2, none⟩ = some (.int .i64 x.v)) ∧ OwnT w' 0 (.slice A n C) n l) := Lib.hid (fun w' hb => by
    have hlt : w.heap.size < W0.heap.size := by omega
    refine ⟨⟨(hb.cell (p := ⟨w.heap.size, 0, none⟩) hlt).trans ?_, (hb.cell (p := ⟨w.heap.size, 1, none⟩) hlt).trans ?_, (hb.cell (p := ⟨w.heap.size, 2, none⟩) hlt).trans ?_⟩, ?_⟩
    · rw [hW]; simp [go_sem]
    · rw [hW]; simp [go_sem]
    · rw [hW]; simp [go_sem]
    · exact (h.below hb0 (Nat.le_refl _)).below hb (Nat.le_refl _))
  clear h hP
  unfold It.val at *
  have HL := Lib.hid hl
  have HB0 := Lib.hid hb0
  have HS0 := Lib.hid hs0
  clear hl hb0 hs0
  generalize x.rank = xr at *
  generalize x.num = xn at *
  generalize x.v = xv at *
  go_enter Try.func19, Try.ntmps19
  go_upto_region 1 with fail
  rw [← hW]
  clear hW
  go_wp2
  go_loopw [9, 10] (fun i j wr => ∃ (lo hi : Nat), lo ≤ P ∧ P ≤ hi ∧ hi ≤ n ∧ i = .int .i64 lo ∧ j = .int .i64 hi ∧ Hid (Below W0.heap.size W0 wr)) (fun i j _ => (intOf j).toNat - (intOf i).toNat)
  case atStart => exact ⟨0, n, Nat.zero_le _, hPn, Nat.le_refl _, rfl, rfl, Lib.hid (Below.refl _ _)⟩
  case round =>
    obtain ⟨lo, hi, h1, h2, h3, rfl, rfl, HB⟩ := hrel
    by_cases hlt : lo < hi
    · obtain ⟨⟨q0, q1, q2⟩, ho⟩ := HALL.out wr HB.out
      have hm : (lo + hi) / 2 < n := by omega
      obtain ⟨y, hy⟩ : ∃ y, l[(lo + hi) / 2]? = some y := ⟨_, List.getElem?_eq_getElem (by rw [HL.out]; exact hm)⟩
      obtain ⟨g, rfl, _, hgl, c0, c1, c2⟩ := ho.at_ _ y hy
      have hwl : w.heap.size < wr.heap.size := by have := HB.out.size; have := HS0.out; omega
      have HSW : Hid (∀ w', Below wr.heap.size wr w' → (w'.cell? ⟨w.heap.size, 0, none⟩ = some (.int .i64 xr) ∧ w'.cell? ⟨w.heap.size, 1, none⟩ = some (.int .i64 xn) ∧ w'.cell? ⟨w.heap.size, 2, none⟩ = some (.int .i64 xv)) ∧ w'.cell? ⟨g, (lo + hi) / 2 * 3, none⟩ = some (.int .i64 y.rank) ∧ w'.cell? ⟨g, (lo + hi) / 2 * 3 + 1, none⟩ = some (.int .i64 y.num) ∧ w'.cell? ⟨g, (lo + hi) / 2 * 3 + 2, none⟩ = some (.int .i64 y.v)) := Lib.hid (fun w' hb =>
        ⟨⟨(hb.cell (p := ⟨w.heap.size, 0, none⟩) hwl).trans q0, (hb.cell (p := ⟨w.heap.size, 1, none⟩) hwl).trans q1, (hb.cell (p := ⟨w.heap.size, 2, none⟩) hwl).trans q2⟩, (hb.cell (p := ⟨g, _, none⟩) hgl).trans c0, (hb.cell (p := ⟨g, _, none⟩) hgl).trans c1, (hb.cell (p := ⟨g, _, none⟩) hgl).trans c2⟩)
      clear q0 q1 q2 c0 c1 c2 hgl hwl
      have CY := Lib.hid (HC.out y)
      have HYL := Lib.hid (fun h => HP.out.lo _ y h hy)
      have HYH := Lib.hid (fun h => HP.out.hi _ y h hy)
      clear ho hy
      generalize cmpT y x = z at *
      generalize y.rank = yr at *
      generalize y.num = yn at *
      generalize y.v = yv at *
      go_upto_region 5 with fail
      obtain ⟨m, hmm⟩ : ∃ m, m = (lo + hi) / 2 := ⟨_, rfl⟩
      have hmz : ((lo : Int) + (hi : Int)) / 2 = (m : Int) := by omega
      rw [← hmm] at hm HSW HYL HYH
      have hlm : lo ≤ m ∧ m < hi := by omega
      have i1 : (m : Int) < (n : Int) := by omega
      have i2 : (m : Int) ≤ 1000 := by omega
      have HM : Hid (lo ≤ m ∧ m < hi ∧ lo ≤ P ∧ P ≤ hi ∧ hi ≤ n) := Lib.hid ⟨hlm.1, hlm.2, h1, h2, h3⟩
      rw [hmz]
      clear hmm hmz hlm h1 h2 h3 hm hn hPn hlt
      go_region_held3 (fun w' => (w'.cell? ⟨w.heap.size, 0, none⟩ = some (.int .i64 xr) ∧ w'.cell? ⟨w.heap.size, 1, none⟩ = some (.int .i64 xn) ∧ w'.cell? ⟨w.heap.size, 2, none⟩ = some (.int .i64 xv)) ∧ w'.cell? ⟨g, m * 3, none⟩ = some (.int .i64 yr) ∧ w'.cell? ⟨g, m * 3 + 1, none⟩ = some (.int .i64 yn) ∧ w'.cell? ⟨g, m * 3 + 2, none⟩ = some (.int .i64 yv))
        (first | exact HSW.out _ (Below.refl _ _) | exact HSW.out _ (Below.refl _ _).drew | exact HSW.out _ ((Below.refl _ _).drew.trans HB1.out))
        (first
          | (go_at_call 20; (with_reducible refine (CY.out _).mono ?_); rintro e w1 ⟨rfl, hb⟩; have HB1 := Lib.hid hb; clear hb)
          | fail)
      have HB2 : Hid (Below W0.heap.size W0 w1) := Lib.hid (HB.out.trans ((Below.refl _ _).drew.trans HB1.out |>.mono HB.out.size))
      by_cases hz : z < 0
      · have z1 : P ≤ m → False := fun h => absurd hz (by have := HYH.out h; omega)
        have Z1 := Lib.hid z1
        clear z1
        go_wp2
        go_roundw
        case rel => exact ⟨m + 1, hi, Nat.lt_of_not_le Z1.out, HM.out.2.2.2.1, HM.out.2.2.2.2, by go_num, rfl, HB2⟩
        case measure => have := HM.out; simp [intOf] <;> omega
      · have z1 : m < P → False := fun h => absurd (HYL.out h) hz
        have Z1 := Lib.hid z1
        clear z1
        go_wp2
        go_roundw
        case rel => exact ⟨lo, m, HM.out.2.2.1, Nat.le_of_not_lt Z1.out, by have := HM.out; omega, rfl, rfl, HB2⟩
        case measure => have := HM.out; simp [intOf] <;> omega
    · obtain rfl : lo = P := by omega
      obtain rfl : hi = lo := by omega
      clear h1 h2 hlt
      by_cases hlt : hi < n
      · obtain ⟨⟨q0, q1, q2⟩, ho⟩ := HALL.out wr HB.out
        obtain ⟨y, hy⟩ : ∃ y, l[hi]? = some y := ⟨_, List.getElem?_eq_getElem (by rw [HL.out]; exact hlt)⟩
        obtain ⟨g, rfl, _, hgl, c0, c1, c2⟩ := ho.at_ _ y hy
        have hwl : w.heap.size < wr.heap.size := by have := HB.out.size; have := HS0.out; omega
        have HSW : Hid (∀ w', Below wr.heap.size wr w' → (w'.cell? ⟨w.heap.size, 0, none⟩ = some (.int .i64 xr) ∧ w'.cell? ⟨w.heap.size, 1, none⟩ = some (.int .i64 xn) ∧ w'.cell? ⟨w.heap.size, 2, none⟩ = some (.int .i64 xv)) ∧ w'.cell? ⟨g, hi * 3, none⟩ = some (.int .i64 y.rank) ∧ w'.cell? ⟨g, hi * 3 + 1, none⟩ = some (.int .i64 y.num) ∧ w'.cell? ⟨g, hi * 3 + 2, none⟩ = some (.int .i64 y.v)) := Lib.hid (fun w' hb =>
          ⟨⟨(hb.cell (p := ⟨w.heap.size, 0, none⟩) hwl).trans q0, (hb.cell (p := ⟨w.heap.size, 1, none⟩) hwl).trans q1, (hb.cell (p := ⟨w.heap.size, 2, none⟩) hwl).trans q2⟩, (hb.cell (p := ⟨g, _, none⟩) hgl).trans c0, (hb.cell (p := ⟨g, _, none⟩) hgl).trans c1, (hb.cell (p := ⟨g, _, none⟩) hgl).trans c2⟩)
        have CY := Lib.hid (HC.out y)
        clear ho hy q0 q1 q2 c0 c1 c2 hgl hwl
        generalize cmpT y x = z at *
        generalize y.rank = yr at *
        generalize y.num = yn at *
        generalize y.v = yv at *
        have i1 : (hi : Int) < (n : Int) := by omega
        go_upto_region 8 with fail
        go_region_held3 (fun w' => (w'.cell? ⟨w.heap.size, 0, none⟩ = some (.int .i64 xr) ∧ w'.cell? ⟨w.heap.size, 1, none⟩ = some (.int .i64 xn) ∧ w'.cell? ⟨w.heap.size, 2, none⟩ = some (.int .i64 xv)) ∧ w'.cell? ⟨g, hi * 3, none⟩ = some (.int .i64 yr) ∧ w'.cell? ⟨g, hi * 3 + 1, none⟩ = some (.int .i64 yn) ∧ w'.cell? ⟨g, hi * 3 + 2, none⟩ = some (.int .i64 yv))
          (first | exact HSW.out _ (Below.refl _ _) | exact HSW.out _ (Below.refl _ _).drew | exact HSW.out _ ((Below.refl _ _).drew.trans HB1.out))
          (first
            | (go_at_call 20; (with_reducible refine (CY.out _).mono ?_); rintro e w1 ⟨rfl, hb⟩; have HB1 := Lib.hid hb; clear hb)
            | fail)
        all_goals
          go_wp2
          go_ret2
          exact ⟨⟨_, rfl⟩, HB0.out.trans ((HB.out.trans ((Below.refl _ _).drew.trans HB1.out |>.mono HB.out.size)).mono (by have := HS0.out; omega))⟩
      · have i1 : ¬ (hi : Int) < (n : Int) := by omega
        go_upto_region 8 with fail
        go_region
        all_goals
          go_wp2
          go_ret2
          exact ⟨⟨_, rfl⟩, HB0.out.trans ((HB.out.mono (by have := HS0.out; omega)).drew)⟩
end Go.Proofs.Ytagcpnelobidnaa
