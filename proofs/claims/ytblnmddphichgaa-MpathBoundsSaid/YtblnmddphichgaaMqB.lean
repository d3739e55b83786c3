/-
  Own text: the place of an item among sorted ones: the binary search at items that bear a datagram, walked. (Written by gen_mqb.py.)
-/
import Derived.Test.YtblnmddphichgaaMqA
import Derived.Test.YtblnmddphichgaaLiC
namespace Go.Proofs.Ytblnmddphichgaa.Mq
open Go.RowKit

theorem infoI : (Try.prog.info? 84).map (·.size) = some 13 := by kernel_rfl
theorem load_item {w : World} {b o : Nat} {x : It} (h : Lies w b o x.cells) : (Instr.loadAt 84 (.pointer (some ⟨b, o, none⟩))).run Try.prog w = .ok (.agg x.cells) w := h.loadAt 84 _ Try.underlying84 rfl infoI
/-- Where an item belongs. -/
structure Place (l : List It) (x : It) (P : Nat) : Prop where
  le : P ≤ l.length
  lo : ∀ t y, t < P → l[t]? = some y → cmpT y x < 0
  hi : ∀ t y, P ≤ t → l[t]? = some y → ¬ cmpT y x < 0
/-- What the search answers. -/
def FoundAt (P : Nat) (e : Ending) : Prop := ∃ b, e = .returned (.tuple #[.int .i64 (P : Int), .bool b])
set_option maxRecDepth 100000 in
set_option maxHeartbeats 2000000 in
theorem search_any (x : It) (P : Nat) (A : Option Addr) (n C : Nat) (l : List It) (hP : Place l x P) (hn : n ≤ 1000) (w : World) (h : OwnT w 0 (.slice A n C) n l) :
    Calls Try.prog 31 #[.slice A n C, x.val, .func (.func 32) #[] #[]] w fun e w' => FoundAt P e ∧ Below w.heap.size w w' := by
  have HP := Lib.hid hP
  have hl := h.length
  have hPn : P ≤ n := by have := hP.le; omega
  have HC := Lib.hid (fun y w => compare_any y x w)
  obtain ⟨W0, hW⟩ : ∃ W0, W0 = w.alloc (.cells x.cells 84) := ⟨_, rfl⟩
  have hb0 : Below w.heap.size w W0 := by rw [hW]; exact (Below.refl w.heap.size w).alloc (Nat.le_refl _) _
  have hx0 : Lies W0 w.heap.size 0 x.cells := by rw [hW]; exact Lies.new w x.cells _ (Below.refl _ _)
  have HALL : Hid (∀ w', Below W0.heap.size W0 w' → Lies w' w.heap.size 0 x.cells ∧ OwnT w' 0 (.slice A n C) n l) := Lib.hid (fun w' hb => ⟨hx0.below hb hx0.lt, (h.below hb0 (Nat.le_refl _)).below hb (Nat.le_refl _)⟩)
  have HL := Lib.hid hl
  have HB0 := Lib.hid hb0
  have hni : (n : Int) ≤ 1000 := by omega
  unfold It.val at *
  clear h hP hb0 hx0 hl hn
  obtain ⟨RX, hRX⟩ : ∃ RX, RX = x.cells := ⟨_, rfl⟩
  rw [← hRX] at hW ⊢
  have HRX := Lib.hid hRX
  clear hRX
  go_enter Try.func31, Try.ntmps31
  go_upto_region 1 with fail
  rw [← hW]
  clear hW
  go_wp2
  go_loopw [9, 10] (fun i j wr => ∃ (lo hi : Nat), lo ≤ P ∧ P ≤ hi ∧ hi ≤ n ∧ i = .int .i64 lo ∧ j = .int .i64 hi ∧ Hid (Below W0.heap.size W0 wr)) (fun i j _ => (intOf j).toNat - (intOf i).toNat)
  case atStart => exact ⟨0, n, Nat.zero_le _, hPn, Nat.le_refl _, rfl, rfl, Lib.hid (Below.refl _ _)⟩
  case round =>
    obtain ⟨lo, hi, h1, h2, h3, rfl, rfl, HB⟩ := hrel
    by_cases hlt : lo < hi
    · have hm : (lo + hi) / 2 < n := by omega
      obtain ⟨y, hy⟩ : ∃ y, l[(lo + hi) / 2]? = some y := ⟨_, List.getElem?_eq_getElem (by rw [HL.out]; exact hm)⟩
      obtain ⟨g, rfl, _, hgl, hly⟩ := (HALL.out wr HB.out).2.at_ _ y hy
      have HLY : Hid (∀ w', Below wr.heap.size wr w' → Lies w' w.heap.size 0 x.cells ∧ Lies w' g ((lo + hi) / 2 * 13) y.cells) := Lib.hid (fun w' hb => ⟨(HALL.out wr HB.out).1.below hb (HALL.out wr HB.out).1.lt, hly.below hb hgl⟩)
      have CY : Hid (∀ w', Below wr.heap.size wr w' → Calls Try.prog 32 #[.agg y.cells, .agg x.cells] w' fun e w1 => e = .returned (.int .i64 (cmpT y x)) ∧ Below wr.heap.size wr w1) := Lib.hid (fun w' hb => (HC.out y w').mono fun _ _ hh => ⟨hh.1, hb.trans (hh.2.mono hb.size)⟩)
      have HYL := Lib.hid (fun h => HP.out.lo _ y h hy)
      have HYH := Lib.hid (fun h => HP.out.hi _ y h hy)
      clear hly hy hgl
      generalize cmpT y x = z at *
      go_upto_region 5 with fail
      obtain ⟨m, hmm⟩ : ∃ m, m = (lo + hi) / 2 := ⟨_, rfl⟩
      have hmz : ((lo : Int) + (hi : Int)) / 2 = (m : Int) := by omega
      rw [← hmm] at hm HLY HYL HYH
      have hlm : lo ≤ m ∧ m < hi := by omega
      have i1 : (m : Int) < (n : Int) := by omega
      have i2 : (m : Int) ≤ 1000 := by omega
      have i3 : (0 : Int) ≤ (m : Int) := by omega
      have HM : Hid (lo ≤ m ∧ m < hi ∧ lo ≤ P ∧ P ≤ hi ∧ hi ≤ n) := Lib.hid ⟨hlm.1, hlm.2, h1, h2, h3⟩
      rw [hmz]
      clear hmm hmz hlm h1 h2 h3 hm hPn hlt
      refine (wpIn_wide (n := 3)).1 ?_
      refine wpIn_class (fun w' => Below wr.heap.size wr w') (Below.refl _ _).drew rfl (by kernel_rfl) (by kernel_rfl) ?_
      iterate 4 (refine wpQuietIn_step (fun _ _ _ _ => trivial) (fun K hK => ?_); go_simp; refine ⟨_, fun _ _ => rfl, hK _ ?_⟩; clear hK K)
      refine wpQ_readw (.agg y.cells) (fun _ _ _ _ => trivial) rfl (fun w' hw => ?_) ?_
      · exact quiet_loadAt 84 _ (.pointer (some ⟨g, m * 13, none⟩)) rfl rfl (load_item (HLY.out w' hw).2)
      simp only [Act.put, List.setIfInBounds_toArray, List.set_cons_zero, List.set_cons_succ]
      refine wpQ_readw (.agg x.cells) (fun _ _ _ _ => trivial) rfl (fun w' hw => ?_) ?_
      · exact quiet_loadAt 84 _ (.pointer (some ⟨w.heap.size, 0, none⟩)) rfl rfl (load_item (HLY.out w' hw).1)
      simp only [Act.put, List.setIfInBounds_toArray, List.set_cons_zero, List.set_cons_succ]
      refine wpQuietIn_step (fun _ _ _ _ => trivial) (fun K hK => ?_)
      go_simp
      refine ⟨.int .i64 z, fun w' hw => callsIn_wide.2 (CY.out w' hw), hK _ ?_⟩
      clear hK K
      (refine wpQuietIn_step (fun _ _ _ _ => trivial) (fun K hK => ?_); go_simp; refine ⟨_, fun _ _ => rfl, hK _ ?_⟩; clear hK K)
      refine wpQuietIn_nil ?_
      rintro w1 hw
      have HB2 : Hid (Below W0.heap.size W0 w1) := Lib.hid (HB.out.trans (hw.mono HB.out.size))
      clear hw
      by_cases hz : z < 0
      · have z1 : P ≤ m → False := fun h => absurd hz (HYH.out h)
        have Z1 := Lib.hid z1
        clear z1
        go_wp2
        go_roundw
        case rel => exact ⟨m + 1, hi, Nat.lt_of_not_le Z1.out, HM.out.2.2.2.1, HM.out.2.2.2.2, by go_num, rfl, HB2⟩
        case measure => have := HM.out; simp [intOf] <;> omega
      · have z1 : m < P → False := fun h => absurd (HYL.out h) hz
        have Z1 := Lib.hid z1
        clear z1
        go_wp2
        go_roundw
        case rel => exact ⟨lo, m, HM.out.2.2.1, Nat.le_of_not_lt Z1.out, by have := HM.out; omega, rfl, rfl, HB2⟩
        case measure => have := HM.out; simp [intOf] <;> omega
    · obtain rfl : lo = P := by omega
      obtain rfl : hi = lo := by omega
      clear h1 h2 hlt
      by_cases hlt : hi < n
      · obtain ⟨y, hy⟩ : ∃ y, l[hi]? = some y := ⟨_, List.getElem?_eq_getElem (by rw [HL.out]; exact hlt)⟩
        obtain ⟨g, rfl, _, hgl, hly⟩ := (HALL.out wr HB.out).2.at_ _ y hy
        have HLY : Hid (∀ w', Below wr.heap.size wr w' → Lies w' w.heap.size 0 x.cells ∧ Lies w' g (hi * 13) y.cells) := Lib.hid (fun w' hb => ⟨(HALL.out wr HB.out).1.below hb (HALL.out wr HB.out).1.lt, hly.below hb hgl⟩)
        have CY : Hid (∀ w', Below wr.heap.size wr w' → Calls Try.prog 32 #[.agg y.cells, .agg x.cells] w' fun e w1 => e = .returned (.int .i64 (cmpT y x)) ∧ Below wr.heap.size wr w1) := Lib.hid (fun w' hb => (HC.out y w').mono fun _ _ hh => ⟨hh.1, hb.trans (hh.2.mono hb.size)⟩)
        clear hly hy hgl
        generalize cmpT y x = z at *
        have i1 : (hi : Int) < (n : Int) := by omega
        have i2 : (0 : Int) ≤ (hi : Int) := by omega
        have i3 : (hi : Int) ≤ 1000 := by omega
        have i4 : ((hi : Int) < (n : Int)) = True := eq_true i1
        clear hlt h3 hPn
        go_upto_region 8 with fail
        refine (wpIn_wide (n := 3)).1 ?_
        refine wpIn_class (fun w' => Below wr.heap.size wr w') (Below.refl _ _).drew rfl (by kernel_rfl) (by kernel_rfl) ?_
        iterate 9 (refine wpQuietIn_step (fun _ _ _ _ => trivial) (fun K hK => ?_); go_simp; refine ⟨_, fun _ _ => rfl, hK _ ?_⟩; clear hK K)
        refine wpQ_readw (.agg y.cells) (fun _ _ _ _ => trivial) rfl (fun w' hw => ?_) ?_
        · exact quiet_loadAt 84 _ (.pointer (some ⟨g, hi * 13, none⟩)) rfl rfl (load_item (HLY.out w' hw).2)
        simp only [Act.put, List.setIfInBounds_toArray, List.set_cons_zero, List.set_cons_succ]
        refine wpQ_readw (.agg x.cells) (fun _ _ _ _ => trivial) rfl (fun w' hw => ?_) ?_
        · exact quiet_loadAt 84 _ (.pointer (some ⟨w.heap.size, 0, none⟩)) rfl rfl (load_item (HLY.out w' hw).1)
        simp only [Act.put, List.setIfInBounds_toArray, List.set_cons_zero, List.set_cons_succ]
        refine wpQuietIn_step (fun _ _ _ _ => trivial) (fun K hK => ?_)
        go_simp
        refine ⟨.int .i64 z, fun w' hw => callsIn_wide.2 (CY.out w' hw), hK _ ?_⟩
        clear hK K
        iterate 4 (refine wpQuietIn_step (fun _ _ _ _ => trivial) (fun K hK => ?_); go_simp; refine ⟨_, fun _ _ => rfl, hK _ ?_⟩; clear hK K)
        refine wpQuietIn_nil ?_
        rintro w1 hw
        have HB2 : Hid (Below w.heap.size w w1) := Lib.hid (HB0.out.trans ((HB.out.mono HB0.out.size).trans (hw.mono (Nat.le_trans HB0.out.size HB.out.size))))
        clear hw
        go_wp2
        go_ret2
        exact ⟨⟨_, rfl⟩, HB2.out⟩
      · have i1 : ¬ (hi : Int) < (n : Int) := by omega
        have i4 : ((hi : Int) < (n : Int)) = False := eq_false i1
        go_upto_region 8 with fail
        refine (wpIn_wide (n := 3)).1 ?_
        refine wpIn_class (fun w' => Below wr.heap.size wr w') (Below.refl _ _).drew rfl (by kernel_rfl) (by kernel_rfl) ?_
        iterate 5 (refine wpQuietIn_step (fun _ _ _ _ => trivial) (fun K hK => ?_); go_simp; refine ⟨_, fun _ _ => rfl, hK _ ?_⟩; clear hK K)
        iterate 8 (refine wpQ_skip (fun _ _ _ _ => trivial) rfl ?_; simp only [Act.put, List.setIfInBounds_toArray, List.set_cons_zero, List.set_cons_succ])
        iterate 3 (refine wpQuietIn_step (fun _ _ _ _ => trivial) (fun K hK => ?_); go_simp; refine ⟨_, fun _ _ => rfl, hK _ ?_⟩; clear hK K)
        refine wpQuietIn_nil ?_
        rintro w1 hw
        have HB2 : Hid (Below w.heap.size w w1) := Lib.hid (HB0.out.trans ((HB.out.mono HB0.out.size).trans (hw.mono (Nat.le_trans HB0.out.size HB.out.size))))
        clear hw
        go_wp2
        go_ret2
        exact ⟨⟨_, rfl⟩, HB2.out⟩
end Go.Proofs.Ytblnmddphichgaa.Mq
