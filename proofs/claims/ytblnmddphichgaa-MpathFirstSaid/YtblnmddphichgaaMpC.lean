/-
  Own text: apart (a copy of a datagram with bytes of its own), known, walked.
-/
import Derived.Test.YtblnmddphichgaaMpA
import Derived.Test.YtblnmddphichgaaMqE
namespace Go.Proofs.Ytblnmddphichgaa.Mp
open Go.RowKit

theorem own8_block {w : World} {base n C : Nat} {A : Option Addr} {l : List Int} (h : Own8 w base (.slice A n C) n l) : ∀ g, A.map Addr.block = some g → base ≤ g ∧ g < w.heap.size := by
  intro g hg
  exact World.ownsRow.lt h g (by cases A with | none => simp at hg | some a => simpa [Value.ownBlock] using hg)
theorem own8_keep {w w' : World} {base n C : Nat} {A : Option Addr} {l : List Int} (h : Own8 w base (.slice A n C) n l) (hk : ∀ g, A.map Addr.block = some g → w'.heap[g]? = w.heap[g]?) : Own8 w' base (.slice A n C) n l := by
  refine ⟨h.1, h.2.imp id ?_⟩
  rintro ⟨g, cap, cur, e, h1, hg, h2⟩
  refine ⟨g, cap, cur, e, h1, (hk g ?_).trans hg, h2⟩
  simp only [Value.slice.injEq] at e
  rw [e.1]
  rfl
theorem own8_low {w : World} {base b n C : Nat} {A : Option Addr} {l : List Int} (h : Own8 w base (.slice A n C) n l) (hb : b ≤ base) : Own8 w b (.slice A n C) n l := by
  refine ⟨h.1, h.2.imp id ?_⟩
  rintro ⟨g, cap, cur, e, h1, h2⟩
  exact ⟨g, cap, cur, e, by omega, h2⟩
theorem own8_nil {w : World} {base n C : Nat} {A : Option Addr} {l : List Int} (h : Own8 w base (.slice A n C) n l) : n ≤ C ∧ (A = none → C = 0) := by
  rcases h.2 with ⟨e, h0⟩ | ⟨g, cap, cur, e, h1, hg, h3, h4, h5⟩
  · simp only [Value.slice.injEq] at e
    exact ⟨by omega, fun _ => e.2.2⟩
  · simp only [Value.slice.injEq] at e
    exact ⟨by omega, fun h => by rw [h] at e; cases e.1⟩
/-- What a copy with bytes of its own is. -/
def Apart (d : Dg) (l : List Int) (w : World) (e : Ending) (w' : World) : Prop := ∃ A C, e = .returned (Dg.moved d A C).val ∧ Hid (Own8 w' w.heap.size (.slice A d.dl C) d.dl l) ∧ Hid (Below w.heap.size w w')
set_option maxRecDepth 100000 in
theorem apart_any (d : Dg) (l : List Int) (w : World) (hl : Bytes w d.da d.dl l) (hle : d.dl ≤ d.dc) (hnil : d.da = none → d.dc = 0) (hsz : d.dl ≤ 100000) :
    Calls Try.prog 17 #[d.val] w (Apart d l w) := by
  obtain ⟨W0, hW0⟩ : ∃ W0, W0 = (w.alloc (.cells (Mq.dcells d) 35)).alloc (.cells (Mq.dcells Mq.nil) 35) := ⟨_, rfl⟩
  have HB0 : Hid (Below w.heap.size w W0) := Lib.hid (by rw [hW0]; exact ((Below.refl _ _).alloc (Nat.le_refl _) _).alloc (by simp) _)
  have HD0 : Hid (Lies W0 w.heap.size 0 (Mq.dcells d)) := Lib.hid (by rw [hW0]; exact Lies.new w (Mq.dcells d) _ ((Below.refl _ _).alloc (Nat.le_refl _) _))
  have HR0 : Hid (Lies W0 (w.heap.size + 1) 0 (Mq.dcells Mq.nil)) := Lib.hid (by
    have := Lies.new (w.alloc (.cells (Mq.dcells d) 35)) (Mq.dcells Mq.nil) 35 (Below.refl _ _)
    rw [hW0]
    simpa using this)
  have HS0 : Hid (W0.heap.size = w.heap.size + 2) := Lib.hid (by rw [hW0]; simp)
  have CL := Lib.hid (clone8_any d.da d.dl d.dc l W0 (hl.below HB0.out (Nat.le_refl _)) hle hnil hsz)
  have HW0 := Lib.hid hW0
  have c10 : W0.cell? ⟨w.heap.size, 10, none⟩ = some (.slice d.da d.dl d.dc) := HD0.out.cell 10 (by decide : 10 < 11)
  clear hW0 hl hle hnil hsz
  go_enter Try.func17, Try.ntmps17
  go_upto_region 1 with fail
  rw [← HW0.out]
  go_upto_region 2 with (first
    | (go_at_call 35; (with_reducible refine (CL.out).mono ?_); rintro e w1 ⟨A, C, rfl, hown, hb⟩; have HO1 := Lib.hid hown; have HB1 := Lib.hid hb; clear hown hb; have HD1 : Hid (Lies w1 w.heap.size 0 (Mq.dcells d)) := Lib.hid (HD0.out.below HB1.out HD0.out.lt); have d10 := HD1.out.cell 10 (by decide : 10 < 11); have df := HD1.out.frozen 10)
    | fail)
  obtain ⟨W2, hW2⟩ : ∃ W2, W2 = w1.setCell ⟨w.heap.size, 10, none⟩ (.slice A d.dl C) := ⟨_, rfl⟩
  have HD2 : Hid (Lies W2 w.heap.size 0 (Mq.dcells (Dg.moved d A C))) := Lib.hid (by rw [hW2]; exact HD1.out.set 10 _)
  have HR2 : Hid (Lies W2 (w.heap.size + 1) 0 (Mq.dcells Mq.nil)) := Lib.hid (by rw [hW2]; exact (HR0.out.below HB1.out HR0.out.lt).other (by show w.heap.size + 1 ≠ w.heap.size; omega) _)
  have HB2 : Hid (Below w.heap.size w W2) := Lib.hid (by rw [hW2]; exact (HB0.out.trans (HB1.out.mono HB0.out.size)).setCell (p := ⟨w.heap.size, 10, none⟩) (Nat.le_refl _) _)
  have HO2 : Hid (Own8 W2 W0.heap.size (.slice A d.dl C) d.dl l) := Lib.hid (by
    rw [hW2]
    exact own8_keep HO1.out (fun g hg => Below.heap_setCell w1 ⟨w.heap.size, 10, none⟩ _ g (by have := (own8_block HO1.out g hg).1; have := HS0.out; show g ≠ w.heap.size; omega)))
  rw [← hW2]
  clear d10 df c10 hW2
  go_wp2_with (first
    | (with_reducible refine wpList_load_lies rfl 35 (.tmp 1) rfl w.heap.size 0 rfl (Mq.dcells (Dg.moved d A C)) HD2.out _ Try.underlying35 rfl (Mq.infoC (Dg.moved d A C)) ?_)
    | ((with_reducible refine wpList_store_lies rfl 35 (.tmp 2) (.tmp 7) rfl (w.heap.size + 1) 0 rfl (Mq.dcells (Dg.moved d A C)) rfl (Mq.dcells Mq.nil) HR2.out rfl (Mq.infoC (Dg.moved d A C)) (Mq.dcells_one (Dg.moved d A C)) ?_); intro w3 N1 N2 N3)
    | fail)
  refine bodyPost_ret (v := (Dg.moved d A C).val) (Mq.results_cell0 (p := 2) rfl _ w3 (w.heap.size + 1) _ rfl (Mq.loadv_dg N1.out)) rfl ?_
  refine ⟨A, C, rfl, Lib.hid ?_, Lib.hid (N2.out.bel HB2.out HB2.out.size (Nat.le_succ _))⟩
  exact own8_low (own8_keep HO2.out (fun g hg => N2.out.block g (own8_block HO2.out g hg).2 (by have := (own8_block HO2.out g hg).1; have := HS0.out; omega))) HB0.out.size
theorem known_yes (i : Nat) (hi : i < 2) (w : World) : Calls Try.prog 26 #[.int .i64 (i : Int)] w fun e w' => e = .returned (.bool true) ∧ w = w' := by
  have h0 : (0 : Int) ≤ (i : Int) := by omega
  have h1 : (i : Int) < 2 := by omega
  go_enter Try.func26, Try.ntmps26
  go_wp2
  go_ret
  exact ⟨rfl, rfl⟩
theorem known_no (i : Int) (hi : ¬ (0 ≤ i ∧ i < 2)) (w : World) : Calls Try.prog 26 #[.int .i64 i] w fun e w' => e = .returned (.bool false) ∧ w = w' := by
  by_cases h0 : 0 ≤ i
  · have h1 : ¬ i < 2 := by omega
    clear hi
    go_enter Try.func26, Try.ntmps26
    go_wp2
    go_ret
    exact ⟨rfl, rfl⟩
  · clear hi
    go_enter Try.func26, Try.ntmps26
    go_wp2
    go_ret
    exact ⟨rfl, rfl⟩
end Go.Proofs.Ytblnmddphichgaa.Mp
