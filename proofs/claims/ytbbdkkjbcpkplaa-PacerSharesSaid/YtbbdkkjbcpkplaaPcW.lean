/-
  Own text: the page's examples of layer 12 hold.
-/
import Derived.Test.YtbbdkkjbcpkplaaPcH
import Derived.Test.YtbbdkkjbcpkplaaPcV
namespace Go.Proofs.Ytbbdkkjbcpkplaa
open Go.RowKit

theorem ones_good : Good 10 3 (fun _ => 1) := ⟨⟨by decide, fun _ _ => ⟨by dsimp only; omega, by dsimp only; omega⟩⟩, by decide, by decide, by decide⟩
theorem ones_list : lst 3 (shp 10 3 (fun _ => 1)) = [4, 3, 3] := by decide +kernel
theorem ones_nums (w : World) (b : Nat) (hb : b = w.heap.size) : Nums (w.alloc (.cells #[.int .i64 1, .int .i64 1, .int .i64 1] 3)) (some ⟨b, 0, none⟩) 3 (fun _ => 1) := by
  subst hb
  have hB := Go.Deep.blk_alloc_new w (.cells #[.int .i64 1, .int .i64 1, .int .i64 1] 3)
  refine .inr ⟨w.heap.size, 0, rfl, by simp, fun i hi => ?_⟩
  simp only [World.cell?, hB]
  match i, hi with
  | 0, _ => rfl
  | 1, _ => rfl
  | 2, _ => rfl
set_option maxRecDepth 100000 in
set_option maxHeartbeats 1000000 in
theorem awake12_any (w : World) :
    Calls Try.prog 7 #[] w fun e w' => e = .returned (.bool true) ∧ Below w.heap.size w w' := by
  have CN := Lib.hid (new12_yes 10 30 (by decide) w)
  have hf : (Bk.new 10 30).fit 0 := Bk.new_fit (by decide)
  have e1 : (Bk.new 10 30).may 30 = true := by decide
  have e2 : (Bk.new 10 30).take 30 = ⟨10, 30, 0, 30, 0⟩ := by unfold Bk.take; rw [if_pos e1]; rfl
  have hf2 : (⟨10, 30, 0, 30, 0⟩ : Bk).fit 1 := by rw [← e2]; exact Bk.take_fit hf 30
  have CT : Hid (∀ w', KBlk 33 w' w.heap.size (Bk.new 10 30) → Calls Try.prog 12 #[.pointer (some ⟨w.heap.size, 0, none⟩), .int .i64 30] w' fun e w1 => e = .returned (.bool true) ∧ Hid (KBlk 33 w1 w.heap.size ⟨10, 30, 0, 30, 0⟩) ∧ Hid (Frm w.heap.size w' w1)) := Lib.hid (fun w' h => by
    have := take_any 30 w.heap.size 0 _ hf (by omega) w' h
    rw [e1, e2] at this
    exact this)
  have CW : Hid (∀ w', KBlk 33 w' w.heap.size ⟨10, 30, 0, 30, 0⟩ → Calls Try.prog 9 #[.pointer (some ⟨w.heap.size, 0, none⟩), .int .i64 5] w' fun e w1 => e = .returned (.tuple #[.int .i64 1, .bool true]) ∧ ∃ j, w1 = w'.drewN j) := Lib.hid (fun w' h => by
    have := wait_any 5 w.heap.size 1 _ hf2 w' h
    have e3 : (⟨10, 30, 0, 30, 0⟩ : Bk).wait 5 = 1 := by decide +kernel
    rw [if_pos (by decide), e3] at this
    exact this)
  have CS : Hid (∀ (w' : World) (b : Nat), Nums w' (some ⟨b, 0, none⟩) 3 (fun _ => 1) → Calls Try.prog 13 #[.int .i64 10, .slice (some ⟨b, 0, none⟩) 3 3] w' fun e w1 => e = .returned (.tuple #[.slice (some ⟨w'.heap.size, 0, none⟩) 3 3, .int .i64 0]) ∧ Hid (OwnI w1 w'.heap.size (.slice (some ⟨w'.heap.size, 0, none⟩) 3 3) 3 [4, 3, 3]) ∧ Hid (Below w'.heap.size w' w1)) := Lib.hid (fun w' b h => by
    have := share_good 10 (some ⟨b, 0, none⟩) 3 3 (fun _ => 1) ones_good w' h
    rw [ones_list] at this
    exact this)
  clear hf hf2 e1 e2
  go_enter Try.func7, Try.ntmps7
  go_upto_region 5 with (first
    | (go_at_call 15; (with_reducible refine (CN.out).mono ?_); rintro e w1 ⟨rfl, HK1, HB1⟩)
    | (go_at_call 12; (with_reducible refine (CT.out _ HK1.out).mono ?_); rintro e w2 ⟨rfl, HK2, HF2⟩)
    | (go_at_call 9; (with_reducible refine (CW.out _ HK2.out).mono ?_); rintro e w3 ⟨rfl, q, hq⟩; have HQ := Lib.hid hq; clear hq)
    | fail)
  have HB3 : Hid (Below w.heap.size w w3) := Lib.hid (by rw [HQ.out]; exact below_drewN (HF2.out.bel HB1.out HB1.out.size (Nat.le_refl _)) q)
  clear CN CT CW HK1 HK2 HF2 HB1 HQ
  have HS4 : Hid (w3.heap.size + 1 = (w3.alloc (.cells #[.int .i64 1, .int .i64 1, .int .i64 1] 3)).heap.size) := Lib.hid (by simp)
  have HN4 := Lib.hid (ones_nums w3 w3.heap.size rfl)
  have HB4 : Hid (Below w.heap.size w (w3.alloc (.cells #[.int .i64 1, .int .i64 1, .int .i64 1] 3))) := Lib.hid (HB3.out.alloc HB3.out.size _)
  have CS4 := Lib.hid (CS.out _ _ HN4.out)
  clear CS
  go_upto_region 6 with (first
    | (go_at_call 13; (with_reducible refine (CS4.out).mono ?_); rintro e w5 ⟨rfl, HO5, HB5⟩)
    | fail)
  have HB6 := Lib.hid (HB4.out.trans (HB5.out.mono HB4.out.size))
  have ho := HO5.out
  rw [← HS4.out] at ho
  have c0 := ho.cell 0 (by omega)
  have c1 := ho.cell 1 (by omega)
  have c2 := ho.cell 2 (by omega)
  clear ho
  simp only [List.getD_cons_zero, List.getD_cons_succ] at c0 c1 c2
  generalize w3.heap.size + 1 = gb at *
  clear HO5 HB5 HB4 HN4 CS4 HS4
  go_wp2
  go_ret
  exact ⟨rfl, HB6.out⟩
end Go.Proofs.Ytbbdkkjbcpkplaa
