/-
  Own text: New, Wait, Tick, the document's Tick, walked.
-/
import Derived.Test.YtbbdkkjbcpkplaaPcA
namespace Go.Proofs.Ytbbdkkjbcpkplaa
open Go.RowKit

set_option maxRecDepth 100000 in
theorem new12_yes (r b : Int) (hok : okB r b = true) (w : World) :
    Calls Try.prog 15 #[.int .i64 r, .int .i64 b] w fun e w' => e = .returned (.tuple #[.pointer (some ⟨w.heap.size, 0, none⟩), .int .i64 0]) ∧ Hid (KBlk 33 w' w.heap.size (Bk.new r b)) ∧ Hid (Below w.heap.size w w') := by
  obtain ⟨W1, hW1⟩ : ∃ W1, W1 = w.alloc (.cells #[.int .i64 0, .int .i64 0, .int .i64 b, .int .i64 0, .int .i64 0] 33) := ⟨_, rfl⟩
  have HB1 : Hid (Below w.heap.size w W1) := Lib.hid (by rw [hW1]; exact (Below.refl _ _).alloc (Nat.le_refl _) _)
  have HS : Hid (w.heap.size + 1 = W1.heap.size) := Lib.hid (by rw [hW1]; simp)
  have k1 : KBlk 33 W1 w.heap.size ⟨0, 0, b, 0, 0⟩ := by rw [hW1]; exact KBlk.new w ⟨0, 0, b, 0, 0⟩ _
  have HC : (⟨0, 0, b, 0, 0⟩ : Bk).change r b = Bk.new r b := by
    unfold Bk.change Bk.new
    rw [if_pos hok]
    simp
  have CC := Lib.hid (change_any r b w.heap.size ⟨0, 0, b, 0, 0⟩ W1 k1)
  rw [HC, hok] at CC
  clear k1 HC hok
  go_enter Try.func15, Try.ntmps15
  go_upto_region 2 with fail
  rw [← hW1]
  clear hW1
  go_wp2_with (first
    | (go_at_call 18; (with_reducible refine (CC.out).mono ?_); rintro e w2 ⟨rfl, HK, HF⟩)
    | fail)
  all_goals go_ret2
  all_goals exact ⟨rfl, HK, Lib.hid (HF.out.bel HB1.out (by have := HS.out; omega) (Nat.le_refl _))⟩
set_option maxRecDepth 100000 in
theorem new12_no (r b : Int) (hok : okB r b = false) (w : World) :
    Calls Try.prog 15 #[.int .i64 r, .int .i64 b] w fun e w' => e = .returned (.tuple #[.pointer none, .int .i64 1]) ∧ Hid (Below w.heap.size w w') := by
  obtain ⟨W1, hW1⟩ : ∃ W1, W1 = w.alloc (.cells #[.int .i64 0, .int .i64 0, .int .i64 b, .int .i64 0, .int .i64 0] 33) := ⟨_, rfl⟩
  have HB1 : Hid (Below w.heap.size w W1) := Lib.hid (by rw [hW1]; exact (Below.refl _ _).alloc (Nat.le_refl _) _)
  have HS : Hid (w.heap.size + 1 = W1.heap.size) := Lib.hid (by rw [hW1]; simp)
  have k1 : KBlk 33 W1 w.heap.size ⟨0, 0, b, 0, 0⟩ := by rw [hW1]; exact KBlk.new w ⟨0, 0, b, 0, 0⟩ _
  have CC := Lib.hid (change_any r b w.heap.size ⟨0, 0, b, 0, 0⟩ W1 k1)
  rw [hok] at CC
  clear k1 hok
  go_enter Try.func15, Try.ntmps15
  go_upto_region 2 with fail
  rw [← hW1]
  clear hW1
  go_wp2_with (first
    | (go_at_call 18; (with_reducible refine (CC.out).mono ?_); rintro e w2 ⟨rfl, HK, HF⟩)
    | fail)
  all_goals go_ret2
  all_goals exact ⟨rfl, Lib.hid (HF.out.bel HB1.out (by have := HS.out; omega) (Nat.le_refl _))⟩
set_option maxRecDepth 100000 in
theorem wait_any (n : Int) (b i : Nat) (k : Bk) (hf : k.fit i) (w : World) (h : KBlk 33 w b k) :
    Calls Try.prog 9 #[.pointer (some ⟨b, 0, none⟩), .int .i64 n] w fun e w' => e = .returned (if 0 ≤ n ∧ n ≤ k.bu then .tuple #[.int .i64 (k.wait n), .bool true] else .tuple #[.int .i64 0, .bool false]) ∧ ∃ j, w' = w.drewN j := by
  have CM := Lib.hid (may_any n b k w h)
  have hm : k.may n = decide (0 ≤ n ∧ n ≤ k.he) := rfl
  have hw : k.wait n = if k.may n = true then 0 else -((k.he - n) / k.ra) := rfl
  have hwl := k.wait_lo hf n
  obtain ⟨c0, c1, c2, c3, c4⟩ := h.cells
  have r1 := hf.r1
  have r2 := hf.r2
  have b2 := hf.b2
  have h1 := hf.h1
  have h2 := hf.h2
  clear h hf
  by_cases h0 : n < 0
  · rw [if_neg (by omega)]
    clear hwl hm hw
    go_enter Try.func9, Try.ntmps9
    go_wp2
    all_goals go_ret2
    all_goals exact ⟨rfl, 0, rfl⟩
  · by_cases h3 : k.bu < n
    · rw [if_neg (by omega)]
      clear hwl hm hw
      go_enter Try.func9, Try.ntmps9
      go_wp2
      all_goals go_ret2
      all_goals exact ⟨rfl, 0, rfl⟩
    · rw [if_pos (by omega)]
      have hwl := hwl (by omega) (by omega)
      by_cases hk : n ≤ k.he
      · have hmt : k.may n = true := by rw [hm]; exact decide_eq_true ⟨by omega, hk⟩
        rw [if_pos hmt] at hw
        rw [hw]
        rw [hmt] at CM
        clear hwl hm hw hmt
        go_enter Try.func9, Try.ntmps9
        go_wp2_with (first
          | (go_at_call 11; (with_reducible refine (CM.out).mono ?_); rintro e w1 ⟨rfl, rfl⟩)
          | fail)
        all_goals go_ret2
        all_goals exact ⟨rfl, 0, rfl⟩
      · have hmt : k.may n = false := by rw [hm]; exact decide_eq_false (fun e => hk e.2)
        rw [if_neg (by rw [hmt]; simp)] at hw
        rw [hw] at hwl
        rw [hw]
        rw [hmt] at CM
        clear hm hw hmt
        have e1 : IntKind.i64.wrap (k.he - n) = k.he - n := by rw [IntKind.wrap_i64]; omega
        have e2 : IntKind.i64.wrap (-((k.he - n) / k.ra)) = -((k.he - n) / k.ra) := by rw [IntKind.wrap_i64]; omega
        have e3 : wrap64 (k.he - n) = k.he - n := by unfold wrap64; omega
        have e4 : wrap64 (-((k.he - n) / k.ra)) = -((k.he - n) / k.ra) := by unfold wrap64; omega
        have CF : Hid (∀ w', Calls Try.prog 20 #[.int .i64 (k.he - n), .int .i64 k.ra] w' fun e w1 => e = .returned (.int .i64 ((k.he - n) / k.ra)) ∧ w' = w1) := Lib.hid (fun w' => by
          rw [← floor_div (k.he - n) k.ra (by omega) (by omega) (by omega) (by omega)]
          exact floor_any _ _ _)
        clear hwl
        generalize (k.he - n) / k.ra = q at *
        generalize k.he = he at *
        generalize k.ra = ra at *
        generalize k.bu = bu at *
        go_enter Try.func9, Try.ntmps9
        go_upto_region 5 with (first
          | (go_at_call 11; (with_reducible refine (CM.out).mono ?_); rintro e w1 ⟨rfl, rfl⟩)
          | fail)
        clear CM
        go_quiet ((go_at_call 20; exact (CF.out _).mono fun _ _ h => ⟨h.1, _, h.2.symm⟩))
        go_wp2
        all_goals go_ret2
        all_goals exact ⟨rfl, _, rfl⟩
end Go.Proofs.Ytbbdkkjbcpkplaa
