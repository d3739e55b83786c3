/-
  Own text: Tick, the document's Tick, same, walked.
-/
import Derived.Test.YtbbdkkjbcpkplaaPcB
namespace Go.Proofs.Ytbbdkkjbcpkplaa
open Go.RowKit

set_option maxRecDepth 100000 in
theorem tick12_any (t : Int) (ht : -9223372036854775808 ≤ t) (ht' : t ≤ 9223372036854775807) (b i : Nat) (k : Bk) (hf : k.fit i) (w : World) (h : KBlk 33 w b k) :
    Calls Try.prog 10 #[.pointer (some ⟨b, 0, none⟩), .int .i64 t] w fun e w' => e = .returned (.tuple #[]) ∧ Hid (KBlk 33 w' b (k.tick t)) ∧ Hid (Frm b w w') := by
  have hcl := k.come_lo hf t
  have hkl := k.kept_lo hf t
  have h1 := hf.h1
  have h2 := hf.h2
  have r1 := hf.r1
  have r2 := hf.r2
  have b2 := hf.b2
  have f1 := hf.f1
  have f2 := hf.f2
  obtain ⟨c0, c1, c2, c3, c4⟩ := h.cells
  have z2 := h.frozen 2
  have z4 := h.frozen 4
  have CM : Hid (∀ w', Calls Try.prog 21 #[.int .i64 k.ra, .int .i64 (if t < 0 then 0 else t)] w' fun e w1 => e = .returned (.int .i64 (k.come t)) ∧ w' = w1) := Lib.hid (fun w' => mul_any _ _ w' (by omega) (by omega) (by split <;> omega) (by split <;> omega))
  have hk : k.kept t = if k.bu - k.he < k.come t then k.bu - k.he else k.come t := rfl
  have CA : Hid (∀ w', Calls Try.prog 22 #[.int .i64 k.fu, .int .i64 (k.come t - k.kept t)] w' fun e w1 => e = .returned (.int .i64 (held (k.fu + (k.come t - k.kept t)))) ∧ w' = w1) := Lib.hid (fun w' => add_any _ _ w' (by omega) (by omega) (by omega) (by omega))
  have HT : k.tick t = ⟨k.ra, k.bu, k.he + k.kept t, k.sp, held (k.fu + (k.come t - k.kept t))⟩ := rfl
  rw [HT]
  have HF := Lib.hid (fun j => ((h.drewN j).set2 (k.he + k.kept t)).set4 (held (k.fu + (k.come t - k.kept t))))
  dsimp only at HF
  have e1 : IntKind.i64.wrap (k.bu - k.he) = k.bu - k.he := by rw [IntKind.wrap_i64]; omega
  have e2 : IntKind.i64.wrap (k.he + k.kept t) = k.he + k.kept t := by rw [IntKind.wrap_i64]; omega
  have e3 : IntKind.i64.wrap (k.come t - k.kept t) = k.come t - k.kept t := by rw [IntKind.wrap_i64]; omega
  clear h hf HT f1 f2 r1 r2
  generalize hfu : held (k.fu + (k.come t - k.kept t)) = fu' at *
  clear hfu
  generalize k.kept t = m at *
  generalize k.come t = co at *
  generalize k.ra = ra at *
  generalize k.he = he at *
  generalize k.bu = bu at *
  generalize k.sp = sp at *
  generalize k.fu = fu at *
  by_cases hn : t < 0
  all_goals
    first | rw [if_pos hn] at CM | rw [if_neg hn] at CM
    by_cases hm : bu - he < co
    all_goals
      first | rw [if_pos hm] at hk | rw [if_neg hm] at hk
      subst hk
      (try simp only [Int.sub_self] at CA e3)
      go_enter Try.func10, Try.ntmps10
      go_upto_region 1 with (first
        | (go_at_call 21; (with_reducible refine (CM.out _).mono ?_); rintro e w1 ⟨rfl, rfl⟩)
        | fail)
      go_quiet (fail)
      go_wp2_with (first
        | (go_at_call 22; (with_reducible refine (CA.out _).mono ?_); rintro e w1 ⟨rfl, rfl⟩)
        | fail)
      all_goals go_end0
      all_goals exact ⟨rfl, Lib.hid (HF.out _), Lib.hid ((((Frm.refl _ _).drewN _).set _ _).set _ _)⟩
end Go.Proofs.Ytbbdkkjbcpkplaa
