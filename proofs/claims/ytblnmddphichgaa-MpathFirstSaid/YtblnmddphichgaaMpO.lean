/-
  Own text: Heard, send, Push, walked.
-/
import Derived.Test.YtblnmddphichgaaMpL
import Derived.Test.YtblnmddphichgaaMpC
namespace Go.Proofs.Ytblnmddphichgaa.Mp
open Go.RowKit

theorem after_own {w w' : World} {S : Nat → Prop} {p kb qb : Nat} {s : Sd} {A : Option Addr} {C : Nat} (h : SBd w' S p s kb qb A C ∧ Fr S w w') : After SB w S p s w' := ⟨⟨S, ⟨kb, qb, A, C, h.1⟩, fun _ hk => .inl hk⟩, h.2⟩
theorem Fr.refl (S : Nat → Prop) (w : World) : Fr S w w := ⟨rfl, rfl, rfl, Nat.le_refl _, fun _ _ _ => rfl⟩
theorem heard_sb {w : World} {S : Nat → Prop} {p k n : Nat} {s : Sd} (i : Int) (h : SB w S p s) (hf : s.fit k) (hk : k ≤ 1000000) (hn : n < 4294967296) :
    Calls Try.prog 10 #[.pointer (some ⟨p, 0, none⟩), .int .i64 i, .int .u32 (n : Int)] w fun e w' => (∃ c : Int, e = .returned (.int .i64 c)) ∧ Hid (After SB w S p (if 0 ≤ i ∧ i < 2 then s.hear i.toNat n else s) w') := by
  obtain ⟨kb, qb, A, C, h⟩ := h
  by_cases hi : 0 ≤ i ∧ i < 2
  · obtain ⟨h0, h1⟩ := hi
    obtain ⟨j, rfl⟩ : ∃ j : Nat, i = (j : Int) := ⟨i.toNat, by omega⟩
    have hj : j < 2 := by omega
    rw [if_pos ⟨h0, h1⟩, Int.toNat_natCast]
    have hw : PLie w p (15 * j) (s.wy j) := by
      rcases (by omega : j = 0 ∨ j = 1) with rfl | rfl
      · exact h.blk.w0
      · exact h.blk.w1
    have CH := Lib.hid (heard_any p (15 * j) k n (s.wy j) (hf.wy j hj) hk hn w hw)
    have HR := Lib.hid (fun (w' : World) h1 h2 => after_own (h.way (w' := w') (q := (s.wy j).heard n) hj h1 h2))
    rw [Nat.mul_comm] at CH
    have n0 : ¬ (j : Int) < 0 := by omega
    have n1 : (j : Int) < 2 := h1
    have CK := Lib.hid (known_yes j hj w)
    clear h hw hf hn hk
    go_enter Try.func10, Try.ntmps10
    go_wp2_with (first
      | (go_at_call 26; (with_reducible refine (CK.out).mono ?_); rintro e w0 ⟨rfl, rfl⟩)
      | (go_at_call 27; (with_reducible refine (CH.out).mono ?_); rintro e w1 ⟨rfl, HP, HW⟩)
      | fail)
    go_ret
    refine ⟨⟨_, rfl⟩, Lib.hid ?_⟩
    exact HR.out w1 (Nat.mul_comm j 15 ▸ HP.out) (Nat.mul_comm j 15 ▸ HW.out)
  · rw [if_neg hi]
    have ha := Lib.hid (after_own ⟨h, Fr.refl S w⟩)
    have CK := Lib.hid (known_no i hi w)
    clear h hf hn hk hi
    go_enter Try.func10, Try.ntmps10
    go_wp2_with (first
      | (go_at_call 26; (with_reducible refine (CK.out).mono ?_); rintro e w0 ⟨rfl, rfl⟩)
      | fail)
    go_ret
    exact ⟨⟨_, rfl⟩, ha⟩
end Go.Proofs.Ytblnmddphichgaa.Mp
