/-
  Own text: the document's Check, all kinds.
-/
import Derived.Test.YtfiacpbpfdencaaRCheckA
import Derived.Test.YtfiacpbpfdencaaRCheckB
import Derived.Test.YtfiacpbpfdencaaRCheckC
namespace Go.Proofs.Ytfiacpbpfdencaa
open Go.RowKit

open Classical in
set_option maxRecDepth 100000 in
set_option maxHeartbeats 4000000 in
theorem rcheck_any (d : Dg) (l : List Int) (w : World) (hl : Bytes w d.da d.dl l) :
    Calls Try.prog 27 #[d.val] w fun e w' => e = .returned (.int .i64 (chk d l)) ∧ Below w.heap.size w w' := by
  have HX := dbox_all w d 25 l hl
  obtain ⟨R, hR⟩ : ∃ R, R = chk d l := ⟨_, rfl⟩
  have HR := Lib.hid hR
  rw [← hR]
  clear hR
  unfold chk at HR
  have hm := hl.max
  obtain ⟨kind, ses, seq, path, tick, A, B, K, M, ix, da, dl, dc⟩ := d
  dsimp only [Dg.val, Dg.cells] at *
  by_cases h1 : kind < 1
  · clear hl
    obtain ⟨b1, e1⟩ : ∃ b1, (K == 0) = b1 := ⟨_, rfl⟩
    obtain ⟨b2, e2⟩ : ∃ b2, (M == 0) = b2 := ⟨_, rfl⟩
    obtain ⟨b3, e3⟩ : ∃ b3, (ix == 0) = b3 := ⟨_, rfl⟩
    go_enter Try.func27, Try.ntmps27
    go_wp2
    all_goals
      go_ret
      exact ⟨ret_int (by rw [HR.out, if_pos (.inl h1)]), (Below.refl w.heap.size w).alloc (Nat.le_refl _) _⟩
  by_cases h8 : 8 < kind
  · clear hl
    obtain ⟨b1, e1⟩ : ∃ b1, (K == 0) = b1 := ⟨_, rfl⟩
    obtain ⟨b2, e2⟩ : ∃ b2, (M == 0) = b2 := ⟨_, rfl⟩
    obtain ⟨b3, e3⟩ : ∃ b3, (ix == 0) = b3 := ⟨_, rfl⟩
    go_enter Try.func27, Try.ntmps27
    go_wp2
    all_goals
      go_ret
      exact ⟨ret_int (by rw [HR.out, if_pos (.inr h8)]), (Below.refl w.heap.size w).alloc (Nat.le_refl _) _⟩
  rw [if_neg (by omega)] at HR
  have key : ∀ (P : Prop) [Decidable P], (formP ⟨kind, ses, seq, path, tick, A, B, K, M, ix, da, dl, dc⟩ l ↔ P) → Hid (R = if (0 ≤ path ∧ path < 2) ∧ P then 0 else 73) := fun P _ e => Lib.hid (by
    rw [HR.out]
    by_cases h : (0 ≤ path ∧ path < 2) ∧ P
    · rw [if_pos h, if_neg (not_not_intro ⟨h.1.1, h.1.2, e.2 h.2⟩)]
    · rw [if_neg h, if_pos (fun g => h ⟨⟨g.1, g.2.1⟩, e.1 g.2.2⟩)])
  clear HX
  rcases (show kind = 1 ∨ kind = 2 ∨ kind = 3 ∨ kind = 4 ∨ kind = 5 ∨ kind = 6 ∨ kind = 7 ∨ kind = 8 by omega) with rfl | rfl | rfl | rfl | rfl | rfl | rfl | rfl
  · exact rcheck_1 ses seq path tick A B K M ix da dl dc l w hl _ _ (Lib.hid rfl) (Lib.hid rfl) R (key _ (by simp [formP, bareB, codedB]))
  · exact rcheck_2 ses seq path tick A B K M ix da dl dc l w hl _ _ (Lib.hid rfl) (Lib.hid rfl) R (key _ (by simp [formP, bareB, codedB]))
  · exact rcheck_3 ses seq path tick A B K M ix da dl dc l w hl _ _ (Lib.hid rfl) (Lib.hid rfl) R (key _ (by simp [formP, bareB, codedB]))
  · exact rcheck_4 ses seq path tick A B K M ix da dl dc l w hl _ _ (Lib.hid rfl) (Lib.hid rfl) R (key _ (by simp [formP, bareB, codedB]))
  · exact rcheck_5 ses seq path tick A B K M ix da dl dc l w hl _ _ (Lib.hid rfl) (Lib.hid rfl) R (key _ (by simp [formP, bareB, codedB]))
  · exact rcheck_6 ses seq path tick A B K M ix da dl dc l w hl _ _ (Lib.hid rfl) (Lib.hid rfl) R (key _ (by simp [formP, bareB, codedB]))
  · exact rcheck_7 ses seq path tick A B K M ix da dl dc l w hl _ _ (Lib.hid rfl) (Lib.hid rfl) R (key _ (by simp [formP, bareB, codedB]))
  · exact rcheck_8 ses seq path tick A B K M ix da dl dc l w hl _ _ (Lib.hid rfl) (Lib.hid rfl) R (key _ (by simp [formP, bareB, codedB]))
end Go.Proofs.Ytfiacpbpfdencaa
