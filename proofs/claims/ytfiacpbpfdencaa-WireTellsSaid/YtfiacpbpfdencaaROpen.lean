/-
  Own text: the document's Open, walked.
-/
import Derived.Test.YtfiacpbpfdencaaRSeal
import Derived.Test.YtfiacpbpfdencaaOpen
namespace Go.Proofs.Ytfiacpbpfdencaa
open Go.RowKit

theorem opensB_same (n : Nat) (l : List Int) : sameB (l.take n ++ sealL (sumB (l.take n))) l = opensB n l := by
  unfold opensB sameB
  rw [Bool.eq_iff_iff]
  simp only [decide_eq_true_eq]
  constructor
  · intro h
    have e : l.take n ++ sealL (sumB (l.take n)) = l.take n ++ l.drop n := by rw [List.take_append_drop]; exact h
    exact (List.append_cancel_left e).symm
  · intro h
    rw [← h, List.take_append_drop]
theorem ropen_short (a : Option Addr) (n cap : Nat) (w : World) (hn : n < 4) :
    Calls Try.prog 32 #[.slice a n cap] w fun e w' => e = .returned (.tuple #[.slice none 0 0, .int .i64 70]) ∧ w = w' := by
  go_enter Try.func32, Try.ntmps32
  go_wp2
  go_ret2
  exact ⟨rfl, rfl⟩
set_option maxRecDepth 100000 in
theorem ropen_any (a : Option Addr) (n cap : Nat) (l : List Int) (w : World) (hl : Bytes w a (n + 4) l) (hn : n ≤ 100000) (hcap : n + 4 ≤ cap) :
    Calls Try.prog 32 #[.slice a (n + 4) cap] w fun e w' => e = .returned (.tuple (if opensB n l = true then #[.slice a n cap, .int .i64 0] else #[.slice none 0 0, .int .i64 20])) ∧ Below w.heap.size w w' := by
  obtain ⟨b, off, rfl⟩ : ∃ b off, a = some ⟨b, off, none⟩ := by
    rcases hl.cell with h | ⟨_, b, off, e, h1, h⟩
    · omega
    · exact ⟨b, off, e⟩
  have HL := Lib.hid hl
  have HF := Lib.hid (hl.front (n := n) (by omega))
  clear hl
  have q := opensB_same n l
  have HQ := Lib.hid q
  clear q
  have n0 : (0 : Int) ≤ n := by omega
  have n1 : (n : Int) ≤ cap := by omega
  cases ho : opensB n l <;>
  (go_enter Try.func32, Try.ntmps32
   go_wp2_with (first
     | (go_at_call 19; refine (rseal_any _ _ _ _ _ HF.out hn).mono ?_; rintro e w1 ⟨A, C, rfl, hs, hb1⟩; have HS := Lib.hid hs; have HB1 := Lib.hid hb1; clear hs hb1)
     | (go_at_call 14; refine (same_any _ _ _ _ _ _ _ _ _ HS.out (HL.out.below HB1.out (Nat.le_refl _))).mono ?_; rw [HQ.out, ho]; rintro e w2 ⟨rfl, hb2⟩; have HB2 := Lib.hid hb2; clear hb2))
   go_ret2
   exact ⟨rfl, HB1.out.trans (HB2.out.mono HB1.out.size)⟩)
end Go.Proofs.Ytfiacpbpfdencaa
