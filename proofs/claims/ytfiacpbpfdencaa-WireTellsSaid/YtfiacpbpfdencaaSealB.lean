/-
  Own text: Seal, walked.
-/
import Derived.Test.YtfiacpbpfdencaaSealA
namespace Go.Proofs.Ytfiacpbpfdencaa
open Go.RowKit

/-- What Seal leaves: a new block, with the data and the sum's bytes. -/
def Sealed (n : Nat) (l : List Int) (w : World) (e : Ending) (w' : World) : Prop :=
  ∃ g, e = .returned (.slice (some ⟨g, 0, none⟩) n n) ∧ w.heap.size ≤ g ∧ Row8 w' g 5 (l ++ sealL (sumB l)) ∧ Below w.heap.size w w'
theorem seal_splice (l : List Int) (s : List Int) (n : Nat) (h : l.length = n) (hs : s.length = 4) : splice (splice (List.replicate (n + 4) (0 : Int)) 0 (l.take n)) n (s.take 4) = l ++ s := by
  subst h
  rw [List.take_of_length_le (Nat.le_refl _), List.take_of_length_le (by omega)]
  unfold splice
  simp [hs]
set_option maxRecDepth 100000 in
theorem seals_any (t : Nat) (a : Option Addr) (n cap : Nat) (l : List Int) (w : World) (ht : IsTab w t) (hl : Bytes w a n l) (hn : n ≤ 100000) :
    Calls Try.prog 25 #[.pointer (some ⟨t, 0, none⟩), .slice a n cap] w (Sealed (n + 4) l w) := by
  have cs := sum_any t a n cap l w ht hl
  have hsz := hl.size
  have hmk : ∀ w : World, (Instr.makeSlice 23 (.int .i64 ((n : Int) + 4)) (.int .i64 ((n : Int) + 4))).run Try.prog w = .ok (.slice (some ⟨w.heap.size, 0, none⟩) (n + 4) (n + 4)) (w.alloc (.cells (madeCells #[.int .u8 0] (n + 4)) 5)) := fun w => by
    have := run_make_row' (P := Try.prog) 23 5 (.int .u8 0) 1 Try.underlying23 (by kernel_rfl) rfl .i64 .i64 (n + 4) (by omega) (by omega) w
    simpa using this
  have HL := Lib.hid hl
  have HS := Lib.hid hsz
  clear hl hsz
  have HM := Lib.hid (fun w => made_row w (n + 4) 5)
  generalize madeCells #[Value.int .u8 0] (n + 4) = M at *
  obtain ⟨s, hs⟩ : ∃ s, s = sumB l := ⟨_, rfl⟩
  rw [← hs] at cs
  have HSS := Lib.hid hs
  clear hs
  go_enter Try.func25, Try.ntmps25
  go_wp2_with (first
    | (go_at_call 39; refine cs.mono ?_; clear cs; rintro e w' ⟨rfl, rfl⟩)
    | (go_at_call 38; refine (seal_any _ _).mono ?_; rintro e w1 ⟨rfl, hb1⟩; have HB1 := Lib.hid hb1; clear hb1)
    | (with_reducible refine wpList_copy_bytes (w := (w1.alloc _).alloc _) rfl (.tmp 16) (.tmp 17) rfl _ _ _ _ _ _ rfl rfl (w1.heap.size + 1) 0 (List.replicate (n + 4) 0) 5 ?hg l ?hl n ?hk ?hp ?hf ?_))
  case hg => have := HM.out (w1.alloc (.cells #[.int .u8 (sb s 0), .int .u8 (sb s 1), .int .u8 (sb s 2), .int .u8 (sb s 3)] 73)); simpa using this
  case hl => exact HL.out.below (((HB1.out.alloc HB1.out.size _).alloc (by have := HB1.out.size; simp; omega) _)) (Nat.le_refl _)
  case hk => exact (Nat.min_eq_left (by omega)).symm
  case hf => simp
  intro w2 HG hb2
  have hsrc : Bytes w2 (some ⟨w1.heap.size, 0, none⟩) 4 (sealL s) := (new_block w1 _ 73 (0, 0) _ rfl (sealL s) rfl (by simp [sealL]) (by simp only [sealL, List.mem_cons, List.not_mem_nil, or_false]; rintro z (rfl | rfl | rfl | rfl) <;> exact sb_range _ _) 4 rfl).below (((Below.refl (w1.heap.size + 1) _).alloc (by simp) _).trans hb2) (by simp)
  have HB2 := Lib.hid hb2
  have HC := Lib.hid hsrc
  clear hb2 hsrc
  have n0 : (0 : Int) ≤ n := by omega
  have n4 : (n : Int) ≤ (n : Int) + 4 := by omega
  go_wp2
  refine wp_region_still_tail 4 (by kernel_rfl) (by kernel_rfl) ?_
  simp only [List.take_succ_cons, List.take_zero, List.drop_succ_cons, List.drop_zero]
  iterate 4 still_step
  refine wpStill_nil ?_
  change wpList _ _ _ _ _ w2.drew
  refine wpList_copy_bytes (w := w2.drew) rfl (.tmp 21) (.tmp 22) rfl _ _ _ _ _ _ rfl rfl (w1.heap.size + 1) n _ 5 HG.out (sealL s) HC.out.drew 4 (by decide) (fun _ => rfl) (by rw [length_splice] <;> simp [HS.out]) ?_
  intro w3 HG3 hb3
  go_wp2
  go_ret
  have z := HB1.out.size
  refine ⟨w1.heap.size + 1, rfl, by omega, ?_, ?_⟩
  · have := HG3.out
    rwa [seal_splice l (sealL s) n HS.out rfl, HSS.out] at this
  · have h1 : Below w.heap.size w w2 := ((HB1.out.alloc z _).alloc (by simp; omega) _).trans (HB2.out.mono (by omega))
    exact h1.drew.trans (hb3.mono (by omega))
end Go.Proofs.Ytfiacpbpfdencaa
