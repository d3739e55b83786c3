/-
  Own text: the document's Seal, walked.
-/
import Derived.Test.YtfiacpbpfdencaaByteB
import Derived.Test.YtfiacpbpfdencaaSealB
namespace Go.Proofs.Ytfiacpbpfdencaa
open Go.RowKit

/-- What the document's Seal leaves. -/
def SealedR (n : Nat) (l : List Int) (w : World) (e : Ending) (w' : World) : Prop :=
  ∃ A C, e = .returned (.slice A n C) ∧ Bytes w' A n (l ++ sealL (sumB l)) ∧ Below w.heap.size w w'
/-- The same, with its room. -/
def SealedO (n : Nat) (l : List Int) (w : World) (e : Ending) (w' : World) : Prop :=
  ∃ A C, e = .returned (.slice A n C) ∧ Bytes w' A n (l ++ sealL (sumB l)) ∧ Below w.heap.size w w' ∧ n ≤ C ∧ C ≤ 9223372036854775807
theorem sealL_range (s : BitVec 32) : ∀ z ∈ sealL s, 0 ≤ z ∧ z ≤ 255 := by
  simp only [sealL, List.mem_cons, List.not_mem_nil, or_false]; rintro z (rfl | rfl | rfl | rfl) <;> exact sb_range _ _
set_option maxRecDepth 100000 in
theorem rseal_own (a : Option Addr) (n cap : Nat) (l : List Int) (w : World) (hl : Bytes w a n l) (hn : n ≤ 100000) :
    Calls Try.prog 19 #[.slice a n cap] w (SealedO (n + 4) l w) := by
  have cs : Calls Try.prog 34 #[.int .u32 0, .slice a n cap] w fun e w' => e = .returned (.int .u32 (sumB l).toNat) ∧ w = w' := rmore_any 0#32 a n cap l w hl
  have hmk : ∀ w : World, (Instr.makeSlice 23 (.int .i64 (n : Int)) (.int .i64 (n : Int))).run Try.prog w = .ok (.slice (some ⟨w.heap.size, 0, none⟩) n n) (w.alloc (.cells (madeCells #[.int .u8 0] n) 5)) := fun w =>
    run_make_row' (P := Try.prog) 23 5 (.int .u8 0) 1 Try.underlying23 (by kernel_rfl) rfl .i64 .i64 n (by omega) (by omega) w
  have HM := Lib.hid (fun w => made_row w n 5)
  have HL := Lib.hid hl
  clear hl
  generalize madeCells #[Value.int .u8 0] n = M at *
  obtain ⟨s, hs⟩ : ∃ s, s = sumB l := ⟨_, rfl⟩
  rw [← hs] at cs
  have HSS := Lib.hid hs
  clear hs
  have hlt := s.isLt
  go_enter Try.func19, Try.ntmps19
  go_wp2_with (first
    | (go_at_call 34; refine cs.mono ?_; clear cs; rintro e w' ⟨rfl, rfl⟩)
    | (go_at_call 22; refine (rbytes_any _ _).mono ?_; rintro e w1 ⟨rfl, rfl⟩)
    | (with_reducible refine wpList_copy_bytes (w := (w.alloc _).alloc _) rfl (.tmp 12) (.tmp 13) rfl _ _ _ _ _ _ rfl rfl (w.heap.size + 1) 0 (List.replicate n 0) 5 ?hg l ?hl n ?hk ?hp ?hf ?_))
  case hg => have := HM.out (w.alloc (.cells #[.int .u8 (sb s 3), .int .u8 (sb s 2), .int .u8 (sb s 1), .int .u8 (sb s 0)] 5)); simpa using this
  case hl => exact HL.out.below (((Below.refl _ _).alloc (Nat.le_refl _) _).alloc (by simp) _) (Nat.le_refl _)
  case hk => exact (Nat.min_self n).symm
  case hf => simp
  intro w2 HG hb2
  have hsrc : Bytes w2 (some ⟨w.heap.size, 0, none⟩) 4 [sb s 3, sb s 2, sb s 1, sb s 0] := (new_block w #[.int .u8 (sb s 3), .int .u8 (sb s 2), .int .u8 (sb s 1), .int .u8 (sb s 0)] 5 (0, 0) _ rfl [sb s 3, sb s 2, sb s 1, sb s 0] rfl (by simp) (by simp only [List.mem_cons, List.not_mem_nil, or_false]; rintro z (rfl | rfl | rfl | rfl) <;> exact sb_range _ _) 4 rfl).below (((Below.refl (w.heap.size + 1) _).alloc (by simp) _).trans hb2) (by simp)
  obtain ⟨c0, c1, c2, c3⟩ : w2.cell? ⟨w.heap.size, 0, none⟩ = some (.int .u8 (sb s 3)) ∧ w2.cell? ⟨w.heap.size, 1, none⟩ = some (.int .u8 (sb s 2)) ∧ w2.cell? ⟨w.heap.size, 2, none⟩ = some (.int .u8 (sb s 1)) ∧ w2.cell? ⟨w.heap.size, 3, none⟩ = some (.int .u8 (sb s 0)) := by
    rcases hsrc.cell with h | ⟨_, b, off, e, _, hc⟩
    · omega
    · simp only [Option.some.injEq, Addr.mk.injEq, and_true] at e
      obtain ⟨rfl, rfl⟩ := e
      have h0 := hc 0 (by omega)
      have h1 := hc 1 (by omega)
      have h2 := hc 2 (by omega)
      have h3 := hc 3 (by omega)
      simp only [Nat.zero_add] at h0 h1 h2 h3
      exact ⟨h0, h1, h2, h3⟩
  have HB2 := Lib.hid hb2
  clear hb2 hsrc
  go_wp2
  have hz2 : w.heap.size + 2 ≤ w2.heap.size := by have := HB2.out.size; simp at this; omega
  have HZ2 := Lib.hid hz2
  clear hz2
  have H1 : Hid (Own8 (w2.alloc (.cells #[.int .u8 (sb s 0), .int .u8 (sb s 1), .int .u8 (sb s 2), .int .u8 (sb s 3)] 5)).drew (w.heap.size + 1) (.slice (some ⟨w.heap.size + 1, 0, none⟩) n n) n (splice (List.replicate n 0) 0 (List.take n l))) := Lib.hid
    ((Own8.row HG.out (Nat.le_refl _) (by rw [length_splice] <;> simp [HL.out.size]) (by unfold maxLen; omega)).below (((Below.refl w2.heap.size w2).alloc (Nat.le_refl _) _)).drew (Nat.le_refl _))
  have H2 : Hid (Bytes (w2.alloc (.cells #[.int .u8 (sb s 0), .int .u8 (sb s 1), .int .u8 (sb s 2), .int .u8 (sb s 3)] 5)).drew (some ⟨w2.heap.size, 0, none⟩) 4 (sealL s)) := Lib.hid (new_block w2 #[.int .u8 (sb s 0), .int .u8 (sb s 1), .int .u8 (sb s 2), .int .u8 (sb s 3)] 5 (0, 0) _ rfl (sealL s) rfl (by simp [sealL]) (sealL_range s) 4 rfl).drew
  have H3 : Hid (n + 4 ≤ 1000000) := Lib.hid (by omega)
  have H4 : Hid (Below w.heap.size w (w2.alloc (.cells #[.int .u8 (sb s 0), .int .u8 (sb s 1), .int .u8 (sb s 2), .int .u8 (sb s 3)] 5)).drew) := Lib.hid
    (((((Below.refl w.heap.size w).alloc (Nat.le_refl _) _).alloc (by simp) _).trans (HB2.out.mono (by omega))).alloc (show w.heap.size ≤ w2.heap.size by have := HZ2.out; omega) _).drew
  have H5 : Hid (w.heap.size + 1 ≤ ((w2.alloc (.cells #[.int .u8 (sb s 0), .int .u8 (sb s 1), .int .u8 (sb s 2), .int .u8 (sb s 3)] 5)).drew).heap.size) := Lib.hid (by have := HZ2.out; simp; omega)
  have HC : Hid (((w2.alloc (.cells #[.int .u8 (sb s 0), .int .u8 (sb s 1), .int .u8 (sb s 2), .int .u8 (sb s 3)] 5)).drew).cell? ⟨w.heap.size, 0, none⟩ = some (.int .u8 (sb s 3)) ∧ ((w2.alloc (.cells #[.int .u8 (sb s 0), .int .u8 (sb s 1), .int .u8 (sb s 2), .int .u8 (sb s 3)] 5)).drew).cell? ⟨w.heap.size, 1, none⟩ = some (.int .u8 (sb s 2)) ∧ ((w2.alloc (.cells #[.int .u8 (sb s 0), .int .u8 (sb s 1), .int .u8 (sb s 2), .int .u8 (sb s 3)] 5)).drew).cell? ⟨w.heap.size, 2, none⟩ = some (.int .u8 (sb s 1)) ∧ ((w2.alloc (.cells #[.int .u8 (sb s 0), .int .u8 (sb s 1), .int .u8 (sb s 2), .int .u8 (sb s 3)] 5)).drew).cell? ⟨w.heap.size, 3, none⟩ = some (.int .u8 (sb s 0))) := Lib.hid (by
    have hb := ((Below.refl w2.heap.size w2).alloc (Nat.le_refl _) (.cells #[.int .u8 (sb s 0), .int .u8 (sb s 1), .int .u8 (sb s 2), .int .u8 (sb s 3)] 5)).drew
    have hlt : w.heap.size < w2.heap.size := by have := HZ2.out; omega
    exact ⟨(hb.cell hlt).trans c0, (hb.cell hlt).trans c1, (hb.cell hlt).trans c2, (hb.cell hlt).trans c3⟩)
  have HE : Hid (splice (List.replicate n (0 : Int)) 0 (List.take n l) = l) := Lib.hid (by rw [List.take_of_length_le (by rw [HL.out.size]; exact Nat.le_refl _)]; unfold splice; simp [HL.out.size])
  go_region_held3 (fun w' => w'.cell? ⟨w.heap.size, 0, none⟩ = some (.int .u8 (sb s 3)) ∧ w'.cell? ⟨w.heap.size, 1, none⟩ = some (.int .u8 (sb s 2)) ∧ w'.cell? ⟨w.heap.size, 2, none⟩ = some (.int .u8 (sb s 1)) ∧ w'.cell? ⟨w.heap.size, 3, none⟩ = some (.int .u8 (sb s 0)))
    (first | go_keep | exact ⟨(HB3.cell (Nat.lt_succ_self _)).trans HC.out.1, (HB3.cell (Nat.lt_succ_self _)).trans HC.out.2.1, (HB3.cell (Nat.lt_succ_self _)).trans HC.out.2.2.1, (HB3.cell (Nat.lt_succ_self _)).trans HC.out.2.2.2⟩)
    ((refine step_append_bytes (w := (w2.alloc _).drew) rfl (.tmp 15) (.tmp 28) rfl (w.heap.size + 1) _ _ _ rfl _ H1.out _ _ _ rfl (sealL s) H2.out (fun h => nomatch h) H3.out (w.heap.size + 1) (w2.alloc _).drew (Below.refl _ _) (Nat.le_refl _) H5.out (n + 4) rfl _ rfl ?_; intro A C w3 HO HB3))
  go_wp2
  go_ret
  have hc : n + 4 ≤ C ∧ C ≤ 9223372036854775807 := by
    obtain ⟨A', C', e, h1, h2⟩ := HO.out.slice
    unfold maxLen at h2
    simp at e
    omega
  refine ⟨A, C, rfl, ?_, H4.out.trans (HB3.mono (Nat.le_succ _)), hc⟩
  have h := HO.out
  rw [HE.out, HSS.out] at h
  refine h.bytes (fun z hz => ?_)
  rcases List.mem_append.1 hz with h | h
  · exact HL.out.range z h
  · exact sealL_range _ z h
theorem rseal_any (a : Option Addr) (n cap : Nat) (l : List Int) (w : World) (hl : Bytes w a n l) (hn : n ≤ 100000) :
    Calls Try.prog 19 #[.slice a n cap] w (SealedR (n + 4) l w) :=
  (rseal_own a n cap l w hl hn).mono fun _ _ ⟨A, C, h1, h2, h3, _⟩ => ⟨A, C, h1, h2, h3⟩
end Go.Proofs.Ytfiacpbpfdencaa
