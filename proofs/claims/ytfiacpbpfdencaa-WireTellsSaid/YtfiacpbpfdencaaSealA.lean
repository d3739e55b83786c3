/-
  Own text: the four bytes of a sum (seal, the document's Bytes), walked; blocks of bytes that are known whole, and copies into them.
-/
import Derived.Test.YtfiacpbpfdencaaByteC
import Derived.Test.YtfiacpbpfdencaaCrcC
import Derived.Laws.OwnMore
namespace Go.Proofs.Ytfiacpbpfdencaa
open Go.RowKit

/-- The byte number i of a sum. -/
def sb (s : BitVec 32) : Nat → Int
  | 0 => (s.toNat : Int) % 256
  | 1 => (s.toNat : Int) / 256 % 256
  | 2 => (s.toNat : Int) / 65536 % 256
  | _ => (s.toNat : Int) / 16777216
theorem sb_range (s : BitVec 32) (i : Nat) : 0 ≤ sb s i ∧ sb s i ≤ 255 := by
  have := s.isLt
  unfold sb
  split <;> omega
/-- The four bytes of a sum, the lowest first. -/
def sealL (s : BitVec 32) : List Int := [sb s 0, sb s 1, sb s 2, sb s 3]
theorem seal_any (s : BitVec 32) (w : World) :
    Calls Try.prog 38 #[.int .u32 s.toNat] w fun e w' => e = .returned (.agg #[.int .u8 (sb s 0), .int .u8 (sb s 1), .int .u8 (sb s 2), .int .u8 (sb s 3)]) ∧ Below w.heap.size w w' := by
  have HE : Hid (sb s 0 = (s.toNat : Int) % 256 ∧ sb s 1 = (s.toNat : Int) / 256 % 256 ∧ sb s 2 = (s.toNat : Int) / 65536 % 256 ∧ sb s 3 = (s.toNat : Int) / 16777216) := Lib.hid ⟨rfl, rfl, rfl, rfl⟩
  go_enter Try.func38, Try.ntmps38
  go_wp2
  refine wp_loop_rounds 5 ?_
  iterate 5 (rw [rounds_succ]; go_wp2)
  exact bodyPost_ret (v := .agg #[.int .u8 (sb s 0), .int .u8 (sb s 1), .int .u8 (sb s 2), .int .u8 (sb s 3)]) (by simp [results, Try.results38, go_sem, HE.out]) rfl ⟨rfl, ((Below.refl _ _).alloc (by simp) _).alloc (by simp) _⟩
theorem rbytes_any (s : BitVec 32) (w : World) :
    Calls Try.prog 22 #[.int .u64 s.toNat, .int .i64 4] w fun e w' => e = .returned (.slice (some ⟨w.heap.size, 0, none⟩) 4 4) ∧ w' = w.alloc (.cells #[.int .u8 (sb s 3), .int .u8 (sb s 2), .int .u8 (sb s 1), .int .u8 (sb s 0)] 5) := by
  have hs := s.isLt
  have HE : Hid (sb s 0 = (s.toNat : Int) % 256 ∧ sb s 1 = (s.toNat : Int) / 256 % 256 ∧ sb s 2 = (s.toNat : Int) / 65536 % 256 ∧ sb s 3 = (s.toNat : Int) / 16777216) := Lib.hid ⟨rfl, rfl, rfl, rfl⟩
  have hmk : ∀ w : World, (Instr.makeSlice 23 (.int .i64 4) (.int .i64 4)).run Try.prog w = .ok (.slice (some ⟨w.heap.size, 0, none⟩) 4 4) (w.alloc (.cells #[.int .u8 0, .int .u8 0, .int .u8 0, .int .u8 0] 5)) := fun _ => by kernel_rfl
  go_enter Try.func22, Try.ntmps22
  go_wp2
  refine wp_loop_rounds 5 ?_
  iterate 5 (rw [rounds_succ]; go_wp2)
  go_ret
  refine ⟨rfl, ?_⟩
  obtain ⟨e0, e1, e2, e3⟩ := HE.out
  have q1 : (s.toNat : Int) / 256 / 256 / 256 % 256 = (s.toNat : Int) / 16777216 := by omega
  have q2 : (s.toNat : Int) / 256 / 256 % 256 = (s.toNat : Int) / 65536 % 256 := by omega
  rw [e0, e1, e2, e3, q1, q2]
end Go.Proofs.Ytfiacpbpfdencaa
