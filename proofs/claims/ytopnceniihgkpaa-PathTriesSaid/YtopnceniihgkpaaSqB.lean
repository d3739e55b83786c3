/-
  Own text: what came, in plain numbers, and in its block; word.Behind, the document's Behind, bit, missing, walked.
-/
import Derived.Test.YtopnceniihgkpaaSqA
namespace Go.Proofs.Ytopnceniihgkpaa
open Go.RowKit

/-- What came, in plain numbers. -/
structure Sn where
  any : Bool
  top : Nat
  bts : BitVec 64
  came : Nat
  twice : Nat
  lost : Nat
/-- The numbers fit: after k steps at most. -/
structure Sn.fit (s : Sn) (k : Nat) : Prop where
  top : s.top < 4294967296
  came : s.came ≤ k
  twice : s.twice ≤ k
  lost : s.lost ≤ 4294967296 * k
  no : s.any = false → s.bts = 0#64
abbrev Sn.cells (s : Sn) : Array Value := #[.bool s.any, .int .u32 s.top, .int .u64 s.bts.toNat, .int .i64 s.came, .int .i64 s.twice, .int .i64 s.lost]
def Sn.zero : Sn := ⟨false, 0, 0#64, 0, 0, 0⟩
/-- In its block. -/
def SBlk (w : World) (b : Nat) (s : Sn) : Prop := w.heap[b]? = some (.cells s.cells 29 (0, 0))
theorem SBlk.lt {w : World} {b : Nat} {s : Sn} (h : SBlk w b s) : b < w.heap.size := (Array.getElem?_eq_some_iff.1 h).1
theorem SBlk.cell {w : World} {b : Nat} {s : Sn} (h : SBlk w b s) (i : Nat) : w.cell? ⟨b, i, none⟩ = s.cells[i]? := by
  unfold SBlk at h
  simp only [World.cell?, h]
  rfl
theorem SBlk.frozen {w : World} {b : Nat} {s : Sn} (h : SBlk w b s) (i : Nat) : w.frozen? ⟨b, i, none⟩ = false := by
  unfold SBlk at h
  simp [World.frozen?, h]
theorem SBlk.keep {w w' : World} {b : Nat} {s : Sn} (h : SBlk w b s) (e : w'.heap[b]? = w.heap[b]?) : SBlk w' b s := e.trans h
theorem SBlk.below {w w' : World} {b B : Nat} {s : Sn} (h : SBlk w b s) (hb : Below B w w') (hB : b < B) : SBlk w' b s := h.keep (hb.block b hB)
theorem SBlk.drew {w : World} {b : Nat} {s : Sn} (h : SBlk w b s) : SBlk w.drew b s := h
/-- How far a number is behind, with its sign. -/
def beh (n t : Nat) : Int := if (n : Int) - t ≥ 2147483648 then (n : Int) - t - 4294967296 else if (n : Int) - t < -2147483648 then (n : Int) - t + 4294967296 else (n : Int) - t
/-- How far it is behind, going round. -/
def dist (t n : Nat) : Nat := (t + 4294967296 - n) % 4294967296
theorem beh_eq {n t : Nat} (hn : n < 4294967296) (ht : t < 4294967296) : beh n t = ((n : Int) - t + 2147483648) % 4294967296 - 2147483648 := by
  unfold beh
  split
  · omega
  · split <;> omega
theorem beh_lo {n t : Nat} (hn : n < 4294967296) (ht : t < 4294967296) : -2147483648 ≤ beh n t ∧ beh n t ≤ 2147483647 := by rw [beh_eq hn ht]; omega
theorem dist_old {n t : Nat} (hn : n < 4294967296) (ht : t < 4294967296) (h : beh n t ≤ 0) : (dist t n : Int) = -beh n t := by
  rw [beh_eq hn ht] at *
  unfold dist
  omega
theorem dist_new {n t : Nat} (hn : n < 4294967296) (ht : t < 4294967296) (h : 0 < beh n t) : 64 ≤ dist t n := by
  rw [beh_eq hn ht] at *
  unfold dist
  omega
theorem dist_self (n : Nat) : dist n n = 0 := by unfold dist; omega
theorem top_moved {n t : Nat} (hn : n < 4294967296) (ht : t < 4294967296) : ((t : Int) + beh n t) % 4294967296 = n := by
  rw [beh_eq hn ht]
  omega
theorem sbehind_any (n t : Nat) (hn : n < 4294967296) (ht : t < 4294967296) (w : World) :
    Calls Try.prog 40 #[.int .u32 n, .int .u32 t] w fun e w' => e = .returned (.int .i64 (beh n t)) ∧ w = w' := by
  have HR := Lib.hid (beh_eq hn ht)
  generalize beh n t = r at *
  go_enter Try.func40, Try.ntmps40
  go_wp2
  go_ret
  refine ⟨ret_int ?_, rfl⟩
  have := HR.out
  unfold wrap64 wrap32
  omega
theorem srbehind_any (n t : Nat) (hn : n < 4294967296) (ht : t < 4294967296) (w : World) :
    Calls Try.prog 43 #[.int .u32 n, .int .u32 t] w fun e w' => e = .returned (.int .i64 (beh n t)) ∧ w = w' := by
  have HR := Lib.hid (beh_eq hn ht)
  generalize beh n t = r at *
  go_enter Try.func43, Try.ntmps43
  by_cases h1 : (n : Int) - t ≥ 2147483648
  · go_wp2
    go_ret
    refine ⟨ret_int ?_, rfl⟩
    have := HR.out
    omega
  · by_cases h2 : (n : Int) - t < -2147483648
    · go_wp2
      go_ret
      refine ⟨ret_int ?_, rfl⟩
      have := HR.out
      omega
    · go_wp2
      go_ret
      refine ⟨ret_int ?_, rfl⟩
      have := HR.out
      omega
theorem one_shl (d : Nat) (hd : d < 4294967296) : Op.shift .shl .u64 1 .u32 (d : Int) = pure (.int .u64 ((1#64 <<< d).toNat : Int)) := by
  have h0 : ¬ ((d : Int) < 0) := by omega
  simp only [Op.shift, h0, if_false]
  have e : min (d : Int).toNat IntKind.u64.bits = min d 64 := by simp [IntKind.bits]
  rw [e, IntKind.wrap_u64]
  congr 2
  rw [BitVec.toNat_shiftLeft]
  simp only [Nat.shiftLeft_eq]
  by_cases h : d < 64
  · rw [Nat.min_eq_left (by omega)]
    simp
  · rw [Nat.min_eq_right (by omega), show d = 64 + (d - 64) by omega, Nat.pow_add]
    simp
theorem bit_any (b : Nat) (s : Sn) (n : Nat) (hn : n < 4294967296) (ht : s.top < 4294967296) (w : World) (h : SBlk w b s) :
    Calls Try.prog 42 #[.pointer (some ⟨b, 0, none⟩), .int .u32 n] w fun e w' => e = .returned (.int .u64 ((1#64 <<< dist s.top n).toNat : Int)) ∧ w = w' := by
  have c1 : w.cell? ⟨b, 1, none⟩ = some (.int .u32 s.top) := h.cell 1
  have hd : dist s.top n < 4294967296 := Nat.mod_lt _ (by omega)
  have sh := one_shl (dist s.top n) hd
  have ew : ((s.top : Int) - n) % 4294967296 = (dist s.top n : Int) := by unfold dist; omega
  clear h
  generalize dist s.top n = d at *
  generalize (1#64 <<< d).toNat = v at *
  generalize s.top = t at *
  go_enter Try.func42, Try.ntmps42
  go_wp2
  go_ret
  exact ⟨rfl, rfl⟩
/-- Which didn't come, as bits. -/
def Sn.gone (s : Sn) : BitVec 64 := if s.any then ~~~ s.bts else 0#64
theorem not64 (s : BitVec 64) : bits .xor .u64 IntKind.u64.max (s.toNat : Int) = ((~~~ s).toNat : Int) := by
  have h := (~~~ s).isLt
  have m1 : (IntKind.u64.max % ((2 ^ IntKind.u64.bits : Nat) : Int)).toNat = (BitVec.allOnes 64).toNat := rfl
  have e : (BitVec.allOnes 64).toNat ^^^ s.toNat = (~~~ s).toNat := by rw [← BitVec.toNat_xor, BitVec.allOnes_xor]
  simp only [bits, BitVec.toNat_xor, BitVec.toNat_ofInt, u64_mod _ s.isLt, m1]
  rw [IntKind.wrap_u64, e]
  omega
theorem missing_any (b : Nat) (s : Sn) (w : World) (h : SBlk w b s) :
    Calls Try.prog 53 #[.pointer (some ⟨b, 0, none⟩)] w fun e w' => e = .returned (.int .u64 (s.gone.toNat : Int)) ∧ w = w' := by
  have c0 : w.cell? ⟨b, 0, none⟩ = some (.bool s.any) := h.cell 0
  have c2 : w.cell? ⟨b, 2, none⟩ = some (.int .u64 s.bts.toNat) := h.cell 2
  have hx := not64 s.bts
  clear h
  cases ha : s.any
  · have hg : s.gone = 0#64 := by unfold Sn.gone; rw [ha]; rfl
    rw [hg]
    rw [ha] at c0
    go_enter Try.func53, Try.ntmps53
    go_wp2
    go_ret
    exact ⟨rfl, rfl⟩
  · have hg : s.gone = ~~~ s.bts := by unfold Sn.gone; rw [ha]; rfl
    rw [hg]
    rw [ha] at c0
    generalize (~~~ s.bts).toNat = v at *
    generalize s.bts.toNat = u at *
    go_enter Try.func53, Try.ntmps53
    go_wp2
    go_ret
    exact ⟨rfl, rfl⟩
end Go.Proofs.Ytopnceniihgkpaa
