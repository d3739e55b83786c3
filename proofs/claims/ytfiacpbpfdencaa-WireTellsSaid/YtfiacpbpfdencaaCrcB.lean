/-
  Own text: the table (New), and the sums (More, Sum), walked.
-/
import Derived.Test.YtfiacpbpfdencaaCrcA
import Derived.StillTailTactics
namespace Go.Proofs.Ytfiacpbpfdencaa
open Go.RowKit

theorem zero_table (w : World) : (zeroValue 60).run Try.prog w = .ok (.agg (Array.replicate 256 (.int .u32 0))) w := by kernel_rfl
/-- What stands in the table. -/
def tabF (j : Nat) : Value := .int .u32 (ones 8 (BitVec.ofNat 32 j)).toNat
/-- Behind so many rounds. -/
def tabG (k j : Nat) : Value := if j < k then tabF j else .int .u32 0
/-- A table, in its block. -/
def IsTab (w : World) (b : Nat) : Prop := w.rowIs b 60 256 tabF
theorem tab_start (w : World) : (w.alloc (.cells (Array.replicate 256 (.int .u32 0)) 60)).rowIs w.heap.size 60 256 (tabG 0) := by
  have h := World.rowIs_alloc w (Array.replicate 256 (.int .u32 0)) 60 (tabG 0) (fun i hi => by
    simp at hi
    simp [tabG, hi])
  simpa using h
theorem byte_of (k : Nat) (hk : k < 256) : (BitVec.ofNat 32 k).toNat = k := by rw [BitVec.toNat_ofNat]; omega
set_option maxRecDepth 100000 in
theorem new_any (w : World) :
    Calls Try.prog 11 #[] w fun e w' => e = .returned (.pointer (some ⟨w.heap.size, 0, none⟩)) ∧ IsTab w' w.heap.size ∧ Below w.heap.size w w' := by
  have z := zero_table
  have T0 := Lib.hid (tab_start w)
  generalize Array.replicate 256 (Value.int .u32 0) = A at *
  go_enter Try.func11, Try.ntmps11
  go_wp2
  go_loopw [2, 5] (fun v i wr => ∃ k : Nat, k ≤ 256 ∧ i = .int .i64 k ∧ wr.rowIs w.heap.size 60 256 (tabG k) ∧ Below w.heap.size w wr) (fun _ i _ => 256 - (intOf i).toNat)
  case atStart => exact ⟨0, by omega, rfl, T0.out, (Below.refl _ _).alloc (by simp) _⟩
  case round =>
    obtain ⟨k, hk, rfl, R, B⟩ := hrel
    by_cases hlt : k < 256
    · have c := R.cell (i := k) hlt
      have f := R.frozen k
      have HR := Lib.hid R
      have cs := fun w => bstep_any 0#32 (BitVec.ofNat 32 k) w (by rw [byte_of k hlt]; exact hlt)
      rw [byte_of k hlt] at cs
      rw [show ((0#32).toNat : Int) = 0 from rfl, BitVec.zero_xor] at cs
      have CS := Lib.hid cs
      clear R cs
      go_wp2
      have wk : IntKind.u8.wrap (k : Int) = k := IntWalk.u8_in _ (by omega)
      have k0 : (0 : Int) ≤ k := by omega
      have k1 : (k : Int) < 256 := by omega
      refine wp_region_still_tail 8 (by kernel_rfl) (by kernel_rfl) ?_
      simp only [List.take_succ_cons, List.take_zero, List.drop_succ_cons, List.drop_zero]
      iterate 4 still_step
      still_call ((CS.out _).mono fun _ _ h => ⟨h.1, h.2.symm⟩)
      iterate 3 still_step
      refine wpStill_nil ?_
      change wpList _ _ _ _ _ wr.drew
      go_wp2
      go_roundw
      case rel =>
        refine ⟨k + 1, by omega, by go_num, ?_, B.drew.setCell (p := ⟨w.heap.size, k, none⟩) (Nat.le_refl _) _⟩
        refine (HR.out.drew.set k _).congr (fun j _ => ?_)
        by_cases h : j = k
        · subst h; simp [tabG, tabF]
        · rw [if_neg h]; unfold tabG; by_cases h' : j < k
          · rw [if_pos h', if_pos (by omega)]
          · rw [if_neg h', if_neg (by omega)]
      case measure => simp [intOf]; omega
    · obtain rfl : k = 256 := by omega
      go_wp2
      go_ret
      exact ⟨rfl, R.congr (fun i hi => by simp [tabG, hi]), B⟩

theorem IsTab.below {w w' : World} {b : Nat} (h : IsTab w b) {B : Nat} (hb : Below B w w') (hB : b < B) : IsTab w' b := World.rowIs.of_block h (hb.block b hB)

theorem bits_not (s : BitVec 32) : bits .xor .u32 IntKind.u32.max (s.toNat : Int) = ((~~~ s).toNat : Int) := by
  have h := bits_xor' (BitVec.allOnes 32) s IntKind.u32.max s.toNat rfl rfl
  rw [h, BitVec.allOnes_xor]
theorem byteB_small (z : Int) (h0 : 0 ≤ z) (h1 : z ≤ 255) : (byteB z).toNat < 256 ∧ ((byteB z).toNat : Int) = z := by
  unfold byteB
  rw [BitVec.toNat_ofInt]
  have : (z % ((2 ^ 32 : Nat) : Int)).toNat = z.toNat := by
    show (z % 4294967296).toNat = _
    omega
  rw [this]; omega
theorem and_255 (n : Nat) : n &&& 255 = n % 256 := Nat.and_two_pow_sub_one_eq_mod n 8
theorem more_step (r : BitVec 32) (z : Int) (h0 : 0 ≤ z) (h1 : z ≤ 255) : ∃ (x : Nat) (T : Int), x < 256 ∧ bits .xor .u8 ((r.toNat : Int) % (256 : Int)) z = (x : Int) ∧ tabF x = .int .u32 T ∧
    bits .xor .u32 T ((r.toNat : Int) / 256) = ((ones 8 (r ^^^ byteB z)).toNat : Int) := by
  obtain ⟨b1, b2⟩ := byteB_small z h0 h1
  have hX : ((r ^^^ byteB z) &&& 255#32).toNat = (r.toNat % 256) ^^^ (byteB z).toNat := by
    rw [BitVec.toNat_and, BitVec.toNat_xor, show (255#32).toNat = 255 from rfl, Nat.and_xor_distrib_right, and_255, and_255, Nat.mod_eq_of_lt b1]
  have hlt : ((r ^^^ byteB z) &&& 255#32).toNat < 256 := by
    rw [BitVec.toNat_and, show (255#32).toNat = 255 from rfl, and_255]; omega
  refine ⟨((r ^^^ byteB z) &&& 255#32).toNat, ((ones 8 ((r ^^^ byteB z) &&& 255#32)).toNat : Int), hlt, ?_, ?_, ?_⟩
  · have m1 : ((((r.toNat : Int) % (256 : Int))) % ((2 ^ IntKind.u8.bits : Nat) : Int)).toNat = r.toNat % 256 := by
      show ((r.toNat : Int) % 256 % 256).toNat = _
      omega
    have m2 : (z % ((2 ^ IntKind.u8.bits : Nat) : Int)).toNat = (byteB z).toNat := by
      show (z % 256).toNat = _
      omega
    simp only [bits, BitVec.toNat_xor, BitVec.toNat_ofInt, m1, m2]
    rw [hX] at hlt
    rw [IntKind.wrap_u8, hX]
    omega
  · unfold tabF
    rw [BitVec.ofNat_toNat, BitVec.setWidth_eq]
  · have e : (r.toNat : Int) / (256 : Int) = ((r >>> 8).toNat : Int) := by
      rw [BitVec.toNat_ushiftRight, Nat.shiftRight_eq_div_pow]
      show _ = ((r.toNat / 256 : Nat) : Int)
      omega
    rw [e, bits_xor, table_step r _ b1]
set_option maxRecDepth 100000 in
theorem more_any (t : Nat) (s : BitVec 32) (a : Option Addr) (len cap : Nat) (l : List Int) (w : World) (ht : IsTab w t) (hl : Bytes w a len l) :
    Calls Try.prog 47 #[.pointer (some ⟨t, 0, none⟩), .int .u32 s.toNat, .slice a len cap] w fun e w' => e = .returned (.int .u32 (more s l).toNat) ∧ w = w' := by
  have hm := hl.max
  have n1 := bits_not s
  obtain ⟨ns, hns⟩ : ∃ ns, ns = ~~~ s := ⟨_, rfl⟩
  obtain ⟨m, hm2⟩ : ∃ m, m = more s l := ⟨_, rfl⟩
  have HM : Hid (∀ f, f = fold ns l → m = ~~~ f) := Lib.hid (fun f e => by rw [hm2, e, hns]; rfl)
  rw [← hm2]
  clear hm2
  rw [← hns] at n1
  have HN := Lib.hid hns
  clear hns
  go_enter Try.func47, Try.ntmps47
  go_wp2
  clear n1
  go_loop [7, 14] (fun v i => ∃ k : Nat, k ≤ len ∧ i = .int .i64 k ∧ v = .int .u32 (fold ns (l.take k)).toNat) (fun _ i => len - (intOf i).toNat)
  case atStart => exact ⟨0, by omega, rfl, rfl⟩
  case round =>
    obtain ⟨k, hk, rfl, rfl⟩ := hrel
    by_cases hlt : k < len
    · obtain ⟨b, off, rfl, c⟩ : ∃ b off, a = some ⟨b, off, none⟩ ∧ w.cell? ⟨b, off + k, none⟩ = some (.int .u8 (l.getD k 0)) := by
        rcases hl.cell with h | ⟨_, b, off, e, _, h⟩
        · omega
        · exact ⟨b, off, e, h k hlt⟩
      have HS := Lib.hid (fold_snoc ns l k (by have := hl.size; omega))
      obtain ⟨z0, z1⟩ := hl.byte k hlt
      have HL := Lib.hid hl
      clear hl
      generalize fold ns (l.take k) = r at *
      generalize l.getD k 0 = z at *
      obtain ⟨x, T, x1, x2, x3, x4⟩ := more_step r z z0 z1
      have ct := ht.cell (i := x) x1
      rw [x3] at ct
      have HT := Lib.hid ht
      clear ht
      have x0 : (0 : Int) ≤ x := by omega
      have x5 : (x : Int) < 256 := by omega
      go_wp2
      go_round
      case rel => exact ⟨k + 1, by omega, by go_num, by rw [HS.out]⟩
      case measure => simp [intOf]; omega
    · obtain rfl : k = len := by omega
      have e : l.take k = l := List.take_of_length_le (by have := hl.size; omega)
      rw [e]
      have n2 := bits_not (fold ns l)
      rw [← HM.out _ rfl] at n2
      go_wp2
      go_ret
      exact ⟨rfl, rfl⟩
end Go.Proofs.Ytfiacpbpfdencaa
