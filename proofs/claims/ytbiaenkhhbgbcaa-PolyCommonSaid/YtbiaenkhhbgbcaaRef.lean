/-
  Own text: the document's Degree, At, Is, Add, Mul, Eval: walked.
-/
import Derived.Test.YtbiaenkhhbgbcaaPolL
import Derived.Test.YtbiaenkhhbgbcaaGfD
namespace Go.Proofs.Ytbiaenkhhbgbcaa
open Go.RowKit

set_option maxRecDepth 100000 in
theorem rdegree_any (a : Option Addr) (n c : Nat) (l : List Int) (w : World) (hl : Bytes w a n l) :
    Calls Try.prog 20 #[.slice a n c] w fun e w' => e = .returned (.int .i64 ((dn l : Int) - 1)) ∧ w = w' := by
  have hm := hl.max
  have hs := hl.size
  have hd := dn_le l
  go_enter Try.func20, Try.ntmps20
  go_wp2
  go_loop [3, 4] (fun d i => ∃ k : Nat, k ≤ n ∧ i = .int .i64 k ∧ d = .int .i64 ((cutK l k : Int) - 1)) (fun _ i => n - (intOf i).toNat)
  case atStart => exact ⟨0, by omega, rfl, rfl⟩
  case round =>
    obtain ⟨k, hk, rfl, rfl⟩ := hrel
    by_cases hlt : k < n
    · obtain ⟨b, off, rfl, ck⟩ : ∃ b off, a = some ⟨b, off, none⟩ ∧ w.cell? ⟨b, off + k, none⟩ = some (.int .u8 (l.getD k 0)) := by
        rcases hl.cell with h | ⟨_, b, off, e, _, h⟩
        · omega
        · exact ⟨b, off, e, h k hlt⟩
      have HS := Lib.hid (show cutK l (k + 1) = if l.getD k 0 = 0 then cutK l k else k + 1 from rfl)
      have HL := Lib.hid hl
      have hck := cutK_le l k
      clear hl
      generalize l.getD k 0 = z at *
      generalize cutK l k = q at *
      cases hz : (z == 0)
      · have hne : (z != 0) = true := by simp [bne, hz]
        have hz2 : z ≠ 0 := by simpa using hz
        have HZ := Lib.hid hz2
        go_wp2
        go_round
        case rel => exact ⟨k + 1, by omega, by go_num, by rw [HS.out, if_neg HZ.out]; congr 1; omega⟩
        case measure => simp [intOf]; omega
      · have hne : (z != 0) = false := by simp [bne, hz]
        have hz2 : z = 0 := by simpa using hz
        have HZ := Lib.hid hz2
        clear hz2
        go_wp2
        go_round
        case rel => exact ⟨k + 1, by omega, by go_num, by rw [HS.out, if_pos HZ.out]⟩
        case measure => simp [intOf]; omega
    · obtain rfl : k = n := by omega
      have e : cutK l k = dn l := by unfold dn; rw [hs]
      rw [e]
      go_wp2
      go_ret
      exact ⟨rfl, rfl⟩
set_option maxRecDepth 100000 in
theorem at_any (a : Option Addr) (n c : Nat) (l : List Int) (i : Nat) (hi : i ≤ 9223372036854775807) (w : World) (hl : Bytes w a n l) :
    Calls Try.prog 12 #[.slice a n c, .int .i64 i] w fun e w' => e = .returned (.int .u8 (co l i)) ∧ w = w' := by
  have hm := hl.max
  have hs := hl.size
  by_cases hlt : i < n
  · obtain ⟨b, off, rfl, ck⟩ : ∃ b off, a = some ⟨b, off, none⟩ ∧ w.cell? ⟨b, off + i, none⟩ = some (.int .u8 (l.getD i 0)) := by
      rcases hl.cell with h | ⟨_, b, off, e, _, h⟩
      · omega
      · exact ⟨b, off, e, h i hlt⟩
    rw [(show By l from hl.range).get i] at ck
    clear hl
    generalize co l i = z at *
    have i0 : (0 : Int) ≤ i := by omega
    have i1 : (i : Int) < n := by omega
    go_enter Try.func12, Try.ntmps12
    go_wp2
    go_ret
    exact ⟨rfl, rfl⟩
  · rw [co_out (by omega)]
    clear hl
    have i0 : (0 : Int) ≤ i := by omega
    have i1 : ¬ (i : Int) < n := by omega
    have i2 : (n : Int) ≤ i := by omega
    go_enter Try.func12, Try.ntmps12
    go_wp2
    go_ret
    exact ⟨rfl, rfl⟩
set_option maxRecDepth 100000 in
theorem is_true (a b : Option Addr) (n m c d : Nat) (x y : List Int) (w : World) (hx : Bytes w a n x) (hy : Bytes w b m y) (h : x = tr y) :
    Calls Try.prog 13 #[.slice a n c, .slice b m d] w fun e w' => e = .returned (.bool true) ∧ Below w.heap.size w w' := by
  have hn := hx.max
  have hm := hy.max
  have hnd : n = dn y := by rw [← hx.size, h, tr_length]
  have hle : n ≤ m := by rw [hnd, ← hy.size]; exact dn_le y
  have HE := Lib.hid (fun k (hk : k < n) => show x.getD k 0 = y.getD k 0 by
    rw [h]; unfold tr; simp only [List.getD_eq_getElem?_getD, List.getElem?_take]; rw [if_pos (by omega)])
  have HD := Lib.hid (rdegree_any b m d y w hy)
  rw [← hnd] at HD
  have HX := Lib.hid hx
  have HY := Lib.hid hy
  clear hx hy h hnd
  go_enter Try.func13, Try.ntmps13
  go_wp2_with (go_at_call 20; refine HD.out.mono ?_; rintro e w1 ⟨rfl, rfl⟩)
  go_loopw [5] (fun i wr => ∃ k : Nat, k ≤ n ∧ i = .int .i64 k ∧ Hid (Below w.heap.size w wr)) (fun i _ => n - (intOf i).toNat)
  case atStart => exact ⟨0, by omega, rfl, Lib.hid (Below.refl _ _)⟩
  case round =>
    obtain ⟨k, hk, rfl, HB⟩ := hrel
    by_cases hlt : k < n
    · have h1 := HX.out.below HB.out (Nat.le_refl _)
      have h2 := HY.out.below HB.out (Nat.le_refl _)
      obtain ⟨p, o, rfl, c1⟩ : ∃ p o, a = some ⟨p, o, none⟩ ∧ wr.cell? ⟨p, o + k, none⟩ = some (.int .u8 (x.getD k 0)) := by
        rcases h1.cell with h | ⟨_, b, off, e, _, h⟩
        · omega
        · exact ⟨b, off, e, h k hlt⟩
      obtain ⟨p', o', rfl, c2⟩ : ∃ p o, b = some ⟨p, o, none⟩ ∧ wr.cell? ⟨p, o + k, none⟩ = some (.int .u8 (y.getD k 0)) := by
        rcases h2.cell with h | ⟨_, b, off, e, _, h⟩
        · omega
        · exact ⟨b, off, e, h k (by omega)⟩
      rw [← HE.out k hlt] at c2
      clear h1 h2
      generalize x.getD k 0 = u at *
      have k0 : (0 : Int) ≤ k := by omega
      have k1 : (k : Int) < n := by omega
      have k2 : (k : Int) < m := by omega
      have hne : (u != u) = false := by simp
      go_wp2
      go_quiet (fail)
      go_wp2
      go_roundw
      case rel => exact ⟨k + 1, by omega, by go_num, Lib.hid (below_drewN HB.out _)⟩
      case measure => simp [intOf]; omega
    · obtain rfl : k = n := by omega
      go_wp2
      go_ret
      exact ⟨rfl, HB.out⟩
end Go.Proofs.Ytbiaenkhhbgbcaa
