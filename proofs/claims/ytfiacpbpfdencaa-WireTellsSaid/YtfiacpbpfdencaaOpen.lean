/-
  Own text: Open, walked.
-/
import Derived.Test.YtfiacpbpfdencaaSealB
import Derived.Test.YtfiacpbpfdencaaEqFour
import Derived.Deep.RegionHeld3
import Derived.Laws.Cover3
namespace Go.Proofs.Ytfiacpbpfdencaa
open Go.RowKit

/-- A list that opens: the last four bytes are those of the sum of the ones ahead of them. -/
def opensB (n : Nat) (l : List Int) : Bool := sameB (l.drop n) (sealL (sumB (l.take n)))
/-- What Open leaves. -/
def Opened (n : Nat) (l : List Int) (w : World) (e : Ending) (w' : World) : Prop :=
  ∃ g, e = .returned (.tuple #[.slice (some ⟨g, 0, none⟩) n n, .int .i64 0]) ∧ w.heap.size ≤ g ∧ Row8 w' g 5 (l.take n) ∧ Below w.heap.size w w'
theorem open_short (t : Nat) (a : Option Addr) (n cap : Nat) (w : World) (hn : n < 4) :
    Calls Try.prog 30 #[.pointer (some ⟨t, 0, none⟩), .slice a n cap] w fun e w' => e = .returned (.tuple #[.slice none 0 0, .int .i64 70]) ∧ w = w' := by
  go_enter Try.func30, Try.ntmps30
  go_wp2
  go_ret2
  exact ⟨rfl, rfl⟩
theorem drop_four (l : List Int) (n : Nat) (h : l.length = n + 4) : l.drop n = [l.getD n 0, l.getD (n + 1) 0, l.getD (n + 2) 0, l.getD (n + 3) 0] := by
  apply same_getD
  · simp [h]
  · intro i hi
    rw [List.length_drop, h] at hi
    rcases (show i = 0 ∨ i = 1 ∨ i = 2 ∨ i = 3 by omega) with rfl | rfl | rfl | rfl <;> simp [List.getD_eq_getElem?_getD]
theorem sameB_four (l : List Int) (n : Nat) (h : l.length = n + 4) (z0 z1 z2 z3 : Int) : (z0 == l.getD n 0 && z1 == l.getD (n + 1) 0 && z2 == l.getD (n + 2) 0 && z3 == l.getD (n + 3) 0) = sameB (l.drop n) [z0, z1, z2, z3] := by
  rw [drop_four l n h]
  unfold sameB
  rw [Bool.eq_iff_iff]
  simp
  constructor
  · rintro ⟨⟨⟨rfl, rfl⟩, rfl⟩, rfl⟩; exact ⟨rfl, rfl, rfl, rfl⟩
  · rintro ⟨h0, h1, h2, h3⟩; exact ⟨⟨⟨h0.symm, h1.symm⟩, h2.symm⟩, h3.symm⟩
set_option maxRecDepth 100000 in
theorem open_bad (t : Nat) (a : Option Addr) (n cap : Nat) (l : List Int) (w : World) (ht : IsTab w t) (hl : Bytes w a (n + 4) l) (hn : n ≤ 100000) (hcap : n + 4 ≤ cap) (hb : opensB n l = false) :
    Calls Try.prog 30 #[.pointer (some ⟨t, 0, none⟩), .slice a (n + 4) cap] w fun e w' => e = .returned (.tuple #[.slice none 0 0, .int .i64 20]) ∧ Below w.heap.size w w' := by
  obtain ⟨b, off, rfl, hbw, c⟩ : ∃ b off, a = some ⟨b, off, none⟩ ∧ b < w.heap.size ∧ ∀ i, i < n + 4 → w.cell? ⟨b, off + i, none⟩ = some (.int .u8 (l.getD i 0)) := by
    rcases hl.cell with h | ⟨_, b, off, e, h1, h⟩
    · omega
    · exact ⟨b, off, e, h1, h⟩
  have c0 := c n (by omega)
  have c1 : w.cell? ⟨b, off + n + 1, none⟩ = _ := c (n + 1) (by omega)
  have c2 : w.cell? ⟨b, off + n + 2, none⟩ = _ := c (n + 2) (by omega)
  have c3 : w.cell? ⟨b, off + n + 3, none⟩ = _ := c (n + 3) (by omega)
  have HP := Lib.hid (hl.front (n := n) (by omega))
  have HL := Lib.hid hl
  have HT := Lib.hid ht
  have q := fun s => sameB_four l n hl.size (sb s 0) (sb s 1) (sb s 2) (sb s 3)
  have q := q (sumB (l.take n))
  rw [show sameB (l.drop n) [sb (sumB (l.take n)) 0, sb (sumB (l.take n)) 1, sb (sumB (l.take n)) 2, sb (sumB (l.take n)) 3] = opensB n l from rfl, hb] at q
  have cs := fun (w : World) (ht : IsTab w t) (hl : Bytes w (some ⟨b, off, none⟩) n (l.take n)) => sum_any t _ n cap _ w ht hl
  generalize sumB (l.take n) = s at *
  have CS := Lib.hid cs
  clear cs hb c hl ht
  generalize l.getD n 0 = x0 at *
  generalize l.getD (n + 1) 0 = x1 at *
  generalize l.getD (n + 2) 0 = x2 at *
  generalize l.getD (n + 3) 0 = x3 at *
  have heq := fun w => eq_four w (sb s 0) (sb s 1) (sb s 2) (sb s 3) x0 x1 x2 x3
  rw [q] at heq
  clear q
  have hat : ∀ w, (Instr.arrayAt 73 (.slice (some ⟨b, off + n, none⟩) 4 (cap - n))).run Try.prog w = .ok (.pointer (some ⟨b, off + n, none⟩)) w := fun w => run_arrayAt w 73 _ 4 _ 4 (cap - n) Try.underlying73 (by omega)
  have n0 : (0 : Int) ≤ n := by omega
  have n1 : (n : Int) ≤ cap := by omega
  have n2 : (n : Int) ≤ (n : Int) + 4 := by omega
  have n3 : ¬ cap = n := by omega
  go_enter Try.func30, Try.ntmps30
  go_wp2
  go_region_held3 (fun w' => Below w.heap.size w w' ∧ w'.cell? ⟨b, off + n, none⟩ = some (.int .u8 x0) ∧ w'.cell? ⟨b, off + n + 1, none⟩ = some (.int .u8 x1) ∧ w'.cell? ⟨b, off + n + 2, none⟩ = some (.int .u8 x2) ∧ w'.cell? ⟨b, off + n + 3, none⟩ = some (.int .u8 x3))
    (first
      | exact ⟨Below.refl _ _, c0, c1, c2, c3⟩
      | exact ⟨(Below.refl _ _).drew, c0, c1, c2, c3⟩
      | exact ⟨(Below.refl _ _).drew.trans (by assumption), (Below.cell (B := w.heap.size) (w := w.drew) (by assumption) hbw).trans c0, (Below.cell (B := w.heap.size) (w := w.drew) (by assumption) hbw).trans c1, (Below.cell (B := w.heap.size) (w := w.drew) (by assumption) hbw).trans c2, (Below.cell (B := w.heap.size) (w := w.drew) (by assumption) hbw).trans c3⟩)
    (first
      | (go_at_call 39; refine (CS.out w.drew HT.out HP.out.drew).mono ?_; rintro e w' ⟨rfl, rfl⟩)
      | (go_at_call 38; refine (seal_any _ _).mono ?_; rintro e w1 ⟨rfl, hb1⟩))
  all_goals
    go_wp2
    go_ret2
    exact ⟨rfl, (Below.refl _ _).drew.trans hb1⟩
set_option maxRecDepth 100000 in
theorem open_good (t : Nat) (a : Option Addr) (n cap : Nat) (l : List Int) (w : World) (ht : IsTab w t) (hl : Bytes w a (n + 4) l) (hn : n ≤ 100000) (hcap : n + 4 ≤ cap) (hb : opensB n l = true) :
    Calls Try.prog 30 #[.pointer (some ⟨t, 0, none⟩), .slice a (n + 4) cap] w (Opened n l w) := by
  obtain ⟨b, off, rfl, hbw, c⟩ : ∃ b off, a = some ⟨b, off, none⟩ ∧ b < w.heap.size ∧ ∀ i, i < n + 4 → w.cell? ⟨b, off + i, none⟩ = some (.int .u8 (l.getD i 0)) := by
    rcases hl.cell with h | ⟨_, b, off, e, h1, h⟩
    · omega
    · exact ⟨b, off, e, h1, h⟩
  have c0 := c n (by omega)
  have c1 : w.cell? ⟨b, off + n + 1, none⟩ = _ := c (n + 1) (by omega)
  have c2 : w.cell? ⟨b, off + n + 2, none⟩ = _ := c (n + 2) (by omega)
  have c3 : w.cell? ⟨b, off + n + 3, none⟩ = _ := c (n + 3) (by omega)
  have HP := Lib.hid (hl.front (n := n) (by omega))
  have HL := Lib.hid hl
  have HT := Lib.hid ht
  have q := fun s => sameB_four l n hl.size (sb s 0) (sb s 1) (sb s 2) (sb s 3)
  have q := q (sumB (l.take n))
  rw [show sameB (l.drop n) [sb (sumB (l.take n)) 0, sb (sumB (l.take n)) 1, sb (sumB (l.take n)) 2, sb (sumB (l.take n)) 3] = opensB n l from rfl, hb] at q
  have cs := fun (w : World) (ht : IsTab w t) (hl : Bytes w (some ⟨b, off, none⟩) n (l.take n)) => sum_any t _ n cap _ w ht hl
  generalize sumB (l.take n) = s at *
  have CS := Lib.hid cs
  clear cs hb c hl ht
  generalize l.getD n 0 = x0 at *
  generalize l.getD (n + 1) 0 = x1 at *
  generalize l.getD (n + 2) 0 = x2 at *
  generalize l.getD (n + 3) 0 = x3 at *
  have heq := fun w => eq_four w (sb s 0) (sb s 1) (sb s 2) (sb s 3) x0 x1 x2 x3
  rw [q] at heq
  clear q
  have hat : ∀ w, (Instr.arrayAt 73 (.slice (some ⟨b, off + n, none⟩) 4 (cap - n))).run Try.prog w = .ok (.pointer (some ⟨b, off + n, none⟩)) w := fun w => run_arrayAt w 73 _ 4 _ 4 (cap - n) Try.underlying73 (by omega)
  have hmk : ∀ w : World, (Instr.makeSlice 23 (.int .i64 (n : Int)) (.int .i64 (n : Int))).run Try.prog w = .ok (.slice (some ⟨w.heap.size, 0, none⟩) n n) (w.alloc (.cells (madeCells #[.int .u8 0] n) 5)) := fun w =>
    run_make_row' (P := Try.prog) 23 5 (.int .u8 0) 1 Try.underlying23 (by kernel_rfl) rfl .i64 .i64 n (by omega) (by omega) w
  have HM := Lib.hid (fun w => made_row w n 5)
  generalize madeCells #[Value.int .u8 0] n = M at *
  have n0 : (0 : Int) ≤ n := by omega
  have n1 : (n : Int) ≤ cap := by omega
  have n2 : (n : Int) ≤ (n : Int) + 4 := by omega
  have n3 : ¬ cap = n := by omega
  go_enter Try.func30, Try.ntmps30
  go_wp2
  go_region_held3 (fun w' => Below w.heap.size w w' ∧ w'.cell? ⟨b, off + n, none⟩ = some (.int .u8 x0) ∧ w'.cell? ⟨b, off + n + 1, none⟩ = some (.int .u8 x1) ∧ w'.cell? ⟨b, off + n + 2, none⟩ = some (.int .u8 x2) ∧ w'.cell? ⟨b, off + n + 3, none⟩ = some (.int .u8 x3))
    (first
      | exact ⟨Below.refl _ _, c0, c1, c2, c3⟩
      | exact ⟨(Below.refl _ _).drew, c0, c1, c2, c3⟩
      | exact ⟨(Below.refl _ _).drew.trans (by assumption), (Below.cell (B := w.heap.size) (w := w.drew) (by assumption) hbw).trans c0, (Below.cell (B := w.heap.size) (w := w.drew) (by assumption) hbw).trans c1, (Below.cell (B := w.heap.size) (w := w.drew) (by assumption) hbw).trans c2, (Below.cell (B := w.heap.size) (w := w.drew) (by assumption) hbw).trans c3⟩)
    (first
      | (go_at_call 39; refine (CS.out w.drew HT.out HP.out.drew).mono ?_; rintro e w' ⟨rfl, rfl⟩)
      | (go_at_call 38; refine (seal_any _ _).mono ?_; rintro e w1 ⟨rfl, hb1⟩))
  all_goals
    have HB1 : Hid (Below w.heap.size w w1) := Lib.hid ((Below.refl _ _).drew.trans hb1)
    clear hb1
    have HK : Hid (n = Nat.min (n + 4) n) := Lib.hid (Nat.min_eq_right (by omega)).symm
    have HF : Hid (0 + n ≤ (List.replicate n (0 : Int)).length) := Lib.hid (by simp)
    have HX := Lib.hid (HL.out.below (HB1.out.alloc HB1.out.size (.cells M 5)) (Nat.le_refl _))
    go_wp2_with (with_reducible refine wpList_copy_bytes (w := w1.alloc _) rfl (.tmp 27) (.tmp 28) rfl _ _ _ _ _ _ rfl rfl w1.heap.size 0 (List.replicate n 0) 5 (HM.out w1) l HX.out n HK.out (fun _ => rfl) HF.out ?_; intro w2 HG hb2; have HB2 := Lib.hid hb2; clear hb2)
    go_ret2
    refine ⟨w1.heap.size, rfl, HB1.out.size, ?_, ?_⟩
    · have := HG.out
      rwa [splice_whole n l (by have := HL.out.size; omega)] at this
    · exact (HB1.out.alloc HB1.out.size _).trans (HB2.out.mono HB1.out.size)
end Go.Proofs.Ytfiacpbpfdencaa
