/-
  Own text: the document's ring: part, Next, At, Put, walked.
-/
import Derived.Test.YtjkobejhbgjhlaaRgD
namespace Go.Proofs.Ytjkobejhbgjhlaa
open Go.RowKit

theorem seg_step (l : List Int) (p k : Nat) (h : p + k < l.length) : (l.drop p).take (k + 1) = (l.drop p).take k ++ [l.getD (p + k) 0] := by
  rw [List.take_add_one, List.getElem?_drop, List.getD_eq_getElem?_getD, List.getElem?_eq_getElem h]
  rfl
set_option maxRecDepth 100000 in
theorem part_any (A : Option Addr) (n C : Nat) (l : List Int) (p q : Nat) (hp : p ≤ q) (hq : q ≤ n) (hn : n ≤ 90000) (w : World) (h : OwnI w 0 (.slice A n C) n l) :
    Calls Try.prog 34 #[.slice A n C, .int .i64 (p : Int), .int .i64 (q : Int)] w fun e w' => (∃ A2 C2, e = .returned (.slice A2 (q - p) C2) ∧ Hid (OwnI w' w.heap.size (.slice A2 (q - p) C2) (q - p) ((l.drop p).take (q - p)))) ∧ Hid (Below w.heap.size w w') := by
  have HO := Lib.hid h
  have HLL := Lib.hid h.length
  clear h
  go_enter Try.func34, Try.ntmps34
  go_wp2
  go_loopw [7, 8] (fun o i wr => ∃ (k : Nat) (A2 : Option Addr) (C2 : Nat), k ≤ q - p ∧ o = .slice A2 k C2 ∧ i = .int .i64 ((p + k : Nat) : Int) ∧ Hid (OwnI wr w.heap.size (.slice A2 k C2) k ((l.drop p).take k)) ∧ Hid (Below w.heap.size w wr)) (fun _ i _ => q - (intOf i).toNat)
  case atStart => exact ⟨0, none, 0, Nat.zero_le _, rfl, by simp, Lib.hid (OwnI.none _ _), Lib.hid (Below.refl _ _)⟩
  case round =>
    obtain ⟨k, A2, C2, hk, rfl, rfl, HL, HB⟩ := hrel
    obtain ⟨wo, hwo⟩ : ∃ wo, wo = wr := ⟨_, rfl⟩
    subst hwo
    obtain ⟨j, hj⟩ : ∃ j, j = p + k := ⟨_, rfl⟩
    rw [← hj]
    by_cases hlt : j < q
    · obtain ⟨g, eA, _, hg, hc, _⟩ := HO.out.at_ j (by omega)
      subst eA
      have HSS := Lib.hid (seg_step l p k (by have := HLL.out; omega))
      rw [← hj] at HSS
      have c0 := (HB.out.cell (p := ⟨g, j, none⟩) hg).trans hc
      have k1 : (j : Int) < q := by omega
      have k2 : (j : Int) < n := by omega
      have HJ := Lib.hid hj
      have HKK := Lib.hid (show k + 1 ≤ 100000 by omega)
      have HBS := Lib.hid HB.out.size
      clear hj hc
      generalize l.getD j 0 = z at *
      go_wp2_with (first
        | ((with_reducible refine wpList_append_int rfl (.tmp 15) (.tmp 20) rfl w.heap.size A2 k C2 rfl _ (HL.out.below ((Below.refl _ _).alloc (Nat.le_refl _) _) (Nat.le_refl _)) wo.heap.size rfl z (by simp) HKK.out (Nat.le_trans HBS.out (by simp)) ?_); intro A3 C3 w5 HO5 HB5)
        | fail)
      go_roundw
      case rel => exact ⟨k + 1, A3, C3, by have := HJ.out; omega, rfl, by have := HJ.out; go_num, Lib.hid (by rw [HSS.out]; exact HO5.out), Lib.hid ((HB.out.alloc HBS.out _).trans HB5.out)⟩
      case measure => simp [intOf] <;> omega
    · obtain rfl : k = q - p := by omega
      go_wp2
      go_ret
      exact ⟨⟨A2, C2, rfl, HL⟩, HB⟩
/-- The document's ring, by value. -/
abbrev DV (R : Rn) (A : Option Addr) (C : Nat) : Value := .agg #[.int .i64 (R.room : Int), .int .i64 (R.first : Int), .slice A R.l.length C]
/-- Its entries. -/
def DL (w : World) (R : Rn) (A : Option Addr) (C : Nat) : Prop := OwnI w 0 (.slice A R.l.length C) R.l.length R.l
theorem DL.below {w w' : World} {B : Nat} {R : Rn} {A : Option Addr} {C : Nat} (h : DL w R A C) (hb : Below B w w') (hB : w.heap.size ≤ B) : DL w' R A C := OwnI.below h hb hB
/-- The document's ring in a box. -/
def DBx (w : World) (c room first : Nat) (s : Value) : Prop := w.heap[c]? = some (.cells #[.int .i64 (room : Int), .int .i64 (first : Int), s] 27 (0, 0))
section
variable {w : World} {c room first : Nat} {s : Value}
theorem DBx.lt (h : DBx w c room first s) : c < w.heap.size := (Array.getElem?_eq_some_iff.1 h).1
theorem DBx.cells (h : DBx w c room first s) : w.cell? ⟨c, 0, none⟩ = some (.int .i64 (room : Int)) ∧ w.cell? ⟨c, 1, none⟩ = some (.int .i64 (first : Int)) ∧ w.cell? ⟨c, 2, none⟩ = some s := by
  unfold DBx at h
  simp [World.cell?, h]
theorem DBx.frozen (h : DBx w c room first s) (i : Nat) : w.frozen? ⟨c, i, none⟩ = false := by
  unfold DBx at h
  simp [World.frozen?, h]
theorem DBx.keep {w' : World} (h : DBx w c room first s) (e : w'.heap[c]? = w.heap[c]?) : DBx w' c room first s := e.trans h
theorem DBx.below {w' : World} {B : Nat} (h : DBx w c room first s) (hb : Below B w w') (hB : c < B) : DBx w' c room first s := h.keep (hb.block c hB)
theorem DBx.setFirst (h : DBx w c room first s) (n : Nat) : DBx (w.setCell ⟨c, 1, none⟩ (.int .i64 (n : Int))) c room n s := by
  unfold DBx at *
  simp [World.setCell, Array.getElem?_modify, h]
theorem DBx.setL (h : DBx w c room first s) (v : Value) : DBx (w.setCell ⟨c, 2, none⟩ v) c room first v := by
  unfold DBx at *
  simp [World.setCell, Array.getElem?_modify, h]
theorem DBx.other (h : DBx w c room first s) {p : Addr} (hp : c ≠ p.block) (u : Value) : DBx (w.setCell p u) c room first s := h.keep (Below.heap_setCell w p u c hp)
theorem DBx.new (w : World) (room first : Nat) (s : Value) : DBx (w.alloc (.cells #[.int .i64 (room : Int), .int .i64 (first : Int), s] 27)) w.heap.size room first s := Go.Deep.blk_alloc_new w _
end
theorem rnext_any (R : Rn) (A : Option Addr) (C k : Nat) (hf : R.fit k) (hk : k ≤ 1000000) (w : World) :
    Calls Try.prog 21 #[DV R A C] w fun e w' => e = .returned (.int .i64 (R.next : Int)) ∧ Below w.heap.size w w' := by
  have e1 : (R.first : Int) + R.l.length = (R.next : Int) := by unfold Rn.next; omega
  have e2 : (R.next : Int) ≤ 1099512627776 := by have := hf.next; omega
  have e3 : (0 : Int) ≤ (R.next : Int) := by omega
  have HB := Lib.hid (fun o => (Below.refl w.heap.size w).alloc (Nat.le_refl _) o)
  clear hf
  unfold DV
  generalize R.l.length = n at *
  generalize R.next = N at *
  generalize R.first = f at *
  generalize R.room = r at *
  go_enter Try.func21, Try.ntmps21
  go_wp2
  go_ret
  exact ⟨rfl, HB.out _⟩
set_option maxRecDepth 100000 in
theorem rat_any (n : Int) (R : Rn) (A : Option Addr) (C k : Nat) (hf : R.fit k) (hk : k ≤ 1000000) (w : World) (h : DL w R A C) :
    Calls Try.prog 15 #[DV R A C, .int .i64 n] w fun e w' => e = .returned (.tuple #[.int .i64 (R.at_ n), .int .i64 (R.kept n)]) ∧ Below w.heap.size w w' := by
  have HB := Lib.hid (fun o => (Below.refl w.heap.size w).alloc (Nat.le_refl _) o)
  have CN := Lib.hid (fun w => rnext_any R A C k hf hk w)
  by_cases h1 : n < (R.first : Int)
  · have e1 : R.kept n = 90 := by unfold Rn.kept; rw [if_pos h1]
    have e2 : R.at_ n = 0 := by unfold Rn.at_; rw [if_neg (by rw [e1]; omega)]
    rw [e1, e2]
    clear h e1 e2 hf
    go_enter Try.func15, Try.ntmps15
    go_wp2
    go_ret2
    exact ⟨rfl, HB.out _⟩
  · by_cases h2 : (R.next : Int) ≤ n
    · have e1 : R.kept n = 91 := by unfold Rn.kept; rw [if_neg h1, if_pos h2]
      have e2 : R.at_ n = 0 := by unfold Rn.at_; rw [if_neg (by rw [e1]; omega)]
      rw [e1, e2]
      clear h e1 e2 hf
      go_enter Try.func15, Try.ntmps15
      go_wp2_with (first
        | (go_at_call 21; (with_reducible refine (CN.out _).mono ?_); rintro e w1 ⟨rfl, hb⟩; have HB1 := Lib.hid hb; clear hb)
        | fail)
      go_ret2
      exact ⟨rfl, (HB.out _).trans (HB1.out.mono (by simp))⟩
    · have e1 : R.kept n = 0 := by unfold Rn.kept; rw [if_neg h1, if_neg h2]
      obtain ⟨i, hi, hl, hi2⟩ := R.kept_zero e1
      have e2 : R.at_ n = R.l.getD i 0 := by unfold Rn.at_; rw [if_pos e1, hi2]
      rw [e1, e2]
      obtain ⟨g, eA, _, hg, hc, _⟩ := OwnI.at_ h i hl
      have e3 : n - (R.first : Int) = (i : Int) := by omega
      have i1 : (i : Int) < (R.l.length : Int) := by omega
      have i2 : (i : Int) ≤ 4096 := by have := hf.len; have := hf.hi; omega
      have HC : Hid (∀ w', Below w.heap.size w w' → w'.cell? ⟨g, i, none⟩ = some (.int .i64 (R.l.getD i 0))) := Lib.hid (fun w' hb => (hb.cell (p := ⟨g, i, none⟩) hg).trans hc)
      have n1 : 0 ≤ n := by omega
      have n2 : n ≤ 1099512627776 := by have := hf.next; omega
      subst eA
      clear h e1 e2 hf hi hi2 hl hc
      generalize R.l.getD i 0 = z at *
      go_enter Try.func15, Try.ntmps15
      go_wp2_with (first
        | (go_at_call 21; (with_reducible refine (CN.out _).mono ?_); rintro e w1 ⟨rfl, hb⟩; have HB1 := Lib.hid ((HB.out _).trans (hb.mono (by simp))); have HX := Lib.hid ((DBx.new w R.room R.first (.slice (some ⟨g, 0, none⟩) R.l.length C)).below hb (by simp)); obtain ⟨q0, q1, q2⟩ := HX.out.cells; have hc := HC.out w1 HB1.out; clear hb)
        | fail)
      go_ret2
      exact ⟨rfl, HB1.out⟩
end Go.Proofs.Ytjkobejhbgjhlaa
