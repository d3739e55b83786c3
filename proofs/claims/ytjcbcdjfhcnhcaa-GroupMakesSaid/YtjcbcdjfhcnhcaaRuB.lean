/-
  Own text: layer 16 (redund): a control's block; New, the code's and the document's Next, walked.
-/
import Derived.Test.YtjcbcdjfhcnhcaaRuA
namespace Go.Proofs.Ytjcbcdjfhcnhcaa
open Go.RowKit

/-- A control's block. -/
def Blk16 (t : TypeId) (w : World) (b : Nat) (c : Cn) : Prop := w.heap[b]? = some (.cells #[.int .i64 c.now, .int .i64 c.most, .int .i64 c.calm] t (0, 0))
/-- A control by value. -/
def CV (c : Cn) : Value := .agg #[.int .i64 c.now, .int .i64 c.most, .int .i64 c.calm]
section
variable {t : TypeId} {w : World} {b : Nat} {c : Cn}
theorem Blk16.lt (h : Blk16 t w b c) : b < w.heap.size := (Array.getElem?_eq_some_iff.1 h).1
theorem Blk16.cells (h : Blk16 t w b c) : w.cell? ⟨b, 0, none⟩ = some (.int .i64 c.now) ∧ w.cell? ⟨b, 1, none⟩ = some (.int .i64 c.most) ∧ w.cell? ⟨b, 2, none⟩ = some (.int .i64 c.calm) := by
  unfold Blk16 at h
  simp [World.cell?, h]
theorem Blk16.frozen (h : Blk16 t w b c) (i : Nat) : w.frozen? ⟨b, i, none⟩ = false := by
  unfold Blk16 at h
  simp [World.frozen?, h]
theorem Blk16.keep {w' : World} (h : Blk16 t w b c) (e : w'.heap[b]? = w.heap[b]?) : Blk16 t w' b c := e.trans h
theorem Blk16.below {w' : World} {B : Nat} (h : Blk16 t w b c) (hb : Below B w w') (hB : b < B) : Blk16 t w' b c := h.keep (hb.block b hB)
theorem Blk16.set0 (h : Blk16 t w b c) (n : Int) : Blk16 t (w.setCell ⟨b, 0, none⟩ (.int .i64 n)) b ⟨n, c.most, c.calm⟩ := by
  unfold Blk16 at *
  simp [World.setCell, Array.getElem?_modify, h]
theorem Blk16.set1 (h : Blk16 t w b c) (n : Int) : Blk16 t (w.setCell ⟨b, 1, none⟩ (.int .i64 n)) b ⟨c.now, n, c.calm⟩ := by
  unfold Blk16 at *
  simp [World.setCell, Array.getElem?_modify, h]
theorem Blk16.set2 (h : Blk16 t w b c) (n : Int) : Blk16 t (w.setCell ⟨b, 2, none⟩ (.int .i64 n)) b ⟨c.now, c.most, n⟩ := by
  unfold Blk16 at *
  simp [World.setCell, Array.getElem?_modify, h]
theorem Blk16.other (h : Blk16 t w b c) {p : Addr} (hp : b ≠ p.block) (u : Value) : Blk16 t (w.setCell p u) b c := h.keep (Below.heap_setCell w p u b hp)
theorem Blk16.new (w : World) (c : Cn) (t : TypeId) : Blk16 t (w.alloc (.cells #[.int .i64 c.now, .int .i64 c.most, .int .i64 c.calm] t)) w.heap.size c := Go.Deep.blk_alloc_new w _
end
/-- A box that is new. -/
theorem Blk16.box (w : World) (c : Cn) (t : TypeId) {W : World} (hW : W = w.alloc (.cells #[.int .i64 c.now, .int .i64 c.most, .int .i64 c.calm] t)) :
    Below w.heap.size w W ∧ ∀ w', Below W.heap.size W w' → Blk16 t w' w.heap.size c := by
  have hk : Blk16 t W w.heap.size c := by rw [hW]; exact Blk16.new w c t
  exact ⟨by rw [hW]; exact (Below.refl _ _).alloc (Nat.le_refl _) _, fun w' h => hk.below h hk.lt⟩
theorem frm13_of_below {b : Nat} {w w' : World} (h : Below w.heap.size w w') : Frm13 b w w' := ⟨h.os, h.tape, h.output, h.size, fun k hk _ => h.block k hk⟩
theorem new16_no (m : Int) (h : m < 0 ∨ 16 < m) (w : World) :
    Calls Try.prog 61 #[.int .i64 m] w fun e w' => e = .returned (.tuple #[.pointer none, .int .i64 1]) ∧ w = w' := by
  by_cases h1 : m < 0
  · clear h
    go_enter Try.func61, Try.ntmps61
    go_wp2
    go_ret2
    exact ⟨rfl, rfl⟩
  · have h2 : 16 < m := by omega
    clear h
    go_enter Try.func61, Try.ntmps61
    go_wp2
    go_ret2
    exact ⟨rfl, rfl⟩
theorem new16_yes (m : Int) (h0 : 0 ≤ m) (h1 : m ≤ 16) (w : World) :
    Calls Try.prog 61 #[.int .i64 m] w fun e w' => ∃ p, e = .returned (.tuple #[.pointer (some ⟨p, 0, none⟩), .int .i64 0]) ∧ Hid (w.heap.size ≤ p ∧ Blk16 156 w' p ⟨0, m, 0⟩) ∧ Hid (Below w.heap.size w w') := by
  have h2 : ¬ m < 0 := by omega
  have h3 : ¬ 16 < m := by omega
  go_enter Try.func61, Try.ntmps61
  go_wp2
  go_ret2
  exact ⟨w.heap.size, rfl, Lib.hid ⟨Nat.le_refl _, Blk16.new w ⟨0, m, 0⟩ 156⟩, Lib.hid ((Below.refl _ _).alloc (Nat.le_refl _) _)⟩
theorem Cn.next_is (c : Cn) (k l : Int) : (c.now ≤ tgt k l c.most → c.next k l = ⟨tgt k l c.most, c.most, 0⟩) ∧ (¬ c.now ≤ tgt k l c.most → 7 ≤ c.calm → c.next k l = ⟨c.now - 1, c.most, 0⟩) ∧ (¬ c.now ≤ tgt k l c.most → ¬ 7 ≤ c.calm → c.next k l = ⟨c.now, c.most, c.calm + 1⟩) := by
  unfold Cn.next
  refine ⟨fun h => by rw [if_pos h], fun h h' => by rw [if_neg h, if_pos h'], fun h h' => by rw [if_neg h, if_neg h']⟩
set_option maxRecDepth 100000 in
theorem next16_any (b : Nat) (c : Cn) (hc : c.ok) (k l : Int) (w : World) (h : Blk16 156 w b c) :
    Calls Try.prog 81 #[.pointer (some ⟨b, 0, none⟩), .int .i64 k, .int .i64 l] w fun e w' => e = .returned (.int .i64 (c.next k l).now) ∧ Hid (Blk16 156 w' b (c.next k l)) ∧ Hid (Frm13 b w w') := by
  have CT := Lib.hid (target_any k l c.most w)
  have HN := Lib.hid (c.next_is k l)
  obtain ⟨n0, n1, m1, a0, a1⟩ := hc
  have c1 := h.cells.2.1
  have HH := Lib.hid h
  clear h
  generalize c.next k l = R at *
  generalize tgt k l c.most = T at *
  have part : ∀ w1, Below w.heap.size w w1 → Blk16 156 w1 b c := fun w1 hb => HH.out.below hb HH.out.lt
  have HP := Lib.hid part
  clear part
  go_enter Try.func81, Try.ntmps81
  go_upto_region 3 with (first
    | (go_at_call 97; (with_reducible refine (CT.out).mono ?_); rintro e w1 ⟨rfl, hb⟩; have HB := Lib.hid hb; clear hb)
    | fail)
  have h1 := HP.out w1 HB.out
  have H1 := Lib.hid h1
  have hf := Lib.hid (frm13_of_below (b := b) HB.out)
  obtain ⟨d0, d1, d2⟩ := h1.cells
  have f0 := h1.frozen 0
  have f2 := h1.frozen 2
  clear h1 c1 CT HP HH HB
  by_cases hle : c.now ≤ T
  · obtain rfl := HN.out.1 hle
    have e1 : (T : Int) ≥ c.now := hle
    clear HN
    go_wp2
    go_ret
    exact ⟨rfl, Lib.hid ((H1.out.set0 T).set2 0), Lib.hid ((hf.out.set _ _).set _ _)⟩
  · by_cases hs : 7 ≤ c.calm
    · obtain rfl := HN.out.2.1 (Int.not_le.1 hle) hs
      clear HN
      go_wp2
      go_ret
      exact ⟨rfl, Lib.hid ((H1.out.set0 (c.now - 1)).set2 0), Lib.hid ((hf.out.set _ _).set _ _)⟩
    · obtain rfl := HN.out.2.2 (Int.not_le.1 hle) (by omega)
      clear HN
      go_wp2
      go_ret
      exact ⟨rfl, Lib.hid (H1.out.set2 (c.calm + 1)), Lib.hid (hf.out.set _ _)⟩
end Go.Proofs.Ytjcbcdjfhcnhcaa
