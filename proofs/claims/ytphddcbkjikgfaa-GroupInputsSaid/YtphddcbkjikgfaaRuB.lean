/-
  Own text: layer 16 (redund): a control's block; New, the code's and the document's Next, walked.
-/
import Derived.Test.YtphddcbkjikgfaaRuA
namespace Go.Proofs.Ytphddcbkjikgfaa
open Go.RowKit

/-- A control's block. -/
def Blk16 (t : TypeId) (w : World) (b : Nat) (c : Cn) : Prop := w.heap[b]? = some (.cells #[.int .i64 c.now, .int .i64 c.most, .int .i64 c.calm] t (0, 0))
/-- A control by value. -/
def CV (c : Cn) : Value := .agg #[.int .i64 c.now, .int .i64 c.most, .int .i64 c.calm]
section
variable {t : TypeId} {w : World} {b : Nat} {c : Cn}
theorem Blk16.lt (h : Blk16 t w b c) : b < w.heap.size := (Array.getElem?_eq_some_iff.1 h).1
theorem Blk16.cells (h : Blk16 t w b c) : w.cell? ⟨b, 0, none⟩ = some (.int .i64 c.now) ∧ w.cell? ⟨b, 1, none⟩ = some (.int .i64 c.most) ∧ w.cell? ⟨b, 2, none⟩ = some (.int .i64 c.calm) := by
  unfold Blk16 at h
  simp [World.cell?, h]
theorem Blk16.frozen (h : Blk16 t w b c) (i : Nat) : w.frozen? ⟨b, i, none⟩ = false := by
  unfold Blk16 at h
  simp [World.frozen?, h]
theorem Blk16.keep {w' : World} (h : Blk16 t w b c) (e : w'.heap[b]? = w.heap[b]?) : Blk16 t w' b c := e.trans h
theorem Blk16.below {w' : World} {B : Nat} (h : Blk16 t w b c) (hb : Below B w w') (hB : b < B) : Blk16 t w' b c := h.keep (hb.block b hB)
theorem Blk16.set0 (h : Blk16 t w b c) (n : Int) : Blk16 t (w.setCell ⟨b, 0, none⟩ (.int .i64 n)) b ⟨n, c.most, c.calm⟩ := by
  unfold Blk16 at *
  simp [World.setCell, Array.getElem?_modify, h]
theorem Blk16.set1 (h : Blk16 t w b c) (n : Int) : Blk16 t (w.setCell ⟨b, 1, none⟩ (.int .i64 n)) b ⟨c.now, n, c.calm⟩ := by
  unfold Blk16 at *
  simp [World.setCell, Array.getElem?_modify, h]
theorem Blk16.set2 (h : Blk16 t w b c) (n : Int) : Blk16 t (w.setCell ⟨b, 2, none⟩ (.int .i64 n)) b ⟨c.now, c.most, n⟩ := by
  unfold Blk16 at *
  simp [World.setCell, Array.getElem?_modify, h]
theorem Blk16.other (h : Blk16 t w b c) {p : Addr} (hp : b ≠ p.block) (u : Value) : Blk16 t (w.setCell p u) b c := h.keep (Below.heap_setCell w p u b hp)
theorem Blk16.new (w : World) (c : Cn) (t : TypeId) : Blk16 t (w.alloc (.cells #[.int .i64 c.now, .int .i64 c.most, .int .i64 c.calm] t)) w.heap.size c := Go.Deep.blk_alloc_new w _
end
/-- A box that is new. -/
theorem Blk16.box (w : World) (c : Cn) (t : TypeId) {W : World} (hW : W = w.alloc (.cells #[.int .i64 c.now, .int .i64 c.most, .int .i64 c.calm] t)) :
    Below w.heap.size w W ∧ ∀ w', Below W.heap.size W w' → Blk16 t w' w.heap.size c := by
  have hk : Blk16 t W w.heap.size c := by rw [hW]; exact Blk16.new w c t
  exact ⟨by rw [hW]; exact (Below.refl _ _).alloc (Nat.le_refl _) _, fun w' h => hk.below h hk.lt⟩
theorem frm13_of_below {b : Nat} {w w' : World} (h : Below w.heap.size w w') : Frm13 b w w' := ⟨h.os, h.tape, h.output, h.size, fun k hk _ => h.block k hk⟩
theorem new16_no (m : Int) (h : m < 0 ∨ 16 < m) (w : World) :
    Calls Try.prog 39 #[.int .i64 m] w fun e w' => e = .returned (.tuple #[.pointer none, .int .i64 1]) ∧ w = w' := by
  by_cases h1 : m < 0
  · clear h
    go_enter Try.func39, Try.ntmps39
    go_wp2
    go_ret2
    exact ⟨rfl, rfl⟩
  · have h2 : 16 < m := by omega
    clear h
    go_enter Try.func39, Try.ntmps39
    go_wp2
    go_ret2
    exact ⟨rfl, rfl⟩
theorem new16_yes (m : Int) (h0 : 0 ≤ m) (h1 : m ≤ 16) (w : World) :
    Calls Try.prog 39 #[.int .i64 m] w fun e w' => ∃ p, e = .returned (.tuple #[.pointer (some ⟨p, 0, none⟩), .int .i64 0]) ∧ Hid (w.heap.size ≤ p ∧ Blk16 117 w' p ⟨0, m, 0⟩) ∧ Hid (Below w.heap.size w w') := by
  have h2 : ¬ m < 0 := by omega
  have h3 : ¬ 16 < m := by omega
  go_enter Try.func39, Try.ntmps39
  go_wp2
  go_ret2
  exact ⟨w.heap.size, rfl, Lib.hid ⟨Nat.le_refl _, Blk16.new w ⟨0, m, 0⟩ 117⟩, Lib.hid ((Below.refl _ _).alloc (Nat.le_refl _) _)⟩
theorem Cn.next_is (c : Cn) (k l : Int) : (c.now ≤ tgt k l c.most → c.next k l = ⟨tgt k l c.most, c.most, 0⟩) ∧ (¬ c.now ≤ tgt k l c.most → 7 ≤ c.calm → c.next k l = ⟨c.now - 1, c.most, 0⟩) ∧ (¬ c.now ≤ tgt k l c.most → ¬ 7 ≤ c.calm → c.next k l = ⟨c.now, c.most, c.calm + 1⟩) := by
  unfold Cn.next
  refine ⟨fun h => by rw [if_pos h], fun h h' => by rw [if_neg h, if_pos h'], fun h h' => by rw [if_neg h, if_neg h']⟩
set_option maxRecDepth 100000 in
theorem next16_any (b : Nat) (c : Cn) (hc : c.ok) (k l : Int) (w : World) (h : Blk16 117 w b c) :
    Calls Try.prog 51 #[.pointer (some ⟨b, 0, none⟩), .int .i64 k, .int .i64 l] w fun e w' => e = .returned (.int .i64 (c.next k l).now) ∧ Hid (Blk16 117 w' b (c.next k l)) ∧ Hid (Frm13 b w w') := by
  have CT := Lib.hid (target_any k l c.most w)
  have HN := Lib.hid (c.next_is k l)
  obtain ⟨n0, n1, m1, a0, a1⟩ := hc
  have c1 := h.cells.2.1
  have HH := Lib.hid h
  clear h
  generalize c.next k l = R at *
  generalize tgt k l c.most = T at *
  have part : ∀ w1, Below w.heap.size w w1 → Blk16 117 w1 b c := fun w1 hb => HH.out.below hb HH.out.lt
  have HP := Lib.hid part
  clear part
  go_enter Try.func51, Try.ntmps51
  go_upto_region 3 with (first
    | (go_at_call 62; (with_reducible refine (CT.out).mono ?_); rintro e w1 ⟨rfl, hb⟩; have HB := Lib.hid hb; clear hb)
    | fail)
  have h1 := HP.out w1 HB.out
  have H1 := Lib.hid h1
  have hf := Lib.hid (frm13_of_below (b := b) HB.out)
  obtain ⟨d0, d1, d2⟩ := h1.cells
  have f0 := h1.frozen 0
  have f2 := h1.frozen 2
  clear h1 c1 CT HP HH HB
  by_cases hle : c.now ≤ T
  · obtain rfl := HN.out.1 hle
    have e1 : (T : Int) ≥ c.now := hle
    clear HN
    go_wp2
    go_ret
    exact ⟨rfl, Lib.hid ((H1.out.set0 T).set2 0), Lib.hid ((hf.out.set _ _).set _ _)⟩
  · by_cases hs : 7 ≤ c.calm
    · obtain rfl := HN.out.2.1 (Int.not_le.1 hle) hs
      clear HN
      go_wp2
      go_ret
      exact ⟨rfl, Lib.hid ((H1.out.set0 (c.now - 1)).set2 0), Lib.hid ((hf.out.set _ _).set _ _)⟩
    · obtain rfl := HN.out.2.2 (Int.not_le.1 hle) (by omega)
      clear HN
      go_wp2
      go_ret
      exact ⟨rfl, Lib.hid (H1.out.set2 (c.calm + 1)), Lib.hid (hf.out.set _ _)⟩
set_option maxRecDepth 100000 in
theorem rnext16_any (c : Cn) (hc : c.ok) (k l : Int) (w : World) :
    Calls Try.prog 50 #[CV c, .int .i64 k, .int .i64 l] w fun e w' => e = .returned (CV (c.next k l)) ∧ Below w.heap.size w w' := by
  obtain ⟨W, hW⟩ : ∃ W, W = (w.alloc (.cells #[.int .i64 c.now, .int .i64 c.most, .int .i64 c.calm] 64)).alloc (.cells #[.int .i64 0, .int .i64 0, .int .i64 0] 64) := ⟨_, rfl⟩
  obtain ⟨hb1, hx1⟩ := Blk16.box w c 64 rfl
  obtain ⟨hb2, hx2⟩ := Blk16.box _ ⟨0, 0, 0⟩ 64 hW
  have hsz : (w.alloc (.cells #[.int .i64 c.now, .int .i64 c.most, .int .i64 c.calm] 64)).heap.size = w.heap.size + 1 := by simp
  rw [hsz] at hx2
  have hbw : Below w.heap.size w W := hb1.trans (hb2.mono hb1.size)
  have HX := Lib.hid (fun w' (h : Below W.heap.size W w') => (⟨(hx1 _ (hb2.trans (h.mono hb2.size))), hx2 w' h⟩ : Blk16 64 w' w.heap.size c ∧ Blk16 64 w' (w.heap.size + 1) ⟨0, 0, 0⟩))
  have HBW := Lib.hid hbw
  have c1 := (HX.out W (Below.refl _ _)).1.cells.2.1
  have CT := Lib.hid (rtarget_any k l c.most W)
  have HN := Lib.hid (c.next_is k l)
  obtain ⟨n0, n1, m1, a0, a1⟩ := hc
  clear hb1 hx1 hb2 hx2 hsz hbw
  unfold CV
  generalize c.next k l = R at *
  generalize tgt k l c.most = T at *
  go_enter Try.func50, Try.ntmps50
  go_upto_region 1 with fail
  rw [← hW]
  clear hW
  go_upto_region 2 with (first
    | (go_at_call 61; (with_reducible refine (CT.out).mono ?_); rintro e w1 ⟨rfl, hb⟩; have HB := Lib.hid hb; clear hb)
    | fail)
  obtain ⟨h1, h2⟩ := HX.out w1 HB.out
  have H1 := Lib.hid h1
  have H2 := Lib.hid h2
  have HB1 : Hid (Below w.heap.size w w1) := Lib.hid (HBW.out.trans (HB.out.mono HBW.out.size))
  obtain ⟨d0, d1, d2⟩ := h1.cells
  have f0 := h1.frozen 0
  have f2 := h1.frozen 2
  obtain ⟨g0, g1, g2⟩ := h2.cells
  have q0 := h2.frozen 0
  have q1 := h2.frozen 1
  have q2 := h2.frozen 2
  have ne : w.heap.size + 1 ≠ w.heap.size := by omega
  clear h1 h2 c1 CT HX HBW HB
  by_cases hle : c.now ≤ T
  · obtain rfl := HN.out.1 hle
    have HR : Hid (Blk16 64 (((((w1.setCell ⟨w.heap.size, 0, none⟩ (.int .i64 T)).setCell ⟨w.heap.size, 2, none⟩ (.int .i64 0)).setCell ⟨w.heap.size + 1, 0, none⟩ (.int .i64 T)).setCell ⟨w.heap.size + 1, 1, none⟩ (.int .i64 c.most)).setCell ⟨w.heap.size + 1, 2, none⟩ (.int .i64 0)) (w.heap.size + 1) ⟨T, c.most, 0⟩) := Lib.hid (((((H2.out.other (p := ⟨w.heap.size, 0, none⟩) ne _).other (p := ⟨w.heap.size, 2, none⟩) ne _).set0 T).set1 c.most).set2 0)
    have z := HR.out.cells
    obtain ⟨z0, z1, z2⟩ := z
    clear HN
    go_wp2
    refine bodyPost_ret (v := .agg #[.int .i64 T, .int .i64 c.most, .int .i64 0]) (by simp [results, Try.results50, go_sem, z0, z1, z2]) rfl ?_
    exact ⟨rfl, ((((HB1.out.setCell (p := ⟨w.heap.size, 0, none⟩) (Nat.le_refl _) _).setCell (p := ⟨w.heap.size, 2, none⟩) (Nat.le_refl _) _).setCell (p := ⟨w.heap.size + 1, 0, none⟩) (Nat.le_succ _) _).setCell (p := ⟨w.heap.size + 1, 1, none⟩) (Nat.le_succ _) _).setCell (p := ⟨w.heap.size + 1, 2, none⟩) (Nat.le_succ _) _⟩
  · by_cases hs : 7 ≤ c.calm
    · obtain rfl := HN.out.2.1 (Int.not_le.1 hle) hs
      have hs' : 8 ≤ c.calm + 1 := by omega
      have HR : Hid (Blk16 64 ((((((w1.setCell ⟨w.heap.size, 2, none⟩ (.int .i64 (c.calm + 1))).setCell ⟨w.heap.size, 0, none⟩ (.int .i64 (c.now - 1))).setCell ⟨w.heap.size, 2, none⟩ (.int .i64 0)).setCell ⟨w.heap.size + 1, 0, none⟩ (.int .i64 (c.now - 1))).setCell ⟨w.heap.size + 1, 1, none⟩ (.int .i64 c.most)).setCell ⟨w.heap.size + 1, 2, none⟩ (.int .i64 0)) (w.heap.size + 1) ⟨c.now - 1, c.most, 0⟩) := Lib.hid ((((((H2.out.other (p := ⟨w.heap.size, 2, none⟩) ne _).other (p := ⟨w.heap.size, 0, none⟩) ne _).other (p := ⟨w.heap.size, 2, none⟩) ne _).set0 (c.now - 1)).set1 c.most).set2 0)
      obtain ⟨z0, z1, z2⟩ := HR.out.cells
      clear HN
      go_wp2
      refine bodyPost_ret (v := .agg #[.int .i64 (c.now - 1), .int .i64 c.most, .int .i64 0]) (by simp [results, Try.results50, go_sem, z0, z1, z2]) rfl ?_
      exact ⟨rfl, (((((HB1.out.setCell (p := ⟨w.heap.size, 2, none⟩) (Nat.le_refl _) _).setCell (p := ⟨w.heap.size, 0, none⟩) (Nat.le_refl _) _).setCell (p := ⟨w.heap.size, 2, none⟩) (Nat.le_refl _) _).setCell (p := ⟨w.heap.size + 1, 0, none⟩) (Nat.le_succ _) _).setCell (p := ⟨w.heap.size + 1, 1, none⟩) (Nat.le_succ _) _).setCell (p := ⟨w.heap.size + 1, 2, none⟩) (Nat.le_succ _) _⟩
    · obtain rfl := HN.out.2.2 (Int.not_le.1 hle) (by omega)
      have hs' : ¬ 8 ≤ c.calm + 1 := by omega
      have HR : Hid (Blk16 64 ((((w1.setCell ⟨w.heap.size, 2, none⟩ (.int .i64 (c.calm + 1))).setCell ⟨w.heap.size + 1, 0, none⟩ (.int .i64 c.now)).setCell ⟨w.heap.size + 1, 1, none⟩ (.int .i64 c.most)).setCell ⟨w.heap.size + 1, 2, none⟩ (.int .i64 (c.calm + 1))) (w.heap.size + 1) ⟨c.now, c.most, c.calm + 1⟩) := Lib.hid ((((H2.out.other (p := ⟨w.heap.size, 2, none⟩) ne _).set0 c.now).set1 c.most).set2 (c.calm + 1))
      obtain ⟨z0, z1, z2⟩ := HR.out.cells
      clear HN
      go_wp2
      refine bodyPost_ret (v := .agg #[.int .i64 c.now, .int .i64 c.most, .int .i64 (c.calm + 1)]) (by simp [results, Try.results50, go_sem, z0, z1, z2]) rfl ?_
      exact ⟨rfl, (((HB1.out.setCell (p := ⟨w.heap.size, 2, none⟩) (Nat.le_refl _) _).setCell (p := ⟨w.heap.size + 1, 0, none⟩) (Nat.le_succ _) _).setCell (p := ⟨w.heap.size + 1, 1, none⟩) (Nat.le_succ _) _).setCell (p := ⟨w.heap.size + 1, 2, none⟩) (Nat.le_succ _) _⟩
end Go.Proofs.Ytphddcbkjikgfaa
