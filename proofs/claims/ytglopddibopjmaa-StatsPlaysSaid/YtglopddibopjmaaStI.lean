/-
  Own text: what holds between two calls of a play.
-/
import Derived.Test.YtglopddibopjmaaStH
namespace Go.Proofs.Ytglopddibopjmaa
open Go.RowKit

/-- A script that came in: is it a trip, was it lost, how many ticks. -/
def Ops13 (w : World) (a : Option Addr) (n : Nat) (P L : Nat → Bool) (T : Nat → Int) : Prop :=
  n = 0 ∨ ∃ g off, a = some ⟨g, off, none⟩ ∧ g < w.heap.size ∧ ∀ i, i < n → w.cell? ⟨g, off + i * 3, none⟩ = some (.bool (P i)) ∧ w.cell? ⟨g, off + i * 3 + 1, none⟩ = some (.bool (L i)) ∧ w.cell? ⟨g, off + i * 3 + 2, none⟩ = some (.int .i64 (T i))
theorem Ops13.below {w w' : World} {a : Option Addr} {n : Nat} {P L : Nat → Bool} {T : Nat → Int} (h : Ops13 w a n P L T) {B : Nat} (hb : Below B w w') (hB : w.heap.size ≤ B) : Ops13 w' a n P L T :=
  h.imp id fun ⟨g, off, e, hl, hc⟩ => ⟨g, off, e, Nat.lt_of_lt_of_le hl hb.size, fun i hi => ⟨(hb.cell (p := ⟨g, off + i * 3, none⟩) (by show g < B; omega)).trans (hc i hi).1, (hb.cell (p := ⟨g, off + i * 3 + 1, none⟩) (by show g < B; omega)).trans (hc i hi).2.1, (hb.cell (p := ⟨g, off + i * 3 + 2, none⟩) (by show g < B; omega)).trans (hc i hi).2.2⟩⟩
theorem Ops13.at_ {w : World} {a : Option Addr} {n : Nat} {P L : Nat → Bool} {T : Nat → Int} (h : Ops13 w a n P L T) {j : Nat} (hj : j < n) : ∃ g off, a = some ⟨g, off, none⟩ ∧ ∀ w', Below w.heap.size w w' → w'.cell? ⟨g, off + j * 3, none⟩ = some (.bool (P j)) ∧ w'.cell? ⟨g, off + j * 3 + 1, none⟩ = some (.bool (L j)) ∧ w'.cell? ⟨g, off + j * 3 + 2, none⟩ = some (.int .i64 (T j)) := by
  rcases h with h | ⟨g, off, e, hg, h⟩
  · omega
  · exact ⟨g, off, e, fun w' hb => ⟨(hb.cell (p := ⟨g, off + j * 3, none⟩) hg).trans (h j hj).1, (hb.cell (p := ⟨g, off + j * 3 + 1, none⟩) hg).trans (h j hj).2.1, (hb.cell (p := ⟨g, off + j * 3 + 2, none⟩) hg).trans (h j hj).2.2⟩⟩
theorem Sk.fit.le {s : Sk} {i j : Nat} (h : s.fit i) (hij : i ≤ j) : s.fit j := ⟨h.l0, h.l1, h.r0, h.r1, h.v0, h.v1, h.m0, by have := h.m1; omega, h.t0, by have := h.t1; omega⟩
/-- Between two calls, in a play that began at w: the code's way is s1, the document's s2. -/
structure St13 (w : World) (s1 s2 : Sk) (W : World) : Prop where
  code : Blk13 25 W (w.heap.size + 2) s1
  doc : Blk13 26 W (w.heap.size + 3) s2
  res0 : Blk13 25 W w.heap.size Sk.zero
  res1 : Blk13 26 W (w.heap.size + 1) Sk.zero
  bel : Below w.heap.size w W
section
variable {w : World} {s1 s2 : Sk} {W : World}
theorem St13.below {W' : World} (h : St13 w s1 s2 W) (hb : Below W.heap.size W W') : St13 w s1 s2 W' :=
  ⟨h.code.below hb h.code.lt, h.doc.below hb h.doc.lt, h.res0.below hb h.res0.lt, h.res1.below hb h.res1.lt, h.bel.trans (hb.mono h.bel.size)⟩
theorem St13.frm {W' : World} {s' : Sk} (h : St13 w s1 s2 W) (hk : Blk13 25 W' (w.heap.size + 2) s') (hf : Frm13 (w.heap.size + 2) W W') : St13 w s' s2 W' :=
  ⟨hk, h.doc.keep (hf.block _ h.doc.lt (by omega)), h.res0.keep (hf.block _ h.res0.lt (by omega)), h.res1.keep (hf.block _ h.res1.lt (by omega)), hf.bel h.bel h.bel.size (by omega)⟩
theorem Blk13.set5 {t : TypeId} {b : Nat} {s : Sk} (h : Blk13 t W b s) (s' : Sk) : Blk13 t (((((W.setCell ⟨b, 0, none⟩ (.int .i64 s'.lo)).setCell ⟨b, 1, none⟩ (.int .i64 s'.rt)).setCell ⟨b, 2, none⟩ (.int .i64 s'.va)).setCell ⟨b, 3, none⟩ (.int .i64 s'.ma)).setCell ⟨b, 4, none⟩ (.int .i64 s'.tr)) b s' := by
  have := ((((h.set0 s'.lo).set1 s'.rt).set2 s'.va).set3 s'.ma).set4 s'.tr
  exact this
theorem Blk13.off5 {t : TypeId} {b c : Nat} {s : Sk} (h : Blk13 t W b s) (hc : b ≠ c) (v0 v1 v2 v3 v4 : Value) : Blk13 t (((((W.setCell ⟨c, 0, none⟩ v0).setCell ⟨c, 1, none⟩ v1).setCell ⟨c, 2, none⟩ v2).setCell ⟨c, 3, none⟩ v3).setCell ⟨c, 4, none⟩ v4) b s :=
  ((((h.other (p := ⟨c, 0, none⟩) hc _).other (p := ⟨c, 1, none⟩) hc _).other (p := ⟨c, 2, none⟩) hc _).other (p := ⟨c, 3, none⟩) hc _).other (p := ⟨c, 4, none⟩) hc _
/-- The document's box is written. -/
theorem St13.write (h : St13 w s1 s2 W) (s' : Sk) : St13 w s1 s' (((((W.setCell ⟨w.heap.size + 3, 0, none⟩ (.int .i64 s'.lo)).setCell ⟨w.heap.size + 3, 1, none⟩ (.int .i64 s'.rt)).setCell ⟨w.heap.size + 3, 2, none⟩ (.int .i64 s'.va)).setCell ⟨w.heap.size + 3, 3, none⟩ (.int .i64 s'.ma)).setCell ⟨w.heap.size + 3, 4, none⟩ (.int .i64 s'.tr)) :=
  ⟨h.code.off5 (by omega) _ _ _ _ _, h.doc.set5 s', h.res0.off5 (by omega) _ _ _ _ _, h.res1.off5 (by omega) _ _ _ _ _, set5_13 h.bel (by omega) _ _ _ _ _⟩
theorem mark_st {i : Nat} (hf : s1.fit i) (hi : i ≤ 1000) (h : St13 w s1 s2 W) (lost : Bool) :
    Calls Try.prog 15 #[.pointer (some ⟨w.heap.size + 2, 0, none⟩), .bool lost] W fun e W' => e = .returned (.tuple #[]) ∧ Hid (St13 w (s1.mark lost) s2 W') :=
  (mark13_any lost _ i s1 hf hi W h.code).mono fun _ _ ⟨e, h1, h2⟩ => ⟨e, Lib.hid (h.frm h1.out h2.out)⟩
theorem trip_st {i : Nat} (hf : s1.fit i) (hi : i ≤ 1000) (h : St13 w s1 s2 W) (t : Int) :
    Calls Try.prog 17 #[.pointer (some ⟨w.heap.size + 2, 0, none⟩), .int .i64 t] W fun e W' => e = .returned (.tuple #[]) ∧ Hid (St13 w (s1.trip t) s2 W') :=
  (trip13_any t _ i s1 hf hi W h.code).mono fun _ _ ⟨e, h1, h2⟩ => ⟨e, Lib.hid (h.frm h1.out h2.out)⟩
end
/-- The play begins. -/
theorem St13.start (w : World) {W : World} (hW : W = (((w.alloc (.cells #[.int .i64 0, .int .i64 0, .int .i64 0, .int .i64 0, .int .i64 0] 25)).alloc (.cells #[.int .i64 0, .int .i64 0, .int .i64 0, .int .i64 0, .int .i64 0] 26)).alloc (.cells #[.int .i64 0, .int .i64 0, .int .i64 0, .int .i64 0, .int .i64 0] 25)).alloc (.cells #[.int .i64 0, .int .i64 0, .int .i64 0, .int .i64 0, .int .i64 0] 26)) : St13 w Sk.zero Sk.zero W := by
  obtain ⟨hb, hx⟩ := Blk13.two w Sk.zero Sk.zero 25 26 rfl
  obtain ⟨hb', hx'⟩ := Blk13.two _ Sk.zero Sk.zero 25 26 hW
  have hs : ((w.alloc (.cells #[.int .i64 0, .int .i64 0, .int .i64 0, .int .i64 0, .int .i64 0] 25)).alloc (.cells #[.int .i64 0, .int .i64 0, .int .i64 0, .int .i64 0, .int .i64 0] 26)).heap.size = w.heap.size + 2 := by simp
  obtain ⟨r0, r1⟩ := hx _ hb'
  obtain ⟨c, d⟩ := hx' W (Below.refl _ _)
  rw [hs] at c d
  exact ⟨c, d, r0, r1, hb.trans (hb'.mono hb.size)⟩
end Go.Proofs.Ytglopddibopjmaa
