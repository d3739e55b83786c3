/-
  Own text: layer 17 (group): a group's shards in plain numbers; its box; Make, walked.
-/
import Derived.Test.YtjcbcdjfhcnhcaaGrA
namespace Go.Proofs.Ytjcbcdjfhcnhcaa
open Go.RowKit

/-- The shards of so many inputs: place x, byte c. -/
def G17 (Z : List Int) (k x c : Nat) : Nat := wordE (fun j => be 2 (Z.getD j 0)) k x c
theorem G17_data (Z : List Int) {k x : Nat} (hk : k ≤ 256) (hx : x < k) (c : Nat) : G17 Z k x c = co (be 2 (Z.getD x 0)) c :=
  word_first2 (D := fun j => be 2 (Z.getD j 0)) hk (fun j _ => be_range 2 (Z.getD j 0)) hx c
theorem G17_more (Z : List Int) {k : Nat} (_hk : k ≤ 256) (X : Nat → List Int) (c : Nat) (h : ∀ j, j < k → co (X j) c = co (be 2 (Z.getD j 0)) c) (i : Nat) : xs (fun j => mu (lagw nid k j (k + i)) (co (X j) c)) k = G17 Z k (k + i) c :=
  xs_congr k (fun j hj => by show mu (lagw nid k j (k + i)) (co (X j) c) = mu (lagw nid k j (k + i)) (co (be 2 (Z.getD j 0)) c); rw [h j hj])
/-- A block of five cells. -/
def B5 (t : TypeId) (w : World) (b : Nat) (v0 v1 v2 v3 v4 : Value) : Prop := w.heap[b]? = some (.cells #[v0, v1, v2, v3, v4] t (0, 0))
section
variable {t : TypeId} {w : World} {b : Nat} {v0 v1 v2 v3 v4 : Value}
theorem B5.lt (h : B5 t w b v0 v1 v2 v3 v4) : b < w.heap.size := (Array.getElem?_eq_some_iff.1 h).1
theorem B5.cells (h : B5 t w b v0 v1 v2 v3 v4) : w.cell? ⟨b, 0, none⟩ = some v0 ∧ w.cell? ⟨b, 1, none⟩ = some v1 ∧ w.cell? ⟨b, 2, none⟩ = some v2 ∧ w.cell? ⟨b, 3, none⟩ = some v3 ∧ w.cell? ⟨b, 4, none⟩ = some v4 := by
  unfold B5 at h
  simp [World.cell?, h]
theorem B5.frozen (h : B5 t w b v0 v1 v2 v3 v4) (i : Nat) : w.frozen? ⟨b, i, none⟩ = false := by
  unfold B5 at h
  simp [World.frozen?, h]
theorem B5.keep {w' : World} (h : B5 t w b v0 v1 v2 v3 v4) (e : w'.heap[b]? = w.heap[b]?) : B5 t w' b v0 v1 v2 v3 v4 := e.trans h
theorem B5.below {w' : World} {B : Nat} (h : B5 t w b v0 v1 v2 v3 v4) (hb : Below B w w') (hB : b < B) : B5 t w' b v0 v1 v2 v3 v4 := h.keep (hb.block b hB)
theorem B5.set4 (h : B5 t w b v0 v1 v2 v3 v4) (u : Value) : B5 t (w.setCell ⟨b, 4, none⟩ u) b v0 v1 v2 v3 u := by
  unfold B5 at *
  simp [World.setCell, Array.getElem?_modify, h]
theorem B5.put (h : B5 t w b v0 v1 v2 v3 v4) (u0 u1 u2 u3 u4 : Value) : B5 t (((((w.setCell ⟨b, 0, none⟩ u0).setCell ⟨b, 1, none⟩ u1).setCell ⟨b, 2, none⟩ u2).setCell ⟨b, 3, none⟩ u3).setCell ⟨b, 4, none⟩ u4) b u0 u1 u2 u3 u4 := by
  unfold B5 at *
  simp [World.setCell, Array.getElem?_modify, h]
theorem B5.new (w : World) (t : TypeId) (v0 v1 v2 v3 v4 : Value) : B5 t (w.alloc (.cells #[v0, v1, v2, v3, v4] t)) w.heap.size v0 v1 v2 v3 v4 := Go.Deep.blk_alloc_new w _
end
theorem put5_cells {t : TypeId} {w : World} {b : Nat} {v0 v1 v2 v3 v4 : Value} (h : B5 t w b v0 v1 v2 v3 v4) (u0 u1 u2 u3 u4 : Value) {W : World} (hW : W = ((((w.setCell ⟨b, 0, none⟩ u0).setCell ⟨b, 1, none⟩ u1).setCell ⟨b, 2, none⟩ u2).setCell ⟨b, 3, none⟩ u3).setCell ⟨b, 4, none⟩ u4) :
    W.cell? ⟨b, 0, none⟩ = some u0 ∧ W.cell? ⟨b, 1, none⟩ = some u1 ∧ W.cell? ⟨b, 2, none⟩ = some u2 ∧ W.cell? ⟨b, 3, none⟩ = some u3 ∧ W.cell? ⟨b, 4, none⟩ = some u4 := by
  have h2 := h.put u0 u1 u2 u3 u4
  rw [← hW] at h2
  exact h2.cells
/-- Five stores into a block that is new leave what was there. -/
theorem below_put5 {B : Nat} {w0 w : World} (h : Below B w0 w) {b : Nat} (hb : B ≤ b) (u0 u1 u2 u3 u4 : Value) : Below B w0 (((((w.setCell ⟨b, 0, none⟩ u0).setCell ⟨b, 1, none⟩ u1).setCell ⟨b, 2, none⟩ u2).setCell ⟨b, 3, none⟩ u3).setCell ⟨b, 4, none⟩ u4) :=
  ((((h.setCell (p := ⟨b, 0, none⟩) hb _).setCell (p := ⟨b, 1, none⟩) hb _).setCell (p := ⟨b, 2, none⟩) hb _).setCell (p := ⟨b, 3, none⟩) hb _).setCell (p := ⟨b, 4, none⟩) hb _
/-- No stores into a block that holds no shards. -/
theorem Shs.put {w : World} {base n : Nat} {v : Value} {G : Nat → Nat → Nat} (h : Shs w base v n G) {t : TypeId} {b : Nat} {v0 v1 v2 v3 v4 : Value} (hB : B5 t w b v0 v1 v2 v3 v4) (h1 : t ≠ 42) (h2 : t ≠ 5) (u0 u1 u2 u3 u4 : Value) : Shs (((((w.setCell ⟨b, 0, none⟩ u0).setCell ⟨b, 1, none⟩ u1).setCell ⟨b, 2, none⟩ u2).setCell ⟨b, 3, none⟩ u3).setCell ⟨b, 4, none⟩ u4) base v n G :=
  h.keep fun k C t' hg ht => by
    have hne : k ≠ b := fun e => by
      rw [e, hB] at hg
      simp only [Option.some.injEq, Obj.cells.injEq] at hg
      rcases ht with rfl | rfl
      · exact h1 hg.2.1
      · exact h2 hg.2.1
    rw [Below.heap_setCell _ _ _ _ hne, Below.heap_setCell _ _ _ _ hne, Below.heap_setCell _ _ _ _ hne, Below.heap_setCell _ _ _ _ hne, Below.heap_setCell _ _ _ _ hne]
theorem Shs.set {w : World} {base n : Nat} {v : Value} {G : Nat → Nat → Nat} (h : Shs w base v n G) {t : TypeId} {b : Nat} {v0 v1 v2 v3 v4 : Value} (hB : B5 t w b v0 v1 v2 v3 v4) (h1 : t ≠ 42) (h2 : t ≠ 5) (i : Nat) (u : Value) : Shs (w.setCell ⟨b, i, Option.none⟩ u) base v n G :=
  h.keep fun k C t' hg ht => by
    have hne : k ≠ b := fun e => by
      rw [e, hB] at hg
      simp only [Option.some.injEq, Obj.cells.injEq] at hg
      rcases ht with rfl | rfl
      · exact h1 hg.2.1
      · exact h2 hg.2.1
    rw [Below.heap_setCell _ _ _ _ hne]
theorem Shs.setAt {w : World} {base n : Nat} {v : Value} {G : Nat → Nat → Nat} (h : Shs w base v n G) {t : TypeId} {b : Nat} {D : Array Value} (hB : w.heap[b]? = some (.cells D t (0, 0))) (h1 : t ≠ 42) (h2 : t ≠ 5) (i : Nat) (u : Value) : Shs (w.setCell ⟨b, i, Option.none⟩ u) base v n G :=
  h.keep fun k C t' hg ht => by
    have hne : k ≠ b := fun e => by
      rw [e, hB] at hg
      simp only [Option.some.injEq, Obj.cells.injEq] at hg
      rcases ht with rfl | rfl
      · exact h1 hg.2.1
      · exact h2 hg.2.1
    rw [Below.heap_setCell _ _ _ _ hne]
/-- A row that is known whole is the call's own. -/
theorem rowIs_owns {w : World} {g base n : Nat} {e : TypeId} {f : Nat → Value} (h : w.rowIs g e n f) (hb : base ≤ g) (hn : n ≤ maxLen) : w.ownsRow base e 1 (.slice (some ⟨g, 0, none⟩) n n) n ((List.range n).map f) := by
  obtain ⟨c, hc, hs, hi⟩ := h
  refine ⟨by simp, .inr ⟨g, n, c, rfl, hb, hc, Nat.le_refl _, hn, by omega, ?_⟩⟩
  rw [List.take_of_length_le (by simp [hs])]
  apply List.ext_getElem?
  intro i
  by_cases g : i < n
  · have := hi i g
    simp [g, ← Array.getElem?_toList] at this ⊢
    exact this
  · rw [List.getElem?_eq_none (by simp [hs]; omega), List.getElem?_eq_none (by simp; omega)]
/-- One input as a shard. -/
theorem put16_nil (z : Int) (w : World) (h0 : 0 ≤ z) (h1 : z ≤ 65535) :
    Calls Try.prog 29 #[.slice none 0 0, .int .u16 z] w fun e w' => ∃ g, e = .returned (.slice (some ⟨g, 0, none⟩) 2 2) ∧ Hid (w.heap.size ≤ g) ∧ Hid (Dat w' g 2 (be 2 z)) ∧ Hid (Below w.heap.size w w') := by
  refine (put16_any none 0 0 [] z w ⟨rfl, by omega, fun i hi => absurd hi (by omega), .inl rfl⟩ (by omega) h0 h1).mono ?_
  rintro e w' ⟨g, he, hg, hr, hb⟩
  refine ⟨g, he, Lib.hid hg, Lib.hid ?_, Lib.hid hb⟩
  have := Row8.dat hr (be_range 2 z)
  rw [List.nil_append, be_length] at this
  exact this
/-- The shards, as far as they are made. -/
def rowV (ad : Nat → Nat) (k j : Nat) : Value := if j < k then .slice (some ⟨ad j, 0, none⟩) 2 2 else .slice none 0 0
theorem row_zero (w : World) (ad : Nat → Nat) (n : Nat) : (w.alloc (.cells (madeCells #[.slice none 0 0] n) 42)).rowIs w.heap.size 42 n (rowV ad 0) :=
  (World.rowIs_made w (.slice none 0 0) n 42).congr (fun i _ => by unfold rowV; rw [if_neg (by omega)])
theorem row_step {w : World} {g n k gn : Nat} {ad : Nat → Nat} (H : w.rowIs g 42 n (rowV ad k)) : (w.setCell ⟨g, k, none⟩ (.slice (some ⟨gn, 0, none⟩) 2 2)).rowIs g 42 n (rowV (fun j => if j = k then gn else ad j) (k + 1)) :=
  (H.set k _).congr (fun i _ => by
    unfold rowV
    by_cases e : i = k
    · rw [if_pos e, if_pos (by omega)]
      show _ = Value.slice (some ⟨if i = k then gn else ad i, 0, none⟩) 2 2
      rw [if_pos e]
    · rw [if_neg e]
      by_cases g : i < k
      · rw [if_pos g, if_pos (by omega)]
        show _ = Value.slice (some ⟨if i = k then gn else ad i, 0, none⟩) 2 2
        rw [if_neg e]
      · rw [if_neg g, if_neg (by omega)])
theorem row_end {w : World} {g base n : Nat} {ad : Nat → Nat} {Z : List Int} (H : w.rowIs g 42 n (rowV ad n)) (hb : base ≤ g) (hn : n ≤ 16) (hd : ∀ j, j < n → Dat w (ad j) 2 (be 2 (Z.getD j 0))) : Shs w base (.slice (some ⟨g, 0, none⟩) n n) n (G17 Z n) :=
  ⟨_, rowIs_owns H hb (by unfold maxLen; omega), fun i hi => ⟨ad i, 0, 2, _, by
    rw [List.getElem?_map, List.getElem?_range hi]
    show some (rowV ad n i) = _
    unfold rowV
    rw [if_pos hi], hd i hi, by omega, by omega, fun c _ => by rw [Nat.zero_add, G17_data Z (by omega) hi]⟩⟩
/-- What Make answers. -/
def MadeG (no fst : Int) (n m N : Nat) (ok : Value) (G : Nat → Nat → Nat) (w : World) (e : Ending) (w' : World) : Prop :=
  ∃ A C, e = .returned (.tuple #[.agg #[.int .u32 no, .int .u32 fst, .int .i64 (n : Nat), .int .i64 (m : Nat), .slice A N C], ok]) ∧ Hid (Shs w' w.heap.size (.slice A N C) N G) ∧ Hid (Below w.heap.size w w')
set_option maxRecDepth 100000 in
theorem gmake_no (p : Value) (no fst m : Int) (n cap : Nat) (a : Option Addr) (w : World) (h : ¬ (1 ≤ n ∧ n ≤ 16 ∧ 0 ≤ m ∧ m ≤ 16)) :
    Calls Try.prog 8 #[p, .int .u32 no, .int .u32 fst, .int .i64 m, .slice a n cap] w fun e w' => e = .returned (.tuple #[.agg #[.int .u32 0, .int .u32 0, .int .i64 0, .int .i64 0, .slice none 0 0], .int .i64 60]) ∧ Hid (Below w.heap.size w w') := by
  have HZ := Lib.hid (B5.new w 28 (.int .u32 0) (.int .u32 0) (.int .i64 0) (.int .i64 0) (.slice none 0 0))
  have HB : Hid (Below w.heap.size w (w.alloc (.cells #[.int .u32 0, .int .u32 0, .int .i64 0, .int .i64 0, .slice none 0 0] 28))) := Lib.hid ((Below.refl w.heap.size w).alloc (Nat.le_refl _) _)
  have hc : (n : Int) < 1 ∨ ¬ (n : Int) < 1 ∧ 16 < (n : Int) ∨ ¬ (n : Int) < 1 ∧ ¬ 16 < (n : Int) ∧ m < 0 ∨ ¬ (n : Int) < 1 ∧ ¬ 16 < (n : Int) ∧ ¬ m < 0 ∧ 16 < m := by omega
  clear h
  rcases hc with h1 | ⟨h1, h2⟩ | ⟨h1, h2, h3⟩ | ⟨h1, h2, h3, h4⟩
  all_goals
    go_enter Try.func8, Try.ntmps8
    go_wp2
    obtain ⟨z0, z1, z2, z3, z4⟩ := HZ.out.cells
    refine bodyPost_ret (v := .tuple #[.agg #[.int .u32 0, .int .u32 0, .int .i64 0, .int .i64 0, .slice none 0 0], .int .i64 60]) (by simp [results, Try.results8, go_sem, z0, z1, z2, z3, z4]) rfl ?_
    exact ⟨rfl, HB⟩
end Go.Proofs.Ytjcbcdjfhcnhcaa
