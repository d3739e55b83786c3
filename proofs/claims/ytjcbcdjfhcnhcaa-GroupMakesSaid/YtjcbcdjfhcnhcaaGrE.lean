/-
  Own text: layer 17 (group): a group as the document's, groups alike; New, and how many there are, walked.
-/
import Derived.Test.YtjcbcdjfhcnhcaaGrD
import Derived.Test.YtjcbcdjfhcnhcaaRuB
namespace Go.Proofs.Ytjcbcdjfhcnhcaa
open Go.RowKit

theorem ref17_any (no fst k m : Int) (A : Option Addr) (n C : Nat) (w : World) :
    Calls Try.prog 12 #[.agg #[.int .u32 no, .int .u32 fst, .int .i64 k, .int .i64 m, .slice A n C]] w fun e w' => e = .returned (.agg #[.int .u32 no, .int .u32 fst, .int .i64 k, .int .i64 m, .slice A n C]) ∧ Hid (Below w.heap.size w w') := by
  have hs0 : (w.alloc (.cells #[.int .u32 no, .int .u32 fst, .int .i64 k, .int .i64 m, .slice A n C] 28)).heap.size = w.heap.size + 1 := by simp
  obtain ⟨W, hW⟩ : ∃ W, W = (w.alloc (.cells #[.int .u32 no, .int .u32 fst, .int .i64 k, .int .i64 m, .slice A n C] 28)).alloc (.cells #[.int .u32 0, .int .u32 0, .int .i64 0, .int .i64 0, .slice none 0 0] 34) := ⟨_, rfl⟩
  have h1 : B5 28 W w.heap.size (.int .u32 no) (.int .u32 fst) (.int .i64 k) (.int .i64 m) (.slice A n C) := by
    have h := B5.new w 28 (.int .u32 no) (.int .u32 fst) (.int .i64 k) (.int .i64 m) (.slice A n C)
    rw [hW]
    exact h.keep (Below.heap_alloc _ _ _ h.lt)
  have h2 : B5 34 W (w.heap.size + 1) (.int .u32 0) (.int .u32 0) (.int .i64 0) (.int .i64 0) (.slice none 0 0) := by
    rw [hW, ← hs0]
    exact B5.new _ _ _ _ _ _ _
  have HB : Hid (Below w.heap.size w W) := Lib.hid (by rw [hW]; exact ((Below.refl w.heap.size w).alloc (Nat.le_refl _) _).alloc (by simp) _)
  obtain ⟨x0, x1, x2, x3, x4⟩ := h1.cells
  have H2 := Lib.hid h2
  have f0 := h2.frozen 0
  have f1 := h2.frozen 1
  have f2 := h2.frozen 2
  have f3 := h2.frozen 3
  have f4 := h2.frozen 4
  obtain ⟨r0, r1, r2, r3, r4⟩ := h2.cells
  clear hs0 h1 h2
  go_enter Try.func12, Try.ntmps12
  go_upto_region 1 with fail
  rw [← hW]
  clear hW
  go_wp2
  obtain ⟨z0, z1, z2, z3, z4⟩ := put5_cells H2.out (.int .u32 no) (.int .u32 fst) (.int .i64 k) (.int .i64 m) (.slice A n C) rfl
  refine bodyPost_ret (v := .agg #[.int .u32 no, .int .u32 fst, .int .i64 k, .int .i64 m, .slice A n C]) (by simp [results, Try.results12, go_sem, z0, z1, z2, z3, z4]) rfl ?_
  exact ⟨rfl, Lib.hid (below_put5 HB.out (Nat.le_succ _) _ _ _ _ _)⟩
set_option maxRecDepth 100000 in
theorem rsame17_true (no fst k m : Int) (A A' : Option Addr) (n C C' base base' : Nat) (G G' : Nat → Nat → Nat) (w : World) (h : Shs w base (.slice A n C) n G) (h' : Shs w base' (.slice A' n C') n G') (hn : n ≤ 1000) (e : ∀ i c, i < n → c < 2 → G i c = G' i c) :
    Calls Try.prog 11 #[.agg #[.int .u32 no, .int .u32 fst, .int .i64 k, .int .i64 m, .slice A n C], .agg #[.int .u32 no, .int .u32 fst, .int .i64 k, .int .i64 m, .slice A' n C']] w fun x w' => x = .returned (.bool true) ∧ Hid (Below w.heap.size w w') := by
  have HS : Hid (∀ w' : World, Below w.heap.size w w' → Calls Try.prog 35 #[.slice A n C, .slice A' n C'] w' fun x w'' => x = .returned (.bool true) ∧ Hid (Below w.heap.size w w'')) := Lib.hid (fun w' hb => (Shs.same (h.below hb (Nat.le_refl _)) (h'.below hb (Nat.le_refl _)) hn e).mono fun x w'' hx => ⟨hx.1, Lib.hid (by obtain ⟨q, hq⟩ := hx.2; rw [hq]; exact below_drewN hb q)⟩)
  have HB : Hid (Below w.heap.size w ((w.alloc (.cells #[.int .u32 no, .int .u32 fst, .int .i64 k, .int .i64 m, .slice A n C] 34)).alloc (.cells #[.int .u32 no, .int .u32 fst, .int .i64 k, .int .i64 m, .slice A' n C'] 34))) := Lib.hid (((Below.refl w.heap.size w).alloc (Nat.le_refl _) _).alloc (by simp) _)
  clear h h' hn e
  go_enter Try.func11, Try.ntmps11
  go_wp2_with (first
    | (go_at_call 35; (with_reducible refine (HS.out _ HB.out).mono ?_); rintro x w1 ⟨rfl, HB1⟩)
    | fail)
  go_ret
  exact ⟨rfl, HB1⟩
/-- A builder's block: eight cells. -/
def B8 (w : World) (b : Nat) (t : Nat) (size age : Int) (c : Nat) (v : Value) (old frames groups : Int) : Prop :=
  w.heap[b]? = some (.cells #[.pointer (some ⟨t, 0, none⟩), .int .i64 size, .int .i64 age, .pointer (some ⟨c, 0, none⟩), v, .int .i64 old, .int .i64 frames, .int .i64 groups] 133 (0, 0))
section
variable {w : World} {b t c : Nat} {size age old frames groups : Int} {v : Value}
theorem B8.lt (h : B8 w b t size age c v old frames groups) : b < w.heap.size := (Array.getElem?_eq_some_iff.1 h).1
theorem B8.cells (h : B8 w b t size age c v old frames groups) : w.cell? ⟨b, 0, none⟩ = some (.pointer (some ⟨t, 0, none⟩)) ∧ w.cell? ⟨b, 1, none⟩ = some (.int .i64 size) ∧ w.cell? ⟨b, 2, none⟩ = some (.int .i64 age) ∧ w.cell? ⟨b, 3, none⟩ = some (.pointer (some ⟨c, 0, none⟩)) ∧ w.cell? ⟨b, 4, none⟩ = some v ∧ w.cell? ⟨b, 5, none⟩ = some (.int .i64 old) ∧ w.cell? ⟨b, 6, none⟩ = some (.int .i64 frames) ∧ w.cell? ⟨b, 7, none⟩ = some (.int .i64 groups) := by
  unfold B8 at h
  simp [World.cell?, h]
theorem B8.frozen (h : B8 w b t size age c v old frames groups) (i : Nat) : w.frozen? ⟨b, i, none⟩ = false := by
  unfold B8 at h
  simp [World.frozen?, h]
theorem B8.keep {w' : World} (h : B8 w b t size age c v old frames groups) (e : w'.heap[b]? = w.heap[b]?) : B8 w' b t size age c v old frames groups := e.trans h
theorem B8.below {w' : World} {B : Nat} (h : B8 w b t size age c v old frames groups) (hb : Below B w w') (hB : b < B) : B8 w' b t size age c v old frames groups := h.keep (hb.block b hB)
theorem B8.set4 (h : B8 w b t size age c v old frames groups) (u : Value) : B8 (w.setCell ⟨b, 4, none⟩ u) b t size age c u old frames groups := by
  unfold B8 at *
  simp [World.setCell, Array.getElem?_modify, h]
theorem B8.set5 (h : B8 w b t size age c v old frames groups) (u : Int) : B8 (w.setCell ⟨b, 5, none⟩ (.int .i64 u)) b t size age c v u frames groups := by
  unfold B8 at *
  simp [World.setCell, Array.getElem?_modify, h]
theorem B8.set6 (h : B8 w b t size age c v old frames groups) (u : Int) : B8 (w.setCell ⟨b, 6, none⟩ (.int .i64 u)) b t size age c v old u groups := by
  unfold B8 at *
  simp [World.setCell, Array.getElem?_modify, h]
theorem B8.set7 (h : B8 w b t size age c v old frames groups) (u : Int) : B8 (w.setCell ⟨b, 7, none⟩ (.int .i64 u)) b t size age c v old frames u := by
  unfold B8 at *
  simp [World.setCell, Array.getElem?_modify, h]
end
/-- A group in plain numbers: of what inputs, how many shards besides. -/
structure Gd where
  no : Int
  fst : Int
  m : Nat
  z : List Int
/-- How many shards it has. -/
def Gd.n (g : Gd) : Nat := g.z.length + g.m
/-- A group as a value. -/
@[reducible] def Gd.val (g : Gd) (A : Option Addr) (C : Nat) : Value := .agg #[.int .u32 g.no, .int .u32 g.fst, .int .i64 (g.z.length : Nat), .int .i64 (g.m : Nat), .slice A g.n C]
/-- None. -/
def Gd.zero : Gd := ⟨0, 0, 0, []⟩
/-- A builder in plain numbers. -/
structure Bd where
  size : Nat
  age : Nat
  ctl : Cn
  old : Nat
  frames : Nat
  groups : Nat
  z : List Int
/-- What waits is closed. -/
def Bd.close (S : Bd) (loss : Int) : Bd × Gd :=
  (⟨S.size, S.age, S.ctl.next (S.z.length : Nat) loss, 0, S.frames, S.groups + 1, []⟩, ⟨(S.groups : Nat), ((S.frames - S.z.length : Nat) : Int), (S.ctl.next (S.z.length : Nat) loss).now.toNat, S.z⟩)
/-- One more waits. -/
def Bd.came (S : Bd) (i : Int) : Bd := ⟨S.size, S.age, S.ctl, S.old, S.frames + 1, S.groups, S.z ++ [i]⟩
def Bd.add (S : Bd) (i loss : Int) : Bd × Gd × Bool :=
  if S.z.length + 1 < S.size then (S.came i, Gd.zero, false) else (((S.came i).close loss).1, ((S.came i).close loss).2, true)
/-- A tick more. -/
def Bd.older (S : Bd) : Bd := ⟨S.size, S.age, S.ctl, S.old + 1, S.frames, S.groups, S.z⟩
def Bd.tick (S : Bd) (loss : Int) : Bd × Gd × Bool :=
  if S.z.length = 0 then (S, Gd.zero, false) else if S.old + 1 < S.age then (S.older, Gd.zero, false) else ((S.older.close loss).1, (S.older.close loss).2, true)
/-- Between two calls; so many calls were made. -/
structure Bd.ok (S : Bd) (k : Nat) : Prop where
  s0 : 1 ≤ S.size
  s1 : S.size ≤ 16
  a1 : S.age ≤ 4096
  ctl : S.ctl.ok
  old : S.old < S.age
  wait : S.z.length < S.size
  frames : S.frames ≤ k
  front : S.z.length ≤ S.frames
  groups : S.groups ≤ k
  vals : ∀ z ∈ S.z, 0 ≤ z ∧ z ≤ 65535
theorem Bd.close_ok {S : Bd} {k : Nat} (h0 : 1 ≤ S.size) (h1 : S.size ≤ 16) (h2 : 1 ≤ S.age) (h3 : S.age ≤ 4096) (h4 : S.ctl.ok) (h5 : S.frames ≤ k) (h6 : S.groups + 1 ≤ k) (loss : Int) : (S.close loss).1.ok k :=
  ⟨h0, h1, h3, Cn.next_ok h4 _ _, by show 0 < S.age; omega, by show 0 < S.size; omega, h5, Nat.zero_le _, h6, fun z hz => by cases hz⟩
theorem Bd.add_ok {S : Bd} {k : Nat} (h : S.ok k) (i loss : Int) (h0 : 0 ≤ i) (h1 : i ≤ 65535) : (S.add i loss).1.ok (k + 1) := by
  unfold Bd.add
  have hw := h.old
  have hf := h.frames
  have hg := h.groups
  split
  · refine ⟨h.s0, h.s1, h.a1, h.ctl, h.old, ?_, by show S.frames + 1 ≤ k + 1; omega, ?_, by show S.groups ≤ k + 1; omega, fun z hz => ?_⟩
    · show (S.z ++ [i]).length < S.size
      simpa using ‹_›
    · show (S.z ++ [i]).length ≤ S.frames + 1
      have := h.front
      simpa using this
    · rcases List.mem_append.1 hz with hz | hz
      · exact h.vals z hz
      · simp at hz
        subst hz
        exact ⟨h0, h1⟩
  · exact Bd.close_ok (S := S.came i) h.s0 h.s1 (by show 1 ≤ S.age; omega) h.a1 h.ctl (by show S.frames + 1 ≤ k + 1; omega) (by show S.groups + 1 ≤ k + 1; omega) loss
theorem Bd.tick_ok {S : Bd} {k : Nat} (h : S.ok k) (loss : Int) : (S.tick loss).1.ok (k + 1) := by
  unfold Bd.tick
  have hw := h.old
  have hf := h.frames
  have hg := h.groups
  split
  · exact ⟨h.s0, h.s1, h.a1, h.ctl, h.old, h.wait, by show S.frames ≤ k + 1; omega, h.front, by show S.groups ≤ k + 1; omega, h.vals⟩
  · split
    · exact ⟨h.s0, h.s1, h.a1, h.ctl, ‹_›, h.wait, by show S.frames ≤ k + 1; omega, h.front, by show S.groups ≤ k + 1; omega, h.vals⟩
    · exact Bd.close_ok (S := S.older) h.s0 h.s1 (by show 1 ≤ S.age; omega) h.a1 h.ctl (by show S.frames ≤ k + 1; omega) (by show S.groups + 1 ≤ k + 1; omega) loss
end Go.Proofs.Ytjcbcdjfhcnhcaa
