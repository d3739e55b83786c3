/-
  Own text: the law's play goes by; law TimerPlays, walked.
-/
import Derived.Test.YthkckgdhaihmoaaTmZ
namespace Go.Proofs.Ythkckgdhaihmoaa
open Go.RowKit

/-- The play's two boxes, whatever the room. -/
structure TwoB (w : World) (room : Int) (W : World) : Prop where
  z : W.cell? ⟨w.heap.size, 0, none⟩ = some (.int .i64 0) ∧ W.cell? ⟨w.heap.size, 1, none⟩ = some (.int .i64 0) ∧ W.cell? ⟨w.heap.size, 2, none⟩ = some (.slice none 0 0)
  f : ∀ i, W.frozen? ⟨w.heap.size, i, none⟩ = false
  q : W.cell? ⟨w.heap.size + 1, 0, none⟩ = some (.int .i64 room) ∧ W.cell? ⟨w.heap.size + 1, 1, none⟩ = some (.int .i64 0) ∧ W.cell? ⟨w.heap.size + 1, 2, none⟩ = some (.slice none 0 0)
  bel : Below w.heap.size w W
theorem three_cells {w : World} {c : Nat} {x y z : Value} {t : TypeId} (h : w.heap[c]? = some (.cells #[x, y, z] t (0, 0))) : w.cell? ⟨c, 0, none⟩ = some x ∧ w.cell? ⟨c, 1, none⟩ = some y ∧ w.cell? ⟨c, 2, none⟩ = some z := by
  simp [World.cell?, h]
theorem two_newb (w : World) (room : Int) : TwoB w room ((w.alloc (.cells #[.int .i64 0, .int .i64 0, .slice none 0 0] 27)).alloc (.cells #[.int .i64 room, .int .i64 0, .slice none 0 0] 27)) := by
  have h0 := (DBx.new w 0 0 (.slice none 0 0)).keep (Below.heap_alloc (w.alloc (.cells #[.int .i64 ((0 : Nat) : Int), .int .i64 0, .slice none 0 0] 27)) (.cells #[.int .i64 room, .int .i64 0, .slice none 0 0] 27) w.heap.size (by simp))
  have h1 : ((w.alloc (.cells #[.int .i64 0, .int .i64 0, .slice none 0 0] 27)).alloc (.cells #[.int .i64 room, .int .i64 0, .slice none 0 0] 27)).heap[w.heap.size + 1]? = some (.cells #[.int .i64 room, .int .i64 0, .slice none 0 0] 27 (0, 0)) := by
    have := Go.Deep.blk_alloc_new (w.alloc (.cells #[.int .i64 0, .int .i64 0, .slice none 0 0] 27)) (.cells #[.int .i64 room, .int .i64 0, .slice none 0 0] 27)
    simpa using this
  exact ⟨h0.cells, fun i => h0.frozen i, three_cells h1, ((Below.refl w.heap.size w).alloc (Nat.le_refl _) _).alloc (by simp) _⟩
/-- The play goes by. -/
def Went0 (room : Int) (w : World) (x : Ending) (W : World) : Prop :=
  x = .returned (.tuple #[.pointer none, .agg #[.int .i64 room, .int .i64 0, .slice none 0 0], .bool true]) ∧ Below w.heap.size w W
set_option maxRecDepth 100000 in
theorem played11_skip (room : Int) (a : Option Addr) (n c : Nat) (h : room < 1 ∨ 40 < room ∨ 80 < n) (w : World) :
    Calls Try.prog 8 #[.int .i64 room, .slice a n c] w (Went0 room w) := by
  have HT := Lib.hid (two_newb w room)
  go_enter Try.func8, Try.ntmps8
  go_upto_region 2 with fail
  generalize (w.alloc (.cells #[.int .i64 0, .int .i64 0, .slice none 0 0] 27)).alloc (.cells #[.int .i64 room, .int .i64 0, .slice none 0 0] 27) = W at *
  obtain ⟨⟨z0, z1, z2⟩, zf, ⟨q0, q1, q2⟩, hb⟩ := HT.out
  have zf0 := zf 0
  have zf1 := zf 1
  have zf2 := zf 2
  have HB := Lib.hid hb
  clear zf hb HT
  by_cases h1 : room < 1
  · clear h
    go_upto_region 3 with fail
    go_region
    go_wp2
    refine bodyPost_ret (v := .tuple #[.pointer none, .agg #[.int .i64 room, .int .i64 0, .slice none 0 0], .bool true]) (by simp [results, Try.results8, go_sem, z0, z1, z2]) rfl ?_
    exact ⟨rfl, three_below HB.out.drew _ (Nat.le_refl _) _ _ _⟩
  · by_cases h2 : 40 < room
    · clear h
      go_upto_region 3 with fail
      go_region
      go_wp2
      refine bodyPost_ret (v := .tuple #[.pointer none, .agg #[.int .i64 room, .int .i64 0, .slice none 0 0], .bool true]) (by simp [results, Try.results8, go_sem, z0, z1, z2]) rfl ?_
      exact ⟨rfl, three_below HB.out.drew _ (Nat.le_refl _) _ _ _⟩
    · have h3 : (80 : Int) < (n : Int) := by omega
      clear h
      go_upto_region 3 with fail
      go_region
      go_wp2
      refine bodyPost_ret (v := .tuple #[.pointer none, .agg #[.int .i64 room, .int .i64 0, .slice none 0 0], .bool true]) (by simp [results, Try.results8, go_sem, z0, z1, z2]) rfl ?_
      exact ⟨rfl, three_below HB.out.drew _ (Nat.le_refl _) _ _ _⟩
/-- A law's word. -/
def Yes11 (w : World) (x : Ending) (W : World) : Prop := x = .returned (.bool true) ∧ Below w.heap.size w W
set_option maxRecDepth 100000 in
theorem plays11_skip (room : Int) (a : Option Addr) (n c : Nat) (h : room < 1 ∨ 40 < room ∨ 80 < n) (w : World) :
    Calls Try.prog 3 #[.int .i64 room, .slice a n c] w (Yes11 w) := by
  have CP := Lib.hid (played11_skip room a n c h)
  clear h
  go_enter Try.func3, Try.ntmps3
  go_wp2_with (first
    | (go_at_call 7; (refine (awake11_any _).mono ?_); rintro e w1 ⟨rfl, hb1⟩; have HB1 := Lib.hid hb1; clear hb1)
    | (go_at_call 8; (with_reducible refine (CP.out _).mono ?_); rintro e w2 ⟨rfl, hb⟩; have HB2 := Lib.hid (HB1.out.trans (hb.mono HB1.out.size)); clear hb)
    | fail)
  go_ret
  exact ⟨rfl, HB2.out.alloc HB2.out.size _⟩
set_option maxRecDepth 100000 in
theorem plays11_go (room : Nat) (h1 : 1 ≤ room) (h2 : room ≤ 40) (a : Option Addr) (n c : Nat) (hn : n ≤ 80) (K N V : Nat → Int) (w : World) (ho : Ops w a n K N V) :
    Calls Try.prog 3 #[.int .i64 (room : Int), .slice a n c] w (Yes11 w) := by
  have CP := Lib.hid (fun w1 (hb : Below w.heap.size w w1) => played11_any room h1 h2 a n c hn K N V w1 (ho.below hb (Nat.le_refl _)))
  clear h1 h2 hn ho
  go_enter Try.func3, Try.ntmps3
  go_wp2_with (first
    | (go_at_call 7; (refine (awake11_any _).mono ?_); rintro e w1 ⟨rfl, hb1⟩; have HB1 := Lib.hid hb1; clear hb1)
    | (go_at_call 8; (with_reducible refine (CP.out _ HB1.out).mono ?_); rintro e w2 ⟨b, Q, D, C2, rfl, HF, HN⟩; have HB2 := Lib.hid (HB1.out.trans (HN.out.bel.mono HB1.out.size)); unfold DV)
    | fail)
  go_ret
  exact ⟨rfl, HB2.out.alloc HB2.out.size _⟩
theorem plays11_walk (room : Int) (a : Option Addr) (n c : Nat) (w : World) (hp : n ≤ 80 → ∃ K N V, Ops w a n K N V) :
    Calls Try.prog 3 #[.int .i64 room, .slice a n c] w (Yes11 w) := by
  by_cases h : room < 1 ∨ 40 < room ∨ 80 < n
  · exact plays11_skip room a n c h w
  · obtain ⟨K, N, V, ho⟩ := hp (by omega)
    have e : room = (room.toNat : Int) := by omega
    rw [e]
    exact plays11_go room.toNat (by omega) (by omega) a n c (by omega) K N V w ho
end Go.Proofs.Ythkckgdhaihmoaa
