/-
  Own text: the law's awake; law PrioRooms, walked.
-/
import Derived.Test.YtagcpnelobidnaaPqH
import Derived.BigGuard
namespace Go.Proofs.Ytagcpnelobidnaa
open Go.RowKit

theorem qr1 : (⟨2, 0, []⟩ : Qn).push 5 10 = ⟨2, 1, [⟨5, 0, 10⟩]⟩ := by kernel_rfl
theorem qr2 : (⟨2, 1, [⟨5, 0, 10⟩]⟩ : Qn).push 1 20 = ⟨2, 2, [⟨1, 1, 20⟩, ⟨5, 0, 10⟩]⟩ := by kernel_rfl
theorem qr3 : (⟨2, 2, [⟨1, 1, 20⟩, ⟨5, 0, 10⟩]⟩ : Qn).push 3 30 = ⟨2, 3, [⟨1, 1, 20⟩, ⟨3, 2, 30⟩]⟩ := by kernel_rfl
theorem qg1 : (⟨2, 0, []⟩ : Qn).gone 5 10 = 0 := by kernel_rfl
theorem qg2 : (⟨2, 1, [⟨5, 0, 10⟩]⟩ : Qn).gone 1 20 = 0 := by kernel_rfl
theorem qg3 : (⟨2, 2, [⟨1, 1, 20⟩, ⟨5, 0, 10⟩]⟩ : Qn).gone 3 30 = 10 := by kernel_rfl
theorem new_fit (room : Nat) (h1 : 1 ≤ room) (h2 : room ≤ 256) : (⟨room, 0, []⟩ : Qn).fit 0 := ⟨h1, h2, Nat.zero_le _, Nat.le_refl _, fun x hx => by simp at hx, List.Pairwise.nil, List.Pairwise.nil⟩
theorem qf1 : (⟨2, 1, [⟨5, 0, 10⟩]⟩ : Qn).fit 1 := by rw [← qr1]; exact Qn.push_fit (new_fit 2 (by omega) (by omega)) 5 10
theorem qf2 : (⟨2, 2, [⟨1, 1, 20⟩, ⟨5, 0, 10⟩]⟩ : Qn).fit 2 := by rw [← qr2]; exact Qn.push_fit qf1 1 20
theorem pushes1 (B b : Nat) (w : World) (h : From w B b ⟨2, 0, []⟩) : Calls Try.prog 13 #[.pointer (some ⟨b, 0, none⟩), .int .i64 5, .int .i64 10] w fun e w' => e = .returned (.tuple #[.int .i64 0, .bool false]) ∧ Hid (From w' B b ⟨2, 1, [⟨5, 0, 10⟩]⟩) ∧ Hid (Below B w w') := by
  have := push_from 5 10 B b 0 ⟨2, 0, []⟩ (new_fit 2 (by omega) (by omega)) (by omega) w h
  rwa [qr1, qg1] at this
theorem pushes2 (B b : Nat) (w : World) (h : From w B b ⟨2, 1, [⟨5, 0, 10⟩]⟩) : Calls Try.prog 13 #[.pointer (some ⟨b, 0, none⟩), .int .i64 1, .int .i64 20] w fun e w' => e = .returned (.tuple #[.int .i64 0, .bool false]) ∧ Hid (From w' B b ⟨2, 2, [⟨1, 1, 20⟩, ⟨5, 0, 10⟩]⟩) ∧ Hid (Below B w w') := by
  have := push_from 1 20 B b 1 _ qf1 (by omega) w h
  rwa [qr2, qg2] at this
theorem pushes3 (B b : Nat) (w : World) (h : From w B b ⟨2, 2, [⟨1, 1, 20⟩, ⟨5, 0, 10⟩]⟩) : Calls Try.prog 13 #[.pointer (some ⟨b, 0, none⟩), .int .i64 3, .int .i64 30] w fun e w' => e = .returned (.tuple #[.int .i64 10, .bool true]) ∧ Hid (From w' B b ⟨2, 3, [⟨1, 1, 20⟩, ⟨3, 2, 30⟩]⟩) ∧ Hid (Below B w w') := by
  have := push_from 3 30 B b 2 _ qf2 (by omega) w h
  rwa [qr3, qg3] at this
theorem pops4 (B b : Nat) (w : World) (h : From w B b ⟨2, 3, [⟨1, 1, 20⟩, ⟨3, 2, 30⟩]⟩) : Calls Try.prog 14 #[.pointer (some ⟨b, 0, none⟩)] w fun e w' => e = .returned (.tuple #[.int .i64 20, .int .i64 1, .bool true]) ∧ Hid (Below B w w') := by
  refine (pop_from B b _ (by decide) w h).mono ?_
  rintro e w' ⟨rfl, _, hb⟩
  exact ⟨rfl, hb⟩
theorem new_from (room : Nat) (h1 : 1 ≤ room) (h2 : room ≤ 256) (w : World) : Calls Try.prog 12 #[.int .i64 (room : Int)] w fun e w' => e = .returned (.tuple #[.pointer (some ⟨w.heap.size, 0, none⟩), .int .i64 0]) ∧ Hid (From w' w.heap.size w.heap.size ⟨room, 0, []⟩) ∧ Hid (Below w.heap.size w w') := by
  refine (new_any room h1 h2 w).mono ?_
  rintro e w' ⟨rfl, h1, h2⟩
  exact ⟨rfl, Lib.hid ⟨none, 0, h1.out, Nat.le_refl _, h2.out.size, fun k hk => by simp at hk⟩, h2⟩
theorem news2 (w : World) : Calls Try.prog 12 #[.int .i64 2] w fun e w' => e = .returned (.tuple #[.pointer (some ⟨w.heap.size, 0, none⟩), .int .i64 0]) ∧ Hid (From w' w.heap.size w.heap.size ⟨2, 0, []⟩) ∧ Hid (Below w.heap.size w w') := new_from 2 (by omega) (by omega) w
set_option maxRecDepth 100000 in
theorem awake10_any (w : World) :
    Calls Try.prog 7 #[] w fun e w' => e = .returned (.bool true) ∧ Below w.heap.size w w' := by
  go_enter Try.func7, Try.ntmps7
  go_wp2_with (first
    | (go_at_call 12; (with_reducible refine (news2 _).mono ?_); rintro e w1 ⟨rfl, H1, B1⟩)
    | (go_at_call 13; (with_reducible refine (pushes1 _ _ _ H1.out).mono ?_); rintro e w2 ⟨rfl, H2, B2⟩)
    | (go_at_call 13; (with_reducible refine (pushes2 _ _ _ H2.out).mono ?_); rintro e w3 ⟨rfl, H3, B3⟩)
    | (go_at_call 13; (with_reducible refine (pushes3 _ _ _ H3.out).mono ?_); rintro e w4 ⟨rfl, H4, B4⟩)
    | (go_at_call 14; (with_reducible refine (pops4 _ _ _ H4.out).mono ?_); rintro e w5 ⟨rfl, B5⟩)
    | fail)
  go_ret
  exact ⟨rfl, (((B1.out.trans B2.out).trans B3.out).trans B4.out).trans B5.out⟩
/-- A new queue of strings. -/
def SBlk (w : World) (b room : Nat) : Prop := w.heap[b]? = some (.cells #[.int .i64 (room : Int), .int .i64 0, .slice none 0 0] 57 (0, 0))
theorem SBlk.cells {w : World} {b room : Nat} (h : SBlk w b room) : w.cell? ⟨b, 0, none⟩ = some (.int .i64 (room : Int)) ∧ w.cell? ⟨b, 1, none⟩ = some (.int .i64 0) ∧ w.cell? ⟨b, 2, none⟩ = some (.slice none 0 0) := by
  unfold SBlk at h
  simp [World.cell?, h]
theorem newb_some (room : Nat) (h1 : 1 ≤ room) (h2 : room ≤ 256) (w : World) :
    Calls Try.prog 9 #[.int .i64 (room : Int)] w fun e w' => e = .returned (.tuple #[.pointer (some ⟨w.heap.size, 0, none⟩), .int .i64 0]) ∧ Hid (SBlk w' w.heap.size room) ∧ Hid (Below w.heap.size w w') := by
  have n0 : ¬ (room : Int) < 1 := by omega
  have n1 : ¬ (256 : Int) < (room : Int) := by omega
  have n2 : (1 : Int) ≤ (room : Int) := by omega
  have n3 : (room : Int) ≤ 256 := by omega
  clear h1 h2
  go_enter Try.func9, Try.ntmps9
  go_wp2
  go_ret2
  exact ⟨rfl, Lib.hid (Go.Deep.blk_alloc_new w _), Lib.hid ((Below.refl w.heap.size w).alloc (Nat.le_refl _) _)⟩
theorem newb_none (n : Int) (h : n < 1 ∨ 256 < n) (w : World) :
    Calls Try.prog 9 #[.int .i64 n] w fun e w' => e = .returned (.tuple #[.pointer none, .int .i64 1]) ∧ w = w' := by
  go_enter Try.func9, Try.ntmps9
  by_cases h1 : n < 1
  · go_wp2
    go_ret2
    exact ⟨rfl, rfl⟩
  · have h2 : 256 < n := by omega
    go_wp2
    go_ret2
    exact ⟨rfl, rfl⟩
theorem roomb_any {b room : Nat} (w : World) (h : SBlk w b room) :
    Calls Try.prog 10 #[.pointer (some ⟨b, 0, none⟩)] w fun e w' => e = .returned (.int .i64 (room : Int)) ∧ w = w' := by
  obtain ⟨c0, c1, c2⟩ := h.cells
  clear h
  go_enter Try.func10, Try.ntmps10
  go_wp2
  go_ret
  exact ⟨rfl, rfl⟩
theorem lenb_any {b room : Nat} (w : World) (h : SBlk w b room) :
    Calls Try.prog 11 #[.pointer (some ⟨b, 0, none⟩)] w fun e w' => e = .returned (.int .i64 0) ∧ w = w' := by
  obtain ⟨c0, c1, c2⟩ := h.cells
  clear h
  go_enter Try.func11, Try.ntmps11
  go_wp2
  go_ret
  exact ⟨rfl, rfl⟩
set_option maxRecDepth 100000 in
theorem rooms10_some (room : Nat) (h1 : 1 ≤ room) (h2 : room ≤ 256) (w : World) :
    Calls Try.prog 4 #[.int .i64 (room : Int)] w fun e w' => e = .returned (.bool true) ∧ Below w.heap.size w w' := by
  have n0 : ¬ (room : Int) < 1 := by omega
  have n1 : ¬ (256 : Int) < (room : Int) := by omega
  have n2 : (1 : Int) ≤ (room : Int) := by omega
  have n3 : (room : Int) ≤ 256 := by omega
  have CN := Lib.hid (newb_some room h1 h2)
  clear h1 h2
  go_enter Try.func4, Try.ntmps4
  go_wp2_with (first
    | (go_at_call 7; (refine (awake10_any _).mono ?_); rintro e w1 ⟨rfl, hb1⟩; have HB1 := Lib.hid hb1; clear hb1)
    | (go_at_call 9; (with_reducible refine (CN.out _).mono ?_); rintro e w2 ⟨rfl, H2, B2⟩)
    | (go_at_call 10; (with_reducible refine (roomb_any _ H2.out).mono ?_); rintro e w3 ⟨rfl, rfl⟩)
    | (go_at_call 11; (with_reducible refine (lenb_any _ H2.out).mono ?_); rintro e w3 ⟨rfl, rfl⟩)
    | fail)
  go_ret
  exact ⟨rfl, HB1.out.trans (B2.out.mono HB1.out.size)⟩
set_option maxRecDepth 100000 in
theorem rooms10_none (n : Int) (h : n < 1 ∨ 256 < n) (w : World) :
    Calls Try.prog 4 #[.int .i64 n] w fun e w' => e = .returned (.bool true) ∧ Below w.heap.size w w' := by
  have CN := Lib.hid (newb_none n h)
  by_cases h1 : n < 1
  · clear h
    go_enter Try.func4, Try.ntmps4
    go_wp2_with (first
      | (go_at_call 7; (refine (awake10_any _).mono ?_); rintro e w1 ⟨rfl, hb1⟩; have HB1 := Lib.hid hb1; clear hb1)
      | (go_at_call 9; (with_reducible refine (CN.out _).mono ?_); rintro e w2 ⟨rfl, rfl⟩)
      | fail)
    go_ret
    exact ⟨rfl, HB1.out⟩
  · have h2 : 256 < n := by omega
    clear h
    go_enter Try.func4, Try.ntmps4
    go_wp2_with (first
      | (go_at_call 7; (refine (awake10_any _).mono ?_); rintro e w1 ⟨rfl, hb1⟩; have HB1 := Lib.hid hb1; clear hb1)
      | (go_at_call 9; (with_reducible refine (CN.out _).mono ?_); rintro e w2 ⟨rfl, rfl⟩)
      | fail)
    go_ret
    exact ⟨rfl, HB1.out⟩
theorem rooms10_walk (n : Int) (w : World) (hn : (Lit.int .i64 n).wf = true) :
    Calls Try.prog 4 #[.int .i64 n] w fun e w' => e = .returned (.bool true) ∧ Below w.heap.size w w' := by
  obtain ⟨h0, h1⟩ := i64_lo hn
  by_cases h : n < 1 ∨ 256 < n
  · exact rooms10_none n h w
  · have e : n = (n.toNat : Int) := by omega
    rw [e]
    exact rooms10_some n.toNat (by omega) (by omega) w
end Go.Proofs.Ytagcpnelobidnaa
