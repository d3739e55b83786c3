/-
  Own text: New; the law's awake; law RingRooms, walked.
-/
import Derived.Test.YtjkobejhbgjhlaaRgC
import Derived.BigGuard
namespace Go.Proofs.Ytjkobejhbgjhlaa
open Go.RowKit

set_option maxRecDepth 100000 in
theorem new_any (room : Nat) (h1 : 1 ≤ room) (h2 : room ≤ 4096) (w : World) :
    Calls Try.prog 19 #[.int .i64 (room : Int)] w fun e w' => e = .returned (.tuple #[.pointer (some ⟨w.heap.size, 0, none⟩), .int .i64 0]) ∧ Hid (RB w' w.heap.size ⟨room, 0, []⟩ none 0 []) ∧ Hid (Below w.heap.size w w') := by
  have n0 : ¬ (room : Int) < 1 := by omega
  have n1 : ¬ (4096 : Int) < (room : Int) := by omega
  have n2 : (1 : Int) ≤ (room : Int) := by omega
  have n3 : (room : Int) ≤ 4096 := by omega
  clear h1 h2
  go_enter Try.func19, Try.ntmps19
  go_wp2
  go_ret2
  refine ⟨rfl, Lib.hid ⟨?_, OwnI.none _ _, Nat.zero_le _, fun i hi => by simp at hi⟩, Lib.hid ((Below.refl w.heap.size w).alloc (Nat.le_refl _) _)⟩
  exact Go.Deep.blk_alloc_new w _
theorem pr1 : (⟨2, 0, []⟩ : Rn).put 7 = ⟨2, 0, [7]⟩ := by kernel_rfl
theorem pr2 : (⟨2, 0, [7]⟩ : Rn).put 8 = ⟨2, 0, [7, 8]⟩ := by kernel_rfl
theorem pr3 : (⟨2, 0, [7, 8]⟩ : Rn).put 9 = ⟨2, 1, [8, 9]⟩ := by kernel_rfl
theorem ft1 : (⟨2, 0, []⟩ : Rn).fit 0 := ⟨by decide, by decide, by decide, by decide⟩
theorem ft2 : (⟨2, 0, [7]⟩ : Rn).fit 0 := ⟨by decide, by decide, by decide, by decide⟩
theorem ft3 : (⟨2, 0, [7, 8]⟩ : Rn).fit 0 := ⟨by decide, by decide, by decide, by decide⟩
/-- A ring whose blocks lie from a place on. -/
def From (w : World) (B b : Nat) (R : Rn) : Prop := ∃ A C xs, RB w b R A C xs ∧ B ≤ b ∧ B ≤ w.heap.size ∧ ∀ k, (Value.slice A xs.length C).ownBlock = some k → B ≤ k
theorem From.put {w w' : World} {B b : Nat} {R : Rn} {v : Int} {A : Option Addr} {C : Nat} {xs : List Int} (_ : RB w b R A C xs) (hB : B ≤ b) (hw : B ≤ w.heap.size) (hs : ∀ k, (Value.slice A xs.length C).ownBlock = some k → B ≤ k) (h : PutTo w b R (Value.slice A xs.length C).ownBlock v w') : From w' B b (R.put v) ∧ Below B w w' := by
  obtain ⟨A2, C2, ys, h1, h2, h3⟩ := h
  refine ⟨⟨A2, C2, ys, h1, hB, Nat.le_trans hw h3.size, fun k hk => ?_⟩, h3.bel (Below.refl _ _) hw hB hs⟩
  rcases h2 with e | e
  · exact hs k (by rw [← e]; exact hk)
  · exact Nat.le_trans hw (e k hk)
/-- Put at a ring that lies from a place on. -/
theorem put_from (v : Int) (B b k : Nat) (R : Rn) (hf : R.fit k) (hk : k ≤ 1000000) (w : World) (h : From w B b R) :
    Calls Try.prog 17 #[.pointer (some ⟨b, 0, none⟩), .int .i64 v] w fun e w' => e = .returned (.int .i64 (R.next : Int)) ∧ Hid (From w' B b (R.put v)) ∧ Hid (Below B w w') := by
  obtain ⟨A, C, xs, h1, h2, h3, h4⟩ := h
  refine (put_any v b k R A C xs hf hk w h1).mono ?_
  rintro e w' ⟨rfl, hp⟩
  have := From.put h1 h2 h3 h4 hp.out
  exact ⟨rfl, Lib.hid this.1, Lib.hid this.2⟩
theorem puts1 (B b : Nat) (w : World) (h : From w B b ⟨2, 0, []⟩) : Calls Try.prog 17 #[.pointer (some ⟨b, 0, none⟩), .int .i64 7] w fun e w' => e = .returned (.int .i64 0) ∧ Hid (From w' B b ⟨2, 0, [7]⟩) ∧ Hid (Below B w w') := by
  have := put_from 7 B b 0 ⟨2, 0, []⟩ ft1 (by omega) w h
  rwa [pr1] at this
theorem puts2 (B b : Nat) (w : World) (h : From w B b ⟨2, 0, [7]⟩) : Calls Try.prog 17 #[.pointer (some ⟨b, 0, none⟩), .int .i64 8] w fun e w' => e = .returned (.int .i64 1) ∧ Hid (From w' B b ⟨2, 0, [7, 8]⟩) ∧ Hid (Below B w w') := by
  have := put_from 8 B b 0 ⟨2, 0, [7]⟩ ft2 (by omega) w h
  rwa [pr2] at this
theorem puts3 (B b : Nat) (w : World) (h : From w B b ⟨2, 0, [7, 8]⟩) : Calls Try.prog 17 #[.pointer (some ⟨b, 0, none⟩), .int .i64 9] w fun e w' => e = .returned (.int .i64 2) ∧ Hid (From w' B b ⟨2, 1, [8, 9]⟩) ∧ Hid (Below B w w') := by
  have := put_from 9 B b 0 ⟨2, 0, [7, 8]⟩ ft3 (by omega) w h
  rwa [pr3] at this
theorem news2 (w : World) : Calls Try.prog 19 #[.int .i64 2] w fun e w' => e = .returned (.tuple #[.pointer (some ⟨w.heap.size, 0, none⟩), .int .i64 0]) ∧ Hid (From w' w.heap.size w.heap.size ⟨2, 0, []⟩) ∧ Hid (Below w.heap.size w w') := by
  refine (new_any 2 (by omega) (by omega) w).mono ?_
  rintro e w' ⟨rfl, h1, h2⟩
  exact ⟨rfl, Lib.hid ⟨none, 0, [], h1.out, Nat.le_refl _, h2.out.size, fun k hk => by simp [Value.ownBlock] at hk⟩, h2⟩
theorem first9 (B b : Nat) (w : World) (h : From w B b ⟨2, 1, [8, 9]⟩) : Calls Try.prog 20 #[.pointer (some ⟨b, 0, none⟩)] w fun e w' => e = .returned (.int .i64 1) ∧ w = w' := by
  obtain ⟨A, C, xs, h1, _⟩ := h
  exact first_any w h1.blk
set_option maxRecDepth 100000 in
theorem awake9_any (w : World) :
    Calls Try.prog 7 #[] w fun e w' => e = .returned (.bool true) ∧ Below w.heap.size w w' := by
  go_enter Try.func7, Try.ntmps7
  go_wp2_with (first
    | (go_at_call 19; (with_reducible refine (news2 _).mono ?_); rintro e w1 ⟨rfl, H1, B1⟩)
    | (go_at_call 17; (with_reducible refine (puts1 _ _ _ H1.out).mono ?_); rintro e w2 ⟨rfl, H2, B2⟩)
    | (go_at_call 17; (with_reducible refine (puts2 _ _ _ H2.out).mono ?_); rintro e w3 ⟨rfl, H3, B3⟩)
    | (go_at_call 17; (with_reducible refine (puts3 _ _ _ H3.out).mono ?_); rintro e w4 ⟨rfl, H4, B4⟩)
    | (go_at_call 20; (with_reducible refine (first9 _ _ _ H4.out).mono ?_); rintro e w5 ⟨rfl, rfl⟩)
    | fail)
  go_ret
  exact ⟨rfl, ((B1.out.trans B2.out).trans B3.out).trans B4.out⟩
end Go.Proofs.Ytjkobejhbgjhlaa
