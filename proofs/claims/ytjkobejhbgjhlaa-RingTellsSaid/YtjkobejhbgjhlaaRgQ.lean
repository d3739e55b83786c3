/-
  Own text: law RingTells, walked.
-/
import Derived.Test.YtjkobejhbgjhlaaRgP
namespace Go.Proofs.Ytjkobejhbgjhlaa
open Go.RowKit

theorem From.below {w w' : World} {B B' b : Nat} {R : Rn} (h : From w B b R) (hb : Below B' w w') (hB : w.heap.size ≤ B') : From w' B b R := by
  obtain ⟨A, C, xs, h1, h2, h3, h4⟩ := h
  exact ⟨A, C, xs, h1.below hb hB, h2, Nat.le_trans h3 hb.size, h4⟩
theorem Fin9.below {w W W' : World} {b B' : Nat} {R : Rn} {A2 : Option Addr} {C2 : Nat} (h : Fin9 w b R A2 C2 W) (hb : Below B' W W') (hB : W.heap.size ≤ B') : Fin9 w b R A2 C2 W' :=
  ⟨h.1.below hb hB, DL.below h.2.1 hb hB, h.2.2.trans (hb.mono (Nat.le_trans h.2.2.size hB))⟩
theorem From.drewN {w : World} {B b : Nat} {R : Rn} (h : From w B b R) (k : Nat) : From (w.drewN k) B b R := by
  obtain ⟨A, C, xs, h1, h2, h3, h4⟩ := h
  exact ⟨A, C, xs, h1.drewN k, h2, h3, h4⟩
/-- At, at a ring that lies from a place on. -/
theorem at_from (x : Int) {B b k : Nat} {R : Rn} (hf : R.fit k) (hk : k ≤ 1000000) (w : World) (h : From w B b R) :
    Calls Try.prog 14 #[.pointer (some ⟨b, 0, none⟩), .int .i64 x] w fun e w' => e = .returned (.tuple #[.int .i64 (R.at_ x), .int .i64 (R.kept x)]) ∧ ∃ k, w' = w.drewN k := by
  obtain ⟨A, C, xs, h1, _⟩ := h
  by_cases hn : R.kept x = 0
  · have := at_some x b k R A C xs hf hk hn w h1
    rw [hn]
    rwa [hn] at this
  · exact at_none x b R A C xs hn w h1
/-- The document's ring in the law's box, in all later worlds. -/
theorem play_box {w W : World} {b : Nat} {R : Rn} {A2 : Option Addr} {C2 : Nat} (h : Fin9 w b R A2 C2 W) :
    ∀ W', Below (W.alloc (.cells #[.int .i64 (R.room : Int), .int .i64 (R.first : Int), .slice A2 R.l.length C2] 27)).heap.size (W.alloc (.cells #[.int .i64 (R.room : Int), .int .i64 (R.first : Int), .slice A2 R.l.length C2] 27)) W' →
      Fin9 w b R A2 C2 W' ∧ DBx W' W.heap.size R.room R.first (.slice A2 R.l.length C2) := by
  intro W' hb
  have h1 := (Below.refl W.heap.size W).alloc (Nat.le_refl _) (.cells #[.int .i64 (R.room : Int), .int .i64 (R.first : Int), .slice A2 R.l.length C2] 27)
  have hx := DBx.new W R.room R.first (.slice A2 R.l.length C2)
  exact ⟨h.below (h1.trans (hb.mono h1.size)) (Nat.le_refl _), hx.below hb hx.lt⟩
set_option maxRecDepth 100000 in
theorem tells9_skip (x room : Int) (a : Option Addr) (n c : Nat) (h : room < 1 ∨ 40 < room ∨ 60 < n) (w : World) :
    Calls Try.prog 5 #[.int .i64 room, .slice a n c, .int .i64 x] w (Yes9 w) := by
  have CP := Lib.hid (played9_skip room a n c h)
  clear h
  go_enter Try.func5, Try.ntmps5
  go_wp2_with (first
    | (go_at_call 7; (refine (awake9_any _).mono ?_); rintro e w1 ⟨rfl, hb1⟩; have HB1 := Lib.hid hb1; clear hb1)
    | (go_at_call 8; (with_reducible refine (CP.out _).mono ?_); rintro e w2 ⟨rfl, hb⟩; have HB2 := Lib.hid (HB1.out.trans (hb.mono HB1.out.size)); clear hb)
    | fail)
  go_ret
  exact ⟨rfl, HB2.out.alloc HB2.out.size _⟩
set_option maxRecDepth 100000 in
theorem tells9_go (x : Int) (room : Nat) (h1 : 1 ≤ room) (h2 : room ≤ 40) (a : Option Addr) (n c : Nat) (hn : n ≤ 60) (K N V : Nat → Int) (w : World) (ho : Ops w a n K N V) :
    Calls Try.prog 5 #[.int .i64 (room : Int), .slice a n c, .int .i64 x] w (Yes9 w) := by
  have CP := Lib.hid (fun w1 (hb : Below w.heap.size w w1) => played9_any room h1 h2 a n c hn K N V w1 (ho.below hb (Nat.le_refl _)))
  clear h1 h2 hn ho
  go_enter Try.func5, Try.ntmps5
  go_upto_region 4 with (first
    | (go_at_call 7; (refine (awake9_any _).mono ?_); rintro e w1 ⟨rfl, hb1⟩; have HB1 := Lib.hid hb1; clear hb1)
    | (go_at_call 8; (with_reducible refine (CP.out _ HB1.out).mono ?_); rintro e w2 ⟨b, R, A2, C2, rfl, HF, HN⟩; have HALL := Lib.hid (play_box HN.out); have HB2 := Lib.hid (HB1.out.trans (HN.out.2.2.mono HB1.out.size)))
    | fail)
  have HB3 := Lib.hid (HB2.out.alloc HB2.out.size (.cells #[.int .i64 (R.room : Int), .int .i64 (R.first : Int), .slice A2 R.l.length C2] 27))
  have HFIT : Hid (R.fit 60) := Lib.hid HF.out.1
  generalize w2.alloc (.cells #[.int .i64 (R.room : Int), .int .i64 (R.first : Int), .slice A2 R.l.length C2] 27) = W3 at *
  have CA := Lib.hid (at_from x HFIT.out (by omega) W3 (HALL.out W3 (Below.refl _ _)).1.1)
  have CR := Lib.hid (fun k => rat_any x R A2 C2 60 HFIT.out (by omega) (W3.drewN k) (HALL.out (W3.drewN k) (below_drewN (Below.refl _ _) k)).1.2.1)
  have HQ := Lib.hid (fun k => (HALL.out (W3.drewN k) (below_drewN (Below.refl _ _) k)).2.cells)
  have HB4 := Lib.hid (fun k => below_drewN HB3.out k)
  clear HF HN HB2 HALL CP
  have b1 : (R.at_ x == R.at_ x) = true := by simp
  have b2 : (R.kept x == R.kept x) = true := by simp
  generalize R.at_ x = q1 at *
  generalize R.kept x = q2 at *
  go_wp2_with (first
    | (go_at_call 14; (with_reducible refine (CA.out).mono ?_); rintro e w4 ⟨rfl, k, rfl⟩; obtain ⟨d0, d1, d2⟩ := HQ.out k; have HB5 := Lib.hid (HB4.out k))
    | (go_at_call 15; (with_reducible refine (CR.out k).mono ?_); rintro e w5 ⟨rfl, hb⟩; have HB6 := Lib.hid (HB5.out.trans (hb.mono HB5.out.size)); clear hb)
    | fail)
  go_ret
  exact ⟨rfl, HB6.out⟩
theorem tells9_walk (room : Int) (a : Option Addr) (n c : Nat) (x : Int) (w : World) (hp : n ≤ 60 → ∃ K N V, Ops w a n K N V) :
    Calls Try.prog 5 #[.int .i64 room, .slice a n c, .int .i64 x] w (Yes9 w) := by
  by_cases h : room < 1 ∨ 40 < room ∨ 60 < n
  · exact tells9_skip x room a n c h w
  · obtain ⟨K, N, V, ho⟩ := hp (by omega)
    have e : room = (room.toNat : Int) := by omega
    rw [e]
    exact tells9_go x room.toNat (by omega) (by omega) a n c (by omega) K N V w ho
end Go.Proofs.Ytjkobejhbgjhlaa
