/-
  Own text: the law's example, walked; a play of a room that isn't.
-/
import Derived.Test.YtnffngbkidehfaaNkLc
import Derived.Test.YtnffngbkidehfaaNkLd
import Derived.BigGuard
namespace Go.Proofs.Ytnffngbkidehfaa.Nk
open Go.RowKit

def Z4 : Nl := ⟨⟨4, 0, []⟩, fun _ => 0, 0, 0⟩
def Z4a : Nl := Z4.wait 3 2
def Z4b : Nl := Z4a.tick 4
def Z4c : Nl := Z4b.tick 4
theorem z4_fit : Z4.fit 0 := ⟨Qn.new_fit 4 (by omega) (by omega), by show 4 ≤ 64; omega, Int.le_refl _, fun x hx => (by cases hx), fun x hx => (by cases hx), fun _ => Nat.zero_le _, Nat.zero_le _, Nat.zero_le _⟩
theorem z4a_fit : Z4a.fit 1 := Nl.wait_fit z4_fit (by omega)
theorem z4b_fit : Z4b.fit 2 := Nl.tick_fit z4a_fit (by omega)
theorem z4a_came : Z4a.q.came 1 = [] := by decide +kernel
theorem z4b_came : Z4b.q.came 1 = [3] := by decide +kernel
theorem z4c_has : Z4c.has 3 = true := by decide +kernel
theorem new4 (w : World) : Calls Try.prog 53 #[.int .i64 4] w fun e w' => ∃ b s m, e = .returned (.tuple #[.pointer (some ⟨b, 0, none⟩), .int .i64 0]) ∧ Hid (NF w' w.heap.size b s m Z4) ∧ Hid (Below w.heap.size w w') := by
  have H := nnew_any 4 (by omega) (by omega) w
  refine (show Calls Try.prog 53 #[.int .i64 4] w _ from H).mono ?_
  rintro e w1 ⟨b, s, m, rfl, HR, HL, HB⟩
  exact ⟨b, s, m, rfl, Lib.hid ⟨none, 0, HR.out, HL.out.1, HL.out.2.1, HL.out.2.2.1, HL.out.2.2.2, fun k hk => by simp at hk⟩, HB⟩
theorem wait4 (B b s m : Nat) (w : World) (h : NF w B b s m Z4) : Calls Try.prog 24 #[.pointer (some ⟨b, 0, none⟩), .int .u32 3, .int .i64 2] w fun e w' => e = .returned (.tuple #[]) ∧ Hid (NF w' B b s m Z4a ∧ Below B w w') :=
  (wait_from 3 2 (by omega) B b s m Z4 0 z4_fit (by omega) w h).mono fun _ _ hh => ⟨hh.1, Lib.hid ⟨hh.2.out.1, hh.2.out.2.1⟩⟩
theorem tick4a (B b s m : Nat) (w : World) (h : NF w B b s m Z4a) : Calls Try.prog 26 #[.pointer (some ⟨b, 0, none⟩), .int .i64 4] w fun e w' => ∃ A C, e = .returned (.slice A 0 C) ∧ Hid (NF w' B b s m Z4b ∧ Below B w w') := by
  refine (tick_from 4 B b s m Z4a 1 z4a_fit (by omega) w h).mono ?_
  rintro e w1 ⟨A, C, rfl, _, H⟩
  exact ⟨A, C, by rw [z4a_came]; rfl, Lib.hid ⟨H.out.1, H.out.2.1⟩⟩
theorem tick4b (B b s m : Nat) (w : World) (h : NF w B b s m Z4b) : Calls Try.prog 26 #[.pointer (some ⟨b, 0, none⟩), .int .i64 4] w fun e w' => ∃ g C, e = .returned (.slice (some ⟨g, 0, none⟩) 1 C) ∧ w'.cell? ⟨g, 0, none⟩ = some (.int .u32 3) ∧ w'.frozen? ⟨g, 0, none⟩ = false ∧ Hid (NF w' B b s m Z4c ∧ Below B w w') := by
  refine (tick_from 4 B b s m Z4b 2 z4b_fit (by omega) w h).mono ?_
  rintro e w1 ⟨A, C, rfl, HO, H⟩
  have ho := HO.out
  rw [z4b_came] at ho
  obtain ⟨g, rfl, _, _, c, f, _⟩ := ho.at_ 0 (by show 0 < 1; omega)
  exact ⟨g, C, by rw [z4b_came]; rfl, c, f, Lib.hid ⟨H.out.1, H.out.2.1⟩⟩
theorem has4 (B b s m : Nat) (w : World) (h : NF w B b s m Z4c) : Calls Try.prog 25 #[.pointer (some ⟨b, 0, none⟩), .int .u32 3] w fun e w' => e = .returned (.bool true) ∧ w' = w :=
  (has_from 3 (by omega) B b s m Z4c w h).mono fun _ _ hh => ⟨by rw [hh.1, z4c_has], hh.2⟩
set_option maxRecDepth 100000 in
theorem awake19_any (w : World) :
    Calls Try.prog 21 #[] w fun e w' => e = .returned (.bool true) ∧ Below w.heap.size w w' := by
  have CN := Lib.hid new4
  have CW := Lib.hid wait4
  have CA := Lib.hid tick4a
  have CB := Lib.hid tick4b
  have CH := Lib.hid has4
  go_enter Try.func21, Try.ntmps21
  go_wp2_with (first
    | (go_at_call 53; (with_reducible refine (CN.out _).mono ?_); rintro e w1 ⟨b, s, m, rfl, H1, B1⟩)
    | (go_at_call 24; (with_reducible refine (CW.out _ _ _ _ _ H1.out).mono ?_); rintro e w2 ⟨rfl, H2⟩)
    | (go_at_call 26; (with_reducible refine (CA.out _ _ _ _ _ H2.out.1).mono ?_); rintro e w3 ⟨A3, C3, rfl, H3⟩)
    | (go_at_call 26; (with_reducible refine (CB.out _ _ _ _ _ H3.out.1).mono ?_); rintro e w4 ⟨g, C4, rfl, q0, f0, H4⟩)
    | (go_at_call 25; (with_reducible refine (CH.out _ _ _ _ _ H4.out.1).mono ?_); rintro e w5 ⟨rfl, rfl⟩)
    | fail)
  go_ret
  exact ⟨rfl, ((B1.out.trans H2.out.2).trans H3.out.2).trans H4.out.2⟩
set_option maxRecDepth 100000 in
theorem played19_bad (room : Int) (hr : room < 1 ∨ 64 < room) (a : Option Addr) (n c : Nat) (w : World) :
    Calls Try.prog 22 #[.int .i64 room, .slice a n c] w fun x W => x = .returned (.tuple #[.pointer none, .agg #[.int .i64 room, .int .i64 0, .int .i64 0, .slice none 0 0], .bool true]) ∧ Below w.heap.size w W := by
  have CN := Lib.hid (nnew_no room hr)
  have hb : Below w.heap.size w ((w.alloc (.cells #[.int .i64 0, .int .i64 0, .int .i64 0, .slice none 0 0] 62)).alloc (.cells #[.int .i64 room, .int .i64 0, .int .i64 0, .slice none 0 0] 62)) := ((Below.refl w.heap.size w).alloc (Nat.le_refl _) _).alloc (by simp) _
  have h0 : DBx ((w.alloc (.cells #[.int .i64 0, .int .i64 0, .int .i64 0, .slice none 0 0] 62)).alloc (.cells #[.int .i64 room, .int .i64 0, .int .i64 0, .slice none 0 0] 62)) w.heap.size 0 0 0 (.slice none 0 0) := (DBx.new w 0 0 0 (.slice none 0 0)).keep (Below.heap_alloc _ _ _ (by simp))
  have h1 : DBx ((w.alloc (.cells #[.int .i64 0, .int .i64 0, .int .i64 0, .slice none 0 0] 62)).alloc (.cells #[.int .i64 room, .int .i64 0, .int .i64 0, .slice none 0 0] 62)) (w.heap.size + 1) room 0 0 (.slice none 0 0) := by
    have := DBx.new (w.alloc (.cells #[.int .i64 0, .int .i64 0, .int .i64 0, .slice none 0 0] 62)) room 0 0 (.slice none 0 0)
    simpa using this
  have hor : (decide (room < 1) || decide (64 < room)) = true := by simpa using hr
  have HB : Hid _ := Lib.hid hb
  clear hb
  go_enter Try.func22, Try.ntmps22
  go_upto_region 2 with fail
  generalize (w.alloc (.cells #[.int .i64 0, .int .i64 0, .int .i64 0, .slice none 0 0] 62)).alloc (.cells #[.int .i64 room, .int .i64 0, .int .i64 0, .slice none 0 0] 62) = W at *
  obtain ⟨q0, q1, q2, q3⟩ := DBx.cells h1
  obtain ⟨z0, z1, z2, z3⟩ := h0.cells
  have zf0 := h0.frozen 0
  have zf1 := h0.frozen 1
  have zf2 := h0.frozen 2
  have zf3 := h0.frozen 3
  have HFIN : Hid (Below w.heap.size w ((((W.setCell ⟨w.heap.size, 0, none⟩ (.int .i64 room)).setCell ⟨w.heap.size, 1, none⟩ (.int .i64 0)).setCell ⟨w.heap.size, 2, none⟩ (.int .i64 0)).setCell ⟨w.heap.size, 3, none⟩ (.slice none 0 0)).drew) := Lib.hid (four_below HB.out _ (Nat.le_refl _) _ _ _ _).drew
  by_cases hlo : room < 1
  · clear h0 h1 HB hor hr
    go_upto_region 4 with (first
      | (go_at_call 53; (with_reducible refine (CN.out _).mono ?_); rintro e w1 ⟨rfl, rfl⟩)
      | fail)
    go_region
    go_wp2
    refine bodyPost_ret (v := .tuple #[.pointer none, .agg #[.int .i64 room, .int .i64 0, .int .i64 0, .slice none 0 0], .bool true]) (by simp [results, Try.results22, go_sem, z0, z1, z2, z3]) rfl ?_
    exact ⟨rfl, HFIN.out⟩
  · have hhi : 64 < room := by omega
    clear h0 h1 HB hor hr
    go_upto_region 4 with (first
      | (go_at_call 53; (with_reducible refine (CN.out _).mono ?_); rintro e w1 ⟨rfl, rfl⟩)
      | fail)
    go_region
    go_wp2
    refine bodyPost_ret (v := .tuple #[.pointer none, .agg #[.int .i64 room, .int .i64 0, .int .i64 0, .slice none 0 0], .bool true]) (by simp [results, Try.results22, go_sem, z0, z1, z2, z3]) rfl ?_
    exact ⟨rfl, HFIN.out⟩
end Go.Proofs.Ytnffngbkidehfaa.Nk
