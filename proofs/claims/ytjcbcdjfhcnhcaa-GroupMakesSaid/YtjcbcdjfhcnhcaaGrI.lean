/-
  Own text: layer 17 (group): the page's example, walked.
-/
import Derived.Test.YtjcbcdjfhcnhcaaGrH
namespace Go.Proofs.Ytjcbcdjfhcnhcaa
open Go.RowKit

theorem BSt.bel {w0 w1 w2 : World} {B b c t : Nat} {A : Option Addr} {C : Nat} {S : Bd} (h : BSt w1 B b c t A C S) (f : FrG b c (.slice A S.z.length C) w1 w2) (h0 : Below B w0 w1) (hB : B ≤ w0.heap.size) : Below B w0 w2 :=
  f.below h0 (Nat.le_trans hB h0.size) h.hb h.hc (fun k hk => (h.row.lt k hk).1)
theorem first_add : (Bd.new 2 9 0).add 5 0 = ((Bd.new 2 9 0).came 5, Gd.zero, false) := rfl
theorem second_add : (((Bd.new 2 9 0).came 5).add 6 0).2 = (⟨0, 0, 0, [5, 6]⟩, true) := by
  have h : Cn.next ⟨0, 0, 0⟩ 2 0 = ⟨0, 0, 0⟩ := by
    have ht : tgt 2 0 0 = 0 := by
      unfold tgt
      rw [if_pos (.inr (by decide))]
    unfold Cn.next
    dsimp only
    rw [ht]
    rfl
  unfold Bd.add
  rw [if_neg (by decide)]
  unfold Bd.close
  dsimp only [Bd.came, Bd.new, List.nil_append, List.cons_append, List.length_cons, List.length_nil]
  rw [show (((0 + 1 + 1 : Nat) : Nat) : Int) = 2 from rfl, h]
  rfl
set_option maxRecDepth 100000 in
set_option maxHeartbeats 1000000 in
theorem awake17_any (w : World) : Calls Try.prog 7 #[] w fun e w' => e = .returned (.bool true) ∧ Hid (Below w.heap.size w w') := by
  have CN := Lib.hid (fun w => new_any w)
  have CG : Hid (∀ t u, w.heap.size ≤ u.heap.size → IsTab u t → Calls Try.prog 27 #[.pointer (some ⟨t, 0, none⟩), .int .i64 2, .int .i64 9, .int .i64 0] u fun e w' => ∃ b c, e = .returned (.tuple #[.pointer (some ⟨b, 0, none⟩), .int .i64 0]) ∧ Hid (BSt w' w.heap.size b c t none 0 (Bd.new 2 9 0)) ∧ Hid (Below u.heap.size u w')) := Lib.hid (fun t u hu ht => gnew_yes t 2 9 0 (by omega) (by omega) (by omega) (by omega) (by omega) (by omega) w.heap.size u hu ht)
  have hok0 : (Bd.new 2 9 0).ok 0 := Bd.new_ok (by omega) (by omega) (by omega) (by omega) (by omega) (by omega)
  have hok1 : ((Bd.new 2 9 0).came 5).ok 1 := by
    have := Bd.add_ok hok0 5 0 (by omega) (by omega)
    rwa [first_add] at this
  have C1 : Hid (∀ b c t A C u, w.heap.size ≤ u.heap.size → BSt u w.heap.size b c t A C (Bd.new 2 9 0) → Calls Try.prog 28 #[.pointer (some ⟨b, 0, none⟩), .int .u16 5, .int .i64 0] u fun e w' => ∃ A' C' A1 C1, e = .returned (.tuple #[.agg #[.int .u32 0, .int .u32 0, .int .i64 0, .int .i64 0, .slice A' 0 C'], .bool false]) ∧ Hid (BSt w' w.heap.size b c t A1 C1 ((Bd.new 2 9 0).came 5)) ∧ Hid (FrG b c (.slice A 0 C) u w')) := Lib.hid (fun b c t A C u hu h => by
    refine (badd_any w.heap.size b c t C 0 A _ (by omega) hok0 5 0 (by omega) (by omega) u hu h).mono ?_
    rw [first_add]
    rintro e w' ⟨A', C', A1, C1, he, _, h2, h3, _⟩
    exact ⟨A', C', A1, C1, he, h2, h3⟩)
  have C2 : Hid (∀ b c t A C u, w.heap.size ≤ u.heap.size → BSt u w.heap.size b c t A C ((Bd.new 2 9 0).came 5) → Calls Try.prog 28 #[.pointer (some ⟨b, 0, none⟩), .int .u16 6, .int .i64 0] u fun e w' => ∃ A' C', e = .returned (.tuple #[.agg #[.int .u32 0, .int .u32 0, .int .i64 2, .int .i64 0, .slice A' 2 C'], .bool true]) ∧ Hid (FrG b c (.slice A 1 C) u w')) := Lib.hid (fun b c t A C u hu h => by
    refine (badd_any w.heap.size b c t C 1 A _ (by omega) hok1 6 0 (by omega) (by omega) u hu h).mono ?_
    unfold CallTo
    rw [second_add]
    rintro e w' ⟨A', C', A1, C1, he, _, h2, h3, _⟩
    exact ⟨A', C', he, h3⟩)
  clear hok0 hok1
  go_enter Try.func7, Try.ntmps7
  go_wp2_with (first
    | (go_at_call 9; (with_reducible refine (CN.out _).mono ?_); rintro e w1 ⟨rfl, ht, hb⟩; have HT1 := Lib.hid ht; have HB1 := Lib.hid hb; clear ht hb)
    | (go_at_call 27; (with_reducible refine (CG.out _ _ HB1.out.size HT1.out).mono ?_); rintro e w2 ⟨b, c, rfl, HS2, hb⟩; have HB2 := Lib.hid (b_on HB1.out hb.out); clear hb)
    | (go_at_call 28; (with_reducible refine (C1.out _ _ _ _ _ _ HB2.out.size HS2.out).mono ?_); rintro e w3 ⟨A', C', A1, C1, rfl, HS3, HF3⟩; have HB3 := Lib.hid (HS2.out.bel HF3.out HB2.out (Nat.le_refl _)); have HB3a := Lib.hid (HB3.out.alloc HB3.out.size (.cells #[.int .u32 0, .int .u32 0, .int .i64 0, .int .i64 0, .slice A' 0 C'] 28)); have HS3a := Lib.hid (HS3.out.below (below_put w3 (.cells #[.int .u32 0, .int .u32 0, .int .i64 0, .int .i64 0, .slice A' 0 C'] 28)) (Nat.le_refl _)))
    | (go_at_call 28; (with_reducible refine (C2.out _ _ _ _ _ _ HB3a.out.size HS3a.out).mono ?_); rintro e w4 ⟨A4, C4, rfl, HF4⟩; have HB4 := Lib.hid (HS3a.out.bel HF4.out HB3a.out (Nat.le_refl _)))
    | fail)
  go_ret
  exact ⟨rfl, Lib.hid (HB4.out.alloc HB4.out.size _)⟩
end Go.Proofs.Ytjcbcdjfhcnhcaa
