/-
  Own text: the page's examples hold ('awake'); which lists are tried ('short').
-/
import Derived.Test.YtbiaenkhhbgbcaaThr
namespace Go.Proofs.Ytbiaenkhhbgbcaa
open Go.RowKit

theorem five_by : By [5] := fun z hz => by simp at hz; omega
theorem five_neat : Neat [5] := neat_of five_by (fun _ => by simp [co])
theorem thr_five {P Q : List Int} (h : Thr (fun i => i + 1) (fun _ => 5) 2 P Q) : P = [5] := by
  have e0 := h.thro 0 (by omega)
  have e1 := h.thro 1 (by omega)
  have hs : Sup (co P) 2 := (co_sup P).mono h.plen
  have key : ∀ x, evL x P = co P 0 ^^^ mu x (co P 1) := fun x => by
    rw [evL_sup hs, ev_succ, ev_succ]
    show co P 0 ^^^ mu x (co P 1 ^^^ mu x 0) = _
    rw [mu_zero, Nat.xor_zero]
  have f0 : co P 0 ^^^ mu 1 (co P 1) = 5 := (key 1).symm.trans e0
  have f1 : co P 0 ^^^ mu 2 (co P 1) = 5 := (key 2).symm.trans e1
  have l0 := h.pby.lt 0
  have l1 := h.pby.lt 1
  have f2 : mu 3 (co P 1) = 0 := by
    have : mu (1 ^^^ 2) (co P 1) = 0 := by
      rw [mu_left]
      have h3 : (co P 0 ^^^ mu 1 (co P 1)) ^^^ (co P 0 ^^^ mu 2 (co P 1)) = 0 := by rw [f0, f1]; rfl
      rw [xor_swap, Nat.xor_self, Nat.zero_xor] at h3
      exact h3
    exact this
  have f3 : co P 1 = 0 := Classical.byContradiction fun g => mu_ne (by omega) l1 (by omega) g f2
  rw [f3, mu_zero, Nat.xor_zero] at f0
  rw [← five_neat.tr_self]
  refine h.pneat.ext h.pby five_by (fun i => ?_)
  match i with
  | 0 => rw [f0]; rfl
  | 1 => rw [f3]; rfl
  | i + 2 => rw [hs _ (by omega), co_out (by simp)]
theorem pts_awake (w : World) : Pts (w.alloc (.cells #[.int .u8 1, .int .u8 5, .int .u8 2, .int .u8 5] 43)) (some ⟨w.heap.size, 0, none⟩) 2 (fun i => i + 1) (fun _ => 5) := by
  have hnew := Go.Deep.blk_alloc_new w (.cells #[.int .u8 1, .int .u8 5, .int .u8 2, .int .u8 5] 43)
  refine ⟨by omega, fun i h => by show i + 1 < 256; omega, fun i h => by show 5 < 256; omega, .inr ⟨_, _, rfl, by simp, fun i hi => ?_⟩⟩
  match i, hi with
  | 0, _ => exact ⟨by simp only [World.cell?]; rw [hnew]; rfl, by simp only [World.cell?]; rw [hnew]; rfl⟩
  | 1, _ => exact ⟨by simp only [World.cell?]; rw [hnew]; rfl, by simp only [World.cell?]; rw [hnew]; rfl⟩
theorem through_awake (t : Nat) (w : World) (ht : IsTab w t) :
    Calls Try.prog 25 #[.pointer (some ⟨t, 0, none⟩), .slice (some ⟨w.heap.size, 0, none⟩) 2 2] (w.alloc (.cells #[.int .u8 1, .int .u8 5, .int .u8 2, .int .u8 5] 43)) fun e w' => ∃ A C, e = .returned (.tuple #[.slice A 1 C, .int .i64 0]) ∧ Sl w' A 1 C [5] ∧ Below w.heap.size w w' := by
  have hb : Below w.heap.size w (w.alloc (.cells #[.int .u8 1, .int .u8 5, .int .u8 2, .int .u8 5] 43)) := (Below.refl _ _).alloc (Nat.le_refl _) _
  refine (through_any t _ 2 2 _ _ _ (ht.below hb ht.lt) (pts_awake w) (by omega)).mono ?_
  rintro e w' ⟨h1, (⟨⟨i, j, h2, h3, h4⟩, _⟩ | ⟨A, m, C, P, Q, h2, h3, h4⟩)⟩
  · exact absurd h4 (by show i + 1 ≠ j + 1; omega)
  · obtain rfl := thr_five h2
    obtain rfl : m = 1 := by have := h4.bytes.size; simp at this; exact this.symm
    exact ⟨A, C, h3, h4, hb.trans (h1.mono hb.size)⟩
theorem dup_by : By [1, 1] := fun z hz => by simp at hz; omega
theorem prod_awake : mulL [1, 1] [1, 1] = tr [1, 0, 1] := by decide +kernel
theorem ones_sl (w : World) : Sl (w.alloc (.cells #[.int .u8 1, .int .u8 1] 5)) (some ⟨w.heap.size, 0, none⟩) 2 2 [1, 1] := two_sl w 1 (by omega)
theorem ones_sl2 (w : World) : Sl ((w.alloc (.cells #[.int .u8 1, .int .u8 1] 5)).alloc (.cells #[.int .u8 1, .int .u8 1] 5)) (some ⟨w.heap.size + 1, 0, none⟩) 2 2 [1, 1] := by
  have := ones_sl (w.alloc (.cells #[.int .u8 1, .int .u8 1] 5))
  rwa [World.size_alloc] at this
theorem two_below (w : World) (o p : Obj) : Below w.heap.size w ((w.alloc o).alloc p) := ((Below.refl _ w).alloc (Nat.le_refl _) _).alloc (by simp) _
theorem five_bytes (w : World) : Bytes (w.alloc (.cells #[.int .u8 5] 5)) (some ⟨w.heap.size, 0, none⟩) 1 [5] := one_block w 5 (by omega)
theorem oneo_bytes (w : World) : Bytes (w.alloc (.cells #[.int .u8 1, .int .u8 0, .int .u8 1] 5)) (some ⟨w.heap.size, 0, none⟩) 3 [1, 0, 1] :=
  new_block w #[.int .u8 1, .int .u8 0, .int .u8 1] 5 (0, 0) _ rfl [1, 0, 1] rfl (by simp) (fun z hz => by simp at hz; omega) 3 rfl
/-- What a law's beginning comes to. -/
def Woke (w : World) (e : Ending) (w' : World) : Prop := e = .returned (.bool true) ∧ Below w.heap.size w w'
set_option maxRecDepth 100000 in
set_option maxHeartbeats 1000000 in
theorem awake4_any (w : World) : Calls Try.prog 8 #[] w (Woke w) := by
  have HF := Lib.hid (show [5] = tr [5] from five_neat.tr_self.symm)
  have HP := Lib.hid prod_awake
  go_enter Try.func8, Try.ntmps8
  go_wp2_with (first
    | (go_at_call 10; refine (new_any _).mono ?_; rintro e w1 ⟨rfl, ht, hb⟩; have HT := Lib.hid ht; clear ht; have HB := Lib.hid hb; clear hb)
    | (go_at_call 25; refine (through_awake _ w1 HT.out).mono ?_; rintro e w2 ⟨A, C, rfl, h2, hb2⟩; have HT2 := Lib.hid (HT.out.below hb2 HT.out.lt); have H2 := Lib.hid h2; have HB2 := Lib.hid (HB.out.trans (hb2.mono HB.out.size)); clear h2 hb2)
    | (go_at_call 13; (with_reducible refine (is_true A (some ⟨w2.heap.size, 0, none⟩) 1 1 C 1 [5] [5] (w2.alloc _) (H2.out.bytes.below ((Below.refl w2.heap.size w2).alloc (Nat.le_refl _) _) (Nat.le_refl _)) (five_bytes w2) HF.out).mono ?_); rintro e w3 ⟨rfl, hb3⟩; have h3 := (((Below.refl w2.heap.size w2).alloc (Nat.le_refl _) (.cells #[.int .u8 5] 5)).trans (hb3.mono (by simp))); have HT3 := Lib.hid (HT2.out.below h3 HT2.out.lt); have HB3 := Lib.hid (HB2.out.trans (h3.mono HB2.out.size)); clear h3 hb3)
    | (go_at_call 16; refine (pmul_any w.heap.size _ _ 2 2 2 2 [1, 1] [1, 1] ((w3.alloc _).alloc _) (HT3.out.below (two_below w3 _ _) HT3.out.lt) ((ones_sl w3).below ((Below.refl _ _).alloc (Nat.le_refl _) _) (Nat.le_refl _)) (ones_sl2 w3) (by omega) (by omega)).mono ?_; rintro e w4 ⟨A4, n4, C4, rfl, h4, hb4⟩; have H4 := Lib.hid h4; have HB4 := Lib.hid (HB3.out.trans (((two_below w3 _ _).trans (hb4.mono (by simp; omega))).mono HB3.out.size)); clear h4 hb4)
    | (go_at_call 13; (with_reducible refine (is_true A4 (some ⟨w4.heap.size, 0, none⟩) n4 3 C4 3 _ [1, 0, 1] (w4.alloc _) (H4.out.bytes.below ((Below.refl w4.heap.size w4).alloc (Nat.le_refl _) _) (Nat.le_refl _)) (oneo_bytes w4) HP.out).mono ?_); rintro e w5 ⟨rfl, hb5⟩; have HB5 := Lib.hid (HB4.out.trans ((((Below.refl w4.heap.size w4).alloc (Nat.le_refl _) (.cells #[.int .u8 1, .int .u8 0, .int .u8 1] 5)).trans (hb5.mono (by simp))).mono HB4.out.size)); clear hb5))
  go_ret
  exact ⟨rfl, HB5.out⟩
set_option maxRecDepth 100000 in
theorem short_yes (a b : Option Addr) (n m c d : Nat) (w : World) (hn : n ≤ 60) (hm : m ≤ 60) :
    Calls Try.prog 9 #[.slice a n c, .slice b m d] w fun e w' => e = .returned (.bool true) ∧ w = w' := by
  have h1 : (n : Int) ≤ 60 := by omega
  have h2 : (m : Int) ≤ 60 := by omega
  go_enter Try.func9, Try.ntmps9
  go_wp2
  go_ret
  exact ⟨rfl, rfl⟩
set_option maxRecDepth 100000 in
theorem short_no (a b : Option Addr) (n m c d : Nat) (w : World) (hx : n ≤ 9223372036854775807) (hy : m ≤ 9223372036854775807) (h : ¬ (n ≤ 60 ∧ m ≤ 60)) :
    Calls Try.prog 9 #[.slice a n c, .slice b m d] w fun e w' => e = .returned (.bool false) ∧ w = w' := by
  have h1 : ¬ (n : Int) ≤ 60 ∨ ((n : Int) ≤ 60 ∧ ¬ (m : Int) ≤ 60) := by omega
  clear h
  rcases h1 with h1 | ⟨h1, h2⟩
  all_goals
    go_enter Try.func9, Try.ntmps9
    go_wp2
    go_ret
    exact ⟨rfl, rfl⟩
end Go.Proofs.Ytbiaenkhhbgbcaa
