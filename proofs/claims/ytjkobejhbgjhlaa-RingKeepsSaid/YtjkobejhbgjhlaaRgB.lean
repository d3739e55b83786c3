/-
  Own text: entries wiped; Drop, Cut, Reset, walked.
-/
import Derived.Test.YtjkobejhbgjhlaaRgA
namespace Go.Proofs.Ytjkobejhbgjhlaa
open Go.RowKit

/-- What wiping leaves. -/
structure Wiped (w : World) (b : Nat) (R : Rn) (A : Option Addr) (C : Nat) (xs : List Int) (fr to : Nat) (w' : World) (ys : List Int) : Prop where
  blk : RBlk w' b R.room R.first R.next (.slice A xs.length C)
  size : ys.length = xs.length
  own : OwnI w' 0 (.slice A xs.length C) xs.length ys
  spot : ∀ i, i < R.l.length → ¬ (fr ≤ R.first + i ∧ R.first + i < to) → ys[(R.first + i) % R.room]? = xs[(R.first + i) % R.room]?
  frm : Frm b (Value.slice A xs.length C).ownBlock w w'
theorem Wiped.start {w : World} {b C : Nat} {R : Rn} {A : Option Addr} {xs : List Int} (h : RB w b R A C xs) (fr : Nat) : Wiped w b R A C xs fr fr w xs :=
  ⟨h.blk, rfl, h.own, fun _ _ _ => rfl, Frm.refl _ _ _⟩
theorem Wiped.step {w w1 : World} {b C g : Nat} {R : Rn} {xs ys : List Int} {fr k : Nat} (hR : RB w b R (some ⟨g, 0, none⟩) C xs) (h : Wiped w b R (some ⟨g, 0, none⟩) C xs fr k w1 ys) (hl : R.l.length ≤ R.room) (hf : R.first ≤ fr) (hk : fr ≤ k) (hn : k < R.next) :
    Wiped w b R (some ⟨g, 0, none⟩) C xs fr (k + 1) (w1.setCell ⟨g, k % R.room, none⟩ (.int .i64 0)) (ys.set (k % R.room) 0) := by
  have hg := hR.apart g rfl
  unfold Rn.next at hn
  obtain ⟨j, rfl⟩ : ∃ j, k = R.first + j := ⟨k - R.first, by omega⟩
  refine ⟨h.blk.other (p := ⟨g, _, none⟩) (fun e => hg e.symm) _, by rw [List.length_set]; exact h.size, h.own.set _ _, fun i hi hno => ?_, h.frm.trans (Frm.setSlot _ _ _ _ _)⟩
  rw [List.getElem?_set_ne (mod_apart (by omega) (by omega) (by omega))]
  exact h.spot i hi (by omega)
theorem Wiped.drewN {w w1 : World} {b C : Nat} {R : Rn} {A : Option Addr} {xs ys : List Int} {fr k : Nat} (h : Wiped w b R A C xs fr k w1 ys) (n : Nat) : Wiped w b R A C xs fr k (w1.drewN n) ys :=
  ⟨h.blk, h.size, h.own, h.spot, h.frm.drewN n⟩
set_option maxRecDepth 100000 in
theorem wipe_any (b k : Nat) (R : Rn) (A : Option Addr) (C : Nat) (xs : List Int) (fr to : Nat) (hf : R.fit k) (hk : k ≤ 1000000) (h1 : R.first ≤ fr) (h2 : fr ≤ to) (h3 : to ≤ R.next) (w : World) (h : RB w b R A C xs) :
    Calls Try.prog 36 #[.pointer (some ⟨b, 0, none⟩), .int .i64 (fr : Int), .int .i64 (to : Int)] w fun e w' => e = .returned (.tuple #[]) ∧ Hid (∃ ys, Wiped w b R A C xs fr to w' ys) := by
  have HR := Lib.hid h
  have HF := Lib.hid hf
  have HK := Lib.hid hk
  have HB : Hid (R.first ≤ fr ∧ to ≤ R.next) := Lib.hid ⟨h1, h3⟩
  have hto : to ≤ 1099512627776 := by have := hf.next; omega
  clear h hf hk h1 h3
  go_enter Try.func36, Try.ntmps36
  go_wp2
  go_loopw [7] (fun i wr => ∃ (k : Nat) (ys : List Int), fr ≤ k ∧ k ≤ to ∧ i = .int .i64 k ∧ Hid (Wiped w b R A C xs fr k wr ys)) (fun i _ => to - (intOf i).toNat)
  case atStart => exact ⟨fr, xs, Nat.le_refl _, h2, rfl, Lib.hid (Wiped.start HR.out fr)⟩
  case round =>
    obtain ⟨k, ys, hk1, hk2, rfl, HW⟩ := hrel
    by_cases hlt : k < to
    · have h4 : R.first ≤ fr ∧ to ≤ R.first + R.l.length := HB.out
      obtain ⟨j, hj⟩ : ∃ j, k = R.first + j := ⟨k - R.first, by omega⟩
      have hin := (HR.out.inRow j (by omega)).1
      rw [← hj] at hin
      obtain ⟨g, eA, _⟩ := HR.out.own.at_ _ hin
      subst eA
      have hsz := HW.out.size
      have CS := Lib.hid (slot_any k 0 C xs.length _ ys HF.out.lo (by omega) HF.out.hi hin wr HW.out.blk HW.out.own (by have := HR.out.le; have := HF.out.hi; omega))
      obtain ⟨g3, eg3, _, _, _, hfz, _⟩ := HW.out.own.at_ _ hin
      obtain rfl : g = g3 := by simpa using eg3
      have HFZ := Lib.hid hfz
      have HS := Lib.hid ((HW.out).step HR.out HF.out.len h4.1 hk1 (by unfold Rn.next; omega))
      have k1 : (k : Int) < to := by omega
      clear eg3 hfz hin hj h4 hsz
      generalize k % R.room = p at *
      go_wp2_with (first
        | (go_at_call 33; (with_reducible refine (CS.out).mono ?_); rintro e w1 ⟨⟨g2, eg, rfl⟩, q, rfl⟩; have HE := Lib.hid eg; clear eg; obtain rfl : g = g2 := (by have := HE.out; simpa using this); have hfz := HFZ.out)
        | fail)
      go_roundw
      case rel => exact ⟨k + 1, _, by omega, by omega, by go_num, Lib.hid (HS.out.drewN q)⟩
      case measure => simp [intOf] <;> omega
    · obtain rfl : k = to := by omega
      go_wp2
      go_end0
      exact ⟨rfl, Lib.hid ⟨ys, HW.out⟩⟩
/-- The slots, where the ring's own block is written. -/
theorem own_setIn {w : World} {b C : Nat} {R : Rn} {A : Option Addr} {xs ys : List Int} {w0 : World} (h : RB w0 b R A C xs) (ho : OwnI w 0 (.slice A xs.length C) xs.length ys) (i : Nat) (v : Value) : OwnI (w.setCell ⟨b, i, none⟩ v) 0 (.slice A xs.length C) xs.length ys :=
  ho.keep (fun g hg => Below.heap_setCell _ _ _ g (h.apart g hg))
theorem Wiped.dropped {w w1 : World} {b C : Nat} {R : Rn} {A : Option Addr} {xs ys : List Int} (hR : RB w b R A C xs) (n : Int) (h : Wiped w b R A C xs R.first (R.first + R.pos n) w1 ys) :
    RB (w1.setCell ⟨b, 1, none⟩ (.int .i64 ((R.first + R.pos n : Nat) : Int))) b (R.drop n) A C ys := by
  have hs := h.size
  have hp := R.pos_le n
  refine ⟨?_, ?_, ?_, ?_⟩
  · rw [R.drop_next n, hs]; exact h.blk.setFirst _
  · rw [hs]; exact own_setIn hR h.own _ _
  · rw [hs]; exact hR.le
  · intro i hi
    have hi2 : R.pos n + i < R.l.length := by
      have : i < (R.l.drop (R.pos n)).length := hi
      rw [List.length_drop] at this; omega
    show ys[(R.first + R.pos n + i) % R.room]? = (R.l.drop (R.pos n))[i]?
    rw [Nat.add_assoc, h.spot _ hi2 (by omega), hR.spot _ hi2, List.getElem?_drop]
theorem Wiped.cut {w w1 : World} {b C : Nat} {R : Rn} {A : Option Addr} {xs ys : List Int} (hR : RB w b R A C xs) (n : Int) (h : Wiped w b R A C xs (R.first + R.pos n) R.next w1 ys) :
    RB (w1.setCell ⟨b, 2, none⟩ (.int .i64 ((R.first + R.pos n : Nat) : Int))) b (R.cut n) A C ys := by
  have hs := h.size
  have hp := R.pos_le n
  refine ⟨?_, ?_, ?_, ?_⟩
  · rw [R.cut_next n, hs]; exact h.blk.setNext _
  · rw [hs]; exact own_setIn hR h.own _ _
  · rw [hs]; exact hR.le
  · intro i hi
    have hi2 : i < R.pos n ∧ i < R.l.length := by
      have : i < (R.l.take (R.pos n)).length := hi
      rw [List.length_take] at this; omega
    show ys[(R.first + i) % R.room]? = (R.l.take (R.pos n))[i]?
    rw [h.spot _ hi2.2 (by omega), hR.spot _ hi2.2, List.getElem?_take, if_pos hi2.1]
theorem Wiped.reset {w w1 : World} {b C : Nat} {R : Rn} {A : Option Addr} {xs ys : List Int} (hR : RB w b R A C xs) (n : Nat) (h : Wiped w b R A C xs R.first R.next w1 ys) :
    RB ((w1.setCell ⟨b, 1, none⟩ (.int .i64 (n : Int))).setCell ⟨b, 2, none⟩ (.int .i64 (n : Int))) b ⟨R.room, n, []⟩ A C ys := by
  have hs := h.size
  refine ⟨?_, ?_, ?_, ?_⟩
  · rw [hs]; exact (h.blk.setFirst _).setNext _
  · rw [hs]; exact own_setIn hR (own_setIn hR h.own _ _) _ _
  · rw [hs]; exact hR.le
  · intro i hi
    simp at hi
theorem drop_any (n : Int) (b k : Nat) (R : Rn) (A : Option Addr) (C : Nat) (xs : List Int) (hf : R.fit k) (hk : k ≤ 1000000) (w : World) (h : RB w b R A C xs) :
    Calls Try.prog 25 #[.pointer (some ⟨b, 0, none⟩), .int .i64 n] w fun e w' => e = .returned (.tuple #[]) ∧ Hid (∃ ys, ys.length = xs.length ∧ RB w' b (R.drop n) A C ys) ∧ Hid (Frm b (Value.slice A xs.length C).ownBlock w w') := by
  have hp := R.pos_le n
  have hh := R.held n
  obtain ⟨N, hN⟩ : ∃ N, N = R.first + R.pos n := ⟨_, rfl⟩
  rw [← hN] at hh
  have CH := Lib.hid (held_any n (show R.first ≤ R.next by unfold Rn.next; omega) w h.blk)
  rw [hh] at CH
  have CW := Lib.hid (fun j => wipe_any b k R A C xs R.first N hf hk (Nat.le_refl _) (by omega) (by unfold Rn.next; omega) (w.drewN j) (h.drewN j))
  have HD : Hid (∀ j w1 ys, Wiped (w.drewN j) b R A C xs R.first N w1 ys → RB (w1.setCell ⟨b, 1, none⟩ (.int .i64 (N : Int))) b (R.drop n) A C ys) := Lib.hid (fun j w1 ys hw => by rw [hN] at hw ⊢; exact hw.dropped (h.drewN j) n)
  have c1 := h.blk.cells.2.1
  clear h hf hk hp hh hN
  go_enter Try.func25, Try.ntmps25
  go_wp2_with (first
    | (go_at_call 35; (with_reducible refine (CH.out).mono ?_); rintro e w1 ⟨rfl, j, rfl⟩)
    | (go_at_call 36; (with_reducible refine (CW.out j).mono ?_); rintro e w1 ⟨rfl, HW⟩; obtain ⟨ys, hw⟩ := HW.out; clear HW; have HW := Lib.hid hw; have fz := hw.blk.frozen 1; have d1 := hw.blk.cells.2.1; clear hw)
    | fail)
  go_end0
  exact ⟨rfl, Lib.hid ⟨ys, HW.out.size, HD.out j w1 ys HW.out⟩, Lib.hid (((Frm.refl b _ w).drewN j).trans (HW.out.frm.trans (Frm.setIn _ _ _ _ _)))⟩
theorem cut_any (n : Int) (b k : Nat) (R : Rn) (A : Option Addr) (C : Nat) (xs : List Int) (hf : R.fit k) (hk : k ≤ 1000000) (w : World) (h : RB w b R A C xs) :
    Calls Try.prog 27 #[.pointer (some ⟨b, 0, none⟩), .int .i64 n] w fun e w' => e = .returned (.tuple #[]) ∧ Hid (∃ ys, ys.length = xs.length ∧ RB w' b (R.cut n) A C ys) ∧ Hid (Frm b (Value.slice A xs.length C).ownBlock w w') := by
  have hp := R.pos_le n
  have hh := R.held n
  obtain ⟨N, hN⟩ : ∃ N, N = R.first + R.pos n := ⟨_, rfl⟩
  rw [← hN] at hh
  have CH := Lib.hid (held_any n (show R.first ≤ R.next by unfold Rn.next; omega) w h.blk)
  rw [hh] at CH
  have CW := Lib.hid (fun j => wipe_any b k R A C xs N R.next hf hk (by omega) (by unfold Rn.next; omega) (Nat.le_refl _) (w.drewN j) (h.drewN j))
  have HD : Hid (∀ j w1 ys, Wiped (w.drewN j) b R A C xs N R.next w1 ys → RB (w1.setCell ⟨b, 2, none⟩ (.int .i64 (N : Int))) b (R.cut n) A C ys) := Lib.hid (fun j w1 ys hw => by rw [hN] at hw ⊢; exact hw.cut (h.drewN j) n)
  have c2 := h.blk.cells.2.2.1
  clear h hf hk hp hh hN
  go_enter Try.func27, Try.ntmps27
  go_wp2_with (first
    | (go_at_call 35; (with_reducible refine (CH.out).mono ?_); rintro e w1 ⟨rfl, j, rfl⟩)
    | (go_at_call 36; (with_reducible refine (CW.out j).mono ?_); rintro e w1 ⟨rfl, HW⟩; obtain ⟨ys, hw⟩ := HW.out; clear HW; have HW := Lib.hid hw; have fz := hw.blk.frozen 2; have d2 := hw.blk.cells.2.2.1; clear hw)
    | fail)
  go_end0
  exact ⟨rfl, Lib.hid ⟨ys, HW.out.size, HD.out j w1 ys HW.out⟩, Lib.hid (((Frm.refl b _ w).drewN j).trans (HW.out.frm.trans (Frm.setIn _ _ _ _ _)))⟩
set_option maxRecDepth 100000 in
theorem reset_any (n : Nat) (hn : n ≤ 1099511627776) (b k : Nat) (R : Rn) (A : Option Addr) (C : Nat) (xs : List Int) (hf : R.fit k) (hk : k ≤ 1000000) (w : World) (h : RB w b R A C xs) :
    Calls Try.prog 29 #[.pointer (some ⟨b, 0, none⟩), .int .i64 (n : Int)] w fun e w' => e = .returned (.tuple #[]) ∧ Hid (∃ ys, ys.length = xs.length ∧ RB w' b ⟨R.room, n, []⟩ A C ys) ∧ Hid (Frm b (Value.slice A xs.length C).ownBlock w w') := by
  have CW := Lib.hid (wipe_any b k R A C xs R.first R.next hf hk (Nat.le_refl _) (by unfold Rn.next; omega) (Nat.le_refl _) w.drew (h.drewN 1))
  have HD : Hid (∀ w1 ys, Wiped w.drew b R A C xs R.first R.next w1 ys → RB ((w1.setCell ⟨b, 1, none⟩ (.int .i64 (n : Int))).setCell ⟨b, 2, none⟩ (.int .i64 (n : Int))) b ⟨R.room, n, []⟩ A C ys) := Lib.hid (fun w1 ys hw => hw.reset (h.drewN 1) n)
  obtain ⟨c0, c1, c2, c3⟩ := h.blk.cells
  have n0 : ¬ (n : Int) < 0 := by omega
  have n1 : ¬ (1099511627776 : Int) < (n : Int) := by omega
  clear h hf hk hn c0 c3
  go_enter Try.func29, Try.ntmps29
  go_upto_region 1 with fail
  refine wp_region_still_tail 9 (by kernel_rfl) (by kernel_rfl) ?_
  simp only [List.take_succ_cons, List.take_zero, List.drop_succ_cons, List.drop_zero]
  iterate 9 still_step
  refine wpStill_nil ?_
  change wpList _ _ _ _ _ w.drew
  go_wp2_with (first
    | (go_at_call 36; (with_reducible refine (CW.out).mono ?_); rintro e w1 ⟨rfl, HW⟩; obtain ⟨ys, hw⟩ := HW.out; clear HW; have HW := Lib.hid hw; have fz := hw.blk.frozen 2; have fz1 := hw.blk.frozen 1; have d1 := hw.blk.cells.2.1; have d2 := hw.blk.cells.2.2.1; clear hw)
    | fail)
  go_end0
  exact ⟨rfl, Lib.hid ⟨ys, HW.out.size, HD.out w1 ys HW.out⟩, Lib.hid (((Frm.refl b _ w).drewN 1).trans (HW.out.frm.trans ((Frm.setIn _ _ _ _ _).trans (Frm.setIn _ _ _ _ _))))⟩
end Go.Proofs.Ytjkobejhbgjhlaa
