/-
  Own text: the law's same and awake; law TimerRooms, walked.
-/
import Derived.Test.YthkckgdhaihmoaaTmH
import Derived.BigGuard
namespace Go.Proofs.Ythkckgdhaihmoaa
open Go.RowKit

/-- A list of numbers in a block of one's own, written out. -/
theorem OwnI.lit (w : World) (z : Int) : OwnI (w.alloc (.cells #[.int .i64 z] 3)) 0 (.slice (some ⟨w.heap.size, 0, Option.none⟩) 1 1) 1 [z] := by
  refine ⟨rfl, .inr ⟨w.heap.size, 1, _, rfl, Nat.zero_le _, Go.Deep.blk_alloc_new w _, Nat.le_refl _, by unfold maxLen; omega, rfl, rfl⟩⟩
set_option maxRecDepth 100000 in
theorem same_any (A : Option Addr) (C : Nat) (A' : Option Addr) (C' n : Nat) (l : List Int) (hn : n ≤ 1000) (w : World) (h : OwnI w 0 (.slice A n C) n l) (h' : OwnI w 0 (.slice A' n C') n l) :
    Calls Try.prog 17 #[.slice A n C, .slice A' n C'] w fun e w' => e = .returned (.bool true) ∧ Below w.heap.size w w' := by
  have HALL : Hid (∀ w', Below w.heap.size w w' → OwnI w' 0 (.slice A n C) n l ∧ OwnI w' 0 (.slice A' n C') n l) := Lib.hid (fun w' hb => ⟨h.below hb (Nat.le_refl _), h'.below hb (Nat.le_refl _)⟩)
  have n1 : (n : Int) ≤ 1000 := by omega
  have nn : ((n : Int) != (n : Int)) = false := by simp
  clear h h'
  go_enter Try.func17, Try.ntmps17
  go_wp2
  go_loopw [5] (fun i wr => ∃ q : Nat, q ≤ n ∧ i = .int .i64 (q : Int) ∧ Hid (Below w.heap.size w wr)) (fun i _ => n - (intOf i).toNat)
  case atStart => exact ⟨0, Nat.zero_le _, rfl, Lib.hid (Below.refl _ _)⟩
  case round =>
    obtain ⟨q, hq, rfl, HB⟩ := hrel
    by_cases hlt : q < n
    · obtain ⟨ho, ho'⟩ := HALL.out wr HB.out
      obtain ⟨g, rfl, _, _, c0, _⟩ := ho.at_ q hlt
      obtain ⟨g', rfl, _, _, c1, _⟩ := ho'.at_ q hlt
      have k1 : (q : Int) < (n : Int) := by omega
      generalize l.getD q 0 = z at *
      have zz : (z != z) = false := by simp
      have HLT := Lib.hid hlt
      clear ho ho'
      go_upto_region 6 with fail
      go_quiet (fail)
      go_wp2
      go_roundw
      case rel => exact ⟨q + 1, HLT.out, by go_num, Lib.hid (below_drewN HB.out _)⟩
      case measure => simp [intOf] <;> (have := HLT.out; omega)
    · obtain rfl : q = n := by omega
      go_wp2
      go_ret
      exact ⟨rfl, HB.out⟩
/-- A set's call leaves what is of another type. -/
theorem Frm.keeps {w w' : World} {b C : Nat} {Q : Qn} {A : Option Addr} (h : Frm b (A.map Addr.block) w w') (hq : QB w b Q A C) {k : Nat} {cur : Array Value} {t : TypeId} (hk : w.heap[k]? = some (.cells cur t (0, 0))) (h1 : t ≠ 65) (h2 : t ≠ 62) : w'.heap[k]? = w.heap[k]? := by
  refine h.block k (Array.getElem?_eq_some_iff.1 hk).1 (fun e => ?_) (fun e => ?_)
  · subst e
    have := hq.blk
    unfold QBlk at this
    rw [hk] at this
    simp at this
    exact h1 this.2
  · rcases hq.own.form with ⟨e2, _⟩ | ⟨g, R, e2, _, _, hg, _⟩
    · rw [e2] at e; simp at e
    · rw [e2] at e
      simp at e
      subst e
      unfold TBlk at hg
      rw [hk] at hg
      simp at hg
      exact h2 hg.2
/-- What is of another type than the code's is as it was. -/
def Keep (w w' : World) : Prop := ∀ (k : Nat) (cur : Array Value) (t : TypeId), w.heap[k]? = some (.cells cur t (0, 0)) → t ≠ 65 → t ≠ 62 → w'.heap[k]? = w.heap[k]?
theorem Keep.refl (w : World) : Keep w w := fun _ _ _ _ _ _ => rfl
theorem Keep.trans {w w1 w2 : World} (h : Keep w w1) (k : Keep w1 w2) : Keep w w2 := fun i cur t hi h1 h2 => by
  have e := h i cur t hi h1 h2
  exact (k i cur t (e.trans hi) h1 h2).trans e
theorem Keep.of_below {w w' : World} (h : Below w.heap.size w w') : Keep w w' := fun i _ _ hi _ _ => h.block i (Array.getElem?_eq_some_iff.1 hi).1
theorem Keep.code {w w' : World} {b C : Nat} {Q : Qn} {A : Option Addr} (h : Frm b (A.map Addr.block) w w') (hq : QB w b Q A C) : Keep w w' := fun _ _ _ hi h1 h2 => h.keeps hq hi h1 h2
theorem Keep.setCell {w w' : World} (h : Keep w w') {p : Addr} (hp : w.heap.size ≤ p.block) (v : Value) : Keep w (w'.setCell p v) := fun i cur t hi h1 h2 =>
  (Below.heap_setCell w' p v i (by have := (Array.getElem?_eq_some_iff.1 hi).1; omega)).trans (h i cur t hi h1 h2)
theorem Keep.drewN {w w' : World} (h : Keep w w') (n : Nat) : Keep w (w'.drewN n) := fun i cur t hi h1 h2 => h i cur t hi h1 h2
theorem OwnI.kept {w w' : World} {base n C : Nat} {A : Option Addr} {l : List Int} (h : OwnI w base (.slice A n C) n l) (hk : Keep w w') : OwnI w' base (.slice A n C) n l :=
  h.keep (fun g hg => by
    rcases h.2 with ⟨e, _⟩ | ⟨g1, cap, cur, e, _, hg1, _⟩
    · rw [e] at hg; simp [Value.ownBlock] at hg
    · rw [e] at hg
      simp [Value.ownBlock] at hg
      subst hg
      exact hk _ _ _ hg1 (by decide) (by decide))
/-- A set whose blocks lie from a place on. -/
def From (w : World) (B b : Nat) (Q : Qn) : Prop := ∃ A C, QB w b Q A C ∧ B ≤ b ∧ B ≤ w.heap.size ∧ ∀ k, A.map Addr.block = some k → B ≤ k
theorem From.below {w w' : World} {B B' b : Nat} {Q : Qn} (h : From w B b Q) (hb : Below B' w w') (hB : w.heap.size ≤ B') : From w' B b Q := by
  obtain ⟨A, C, h1, h2, h3, h4⟩ := h
  exact ⟨A, C, h1.below hb hB, h2, Nat.le_trans h3 hb.size, h4⟩
theorem From.low {w : World} {B B' b : Nat} {Q : Qn} (h : From w B b Q) (hB : B' ≤ B) : From w B' b Q := by
  obtain ⟨A, C, h1, h2, h3, h4⟩ := h
  exact ⟨A, C, h1, Nat.le_trans hB h2, Nat.le_trans hB h3, fun k hk => Nat.le_trans hB (h4 k hk)⟩
theorem From.to {w w' : World} {B b : Nat} {Q Q' : Qn} {A : Option Addr} {C : Nat} (hq : QB w b Q A C) (hB : B ≤ b) (hw : B ≤ w.heap.size) (hs : ∀ k, A.map Addr.block = some k → B ≤ k) (h : QTo w b A Q' w') : From w' B b Q' ∧ Below B w w' ∧ Keep w w' := by
  obtain ⟨A', C', h1, h2, h3⟩ := h
  refine ⟨⟨A', C', h1, hB, Nat.le_trans hw h3.size, fun k hk => ?_⟩, h3.bel (Below.refl _ _) hw hB hs, Keep.code h3 hq⟩
  rcases h2 with e | e
  · exact hs k (by rw [← e]; exact hk)
  · exact Nat.le_trans hw (e k hk)
theorem new_from (room : Nat) (h1 : 1 ≤ room) (h2 : room ≤ 256) (w : World) : Calls Try.prog 14 #[.int .i64 (room : Int)] w fun e w' => e = .returned (.tuple #[.pointer (some ⟨w.heap.size, 0, none⟩), .int .i64 0]) ∧ Hid (From w' w.heap.size w.heap.size ⟨room, 0, []⟩) ∧ Hid (Below w.heap.size w w') := by
  refine (new_any room h1 h2 w).mono ?_
  rintro e w' ⟨rfl, h1, h2⟩
  exact ⟨rfl, Lib.hid ⟨none, 0, h1.out, Nat.le_refl _, h2.out.size, fun k hk => by simp at hk⟩, h2⟩
theorem start_from (k t : Int) (B b : Nat) (Q : Qn) (hf : Q.fit) (w : World) (h : From w B b Q) :
    Calls Try.prog 15 #[.pointer (some ⟨b, 0, none⟩), .int .i64 k, .int .i64 t] w fun e w' => e = .returned (.int .i64 (Q.code k t)) ∧ Hid (From w' B b (Q.start k t)) ∧ Hid (Below B w w' ∧ Keep w w') := by
  obtain ⟨A, C, h1, h2, h3, h4⟩ := h
  refine (start_any k t b Q A C hf w h1).mono ?_
  rintro e w' ⟨rfl, hp⟩
  have := From.to h1 h2 h3 h4 hp.out
  exact ⟨rfl, Lib.hid this.1, Lib.hid this.2⟩
theorem tick_from (t : Int) (B b : Nat) (Q : Qn) (hf : Q.fit) (w : World) (h : From w B b Q) :
    Calls Try.prog 16 #[.pointer (some ⟨b, 0, none⟩), .int .i64 t] w fun e w' => ∃ A3 C3, e = .returned (.slice A3 (Q.came t).length C3) ∧ Hid (OwnI w' w.heap.size (.slice A3 (Q.came t).length C3) (Q.came t).length (Q.came t)) ∧ Hid (From w' B b (Q.tick t)) ∧ Hid (Below B w w' ∧ Keep w w') := by
  obtain ⟨A, C, h1, h2, h3, h4⟩ := h
  refine (tick_any t b Q A C hf w h1).mono ?_
  rintro e w' ⟨A3, C3, rfl, ho, hp⟩
  have := From.to h1 h2 h3 h4 hp.out
  exact ⟨A3, C3, rfl, ho, Lib.hid this.1, Lib.hid this.2⟩
theorem now_from (B b : Nat) (Q : Qn) (w : World) (h : From w B b Q) :
    Calls Try.prog 18 #[.pointer (some ⟨b, 0, none⟩)] w fun e w' => e = .returned (.int .i64 Q.now) ∧ w = w' := by
  obtain ⟨A, C, h1, _⟩ := h
  exact now_any w h1.blk
theorem len_from (B b : Nat) (Q : Qn) (w : World) (h : From w B b Q) :
    Calls Try.prog 22 #[.pointer (some ⟨b, 0, none⟩)] w fun e w' => e = .returned (.int .i64 (Q.l.length : Int)) ∧ w = w' := by
  obtain ⟨A, C, h1, _⟩ := h
  exact len_any A Q.l.length C w h1.blk
-- the page's example
theorem aw1 : (⟨4, 0, []⟩ : Qn).start 7 3 = ⟨4, 0, [⟨7, 3⟩]⟩ := by kernel_rfl
theorem aw2 : (⟨4, 0, [⟨7, 3⟩]⟩ : Qn).start 8 2 = ⟨4, 0, [⟨8, 2⟩, ⟨7, 3⟩]⟩ := by kernel_rfl
theorem aw3 : (⟨4, 0, [⟨8, 2⟩, ⟨7, 3⟩]⟩ : Qn).tick 2 = ⟨4, 2, [⟨7, 3⟩]⟩ := by kernel_rfl
theorem aw4 : (⟨4, 2, [⟨7, 3⟩]⟩ : Qn).tick 1 = ⟨4, 3, []⟩ := by kernel_rfl
theorem ac1 : (⟨4, 0, []⟩ : Qn).code 7 3 = 0 := by kernel_rfl
theorem ac2 : (⟨4, 0, [⟨7, 3⟩]⟩ : Qn).code 8 2 = 0 := by kernel_rfl
theorem ac3 : (⟨4, 0, [⟨8, 2⟩, ⟨7, 3⟩]⟩ : Qn).came 2 = [8] := by kernel_rfl
theorem ac4 : (⟨4, 2, [⟨7, 3⟩]⟩ : Qn).came 1 = [7] := by kernel_rfl
theorem af0 : (⟨4, 0, []⟩ : Qn).fit := Qn.new_fit 4 (by omega) (by omega)
theorem af1 : (⟨4, 0, [⟨7, 3⟩]⟩ : Qn).fit := by rw [← aw1]; exact Qn.start_fit af0 7 3
theorem af2 : (⟨4, 0, [⟨8, 2⟩, ⟨7, 3⟩]⟩ : Qn).fit := by rw [← aw2]; exact Qn.start_fit af1 8 2
theorem af3 : (⟨4, 2, [⟨7, 3⟩]⟩ : Qn).fit := by rw [← aw3]; exact Qn.tick_fit af2 2
theorem starts1 (B b : Nat) (w : World) (h : From w B b ⟨4, 0, []⟩) : Calls Try.prog 15 #[.pointer (some ⟨b, 0, none⟩), .int .i64 7, .int .i64 3] w fun e w' => e = .returned (.int .i64 0) ∧ Hid (From w' B b ⟨4, 0, [⟨7, 3⟩]⟩) ∧ Hid (Below B w w' ∧ Keep w w') := by
  have := start_from 7 3 B b ⟨4, 0, []⟩ af0 w h
  rwa [aw1, ac1] at this
theorem starts2 (B b : Nat) (w : World) (h : From w B b ⟨4, 0, [⟨7, 3⟩]⟩) : Calls Try.prog 15 #[.pointer (some ⟨b, 0, none⟩), .int .i64 8, .int .i64 2] w fun e w' => e = .returned (.int .i64 0) ∧ Hid (From w' B b ⟨4, 0, [⟨8, 2⟩, ⟨7, 3⟩]⟩) ∧ Hid (Below B w w' ∧ Keep w w') := by
  have := start_from 8 2 B b ⟨4, 0, [⟨7, 3⟩]⟩ af1 w h
  rwa [aw2, ac2] at this
theorem ticks3 (B b : Nat) (w : World) (h : From w B b ⟨4, 0, [⟨8, 2⟩, ⟨7, 3⟩]⟩) : Calls Try.prog 16 #[.pointer (some ⟨b, 0, none⟩), .int .i64 2] w fun e w' => ∃ A3 C3, e = .returned (.slice A3 1 C3) ∧ Hid (OwnI w' w.heap.size (.slice A3 1 C3) 1 [8]) ∧ Hid (From w' B b ⟨4, 2, [⟨7, 3⟩]⟩) ∧ Hid (Below B w w' ∧ Keep w w') := by
  have := tick_from 2 B b ⟨4, 0, [⟨8, 2⟩, ⟨7, 3⟩]⟩ af2 w h
  rwa [aw3, ac3] at this
theorem ticks4 (B b : Nat) (w : World) (h : From w B b ⟨4, 2, [⟨7, 3⟩]⟩) : Calls Try.prog 16 #[.pointer (some ⟨b, 0, none⟩), .int .i64 1] w fun e w' => ∃ A3 C3, e = .returned (.slice A3 1 C3) ∧ Hid (OwnI w' w.heap.size (.slice A3 1 C3) 1 [7]) ∧ Hid (From w' B b ⟨4, 3, []⟩) ∧ Hid (Below B w w' ∧ Keep w w') := by
  have := tick_from 1 B b ⟨4, 2, [⟨7, 3⟩]⟩ af3 w h
  rwa [aw4, ac4] at this
theorem news4 (w : World) : Calls Try.prog 14 #[.int .i64 4] w fun e w' => e = .returned (.tuple #[.pointer (some ⟨w.heap.size, 0, none⟩), .int .i64 0]) ∧ Hid (From w' w.heap.size w.heap.size ⟨4, 0, []⟩) ∧ Hid (Below w.heap.size w w') := new_from 4 (by omega) (by omega) w
theorem own_alloc1 {w : World} {base n C : Nat} {A : Option Addr} {l : List Int} (h : OwnI w base (.slice A n C) n l) (o : Obj) : OwnI (w.alloc o) 0 (.slice A n C) n l :=
  (OwnI.low h (Nat.zero_le _)).below ((Below.refl _ _).alloc (Nat.le_refl _) _) (Nat.le_refl _)
set_option maxRecDepth 100000 in
theorem awake11_any (w : World) :
    Calls Try.prog 7 #[] w fun e w' => e = .returned (.bool true) ∧ Below w.heap.size w w' := by
  go_enter Try.func7, Try.ntmps7
  go_wp2_with (first
    | (go_at_call 14; (with_reducible refine (news4 _).mono ?_); rintro e w1 ⟨rfl, H1, B1⟩)
    | (go_at_call 15; (with_reducible refine (starts1 _ _ _ H1.out).mono ?_); rintro e w2 ⟨rfl, H2, B2⟩)
    | (go_at_call 15; (with_reducible refine (starts2 _ _ _ H2.out).mono ?_); rintro e w3 ⟨rfl, H3, B3⟩)
    | (go_at_call 16; (with_reducible refine (ticks3 _ _ _ H3.out).mono ?_); rintro e w4 ⟨A4, C4, rfl, O4, H4, B4⟩)
    | (go_at_call 16; (with_reducible refine (ticks4 _ _ _ H4.out).mono ?_); rintro e w5 ⟨A5, C5, rfl, O5, H5, B5⟩; have BB := Lib.hid ((((B1.out.trans B2.out.1).trans B3.out.1).trans B4.out.1).trans B5.out.1); have S8 := Lib.hid (same_any _ _ _ _ _ _ (by omega) _ (own_alloc1 (O4.out.kept B5.out.2) (.cells #[.int .i64 8] 3)) (OwnI.lit w5 8)))
    | (go_at_call 17; (with_reducible refine (S8.out).mono ?_); rintro e w6 ⟨rfl, hb6⟩; have BB6 := Lib.hid (BB.out.trans (((Below.refl _ _).alloc (Nat.le_refl _) _).trans (hb6.mono (Nat.le_of_lt (lt_alloc _ _))) |>.mono BB.out.size)); have H6 := Lib.hid (H5.out.below ((Below.refl w5.heap.size w5).alloc (Nat.le_refl _) _ |>.trans (hb6.mono (Nat.le_of_lt (lt_alloc _ _)))) (Nat.le_refl _)); have S7 := Lib.hid (same_any _ _ _ _ _ _ (by omega) _ (own_alloc1 ((OwnI.low O5.out (Nat.zero_le _)).below ((Below.refl w5.heap.size w5).alloc (Nat.le_refl _) _ |>.trans (hb6.mono (Nat.le_of_lt (lt_alloc _ _)))) (Nat.le_refl _)) (.cells #[.int .i64 7] 3)) (OwnI.lit w6 7)))
    | (go_at_call 17; (with_reducible refine (S7.out).mono ?_); rintro e w7 ⟨rfl, hb7⟩; have BB7 := Lib.hid (BB6.out.trans (((Below.refl _ _).alloc (Nat.le_refl _) _).trans (hb7.mono (Nat.le_of_lt (lt_alloc _ _))) |>.mono BB6.out.size)); have H7 := Lib.hid (H6.out.below ((Below.refl w6.heap.size w6).alloc (Nat.le_refl _) _ |>.trans (hb7.mono (Nat.le_of_lt (lt_alloc _ _)))) (Nat.le_refl _)))
    | (go_at_call 18; (with_reducible refine (now_from _ _ _ _ H7.out).mono ?_); rintro e w8 ⟨rfl, rfl⟩)
    | fail)
  go_ret
  exact ⟨rfl, BB7.out⟩
end Go.Proofs.Ythkckgdhaihmoaa
