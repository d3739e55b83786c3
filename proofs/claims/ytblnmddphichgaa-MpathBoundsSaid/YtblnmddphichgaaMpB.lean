/-
  Own text: the law's awake of layer 15, walked over what a sender's calls promise.
-/
import Derived.Test.YtblnmddphichgaaMpA
import Derived.Deep.DeepCutAuto
namespace Go.Proofs.Ytblnmddphichgaa.Mp
open Go.RowKit

/-- Three signs of life of rank 2 wait. -/
structure Three (s : Sd) (j : Nat) : Prop where
  bk : s.bk = Bk.new 10 66
  room : s.q.room = 9
  len : s.q.l.length = j
  it : ∀ x ∈ s.q.l, x.rank = 2 ∧ x.v.dl = 0
theorem Three.push {s : Sd} {j : Nat} (h : Three s j) (hj : j < 3) (da : Option Addr) (dc : Nat) : Three (s.push 2 (s.own (plainD 7 0) da dc)) (j + 1) := by
  obtain ⟨h1, _, h3, h4⟩ := push_list s 2 (s.own (plainD 7 0) da dc) (by rw [h.len, h.room]; omega)
  refine ⟨h.bk, h3.trans h.room, by rw [h1, h.len], fun x hx => ?_⟩
  rcases h4 x hx with hx | rfl
  · exact h.it x hx
  · exact ⟨rfl, rfl⟩
theorem both_two (s : Sd) : ¬ s.both 2 := by
  intro h
  rcases h.1 with h | h
  · omega
  · omega
theorem need_two (s : Sd) (x : Mq.It) (h : x.rank = 2 ∧ x.v.dl = 0) : s.need x = 33 ∧ (s.goers x).length = 1 := by
  have hm : s.many x.rank (33 + x.v.dl) = 1 := by
    unfold Sd.many
    rw [h.1, if_neg (fun hb => both_two s hb.1)]
  refine ⟨?_, by rw [s.goers_length, hm]⟩
  unfold Sd.need
  rw [hm, h.2]
  rfl
theorem three_flush {s : Sd} (h : Three s 3) : s.flush.1.length = 2 ∧ s.flush.2.q.l.length = 1 := by
  have hb := h.bk
  have hl := h.len
  have hi := h.it
  unfold Sd.flush
  match hq : s.q.l with
  | [] => rw [hq] at hl; simp at hl
  | [_] => rw [hq] at hl; simp at hl
  | [_, _] => rw [hq] at hl; simp at hl
  | _ :: _ :: _ :: _ :: _ => rw [hq] at hl; simp at hl
  | [x, y, z] =>
    rw [hq] at hi
    have hx := need_two s x (hi x (by simp))
    have e1 := first_keep s x [y, z]
    rw [hx.1, hb] at e1
    have hy := need_two (s.first x [y, z]).2 y (hi y (by simp))
    have e2 := first_keep (s.first x [y, z]).2 y [z]
    rw [hy.1, e1.2.1] at e2
    have hz := need_two ((s.first x [y, z]).2.first y [z]).2 z (hi z (by simp))
    have l1 : (s.first x [y, z]).1.length = 1 := by unfold Sd.first; rw [sends_length, hx.2]
    have l2 : ((s.first x [y, z]).2.first y [z]).1.length = 1 := by unfold Sd.first; rw [sends_length]; exact hy.2
    have m1 : (Bk.new 10 66).may 33 = true := by decide
    have m2 : ((Bk.new 10 66).take 33).may 33 = true := by decide
    have m3 : ¬ (((Bk.new 10 66).take 33).take 33).may 33 = true := by decide
    rw [flushL, hx.1, hb, if_pos m1, flushL, hy.1, e1.2.1, if_pos m2, flushL, hz.1, e2.2.1, if_neg m3]
    constructor
    · simp only [List.length_append, l1, l2, List.length_nil]
    · show ((s.first x [y, z]).2.first y [z]).2.q.l.length = 1
      rw [e2.1]
      rfl
set_option maxRecDepth 100000 in
theorem awake15_any {SB : World → Nat → Nat → Sd → Prop} (api : Api SB) (w : World) :
    Calls Try.prog 5 #[] w fun e w' => e = .returned (.bool true) ∧ Below w.heap.size w w' := by
  have CN : Hid (∀ w, Calls Try.prog 6 #[.int .u32 7, .int .i64 10, .int .i64 66, .int .i64 9] w fun e w' => ∃ p, e = .returned (.tuple #[.pointer (some ⟨p, 0, none⟩), .int .i64 0]) ∧ Hid (SB w' w.heap.size p (Sd.new 7 10 66 9)) ∧ Hid (Below w.heap.size w w')) := Lib.hid (fun w => api.new_ 7 9 10 66 w (by decide) (by decide) (by decide) (by decide))
  have CP : Hid (∀ w' p s j, SB w' w.heap.size p s → s.fit j → j < 3 → Calls Try.prog 7 #[.pointer (some ⟨p, 0, none⟩), .int .i64 2, (plainD 7 0).val] w' fun e w'' => e = .returned (.int .i64 0) ∧ Hid (∃ da dc, SB w'' w.heap.size p (s.push 2 (s.own (plainD 7 0) da dc))) ∧ Hid (Below w.heap.size w' w'')) :=
    Lib.hid (fun w' p s j h hf hj => api.push 2 (plainD 7 0) [] h hf (by omega) (Bytes.nil w') (Nat.le_refl _) (fun _ => rfl) (chk_plain s 7 0 _ _ [] (.inr ⟨rfl, rfl⟩)))
  have CF : Hid (∀ w' p s, SB w' w.heap.size p s → s.fit 3 → Calls Try.prog 9 #[.pointer (some ⟨p, 0, none⟩)] w' fun e w'' => Told w' w.heap.size s.flush.1 e w'' ∧ Hid (SB w'' w.heap.size p s.flush.2) ∧ Hid (Below w.heap.size w' w'')) := Lib.hid (fun w' p s h hf => api.flush h hf (by decide))
  have CW : Hid (∀ w' p s, SB w' w.heap.size p s → Calls Try.prog 13 #[.pointer (some ⟨p, 0, none⟩)] w' fun e w'' => e = .returned (.int .i64 (s.q.l.length : Int)) ∧ w' = w'') := Lib.hid (fun w' p s h => api.waiting h)
  unfold Dg.val plainD at CP
  dsimp only at CP
  go_enter Try.func5, Try.ntmps5
  go_wp2_with (first
    | (go_at_call 6; (with_reducible refine (CN.out _).mono ?_); rintro e w1 ⟨p, rfl, HS1, HB1⟩)
    | fail)
  go_loopw [3] (fun i wr => ∃ (j : Nat) (s : Sd), j ≤ 3 ∧ i = .int .i64 j ∧ Hid (SB wr w.heap.size p s) ∧ Hid (s.fit j) ∧ Hid (Three s j) ∧ Hid (Below w.heap.size w wr)) (fun i _ => 3 - (intOf i).toNat)
  case atStart => exact ⟨0, Sd.new 7 10 66 9, by decide, rfl, HS1, Lib.hid (Sd.new_fit (by decide) (by decide) (by decide) (by decide)), Lib.hid ⟨rfl, rfl, rfl, fun x hx => (by cases hx)⟩, HB1⟩
  case round =>
    obtain ⟨j, s, hj, rfl, HS, HF, HT, HB⟩ := hrel
    by_cases hlt : j < 3
    · go_wp2_with (first
        | (go_at_call 7; (with_reducible refine (CP.out _ p s j HS.out HF.out hlt).mono ?_); rintro e w2 ⟨rfl, HS2, HB2⟩)
        | fail)
      go_roundw
      case rel =>
        obtain ⟨da, dc, hs2⟩ := HS2.out
        exact ⟨j + 1, _, hlt, by go_num, Lib.hid hs2, Lib.hid (Sd.push_fit HF.out _ _), Lib.hid (HT.out.push hlt da dc), Lib.hid (HB.out.trans HB2.out)⟩
      case measure => simp [intOf]; omega
    · obtain rfl : j = 3 := by omega
      have HL := Lib.hid (three_flush HT.out)
      have CF2 : Hid (Calls Try.prog 9 #[.pointer (some ⟨p, 0, none⟩)] wr fun e w'' => (∃ A C, e = .returned (.slice A 2 C)) ∧ Hid (SB w'' w.heap.size p s.flush.2) ∧ Hid (Below w.heap.size wr w'')) :=
        Lib.hid ((CF.out wr p s HS.out HF.out).mono fun e w'' ⟨⟨A, C, _, he, _, _⟩, h2, h3⟩ => ⟨⟨A, C, by rw [he, HL.out.1]⟩, h2, h3⟩)
      have CW2 : Hid (∀ w', SB w' w.heap.size p s.flush.2 → Calls Try.prog 13 #[.pointer (some ⟨p, 0, none⟩)] w' fun e w'' => e = .returned (.int .i64 1) ∧ w' = w'') :=
        Lib.hid (fun w' h => (CW.out w' p s.flush.2 h).mono fun e w'' ⟨he, h2⟩ => ⟨by rw [he, HL.out.2]; rfl, h2⟩)
      clear hj hlt CF CW CP CN HL
      go_wp2_with (first
        | (go_at_call 9; (with_reducible refine (CF2.out).mono ?_); rintro e w2 ⟨⟨A, C, rfl⟩, HS2, HB2⟩)
        | (go_at_call 13; (with_reducible refine (CW2.out _ HS2.out).mono ?_); rintro e w3 ⟨rfl, rfl⟩)
        | fail)
      go_ret
      exact ⟨rfl, HB.out.trans HB2.out⟩
end Go.Proofs.Ytblnmddphichgaa.Mp
