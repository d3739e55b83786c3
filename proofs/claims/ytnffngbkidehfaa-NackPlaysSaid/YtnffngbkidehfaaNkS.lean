/-
  Own text: Wait, New, walked.
-/
import Derived.Test.YtnffngbkidehfaaNkR
namespace Go.Proofs.Ytnffngbkidehfaa.Nk
open Go.RowKit

theorem NTo.same {w w' : World} {b s m C : Nat} {A : Option Addr} {N : Nl} (h : NS w b s m A C N) (hb : Below w.heap.size w w') : NTo w b s m A N w' :=
  ⟨A, C, NB.below h hb (Nat.le_refl _), .inl rfl, NFr.of_below hb⟩
set_option maxRecDepth 100000 in
/-- Wait, whatever is asked. -/
theorem nwait_any (k t : Int) (hk : 0 ≤ k ∧ k ≤ 4294967295) (b s m : Nat) (A : Option Addr) (C j : Nat) (N : Nl) (hf : N.fit j) (hj : j ≤ 1000000) (w : World) (h : NS w b s m A C N) :
    Calls Try.prog 24 #[.pointer (some ⟨b, 0, none⟩), .int .u32 k, .int .i64 t] w fun e w' => e = .returned (.tuple #[]) ∧ Hid (NTo w b s m A (N.wait k t) w') := by
  have ht := hd_in t
  have CH := Lib.hid (has_any b s m C N.asked N.full N.q.l.length A N.q N.has N.t k hk w h)
  obtain ⟨sw, hsw⟩ : ∃ sw, sw = N.has k := ⟨_, rfl⟩
  rw [← hsw] at CH
  cases sw with
  | true =>
    have e : N.wait k t = N := by unfold Nl.wait; rw [if_pos hsw.symm]
    rw [e]
    have HR : Hid (NTo w b s m A N w) := Lib.hid (NTo.same h (Below.refl _ _))
    clear h hf hj e hsw
    go_enter Try.func24, Try.ntmps24
    go_wp2_with (first
      | (go_at_call 25; (with_reducible refine (CH.out).mono ?_); rintro e w1 ⟨rfl, rfl⟩)
      | fail)
    refine bodyPost_ret (results_none rfl _ _ _) rfl ?_
    exact ⟨rfl, HR⟩
  | false =>
    have hno : hasK k N.q.l = false := hsw.symm
    have HC : Hid (∀ w', Below w.heap.size w w' → w'.cell? ⟨b, 0, none⟩ = some (.pointer (some ⟨s, 0, none⟩))) := Lib.hid (fun w' hb => (NB.below h hb (Nat.le_refl _)).blk.cells.1)
    have CHD : Hid (∀ w', Below w.heap.size w w' → Calls Try.prog 62 #[.int .i64 t] w' fun e w1 => e = .returned (.int .i64 (hd t)) ∧ Below w.heap.size w w1) := Lib.hid (fun w' hb => (held_any t w').mono fun _ _ hh => ⟨hh.1, by rw [hh.2]; exact hb⟩)
    have hcode : N.q.code k (hd t) = if N.q.l.length = N.q.room then 2 else 0 := by
      unfold Qn.code
      rw [if_neg (by omega)]
      by_cases e : N.q.l.length = N.q.room
      · rw [if_pos ⟨hno, e⟩, if_pos e]
      · rw [if_neg (fun hh => e hh.2), if_neg e]
    by_cases hfull : N.q.l.length = N.q.room
    · rw [if_pos hfull] at hcode
      have hst : N.q.start k (hd t) = N.q := by unfold Qn.start; rw [if_neg (by rw [hcode]; omega)]
      have e : N.wait k t = ⟨N.q, N.t, N.asked, N.full + 1⟩ := by unfold Nl.wait; rw [if_neg (by rw [← hsw]; decide), if_pos hfull]
      have hfl := hf.full
      have CS : Hid (∀ w', Below w.heap.size w w' → Calls Try.prog 61 #[.pointer (some ⟨s, 0, none⟩), .int .u32 k, .int .i64 (hd t)] w' fun e w1 => e = .returned (.int .i64 2) ∧ Hid (w1.cell? ⟨b, 3, none⟩ = some (.int .i64 (N.full : Int)) ∧ w1.frozen? ⟨b, 3, none⟩ = false) ∧ Hid (NTo w b s m A (N.wait k t) (w1.setCell ⟨b, 3, none⟩ (.int .i64 ((N.full : Int) + 1))))) := Lib.hid (fun w' hb => by
        have h' := NB.below h hb (Nat.le_refl _)
        refine (start_any k (hd t) s N.q A C hf.q w' h'.set).mono ?_
        rintro e1 w1 ⟨rfl, hq⟩
        rw [hst] at hq
        obtain ⟨A', C', h1, h2, h3⟩ := NB.set_to h' hq.out
        obtain ⟨h4, h5⟩ := h1.setFull (N.full + 1)
        refine ⟨by rw [hcode], Lib.hid ⟨h1.blk.cells.2.2.2, h1.blk.frozen 3⟩, Lib.hid ?_⟩
        rw [e]
        have hm : Moved w (A.map Addr.block) (A'.map Addr.block) := Moved.trans (.inl rfl) hb.size h2
        refine ⟨A', C', ?_, hm, ((NFr.of_below hb).trans h3).then_ hm ?_⟩
        · have := h4
          rw [show ((N.full + 1 : Nat) : Int) = (N.full : Int) + 1 by omega] at this
          exact this
        · have := h5
          rw [show ((N.full + 1 : Nat) : Int) = (N.full : Int) + 1 by omega] at this
          exact this)
      have n1 : (N.full : Int) ≤ 1000000 := by omega
      have n0 : (0 : Int) ≤ (N.full : Int) := by omega
      clear h hf hj e hsw hst hcode hfull hno hfl ht
      generalize hd t = z at *
      generalize (N.full : Int) = fl at *
      go_enter Try.func24, Try.ntmps24
      go_upto_region 1 with (first
        | (go_at_call 25; (with_reducible refine (CH.out).mono ?_); rintro e w1 ⟨rfl, rfl⟩)
        | fail)
      refine (wpIn_wide (n := 3)).1 ?_
      refine wpIn_grow_tail (fun w' => Below w1.heap.size w1 w') (Below.refl _ _).drew 7 (by kernel_rfl) (by kernel_rfl) (by kernel_rfl) ?_
      simp only [List.take_succ_cons, List.take_zero, List.drop_succ_cons, List.drop_zero]
      iterate 3 (refine wpQuietIn_step (fun _ _ _ _ => trivial) (fun K hK => ?_); go_simp; refine ⟨_, fun _ _ => rfl, hK _ ?_⟩; clear hK K)
      refine wpQ_readw (.pointer (some ⟨s, 0, none⟩)) (fun _ _ _ _ => trivial) rfl (fun w' hw => ?_) ?_
      · have c0 := HC.out w' hw
        unfold Oper.quietAtIn
        go_simp
      simp only [Act.put, List.setIfInBounds_toArray, List.set_cons_zero, List.set_cons_succ]
      iterate 2 (refine wpQuietIn_step (fun _ _ _ _ => trivial) (fun K hK => ?_); go_simp; refine ⟨_, fun _ _ => rfl, hK _ ?_⟩; clear hK K)
      refine wpQuietIn_step (fun _ _ _ _ => trivial) (fun K hK => ?_)
      go_simp
      refine ⟨.int .i64 z, fun w' hw => callsIn_wide.2 (CHD.out w' hw), hK _ ?_⟩
      clear hK K
      refine wpQuietIn_nil ?_
      rintro w3 hw3
      have CS1 := Lib.hid (CS.out w3 hw3)
      clear hw3
      gi_wp2
      refine ⟨trivial, callsIn_wide.2 ((CS1.out).mono ?_)⟩
      rintro e w4 ⟨rfl, H4, HR⟩
      obtain ⟨c3, f3⟩ := H4.out
      gi_wp2
      go_wp2
      refine bodyPost_ret (results_none rfl _ _ _) rfl ?_
      exact ⟨rfl, HR⟩
    · rw [if_neg hfull] at hcode
      have hlen : N.q.l.length < N.q.room := by have := hf.q.len; omega
      have hst := (start_new hno hlen (t := hd t) (by omega) (by omega)).2
      have e : N.wait k t = ⟨N.q.start k (hd t), put N.t k 0, N.asked, N.full⟩ := by unfold Nl.wait; rw [if_neg (by rw [← hsw]; decide), if_neg hfull]
      have CS : Hid (∀ w', Below w.heap.size w w' → Calls Try.prog 61 #[.pointer (some ⟨s, 0, none⟩), .int .u32 k, .int .i64 (hd t)] w' fun e w1 => e = .returned (.int .i64 0) ∧ Hid (w1.cell? ⟨b, 1, none⟩ = some (.map (some m))) ∧ Hid (TMap w1 m N.q.l.length N.has N.t) ∧ Hid (∀ w2, TMap w2 m (if N.has k = true then N.q.l.length else N.q.l.length + 1) (fun y => N.has y || decide (y = k)) (put N.t k 0) → w1.grownBy w2 (some m) → NTo w b s m A (N.wait k t) w2)) := Lib.hid (fun w' hb => by
        have h' := NB.below h hb (Nat.le_refl _)
        refine (start_any k (hd t) s N.q A C hf.q w' h'.set).mono ?_
        rintro e1 w1 ⟨rfl, hq⟩
        obtain ⟨A', C', h1, h2, h3⟩ := NB.set_to h' hq.out
        refine ⟨by rw [hcode], Lib.hid h1.blk.cells.2.1, Lib.hid h1.map, Lib.hid (fun w2 hm hg => ?_)⟩
        obtain ⟨h4, h5⟩ := h1.map_to hm hg
        have hmv : Moved w (A.map Addr.block) (A'.map Addr.block) := Moved.trans (.inl rfl) hb.size h2
        rw [e]
        refine ⟨A', C', ⟨h4.blk, h4.set, h4.map.congr ?_ (fun z _ => ?_) (fun _ _ _ => rfl)⟩, hmv, ((NFr.of_below hb).trans h3).then_ hmv h5⟩
        · rw [if_neg (by rw [← hsw]; decide)]
          show N.q.l.length + 1 = (N.q.start k (hd t)).l.length
          rw [hst]
          dsimp only
          rw [ins_length]
        · show hasK z (N.q.start k (hd t)).l = _
          rw [hst]
          dsimp only
          cases hz : hasK z (ins ⟨k, N.q.now + hd t⟩ N.q.l) with
          | true =>
            obtain ⟨x, hx, ex⟩ := (hasK_iff _ _).1 hz
            rcases ins_mem hx with rfl | hx
            · simp only at ex
              rw [decide_eq_true ex.symm, Bool.or_true]
            · have : N.has z = true := (hasK_iff _ _).2 ⟨x, hx, ex⟩
              rw [this, Bool.true_or]
          | false =>
            have h6 := no_has hz
            have h7 : N.has z = false := has_no (fun x hx => h6 x (mem_ins _ (.inr hx)))
            have h8 : ¬ z = k := fun e => h6 _ (mem_ins _ (.inl rfl)) e.symm
            rw [h7, decide_eq_false h8]
            rfl)
      have HLN : Hid (N.q.l.length ≤ 1000) := Lib.hid (by have := hf.q.len; have := hf.room; omega)
      have HK := Lib.hid hk
      clear h hf hj e hsw hst hcode hfull hno ht hlen hk
      generalize hd t = z at *
      generalize N.q.l.length = n at *
      go_enter Try.func24, Try.ntmps24
      go_upto_region 1 with (first
        | (go_at_call 25; (with_reducible refine (CH.out).mono ?_); rintro e w1 ⟨rfl, rfl⟩)
        | fail)
      refine (wpIn_wide (n := 3)).1 ?_
      refine wpIn_grow_tail (fun w' => Below w1.heap.size w1 w') (Below.refl _ _).drew 7 (by kernel_rfl) (by kernel_rfl) (by kernel_rfl) ?_
      simp only [List.take_succ_cons, List.take_zero, List.drop_succ_cons, List.drop_zero]
      iterate 3 (refine wpQuietIn_step (fun _ _ _ _ => trivial) (fun K hK => ?_); go_simp; refine ⟨_, fun _ _ => rfl, hK _ ?_⟩; clear hK K)
      refine wpQ_readw (.pointer (some ⟨s, 0, none⟩)) (fun _ _ _ _ => trivial) rfl (fun w' hw => ?_) ?_
      · have c0 := HC.out w' hw
        unfold Oper.quietAtIn
        go_simp
      simp only [Act.put, List.setIfInBounds_toArray, List.set_cons_zero, List.set_cons_succ]
      iterate 2 (refine wpQuietIn_step (fun _ _ _ _ => trivial) (fun K hK => ?_); go_simp; refine ⟨_, fun _ _ => rfl, hK _ ?_⟩; clear hK K)
      refine wpQuietIn_step (fun _ _ _ _ => trivial) (fun K hK => ?_)
      go_simp
      refine ⟨.int .i64 z, fun w' hw => callsIn_wide.2 (CHD.out w' hw), hK _ ?_⟩
      clear hK K
      refine wpQuietIn_nil ?_
      rintro w3 hw3
      have CS1 := Lib.hid (CS.out w3 hw3)
      clear hw3
      gi_wp2
      refine ⟨trivial, callsIn_wide.2 ((CS1.out).mono ?_)⟩
      rintro e w4 ⟨rfl, H4, HM4, HR⟩
      have c1 := H4.out
      gi_wp2
      go_wp2_with (first
        | ((with_reducible refine wpList_tput rfl (.tmp 28) (.tmp 29) (.const (.int .i64 0)) rfl m n N.has N.t rfl HM4.out HLN.out k HK.out rfl 0 (Nat.zero_le _) rfl ?_); intro w5 HM5 HG5)
        | fail)
      go_end0
      exact ⟨rfl, Lib.hid (HR.out w5 HM5.out HG5.out)⟩
theorem tnew_no (room : Int) (h : room < 1) (w : World) :
    Calls Try.prog 80 #[.int .i64 room] w fun e w' => e = .returned (.tuple #[.pointer none, .int .i64 1]) ∧ w' = w := by
  go_enter Try.func80, Try.ntmps80
  go_wp2
  go_ret2
  exact ⟨rfl, rfl⟩
/-- A new one. -/
theorem nnew_any (room : Nat) (h1 : 1 ≤ room) (h2 : room ≤ 64) (w : World) :
    Calls Try.prog 53 #[.int .i64 (room : Int)] w fun e w' => ∃ b s m, e = .returned (.tuple #[.pointer (some ⟨b, 0, none⟩), .int .i64 0]) ∧ Hid (NS w' b s m none 0 ⟨⟨room, 0, []⟩, fun _ => 0, 0, 0⟩) ∧ Hid (w.heap.size ≤ b ∧ w.heap.size ≤ s ∧ w.heap.size ≤ m ∧ w.heap.size ≤ w'.heap.size) ∧ Hid (Below w.heap.size w w') := by
  have CN := Lib.hid (new_any room h1 (by omega) w)
  have hmm := @run_makeMap Try.prog
  have i1 : (room : Int) ≤ 64 := by omega
  clear h1 h2
  go_enter Try.func53, Try.ntmps53
  go_wp2_with (first
    | (go_at_call 80; (with_reducible refine (CN.out).mono ?_); rintro e w1 ⟨rfl, HQ1, HB1⟩)
    | fail)
  go_ret2
  have hb2 : Below w1.heap.size w1 (w1.alloc (.map #[] 0)) := (Below.refl _ _).alloc (Nat.le_refl _) _
  have hs2 : (w1.alloc (.map #[] 0)).heap.size = w1.heap.size + 1 := by simp
  have hm : TMap (w1.alloc (.map #[] 0)) w1.heap.size 0 (fun _ => false) (fun _ => 0) := TMap.made w1 _
  have hb3 : ∀ o, Below (w1.alloc (.map #[] 0)).heap.size (w1.alloc (.map #[] 0)) ((w1.alloc (.map #[] 0)).alloc o) := fun o => (Below.refl _ _).alloc (Nat.le_refl _) o
  refine ⟨w1.heap.size + 1, w.heap.size, w1.heap.size, rfl, Lib.hid ⟨?_, ?_, ?_⟩, Lib.hid ⟨?_, Nat.le_refl _, HB1.out.size, ?_⟩, Lib.hid ?_⟩
  · have := Go.Deep.blk_alloc_new (w1.alloc (.map #[] 0)) (.cells #[.pointer (some ⟨w.heap.size, 0, none⟩), .map (some w1.heap.size), .int .i64 0, .int .i64 0] 129)
    rw [hs2] at this
    exact this
  · exact (HQ1.out.below hb2 (Nat.le_refl _)).below (hb3 _) (Nat.le_refl _)
  · exact (hm.keep ((hb3 _).block _ hm.lt)).congr rfl (fun _ _ => rfl) (fun _ _ _ => rfl)
  · have := HB1.out.size; omega
  · have := HB1.out.size; simp; omega
  · exact (HB1.out.trans (hb2.mono HB1.out.size)).trans ((hb3 _).mono (by have := HB1.out.size; omega))
theorem nnew_no (room : Int) (h : room < 1 ∨ 64 < room) (w : World) :
    Calls Try.prog 53 #[.int .i64 room] w fun e w' => e = .returned (.tuple #[.pointer none, .int .i64 1]) ∧ w' = w := by
  by_cases h1 : 64 < room
  · clear h
    go_enter Try.func53, Try.ntmps53
    go_wp2
    go_ret2
    exact ⟨rfl, rfl⟩
  · have h2 : room < 1 := by omega
    have CN := Lib.hid (tnew_no room h2 w)
    clear h
    go_enter Try.func53, Try.ntmps53
    go_wp2_with (first
      | (go_at_call 80; (with_reducible refine (CN.out).mono ?_); rintro e w1 ⟨rfl, rfl⟩)
      | fail)
    go_ret2
    exact ⟨rfl, rfl⟩
end Go.Proofs.Ytnffngbkidehfaa.Nk
