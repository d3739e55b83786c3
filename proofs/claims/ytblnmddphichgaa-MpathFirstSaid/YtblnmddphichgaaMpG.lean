/-
  Own text: law MpathFirst, its walk over what a sender's calls promise.
-/
import Derived.Test.YtblnmddphichgaaMpF
namespace Go.Proofs.Ytblnmddphichgaa.Mp
open Go.RowKit

/-- What is promised of a law: it says yes, and what was there is as it was. -/
def Yes15 (w : World) (e : Ending) (w' : World) : Prop := e = .returned (.bool true) ∧ Below w.heap.size w w'
set_option maxRecDepth 100000 in
set_option maxHeartbeats 2000000 in
theorem first15_good {SB : World → Nat → Nat → Sd → Prop} (api : Api SB) (r bu ro : Int) (a : Option Addr) (n c : Nat) (z : Nat → Int) (hr1 : 1 ≤ r) (hr2 : r ≤ 100000) (hb1 : 1 ≤ bu) (hb2 : bu ≤ 100000) (hn : n ≤ 100) (w : World) (hz : Nm w a n z) :
    Calls Try.prog 4 #[.agg #[.int .i64 r, .int .i64 bu, .int .i64 ro], .slice a n c] w (Yes15 w) := by
  obtain ⟨W0, hW0⟩ : ∃ W0, W0 = w.alloc (.cells #[.int .i64 r, .int .i64 bu, .int .i64 ro] 23) := ⟨_, rfl⟩
  have hb0 : Below w.heap.size w W0 := by rw [hW0]; exact (Below.refl _ _).alloc (Nat.le_refl _) _
  have hs0 : W0.heap.size = w.heap.size + 1 := by rw [hW0]; simp
  have hL : Lies W0 w.heap.size 0 #[.int .i64 r, .int .i64 bu, .int .i64 ro] := by rw [hW0]; exact Lies.new w _ _ (Below.refl _ _)
  have HALL : Hid (∀ w', Below W0.heap.size W0 w' → w'.cell? ⟨w.heap.size, 0, none⟩ = some (.int .i64 r) ∧ w'.cell? ⟨w.heap.size, 1, none⟩ = some (.int .i64 bu)) := Lib.hid (fun w' hb => ⟨(hL.below hb hL.lt).cell 0 (by decide : 0 < 3), (hL.below hb hL.lt).cell 1 (by decide : 1 < 3)⟩)
  have HNM : Hid (∀ w', Below W0.heap.size W0 w' → Nm w' a n z) := Lib.hid (fun w' hb => (hz.below hb0).below (hb.mono (Nat.le_refl _)))
  have HB0 := Lib.hid hb0
  have HW0 := Lib.hid hW0
  have CA := Lib.hid (awake15_any api W0)
  have CN : Hid (∀ w, Calls Try.prog 6 #[.int .u32 7, .int .i64 r, .int .i64 bu, .int .i64 256] w fun e w' => ∃ p, e = .returned (.tuple #[.pointer (some ⟨p, 0, none⟩), .int .i64 0]) ∧ Hid (SB w' w.heap.size p (Sd.new 7 r bu 256)) ∧ Hid (Below w.heap.size w w')) :=
    Lib.hid (fun w => api.new_ 7 256 r bu w (by decide) (decide_eq_true ⟨hr1, by omega, hb1, by omega⟩) (by decide) (by decide))
  have HNEW : Hid ((Sd.new 7 r bu 256).fit 0) := Lib.hid (Sd.new_fit (by decide) (decide_eq_true ⟨hr1, by omega, hb1, by omega⟩) (by decide) (by decide))
  have CP : Hid (∀ w' B p s (j : Nat), SB w' B p s → s.fit j → j < n → Calls Try.prog 7 #[.pointer (some ⟨p, 0, none⟩), .int .i64 (z j), (plainD 6 (j : Int)).val] w' fun e w'' => e = .returned (.int .i64 0) ∧ Hid (∃ da dc, SB w'' B p (s.push (z j) (s.own (plainD 6 (j : Int)) da dc))) ∧ Hid (Below B w' w'')) :=
    Lib.hid (fun w' B p s j h hf hj => api.push (z j) (plainD 6 (j : Int)) [] h hf (by omega) (Bytes.nil w') (Nat.le_refl _) (fun _ => rfl) (chk_plain s 6 j _ _ [] (.inl rfl)))
  have CF : Hid (∀ w' B p s k, SB w' B p s → s.fit k → k ≤ 1000000 → Calls Try.prog 9 #[.pointer (some ⟨p, 0, none⟩)] w' fun e w'' => Told w' B s.flush.1 e w'' ∧ Hid (SB w'' B p s.flush.2) ∧ Hid (Below B w' w'')) := Lib.hid (fun w' B p s k h hf hk => api.flush h hf hk)
  have CT : Hid (∀ w' B p s k, SB w' B p s → s.fit k → k ≤ 1000000 → Calls Try.prog 8 #[.pointer (some ⟨p, 0, none⟩)] w' fun e w'' => Told w' B s.tick.1 e w'' ∧ Hid (SB w'' B p s.tick.2) ∧ Hid (Below B w' w'')) := Lib.hid (fun w' B p s k h hf hk => api.tick h hf hk)
  have HK := Lib.hid (fun (w w' : World) (B p : Nat) (s : Sd) (h : SB w B p s) (hb : Below w.heap.size w w') => api.keep h hb)
  unfold Dg.val plainD at CP
  dsimp only at CP
  have m1 : ¬ r < 1 := by omega
  have m2 : ¬ 100000 < r := by omega
  have m3 : ¬ bu < 1 := by omega
  have m4 : ¬ 100000 < bu := by omega
  have m5 : ¬ (100 : Int) < (n : Int) := by omega
  have HN := Lib.hid hn
  clear hz hb0 hs0 hL hW0 hr1 hr2 hb1 hb2 hn
  go_enter Try.func4, Try.ntmps4
  go_upto_region 1 with fail
  rw [← HW0.out]
  go_upto_region 3 with (first
    | (go_at_call 5; (with_reducible refine (CA.out).mono ?_); rintro e w1 ⟨rfl, hb⟩; have HB1 := Lib.hid hb; clear hb)
    | fail)
  obtain ⟨c0, c1⟩ := HALL.out w1 HB1.out
  go_upto_region 8 with (first
    | (go_at_call 6; (with_reducible refine (CN.out _).mono ?_); rintro e w2 ⟨p, rfl, HS2, HB2⟩)
    | fail)
  have HB12 : Hid (Below W0.heap.size W0 w2) := Lib.hid (HB1.out.trans (HB2.out.mono HB1.out.size))
  have HBW : Hid (W0.heap.size ≤ w1.heap.size) := Lib.hid HB1.out.size
  clear c0 c1 m1 m2 m3 m4 m5
  generalize w1.heap.size = B at *
  clear HB1 HB2 CA CN
  go_wp2
  go_loopw [7] (fun i wr => ∃ (j : Nat) (s : Sd), j ≤ n ∧ i = .int .i64 j ∧ Hid (SB wr B p s) ∧ Hid (s.fit j) ∧ Hid (Lot n z s j) ∧ Hid (Below W0.heap.size W0 wr)) (fun i _ => n - (intOf i).toNat)
  case atStart => exact ⟨0, _, Nat.zero_le _, rfl, HS2, HNEW, Lib.hid ⟨rfl, rfl, rfl, fun x hx => (by cases hx)⟩, HB12⟩
  case round =>
    obtain ⟨j, s, hj, rfl, HS, HF, HT, HB⟩ := hrel
    by_cases hlt : j < n
    · have hj3 : (j : Int) < (n : Int) := by omega
      have hj4 : (j : Int) ≤ 100 := by have := HN.out; omega
      have wr1 : IntKind.u32.wrap (j : Int) = (j : Int) := by rw [IntKind.wrap_u32]; omega
      obtain ⟨b, off, rfl, cj⟩ : ∃ b off, a = some ⟨b, off, none⟩ ∧ wr.cell? ⟨b, off + j, none⟩ = some (.int .i64 (z j)) := by
        rcases HNM.out wr HB.out with h | ⟨b, off, e, _, h⟩
        · omega
        · exact ⟨b, off, e, h j hlt⟩
      go_wp2_with (first
        | (go_at_call 7; (with_reducible refine (CP.out _ B p s j HS.out HF.out hlt).mono ?_); rintro e w3 ⟨rfl, HS3, HB3⟩)
        | fail)
      go_roundw
      case rel =>
        obtain ⟨da, dc, hs3⟩ := HS3.out
        exact ⟨j + 1, _, hlt, by go_num, Lib.hid hs3, Lib.hid (Sd.push_fit HF.out _ _), Lib.hid (HT.out.push hlt HN.out da dc), Lib.hid (HB.out.trans (HB3.out.mono HBW.out))⟩
      case measure => simp [intOf]; omega
    · obtain rfl : j = n := by omega
      have HI : Hid (Its j z s) := Lib.hid ⟨by rw [HT.out.len]; exact HN.out, HT.out.it⟩
      clear hj hlt CP HT HS2 HNEW
      go_wp2
      go_loopw [8, 9] (fun s8 s9 wr => ∃ (k : Nat) (s : Sd) (last : Int), k ≤ 40 ∧ s9 = .int .i64 k ∧ s8 = .int .i64 last ∧ Hid (SB wr B p s) ∧ Hid (s.fit (j + 304 * k)) ∧ Hid (Its j z s) ∧ Hid (Last j z s last) ∧ Hid (Below W0.heap.size W0 wr)) (fun _ s9 _ => 40 - (intOf s9).toNat)
      case atStart => exact ⟨0, s, -1, by decide, rfl, rfl, HS, HF, HI, Lib.hid (.inl rfl), HB⟩
      case round =>
        clear HS HF HI HB
        obtain ⟨k, s, last, hk, rfl, rfl, HS, HF, HI, HL, HB⟩ := hrel
        by_cases hlt : k < 40
        · have hk2 : (k : Int) < 40 := by omega
          obtain ⟨f, hf1, hI3, hL0, hL1⟩ := flush_row HF.out HI.out HL.out
          have HF1 := Lib.hid hf1
          have HI3 := Lib.hid hI3
          have HLL := Lib.hid (And.intro hL0 hL1)
          have HF3 : Hid (s.flush.2.fit (j + 304 * k + 300)) := Lib.hid ((flushL_fit s.q.l s _ rfl HF.out).upto (by have := HI.out.1; omega))
          have CF2 := Lib.hid (CF.out wr B p s _ HS.out HF.out (by have := HN.out; omega))
          clear hf1 hI3 hL0 hL1
          generalize s.flush.1 = outs at *
          generalize s.flush.2 = s3 at *
          obtain ⟨m, hm⟩ : ∃ m, m = outs.length := ⟨_, rfl⟩
          unfold Told at CF2
          rw [← hm] at CF2 HLL
          have HM := Lib.hid hm
          clear hm
          go_wp2_with (first
            | (go_at_call 9; (with_reducible refine (CF2.out).mono ?_); rintro e w3 ⟨⟨A, C, outs', rfl, HO, HLK⟩, HS3, HB3⟩)
            | fail)
          have HB30 : Hid (Below W0.heap.size W0 w3) := Lib.hid (HB.out.trans (HB3.out.mono HBW.out))
          go_loopw [8, 11] (fun s8 s11 wr => ∃ (i : Nat) (la : Int), i ≤ m ∧ s11 = .int .i64 i ∧ s8 = .int .i64 la ∧ Hid ((i = 0 → la = last) ∧ (0 < i → la = (f (i - 1) : Int))) ∧ Hid (Below w3.heap.size w3 wr)) (fun _ s11 _ => m - (intOf s11).toNat)
          case atStart => exact ⟨0, last, Nat.zero_le _, rfl, rfl, Lib.hid ⟨fun _ => rfl, fun h => absurd h (by decide)⟩, Lib.hid (Below.refl _ _)⟩
          case round =>
            obtain ⟨i, la, hi, rfl, rfl, HA, HB4⟩ := hrel
            by_cases hlt2 : i < m
            · obtain ⟨o, ho⟩ : ∃ o, outs[i]? = some o := ⟨_, List.getElem?_eq_getElem (by rw [← HM.out]; exact hlt2)⟩
              obtain ⟨hA, hN, h0, h1⟩ := HF1.out i o ho
              obtain ⟨o', ho', hlk, _⟩ := HLK.out.2 i o ho
              obtain ⟨g, rfl, _, hgl, hx⟩ := HO.out.at_ i o' ho'
              have hA' : o'.d.A = o.d.A := by rw [hlk.d]; rfl
              obtain ⟨N, hNf⟩ : ∃ N, N = f i := ⟨_, rfl⟩
              have HNF := Lib.hid hNf
              rw [← hNf] at hA hN h0 h1
              have cA : wr.cell? ⟨g, i * 12 + 6, none⟩ = some (.int .u32 (N : Int)) := by rw [← hA, ← hA']; exact (hx.below HB4.out hgl).cell 6 (by decide : 6 < 12)
              have hla : la = -1 ∨ ∃ M : Nat, la = (M : Int) ∧ M < j ∧ z M ≤ z N ∧ (z N = z M → ¬ N < M) := by
                by_cases hi0 : i = 0
                · rcases h0 hi0 with h | ⟨M, h⟩
                  · exact .inl ((HA.out.1 hi0).trans h)
                  · exact .inr ⟨M, (HA.out.1 hi0).trans h.1, h.2⟩
                · exact .inr ⟨_, HA.out.2 (by omega), h1 (by omega)⟩
              have hi3 : (i : Int) < (m : Int) := by omega
              have hN3 : (N : Int) < (j : Int) := by omega
              have hN4 : (j : Int) ≤ 100 := by have := HN.out; omega
              have hm4 : (i : Int) ≤ 9223372036854775806 := by
                obtain ⟨_, _, e, h5, h6⟩ := HO.out.slice
                unfold maxLen at h6
                omega
              have wr2 : IntKind.i64.wrap (N : Int) = (N : Int) := by rw [IntKind.wrap_i64]; omega
              have HREL : Hid (∃ (i' : Nat) (la' : Int), i' ≤ m ∧ (Value.int .i64 ((i : Int) + 1)) = .int .i64 i' ∧ Value.int .i64 (N : Int) = .int .i64 la' ∧ Hid ((i' = 0 → la' = last) ∧ (0 < i' → la' = (f (i' - 1) : Int)))) := Lib.hid ⟨i + 1, N, hlt2, by push_cast; rfl, rfl, Lib.hid ⟨fun h => absurd h (by omega), fun _ => by rw [HNF.out]; rfl⟩⟩
              have HB0r : Hid (Below W0.heap.size W0 wr) := Lib.hid (HB30.out.trans (HB4.out.mono HB30.out.size))
              clear hi h0 h1 hA hA' hlk ho' ho hx HA hNf
              rcases hla with rfl | ⟨M, rfl, hM, hz1, hz2⟩
              · go_upto_region 24 with fail
                go_quiet (fail)
                have HB5 : Hid (Below w3.heap.size w3 (wr.drewN nq)) := Lib.hid (below_drewN HB4.out nq)
                go_wp2
                go_roundw
                case rel =>
                  obtain ⟨i', la', h1, h2, h3, h4⟩ := HREL.out
                  exact ⟨i', la', h1, h2, h3, h4, HB5⟩
                case measure => simp [intOf]; omega
              · obtain ⟨b, off, rfl, cN, cM⟩ : ∃ b off, a = some ⟨b, off, none⟩ ∧ wr.cell? ⟨b, off + N, none⟩ = some (.int .i64 (z N)) ∧ wr.cell? ⟨b, off + M, none⟩ = some (.int .i64 (z M)) := by
                  rcases HNM.out wr HB0r.out with h | ⟨b, off, e, _, h⟩
                  · omega
                  · exact ⟨b, off, e, h N hN, h M hM⟩
                have hM3 : (M : Int) < (j : Int) := by omega
                have hM0 : (0 : Int) ≤ (M : Int) := by omega
                have hN0 : (0 : Int) ≤ (N : Int) := by omega
                generalize z N = zN at *
                generalize z M = zM at *
                by_cases he : zN = zM
                · have hnl := hz2 he
                  have hnl2 : ¬ (N : Int) < (M : Int) := by omega
                  clear hz2
                  go_upto_region 24 with fail
                  go_quiet (fail)
                  have HB5 : Hid (Below w3.heap.size w3 (wr.drewN nq)) := Lib.hid (below_drewN HB4.out nq)
                  go_wp2
                  go_roundw
                  case rel =>
                    obtain ⟨i', la', h1, h2, h3, h4⟩ := HREL.out
                    exact ⟨i', la', h1, h2, h3, h4, HB5⟩
                  case measure => simp [intOf]; omega
                · clear hz2
                  go_upto_region 24 with fail
                  go_quiet (fail)
                  have HB5 : Hid (Below w3.heap.size w3 (wr.drewN nq)) := Lib.hid (below_drewN HB4.out nq)
                  go_wp2
                  go_roundw
                  case rel =>
                    obtain ⟨i', la', h1, h2, h3, h4⟩ := HREL.out
                    exact ⟨i', la', h1, h2, h3, h4, HB5⟩
                  case measure => simp [intOf]; omega
            · obtain rfl : i = m := by omega
              have HL3 : Hid (Last j z s3 la) := Lib.hid (by
                by_cases h0 : i = 0
                · rw [HA.out.1 h0]; exact HLL.out.1 h0
                · rw [HA.out.2 (by omega)]; exact HLL.out.2 (by omega))
              have HS4 : Hid (SB wr B p s3) := Lib.hid (HK.out w3 wr B p s3 HS3.out HB4.out)
              have HB0r : Hid (Below W0.heap.size W0 wr) := Lib.hid (HB30.out.trans (HB4.out.mono HB30.out.size))
              have CT2 := Lib.hid (CT.out wr B p s3 _ HS4.out HF3.out (by have := HN.out; omega))
              have HF4 : Hid (s3.tick.2.fit (j + 304 * (k + 1))) := Lib.hid ((Sd.tick_fit HF3.out).upto (by omega))
              have HQ : Hid (s3.tick.2.q = s3.q) := Lib.hid (tick_q s3)
              unfold Told at CT2
              generalize s3.tick.1 = ot at *
              generalize s3.tick.2 = s4 at *
              go_wp2_with (first
                | (go_at_call 8; (with_reducible refine (CT2.out).mono ?_); rintro e w5 ⟨⟨A5, C5, _, rfl, _, _⟩, HS5, HB5⟩)
                | fail)
              go_roundw
              case rel => exact ⟨k + 1, s4, la, hlt, by go_num, rfl, HS5, HF4, Lib.hid (by unfold Its; rw [HQ.out]; exact HI3.out), Lib.hid (by unfold Last; rw [HQ.out]; exact HL3.out), Lib.hid (HB0r.out.trans (HB5.out.mono HBW.out))⟩
              case measure => simp [intOf]; omega
        · obtain rfl : k = 40 := by omega
          go_wp2
          go_ret
          exact ⟨rfl, HB0.out.trans (HB.out.mono HB0.out.size)⟩
set_option maxRecDepth 100000 in
theorem first15_bad {SB : World → Nat → Nat → Sd → Prop} (api : Api SB) (r bu ro : Int) (a : Option Addr) (n c : Nat) (h : r < 1 ∨ 100000 < r ∨ bu < 1 ∨ 100000 < bu ∨ 100 < n) (w : World) :
    Calls Try.prog 4 #[.agg #[.int .i64 r, .int .i64 bu, .int .i64 ro], .slice a n c] w (Yes15 w) := by
  obtain ⟨W0, hW0⟩ : ∃ W0, W0 = w.alloc (.cells #[.int .i64 r, .int .i64 bu, .int .i64 ro] 23) := ⟨_, rfl⟩
  have hb0 : Below w.heap.size w W0 := by rw [hW0]; exact (Below.refl _ _).alloc (Nat.le_refl _) _
  have hL : Lies W0 w.heap.size 0 #[.int .i64 r, .int .i64 bu, .int .i64 ro] := by rw [hW0]; exact Lies.new w _ _ (Below.refl _ _)
  have HALL : Hid (∀ w', Below W0.heap.size W0 w' → w'.cell? ⟨w.heap.size, 0, none⟩ = some (.int .i64 r) ∧ w'.cell? ⟨w.heap.size, 1, none⟩ = some (.int .i64 bu)) := Lib.hid (fun w' hb => ⟨(hL.below hb hL.lt).cell 0 (by decide : 0 < 3), (hL.below hb hL.lt).cell 1 (by decide : 1 < 3)⟩)
  have HB0 := Lib.hid hb0
  have HW0 := Lib.hid hW0
  have CA := Lib.hid (awake15_any api W0)
  clear hb0 hL hW0
  by_cases h1 : r < 1
  · clear h
    go_enter Try.func4, Try.ntmps4
    go_upto_region 1 with fail
    rw [← HW0.out]
    go_wp2_with (first
      | (go_at_call 5; (with_reducible refine (CA.out).mono ?_); rintro e w1 ⟨rfl, hb⟩; have HB1 := Lib.hid hb; clear hb; obtain ⟨c0, c1⟩ := HALL.out w1 HB1.out)
      | fail)
    go_ret
    exact ⟨rfl, HB0.out.trans (HB1.out.mono HB0.out.size)⟩
  by_cases h2 : 100000 < r
  · clear h
    go_enter Try.func4, Try.ntmps4
    go_upto_region 1 with fail
    rw [← HW0.out]
    go_wp2_with (first
      | (go_at_call 5; (with_reducible refine (CA.out).mono ?_); rintro e w1 ⟨rfl, hb⟩; have HB1 := Lib.hid hb; clear hb; obtain ⟨c0, c1⟩ := HALL.out w1 HB1.out)
      | fail)
    go_ret
    exact ⟨rfl, HB0.out.trans (HB1.out.mono HB0.out.size)⟩
  by_cases h3 : bu < 1
  · clear h
    go_enter Try.func4, Try.ntmps4
    go_upto_region 1 with fail
    rw [← HW0.out]
    go_wp2_with (first
      | (go_at_call 5; (with_reducible refine (CA.out).mono ?_); rintro e w1 ⟨rfl, hb⟩; have HB1 := Lib.hid hb; clear hb; obtain ⟨c0, c1⟩ := HALL.out w1 HB1.out)
      | fail)
    go_ret
    exact ⟨rfl, HB0.out.trans (HB1.out.mono HB0.out.size)⟩
  by_cases h4 : 100000 < bu
  · clear h
    go_enter Try.func4, Try.ntmps4
    go_upto_region 1 with fail
    rw [← HW0.out]
    go_wp2_with (first
      | (go_at_call 5; (with_reducible refine (CA.out).mono ?_); rintro e w1 ⟨rfl, hb⟩; have HB1 := Lib.hid hb; clear hb; obtain ⟨c0, c1⟩ := HALL.out w1 HB1.out)
      | fail)
    go_ret
    exact ⟨rfl, HB0.out.trans (HB1.out.mono HB0.out.size)⟩
  · have h5 : (100 : Int) < (n : Int) := by omega
    clear h
    go_enter Try.func4, Try.ntmps4
    go_upto_region 1 with fail
    rw [← HW0.out]
    go_wp2_with (first
      | (go_at_call 5; (with_reducible refine (CA.out).mono ?_); rintro e w1 ⟨rfl, hb⟩; have HB1 := Lib.hid hb; clear hb; obtain ⟨c0, c1⟩ := HALL.out w1 HB1.out)
      | fail)
    go_ret
    exact ⟨rfl, HB0.out.trans (HB1.out.mono HB0.out.size)⟩
theorem first15_walk {SB : World → Nat → Nat → Sd → Prop} (api : Api SB) (r bu ro : Int) (a : Option Addr) (n c : Nat) (zs : List Int) (w : World) (hi : IsRow .i64 w a n c zs) :
    Calls Try.prog 4 #[.agg #[.int .i64 r, .int .i64 bu, .int .i64 ro], .slice a n c] w (Yes15 w) := by
  have hnu : Nm w a n (fun i => zs.getD i 0) := by
    rcases hi.at_ with h | ⟨h0, b, off, e, ha⟩
    · exact .inl h
    · exact .inr ⟨b, off, e, World.block_lt_of_cell? w _ (ha.cell 0 h0), fun i hi => ha.cell i hi⟩
  by_cases h : r < 1 ∨ 100000 < r ∨ bu < 1 ∨ 100000 < bu ∨ 100 < n
  · exact first15_bad api r bu ro a n c h w
  · exact first15_good api r bu ro a n c _ (by omega) (by omega) (by omega) (by omega) (by omega) w hnu
end Go.Proofs.Ytblnmddphichgaa.Mp
