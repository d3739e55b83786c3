/-
  Own text: a key that waits, in plain numbers; law TimerComes, walked.
-/
import Derived.Test.YthkckgdhaihmoaaTmK
namespace Go.Proofs.Ythkckgdhaihmoaa
open Go.RowKit

/-- Numbers that came in. -/
def Ints11 (w : World) (a : Option Addr) (n : Nat) (P : Nat → Int) : Prop := n = 0 ∨ ∃ b off, a = some ⟨b, off, none⟩ ∧ b < w.heap.size ∧ ∀ i, i < n → w.cell? ⟨b, off + i, none⟩ = some (.int .i64 (P i))
theorem Ints11.below {w w' : World} {a : Option Addr} {n B : Nat} {P : Nat → Int} (h : Ints11 w a n P) (hb : Below B w w') (hB : w.heap.size ≤ B) : Ints11 w' a n P :=
  h.imp id fun ⟨g, off, e, hl, hc⟩ => ⟨g, off, e, Nat.lt_of_lt_of_le hl hb.size, fun i hi => (hb.cell (p := ⟨g, off + i, none⟩) (by show g < B; omega)).trans (hc i hi)⟩
theorem isrow_ints11 {w : World} {a : Option Addr} {len cap : Nat} {zs : List Int} (h : IsRow .i64 w a len cap zs) : Ints11 w a len (fun i => zs.getD i 0) := by
  rcases h.at_ with h0 | ⟨h0, b, off, e, g⟩
  · exact .inl h0
  · refine .inr ⟨b, off, e, ?_, fun i hi => g.cell i hi⟩
    have c := g.cell 0 h0
    rcases Nat.lt_or_ge b w.heap.size with g | g
    · exact g
    · simp [World.cell?, Array.getElem?_eq_none g] at c
/-- A key that is due in t behind q, when G have gone by. -/
structure Wait (q t k : Int) (S : Qn) (G : Int) : Prop where
  fit : S.fit
  now : S.now = q + G
  g0 : 0 ≤ G
  run : G < t → ∃ x ∈ S.l, x.key = k ∧ x.due = q + t
  gone : t ≤ G → ∀ x ∈ S.l, x.key ≠ k
theorem Wait.start {Q : Qn} (h : Q.fit) {k t : Int} (hc : Q.code k t = 0) : Wait Q.now t k (Q.start k t) 0 := by
  obtain ⟨h1, _, _⟩ := Qn.code_ok hc
  have e : (Q.start k t).l = ins ⟨k, Q.now + t⟩ (cutK k Q.l) := by unfold Qn.start; rw [if_pos hc]
  refine ⟨Qn.start_fit h k t, by rw [(Q.start_room k t).2]; omega, Int.le_refl _, fun _ => ⟨⟨k, Q.now + t⟩, ?_, rfl, rfl⟩, fun h2 => by omega⟩
  rw [e]
  exact mem_ins _ (.inl rfl)
/-- Keys differ: what has the key is the one. -/
theorem one_key {l : List It} (h : l.Pairwise (fun a b => a.key ≠ b.key)) {x y : It} (hx : x ∈ l) (hy : y ∈ l) (e : x.key = y.key) : x = y := by
  obtain ⟨i, hi, rfl⟩ := List.getElem_of_mem hx
  obtain ⟨j, hj, rfl⟩ := List.getElem_of_mem hy
  rw [List.pairwise_iff_getElem] at h
  rcases Nat.lt_trichotomy i j with g | g | g
  · exact absurd e (h i j hi hj g)
  · subst g; rfl
  · exact absurd e.symm (h j i hj hi g)
theorem Wait.tick {q t k : Int} {S : Qn} {G : Int} (h : Wait q t k S G) {p : Int} (hp : 0 ≤ p) (hb : q + G + p ≤ 1099511627776) :
    Wait q t k (S.tick p) (G + p) ∧ (k ∈ S.came p ↔ G < t ∧ t ≤ G + p) := by
  have hm : adv S.now p = q + (G + p) := by
    unfold adv
    rw [h.now]
    split
    · omega
    · split <;> omega
  have hl : (S.tick p).l = S.l.drop (dpos (q + (G + p)) S.l) := by unfold Qn.tick; rw [hm]
  have hc : S.came p = (S.l.take (dpos (q + (G + p)) S.l)).map (fun x => x.key) := by unfold Qn.came; rw [hm]
  obtain ⟨p1, p2⟩ := due_take (d := q + (G + p)) (l := S.l) h.fit.sorted
  have hcm : k ∈ S.came p ↔ ∃ x ∈ S.l, x.due ≤ q + (G + p) ∧ x.key = k := by
    rw [hc, ← p1, List.mem_map]
    constructor
    · rintro ⟨x, hx, e⟩
      obtain ⟨a, b⟩ := List.mem_filter.1 hx
      exact ⟨x, a, by simpa using b, e⟩
    · rintro ⟨x, hx, e1, e2⟩
      exact ⟨x, List.mem_filter.2 ⟨hx, by simpa using e1⟩, e2⟩
  have hst : ∀ x, x ∈ (S.tick p).l ↔ x ∈ S.l ∧ q + (G + p) < x.due := fun x => by
    rw [hl, ← p2, List.mem_filter]
    simp
  have g0 := h.g0
  refine ⟨⟨Qn.tick_fit h.fit p, hm, by omega, fun hlt => ?_, fun hge x hx => ?_⟩, ?_⟩
  · obtain ⟨x, hx, e1, e2⟩ := h.run (by omega)
    exact ⟨x, (hst x).2 ⟨hx, by omega⟩, e1, e2⟩
  · obtain ⟨a, b⟩ := (hst x).1 hx
    rcases Int.lt_or_le G t with hG | hG
    · obtain ⟨y, hy, e1, e2⟩ := h.run hG
      intro e
      have := one_key h.fit.apart a hy (e.trans e1.symm)
      subst this
      omega
    · exact h.gone hG x a
  · rw [hcm]
    constructor
    · rintro ⟨x, hx, e1, e2⟩
      rcases Int.lt_or_le G t with hG | hG
      · obtain ⟨y, hy, f1, f2⟩ := h.run hG
        have := one_key h.fit.apart hx hy (e2.trans f1.symm)
        subst this
        exact ⟨hG, by omega⟩
      · exact absurd e2 (h.gone hG x hx)
    · rintro ⟨a, b⟩
      obtain ⟨y, hy, f1, f2⟩ := h.run a
      exact ⟨y, hy, by omega, f1⟩
/-- Whether a key is among the first so many. -/
def inK (k : Int) (L : List Int) (j : Nat) : Bool := (L.take j).any (fun z => z == k)
theorem inK_step (k : Int) (L : List Int) (j : Nat) (z : Int) (h : L[j]? = some z) : inK k L (j + 1) = (inK k L j || (z == k)) := by
  unfold inK
  rw [List.take_add_one, h, List.any_append]
  simp
theorem inK_all (k : Int) (L : List Int) : inK k L L.length = decide (k ∈ L) := by
  unfold inK
  rw [List.take_length]
  by_cases h : k ∈ L
  · rw [decide_eq_true h, List.any_eq_true]
    exact ⟨k, h, by simp⟩
  · rw [decide_eq_false h, List.any_eq_false]
    intro z hz e
    simp at e
    subst e
    exact h hz
theorem played20_skip (a : Option Addr) (n c : Nat) (h : 80 < n) (w : World) : Calls Try.prog 8 #[.int .i64 20, .slice a n c] w (Went0 20 w) := played11_skip 20 a n c (.inr (.inr h)) w
theorem played20_any (a : Option Addr) (n c : Nat) (hn : n ≤ 80) (K N V : Nat → Int) (w : World) (ho : Ops w a n K N V) :
    Calls Try.prog 8 #[.int .i64 20, .slice a n c] w fun x W => ∃ b Q D C2, x = .returned (.tuple #[.pointer (some ⟨b, 0, none⟩), DV Q.room Q.now D Q.l.length C2, .bool true]) ∧ Hid (Q.fit ∧ Q.room = 20) ∧ Hid (Fin11 w b Q D C2 W) := played11_any 20 (by omega) (by omega) a n c hn K N V w ho
set_option maxRecDepth 100000 in
theorem comes_skip (a : Option Addr) (n c : Nat) (h : 80 < n) (k t : Int) (a2 : Option Addr) (n2 c2 : Nat) (w : World) :
    Calls Try.prog 13 #[.slice a n c, .int .i64 k, .int .i64 t, .slice a2 n2 c2] w (Yes11 w) := by
  have CP := Lib.hid (played20_skip a n c h)
  clear h
  go_enter Try.func13, Try.ntmps13
  go_wp2_with (first
    | (go_at_call 8; (with_reducible refine (CP.out _).mono ?_); rintro e w2 ⟨rfl, hb⟩; have HB2 := Lib.hid hb; clear hb)
    | fail)
  go_ret
  exact ⟨rfl, HB2.out.alloc HB2.out.size _⟩
set_option maxRecDepth 100000 in
set_option maxHeartbeats 4000000 in
theorem comes_go (a : Option Addr) (n c : Nat) (hn : n ≤ 80) (K N V : Nat → Int) (k t : Int) (a2 : Option Addr) (n2 c2 : Nat) (P : Nat → Int) (w : World) (ho : Ops w a n K N V) (hi : Ints11 w a2 n2 P) :
    Calls Try.prog 13 #[.slice a n c, .int .i64 k, .int .i64 t, .slice a2 n2 c2] w (Yes11 w) := by
  have CP := Lib.hid (played20_any a n c hn K N V w ho)
  have HI := Lib.hid hi
  clear hn ho hi
  go_enter Try.func13, Try.ntmps13
  go_upto_region 2 with (first
    | (go_at_call 8; (with_reducible refine (CP.out).mono ?_); rintro e w2 ⟨b, Q, D, C2, rfl, HF, HN⟩; unfold DV)
    | fail)
  obtain ⟨A, C, h2, hb2⟩ := HN.out
  obtain ⟨W3, hW3⟩ : ∃ W3, W3 = w2.alloc (.cells #[.int .i64 (Q.room : Int), .int .i64 Q.now, .slice D Q.l.length C2] 27) := ⟨_, rfl⟩
  rw [← hW3]
  have hb3 : Below w2.heap.size w2 W3 := by rw [hW3]; exact (Below.refl _ _).alloc (Nat.le_refl _) _
  have hx3 : DBx W3 w2.heap.size Q.room Q.now (.slice D Q.l.length C2) := by rw [hW3]; exact DBx.new w2 _ _ _
  have h3 := h2.below hb3
  have HBW : Hid (Below w.heap.size w W3) := Lib.hid (hb2.trans (hb3.mono hb2.size))
  have HFR : Hid (From W3 (w.heap.size + 2) b Q) := Lib.hid ⟨A, C, h3.qb, h3.hb, h3.hw, h3.hA⟩
  obtain ⟨d0, d1, d2⟩ := hx3.cells
  clear hW3 hb3 hx3 h3 h2 hb2 HN CP
  by_cases g1 : t < 1
  · go_wp2
    go_ret
    exact ⟨rfl, HBW.out⟩
  · by_cases g2 : 1000000 < t
    · go_wp2
      go_ret
      exact ⟨rfl, HBW.out⟩
    · by_cases g3 : 40 < n2
      · have g3' : (40 : Int) < (n2 : Int) := by omega
        clear g3
        go_wp2
        go_ret
        exact ⟨rfl, HBW.out⟩
      · have g3' : ¬ (40 : Int) < (n2 : Int) := by omega
        by_cases g4 : 549755813888 < Q.now
        · clear g3
          go_wp2
          go_ret
          exact ⟨rfl, HBW.out⟩
        · have HNOW : Hid (0 ≤ Q.now ∧ Q.now ≤ 549755813888) := Lib.hid ⟨HF.out.1.now0, by omega⟩
          have HN2 : Hid (n2 ≤ 40) := Lib.hid (by omega)
          have HT : Hid (1 ≤ t ∧ t ≤ 1000000) := Lib.hid ⟨by omega, by omega⟩
          by_cases hc : Q.code k t = 0
          · have CS := Lib.hid (start_from k t (w.heap.size + 2) b Q HF.out.1 W3 HFR.out)
            have HW0 := Lib.hid (Wait.start (k := k) HF.out.1 hc)
            rw [hc] at CS
            obtain ⟨q, hq⟩ : ∃ q, q = Q.now := ⟨_, rfl⟩
            rw [← hq] at HW0 HNOW
            have HBB : Hid (Below (w.heap.size + 2) W3 W3) := Lib.hid (Below.refl _ _)
            clear hc hq g3
            go_wp2_with (first
              | (go_at_call 15; (with_reducible refine (CS.out).mono ?_); rintro e w4 ⟨rfl, HFR4, hb4⟩; have HB4 := Lib.hid (HBW.out.trans (hb4.out.1.mono (Nat.le_add_right _ 2))))
              | fail)
            clear CS HF HBW HBB HFR hb4 d0 d1 d2 g1 g2 g3' g4
            generalize Q.start k t = S0 at *
            go_loopw [12, 13] (fun gg i wr => ∃ (j : Nat) (G : Int) (S : Qn), gg = .int .i64 G ∧ i = .int .i64 (j : Int) ∧ j ≤ n2 ∧ Hid (G ≤ 1000000 * (j : Int)) ∧ Hid (Wait q t k S G) ∧ Hid (From wr (w.heap.size + 2) b S) ∧ Hid (Below w.heap.size w wr)) (fun _ i _ => n2 - (intOf i).toNat)
            case atStart => exact ⟨0, 0, S0, rfl, rfl, Nat.zero_le _, Lib.hid (by omega), HW0, HFR4, HB4⟩
            case round =>
              obtain ⟨j, G, S, rfl, rfl, hj, HG, HWT, HFS, HBS⟩ := hrel
              obtain ⟨wo, hwo⟩ : ∃ wo, wo = wr := ⟨_, rfl⟩
              subst hwo
              have hn2 := HN2.out
              by_cases hlt : j < n2
              · obtain ⟨g, off, rfl, c0⟩ : ∃ g off, a2 = some ⟨g, off, none⟩ ∧ wo.cell? ⟨g, off + j, none⟩ = some (.int .i64 (P j)) := by
                  rcases HI.out.below HBS.out (Nat.le_refl _) with h | ⟨g, off, e, _, h⟩
                  · omega
                  · exact ⟨g, off, e, h j hlt⟩
                have k1 : (j : Int) < (n2 : Int) := by omega
                have k2 : (n2 : Int) ≤ 40 := by omega
                have HJ : Hid (j + 1 ≤ n2) := Lib.hid (by omega)
                clear hlt hj hn2
                generalize P j = p at *
                by_cases p1 : p < 0
                · go_wp2
                  go_ret
                  exact ⟨rfl, HBS.out⟩
                · by_cases p2 : 1000000 < p
                  · go_wp2
                    go_ret
                    exact ⟨rfl, HBS.out⟩
                  · have g0 := HWT.out.g0
                    have gg := HG.out
                    have b1 : G ≤ 40000000 := by omega
                    obtain ⟨wt1, wt2⟩ := HWT.out.tick (p := p) (by omega) (by have := HNOW.out; omega)
                    have CT := Lib.hid (tick_from p (w.heap.size + 2) b S HWT.out.fit wo HFS.out)
                    obtain ⟨L, hL⟩ : ∃ L, L = S.came p := ⟨_, rfl⟩
                    rw [← hL] at CT wt2
                    have hlen : L.length ≤ 256 := by rw [hL]; unfold Qn.came; rw [List.length_map, List.length_take]; have := HWT.out.fit.len; have := HWT.out.fit.hi; omega
                    have HWT2 := Lib.hid wt1
                    have HIN : Hid (inK k L L.length = decide (G < t ∧ t ≤ G + p)) := Lib.hid (by rw [inK_all]; exact decide_eq_decide.2 wt2)
                    have HLL := Lib.hid hlen
                    have HG2 : Hid (G + p ≤ 1000000 * ((j + 1 : Nat) : Int)) := Lib.hid (by omega)
                    have b2 : p ≤ 1000000 := by omega
                    have b3 : 0 ≤ p := by omega
                    clear wt1 wt2 hL hlen gg HWT HFS
                    generalize S.tick p = S2 at *
                    go_wp2_with (first
                      | (go_at_call 16; (with_reducible refine (CT.out).mono ?_); rintro e w5 ⟨A3, C3, rfl, HO5, HFR5, hb5⟩; have HB5 := Lib.hid (HBS.out.trans (hb5.out.1.mono (Nat.le_add_right _ 2))))
                      | fail)
                    obtain ⟨m, hm⟩ : ∃ m, m = L.length := ⟨_, rfl⟩
                    rw [← hm] at HO5 HIN HLL
                    rw [← hm]
                    have m1 : (m : Int) ≤ 256 := by have := HLL.out; omega
                    have HM := Lib.hid hm
                    clear hm hb5 c0 CT
                    go_loopw [16, 18] (fun cc i wq => ∃ q2 : Nat, q2 ≤ m ∧ cc = .bool (inK k L q2) ∧ i = .int .i64 (q2 : Int) ∧ Hid (wq = w5)) (fun _ i _ => m - (intOf i).toNat)
                    case atStart => exact ⟨0, Nat.zero_le _, rfl, rfl, Lib.hid rfl⟩
                    case round =>
                      obtain ⟨q2, hq2, rfl, rfl, HWQ⟩ := hrel
                      obtain ⟨wx, hwx⟩ : ∃ wx, wx = wr := ⟨_, rfl⟩
                      subst hwx
                      have ew : wx = w5 := HWQ.out
                      subst ew
                      by_cases hlt : q2 < m
                      · obtain ⟨g', rfl, _, _, e0, _⟩ := HO5.out.at_ q2 hlt
                        have hst := inK_step k L q2 (L.getD q2 0) (by rw [List.getD_eq_getElem?_getD, List.getElem?_eq_getElem (by have := HM.out; omega)]; rfl)
                        have l1 : (q2 : Int) < (m : Int) := by omega
                        have HLT := Lib.hid hlt
                        have HST := Lib.hid hst
                        clear hst
                        generalize L.getD q2 0 = z at *
                        cases hb : inK k L q2 with
                        | true =>
                          have e1 : inK k L (q2 + 1) = true := by rw [HST.out, hb]; rfl
                          have HE1 := Lib.hid e1
                          clear e1 hb
                          go_wp2
                          go_roundw
                          case rel => exact ⟨q2 + 1, HLT.out, by rw [HE1.out], by go_num, Lib.hid True.intro⟩
                          case measure => simp [intOf] <;> (have := HLT.out; omega)
                        | false =>
                          have e1 : inK k L (q2 + 1) = (z == k) := by rw [HST.out, hb]; rfl
                          have HE1 := Lib.hid e1
                          clear e1 hb
                          go_wp2
                          go_roundw
                          case rel => exact ⟨q2 + 1, HLT.out, by rw [HE1.out], by go_num, Lib.hid True.intro⟩
                          case measure => simp [intOf] <;> (have := HLT.out; omega)
                      · obtain rfl : q2 = m := by omega
                        obtain ⟨f, hf⟩ : ∃ f, f = inK k L q2 := ⟨_, rfl⟩
                        rw [← hf]
                        have hin := HIN.out
                        rw [← hf] at hin
                        clear hf hq2
                        by_cases h1 : G < t
                        · by_cases h2 : t ≤ G + p
                          · have ef : f = true := by rw [hin]; exact decide_eq_true ⟨h1, h2⟩
                            clear hin
                            subst ef
                            go_wp2
                            go_roundw
                            case rel => exact ⟨j + 1, G + p, S2, rfl, by go_num, HJ.out, HG2, HWT2, HFR5, HB5⟩
                            case measure => simp [intOf] <;> (have := HJ.out; omega)
                          · have ef : f = false := by rw [hin]; exact decide_eq_false (fun h => h2 h.2)
                            clear hin
                            subst ef
                            go_wp2
                            go_roundw
                            case rel => exact ⟨j + 1, G + p, S2, rfl, by go_num, HJ.out, HG2, HWT2, HFR5, HB5⟩
                            case measure => simp [intOf] <;> (have := HJ.out; omega)
                        · have ef : f = false := by rw [hin]; exact decide_eq_false (fun h => h1 h.1)
                          clear hin
                          subst ef
                          go_wp2
                          go_roundw
                          case rel => exact ⟨j + 1, G + p, S2, rfl, by go_num, HJ.out, HG2, HWT2, HFR5, HB5⟩
                          case measure => simp [intOf] <;> (have := HJ.out; omega)
              · obtain rfl : j = n2 := by omega
                clear hn2
                go_wp2
                go_ret
                exact ⟨rfl, HBS.out⟩
          · have hf := HF.out.1
            have hcode : Q.code k t = 2 ∧ Q.l.length = 20 := by
              unfold Qn.code at hc ⊢
              rw [if_neg (by have := HT.out; omega)] at hc ⊢
              split at hc
              · rename_i h
                rw [if_pos h]
                exact ⟨rfl, h.2.trans HF.out.2⟩
              · omega
            have hst : Q.start k t = Q := by unfold Qn.start; rw [if_neg hc]
            have CS := Lib.hid (start_from k t (w.heap.size + 2) b Q hf W3 HFR.out)
            rw [hcode.1, hst] at CS
            have HLN := Lib.hid hcode.2
            clear hf hc hcode hst g3
            go_wp2_with (first
              | (go_at_call 15; (with_reducible refine (CS.out).mono ?_); rintro e w4 ⟨rfl, HFR4, hb4⟩; have HB4 := Lib.hid (HBW.out.trans (hb4.out.1.mono (Nat.le_add_right _ 2))); have CLN := Lib.hid (len_from _ b Q w4 HFR4.out))
              | (go_at_call 22; (with_reducible refine (CLN.out).mono ?_); rintro e w5 ⟨rfl, rfl⟩; rw [HLN.out])
              | fail)
            go_ret
            exact ⟨rfl, HB4.out⟩
end Go.Proofs.Ythkckgdhaihmoaa
