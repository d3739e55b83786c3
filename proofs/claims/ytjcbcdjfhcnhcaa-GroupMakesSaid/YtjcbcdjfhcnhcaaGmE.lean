/-
  Own text: layer 17 (group): All, walked.
-/
import Derived.Test.YtjcbcdjfhcnhcaaGmB
namespace Go.Proofs.Ytjcbcdjfhcnhcaa
open Go.RowKit

set_option maxRecDepth 100000 in
theorem sclone_any (A : Option Addr) (n C base : Nat) (l : List Value) (w : World) (h : OwnS w base (.slice A n C) n l) (h0 : 0 < n) (hn : n ≤ 1000) (h1 : ∀ u ∈ l, u.oneCell' = true) :
    Calls Try.prog 36 #[.slice A n C] w fun e w' => ∃ A' C', e = .returned (.slice A' n C') ∧ Hid (OwnS w' w.heap.size (.slice A' n C') n l ∧ Below w.heap.size w w') := by
  have HB0 : Hid (Below w.heap.size w (w.alloc (.cells #[] 42))) := Lib.hid ((Below.refl _ w).alloc (Nat.le_refl _) _)
  have HL : Hid (OwnS (w.alloc (.cells #[] 42)) base (.slice A n C) n l) := Lib.hid ⟨h.1, h.2.imp id fun ⟨g, cap, cur, e, hb, hg, h3⟩ => ⟨g, cap, cur, e, hb, (Below.heap_alloc w _ g (Array.getElem?_eq_some_iff.1 hg).1).trans hg, h3⟩⟩
  have q : ∀ (w : World) (a : Option Addr) (n c n' c' : Nat), (binOp .eql 26 (.slice a n c) (.slice none n' c')).run Try.prog w = .ok (.bool a.isNone) w := fun w a n c n' c' => Lib.run_eql_slice_nil w _ _ a n c n' c' Try.underlying26
  have HW := Lib.hid (OwnS.lit w w.heap.size (Nat.le_refl _))
  have H1 := Lib.hid h1
  have H6 : Hid (0 + n ≤ 100000) := Lib.hid (by omega)
  have H7 : Hid (w.heap.size ≤ (w.alloc (.cells #[] 42)).heap.size) := Lib.hid (by simp)
  have H8 : Hid (n = 0 + n) := Lib.hid (by omega)
  obtain ⟨g, rfl⟩ : ∃ g, A = some g := by
    rcases h.2 with ⟨_, e⟩ | ⟨g, cap, cur, e, _⟩
    · omega
    · simp only [Value.slice.injEq] at e
      exact ⟨_, e.1⟩
  clear h h1
  go_enter Try.func36, Try.ntmps36
  go_wp2_with ((with_reducible refine wpList_append_ss (w := w.alloc _) rfl (.tmp 5) (.tmp 6) rfl w.heap.size _ _ _ rfl [] HW.out base _ _ _ rfl l HL.out H1.out H6.out H7.out n H8.out l rfl ?_); intro A' C' w1 N1 N2 N3)
  go_ret
  exact ⟨_, _, rfl, Lib.hid ⟨N1.out, HB0.out.trans ((Below.refl w.heap.size _).grown N2.out H7.out (fun k e => by cases e; exact Nat.le_refl _))⟩⟩
/-- A row of shards, each of two bytes: some are of this call's own, the others are those of before. -/
structure Cp (w : World) (base : Nat) (v : Value) (n : Nat) (G : Nat → Nat → Nat) : Prop where
  own : ∃ l, OwnS w base v n l ∧ ∀ i, i < n → ∃ g o c, l[i]? = some (.slice (some ⟨g, o, none⟩) 2 c) ∧ 2 ≤ c ∧ c ≤ maxLen ∧ Rw w g o (G i)
theorem Cp.of {w : World} {base n : Nat} {v : Value} {l : List Value} {G : Nat → Nat → Nat} (h : OwnS w base v n l) (h2 : ∀ i, i < n → ∃ g o c, l[i]? = some (.slice (some ⟨g, o, none⟩) 2 c) ∧ 2 ≤ c ∧ c ≤ maxLen ∧ Rw w g o (G i)) : Cp w base v n G := ⟨l, h, h2⟩
theorem Cp.keep {w w' : World} {base n : Nat} {v : Value} {G : Nat → Nat → Nat} (h : Cp w base v n G) (hk : ∀ (k : Nat) (C : Array Value) (t : TypeId), w.heap[k]? = some (Obj.cells C t (0, 0)) → t = 42 ∨ t = 5 → w'.heap[k]? = w.heap[k]?) : Cp w' base v n G := by
  obtain ⟨l, h1, h2⟩ := h.own
  refine ⟨l, ⟨h1.1, h1.2.imp id ?_⟩, fun i hi => ?_⟩
  · rintro ⟨g, cap, cur, e, hb, hg, h3⟩
    exact ⟨g, cap, cur, e, hb, (hk g _ _ hg (.inl rfl)).trans hg, h3⟩
  · obtain ⟨g, o, c, e1, e2, e3, e4⟩ := h2 i hi
    obtain ⟨cur, hm⟩ := e4.1
    exact ⟨g, o, c, e1, e2, e3, e4.keep (hk g _ _ hm (.inr rfl))⟩
theorem Cp.below {w w' : World} {base n B : Nat} {v : Value} {G : Nat → Nat → Nat} (h : Cp w base v n G) (hb : Below B w w') (hB : w.heap.size ≤ B) : Cp w' base v n G :=
  h.keep fun k _ _ hg _ => hb.block k (Nat.lt_of_lt_of_le (Array.getElem?_eq_some_iff.1 hg).1 hB)
/-- The i-th one, where it lies. -/
theorem Cp.at_ {w : World} {base n C : Nat} {A : Option Addr} {G : Nat → Nat → Nat} (h : Cp w base (.slice A n C) n G) (i : Nat) (hi : i < n) : ∃ b, A = some ⟨b, 0, none⟩ ∧ base ≤ b ∧ b < w.heap.size ∧ n ≤ C ∧ C ≤ maxLen ∧ w.frozen? ⟨b, i, none⟩ = false ∧ (∃ cur : Array Value, w.heap[b]? = some (.cells cur 42 (0, 0))) ∧ ∃ g o c, w.cell? ⟨b, i, none⟩ = some (.slice (some ⟨g, o, none⟩) 2 c) ∧ 2 ≤ c ∧ c ≤ maxLen ∧ Rw w g o (G i) := by
  obtain ⟨l, h1, h2⟩ := h.own
  rcases h1.2 with ⟨_, e⟩ | ⟨b, cap, cur, e, hb, hg, h3, h4, _⟩
  · omega
  · simp only [Value.slice.injEq, true_and] at e
    obtain ⟨rfl, rfl⟩ := e
    obtain ⟨g, o, c, e1, e2, e3, e4⟩ := h2 i hi
    have hl : l.length = n := by have := h1.1; simpa using this
    refine ⟨b, rfl, hb, (Array.getElem?_eq_some_iff.1 hg).1, h3, h4, World.ownsRow.frozenAt h1 i, ⟨cur, hg⟩, g, o, c, ?_, e2, e3, e4⟩
    rw [World.ownsRow.cellAt h1 i (by omega)]
    exact e1
theorem Cp.at17 {w : World} {base n C : Nat} {A : Option Addr} {G : Nat → Nat → Nat} (h : Cp w base (.slice A n C) n G) (i : Nat) (hi : i < n) : At17 w A i (G i) := by
  obtain ⟨b, rfl, _, hb, _, _, _, _, g, o, c, h1, h2, h3, h4⟩ := h.at_ i hi
  exact ⟨b, 0, g, o, c, rfl, by rw [Nat.zero_add]; exact h1, h2, h3, h4, hb⟩
/-- Another one in its place. -/
theorem Cp.set {w : World} {base n C b : Nat} {G : Nat → Nat → Nat} (h : Cp w base (.slice (some ⟨b, 0, none⟩) n C) n G) (i : Nat) (hi : i < n) (g o c : Nat) (h2 : 2 ≤ c) (h3 : c ≤ maxLen) (h4 : Rw w g o (G i)) : Cp (w.setCell ⟨b, i, none⟩ (.slice (some ⟨g, o, none⟩) 2 c)) base (.slice (some ⟨b, 0, none⟩) n C) n G := by
  obtain ⟨b', e, _, _, _, _, _, ⟨cur, hcur⟩, _⟩ := h.at_ i hi
  simp only [Option.some.injEq, Addr.mk.injEq, and_true] at e
  subst e
  obtain ⟨l, h1, h5⟩ := h.own
  have hl : l.length = n := by have := h1.1; simpa using this
  have hr : ∀ {g o : Nat} {f : Nat → Nat}, Rw w g o f → Rw (w.setCell ⟨b, i, none⟩ (.slice (some ⟨g, o, none⟩) 2 c)) g o f ∧ g ≠ b := fun {g o f} hx => by
    obtain ⟨⟨cu, hc⟩, _⟩ := id hx
    have hne : g ≠ b := by
      rintro rfl
      rw [hcur] at hc
      simp only [Option.some.injEq, Obj.cells.injEq] at hc
      exact absurd hc.2.1 (by decide)
    exact ⟨hx.keep (Below.heap_setCell _ _ _ _ hne), hne⟩
  refine ⟨l.set i (.slice (some ⟨g, o, none⟩) 2 c), (World.ownsRow.stored h1 i (.slice (some ⟨g, o, none⟩) 2 c)).1, fun j hj => ?_⟩
  by_cases e : j = i
  · subst e
    exact ⟨g, o, c, by rw [List.getElem?_set_self (by omega)], h2, h3, h4.keep (Below.heap_setCell _ _ _ _ (hr h4).2)⟩
  · obtain ⟨g', o', c', e1, e2, e3, e4⟩ := h5 j hj
    exact ⟨g', o', c', by rw [List.getElem?_set_ne (fun h => e h.symm)]; exact e1, e2, e3, e4.keep (Below.heap_setCell _ _ _ _ (hr e4).2)⟩
end Go.Proofs.Ytjcbcdjfhcnhcaa
namespace Go.Proofs.Ytjcbcdjfhcnhcaa
open Go.RowKit

theorem Shs.cp {w : World} {base n : Nat} {v : Value} {G : Nat → Nat → Nat} (h : Shs w base v n G) : Cp w base v n G := by
  obtain ⟨l, h1, h2⟩ := h
  refine ⟨l, h1, fun i hi => ?_⟩
  obtain ⟨g, off, N, d, e1, e2, e3, _, e5⟩ := h2 i hi
  exact ⟨g, off, 2, e1, Nat.le_refl _, by unfold maxLen; omega, Rw.dat e2 e3 e5⟩
theorem Cp.list {w : World} {base n : Nat} {v : Value} {G : Nat → Nat → Nat} (h : Cp w base v n G) : ∃ l, OwnS w base v n l ∧ (∀ u ∈ l, u.oneCell' = true) ∧ ∀ i, i < n → ∃ g o c, l[i]? = some (.slice (some ⟨g, o, none⟩) 2 c) ∧ 2 ≤ c ∧ c ≤ maxLen ∧ Rw w g o (G i) := by
  obtain ⟨l, h1, h2⟩ := h.own
  have hl : l.length = n := by have := h1.1; simpa using this
  refine ⟨l, h1, fun u hu => ?_, h2⟩
  obtain ⟨i, hi⟩ := List.mem_iff_getElem?.1 hu
  obtain ⟨g, o, c, e, _⟩ := h2 i (by have := (List.getElem?_eq_some_iff.1 hi).1; omega)
  rw [hi] at e
  simp only [Option.some.injEq] at e
  rw [e]
  rfl
theorem OwnS.low17 {w : World} {base b n : Nat} {v : Value} {l : List Value} (h : OwnS w base v n l) (hb : b ≤ base) : OwnS w b v n l :=
  ⟨h.1, h.2.imp id fun ⟨g, cap, cur, e, h3, h4⟩ => ⟨g, cap, cur, e, Nat.le_trans hb h3, h4⟩⟩
set_option maxRecDepth 100000 in
set_option maxHeartbeats 2000000 in
theorem gall_any (no fst k m : Int) (A : Option Addr) (n C base : Nat) (G : Nat → Nat → Nat) (w : World) (h : Shs w base (.slice A n C) n G) (h0 : 0 < n) (hn : n ≤ 1000) :
    Calls Try.prog 13 #[.agg #[.int .u32 no, .int .u32 fst, .int .i64 k, .int .i64 m, .slice A n C]] w fun e w' => ∃ p A' C', e = .returned (.func (.func 38) #[] #[.pointer (some ⟨p, 0, none⟩)]) ∧ Hid (w.heap.size ≤ p ∧ B5 28 w' p (.int .u32 no) (.int .u32 fst) (.int .i64 k) (.int .i64 m) (.slice A' n C') ∧ Cp w' w.heap.size (.slice A' n C') n G ∧ Below w.heap.size w w') := by
  obtain ⟨l, hl1, hl2, hl3⟩ := h.cp.list
  obtain ⟨W, hW⟩ : ∃ W, W = w.alloc (.cells #[.int .u32 no, .int .u32 fst, .int .i64 k, .int .i64 m, .slice A n C] 28) := ⟨_, rfl⟩
  have h1 : B5 28 W w.heap.size (.int .u32 no) (.int .u32 fst) (.int .i64 k) (.int .i64 m) (.slice A n C) := by rw [hW]; exact B5.new _ _ _ _ _ _ _
  have HB : Hid (Below w.heap.size w W) := Lib.hid (by rw [hW]; exact (Below.refl w.heap.size w).alloc (Nat.le_refl _) _)
  have hlW : OwnS W base (.slice A n C) n l := ⟨hl1.1, hl1.2.imp id fun ⟨g, cap, cur, e, hb, hg, h3⟩ => ⟨g, cap, cur, e, hb, (HB.out.block g (Array.getElem?_eq_some_iff.1 hg).1).trans hg, h3⟩⟩
  have HCL := Lib.hid (sclone_any A n C base l W hlW h0 hn hl2)
  have HR : Hid (∀ u, Below w.heap.size w u → ∀ i, i < n → ∃ g o c, l[i]? = some (.slice (some ⟨g, o, none⟩) 2 c) ∧ 2 ≤ c ∧ c ≤ maxLen ∧ Rw u g o (G i)) := Lib.hid (fun u hu i hi => by
    obtain ⟨g, o, c, e1, e2, e3, e4⟩ := hl3 i hi
    exact ⟨g, o, c, e1, e2, e3, e4.below hu (Nat.le_refl _)⟩)
  have H1 := Lib.hid h1
  obtain ⟨x0, x1, x2, x3, x4⟩ := h1.cells
  have f4 := h1.frozen 4
  have HN : Hid (0 < n ∧ n ≤ 1000) := Lib.hid ⟨h0, hn⟩
  have j0 : (n : Int) ≤ 1000 := by omega
  clear h h1 hlW hl1 hl2 hl3 h0
  go_enter Try.func13, Try.ntmps13
  go_upto_region 1 with fail
  rw [← hW]
  clear hW
  go_upto_region 2 with (first
    | (go_at_call 36; (with_reducible refine HCL.out.mono ?_); rintro e w1 ⟨A1, C1, rfl, N1⟩; have HB1 := Lib.hid (H1.out.below N1.out.2 H1.out.lt); obtain ⟨y0, y1, y2, y3, y4⟩ := HB1.out.cells; have fr4 := HB1.out.frozen 4)
    | fail "arm")
  have HB2 := Lib.hid (HB1.out.set4 (.slice A1 n C1))
  have HC2 : Hid (Cp (w1.setCell ⟨w.heap.size, 4, none⟩ (.slice A1 n C1)) w.heap.size (.slice A1 n C1) n G) := Lib.hid ((Cp.of (OwnS.low17 N1.out.1 HB.out.size) (HR.out w1 (HB.out.trans (N1.out.2.mono HB.out.size)))).keep (fun q cu t hq ht => Below.heap_setCell _ _ _ _ (fun e => by
    rw [e, HB1.out] at hq
    simp only [Option.some.injEq, Obj.cells.injEq] at hq
    rcases ht with rfl | rfl
    · exact absurd hq.2.1 (by decide)
    · exact absurd hq.2.1 (by decide))))
  have HE2 : Hid (Below w.heap.size w (w1.setCell ⟨w.heap.size, 4, none⟩ (.slice A1 n C1))) := Lib.hid ((HB.out.trans (N1.out.2.mono HB.out.size)).setCell (p := ⟨w.heap.size, 4, none⟩) (Nat.le_refl _) _)
  generalize w1.setCell ⟨w.heap.size, 4, none⟩ (.slice A1 n C1) = w2 at *
  clear HB1 y0 y1 y2 y3 y4 fr4 N1 x0 x1 x2 x3 x4 f4 H1 HCL HR
  obtain ⟨b, rfl, hbw, _⟩ := HC2.out.at_ 0 HN.out.1
  have HBW := Lib.hid hbw
  clear hbw
  obtain ⟨y0, y1, y2, y3, y4⟩ := HB2.out.cells
  go_wp2
  clear y0 y1 y2 y3 y4
  go_loopw [3, 4, 12] (fun _ _ i wr => ∃ q : Nat, q ≤ n ∧ i = .int .i64 q ∧ Hid (B5 28 wr w.heap.size (.int .u32 no) (.int .u32 fst) (.int .i64 k) (.int .i64 m) (.slice (some ⟨b, 0, none⟩) n C1)) ∧ Hid (Cp wr w.heap.size (.slice (some ⟨b, 0, none⟩) n C1) n G) ∧ Hid (Below w.heap.size w wr)) (fun _ _ i _ => n - (intOf i).toNat)
  case atStart => exact ⟨0, by omega, rfl, HB2, HC2, HE2⟩
  case round =>
    clear HB2 HC2 HE2
    obtain ⟨q, hq, rfl, HX, HC, HE⟩ := hrel
    obtain ⟨wo, ho⟩ : ∃ wo, wo = wr := ⟨_, rfl⟩
    subst ho
    by_cases hlt : q < n
    · obtain ⟨b', e, _, hbl, hnC, hCm, hfr, ⟨cur, hcur⟩, g, o, c, hc, hc2, hcm, hrw⟩ := HC.out.at_ q hlt
      simp only [Option.some.injEq, Addr.mk.injEq, and_true] at e
      subst e
      have HNE : Hid (w.heap.size ≠ b) := Lib.hid (fun e => by
        rw [← e, HX.out] at hcur
        simp only [Option.some.injEq, Obj.cells.injEq] at hcur
        exact absurd hcur.2.1 (by decide))
      have HS : Hid (∀ u, Below wo.heap.size wo u → u.cell? ⟨w.heap.size, 4, none⟩ = some (.slice (some ⟨b, 0, none⟩) n C1) ∧ u.cell? ⟨b, q, none⟩ = some (.slice (some ⟨g, o, none⟩) 2 c) ∧ u.frozen? ⟨b, q, none⟩ = false) := Lib.hid (fun u hu => by
        obtain ⟨b', e, _, _, _, _, hfr', _⟩ := (HC.out.below hu (Nat.le_refl _)).at_ q hlt
        simp only [Option.some.injEq, Addr.mk.injEq, and_true] at e
        subst e
        exact ⟨(HX.out.below hu HX.out.lt).cells.2.2.2.2, (hu.cell (p := ⟨b, q, none⟩) hbl).trans hc, hfr'⟩)
      have HBC := Lib.hid (fun u (hu : Below wo.heap.size wo u) => bclone2_any g o c (G q) u (hrw.below hu (Nat.le_refl _)) hc2)
      have HQ : Hid (q < n ∧ c ≤ maxLen) := Lib.hid ⟨hlt, hcm⟩
      have j1 : (0 : Int) ≤ q := by omega
      have j2 : (q : Int) < n := by omega
      have j3 : (q : Int) ≤ 1000 := by omega
      obtain ⟨y4, y5, y6⟩ := HS.out wo (Below.refl _ _)
      clear hbl hfr hcur hc hc2 hcm hrw hCm
      go_upto_region 5 with fail
      clear y4 y5 y6
      have cc : Below wo.heap.size wo wo.drew := (Below.refl _ _).drew
      go_region_held3 (fun u => u.cell? ⟨w.heap.size, 4, none⟩ = some (.slice (some ⟨b, 0, none⟩) n C1))
        (first
          | exact (HS.out _ cc).1
          | exact (World.cell?_of_block (Below.heap_setCell _ _ _ _ HNE.out)).trans (HS.out _ cc).1
          | fail "keep")
        (first
          | (go_at_call 37; (with_reducible refine (HBC.out _ cc).mono ?_); rintro e w3 ⟨g', c', rfl, H3⟩; replace cc := cc.trans (H3.out.2.2.2.2.mono cc.size); obtain ⟨_, z5, z6⟩ := HS.out _ cc)
          | fail "arm")
      clear HS HBC
      have HX3 := Lib.hid ((HX.out.below cc HX.out.lt).keep (Below.heap_setCell w3 ⟨b, q, none⟩ (.slice (some ⟨g', 0, none⟩) 2 c') _ HNE.out))
      have HC3 := Lib.hid ((HC.out.below cc (Nat.le_refl _)).set q HQ.out.1 g' 0 c' H3.out.1 H3.out.2.1 H3.out.2.2.2.1)
      have HE3 := Lib.hid ((HE.out.trans (cc.mono HE.out.size)).setCell (p := ⟨b, q, none⟩) HBW.out (.slice (some ⟨g', 0, none⟩) 2 c'))
      clear cc z5 z6 H3 HX HC HE
      go_wp2
      go_roundw
      case rel => exact ⟨q + 1, HQ.out.1, by go_num, HX3, HC3, HE3⟩
      case measure => simp [intOf]; (have := HQ.out.1; omega)
    · obtain rfl : q = n := by omega
      go_wp2
      go_ret
      exact ⟨w.heap.size, _, _, rfl, Lib.hid ⟨Nat.le_refl _, HX.out, HC.out, HE.out⟩⟩
end Go.Proofs.Ytjcbcdjfhcnhcaa
