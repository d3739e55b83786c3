/-
  Own text: lists of numbers; the document's Pick, swapped: walked.
-/
import Derived.Test.YtipaolkgafhliaaRMul
import Derived.Deep.RegionLaw
namespace Go.Proofs.Ytipaolkgafhliaa
open Go.RowKit

/-- A slice that reads as so many numbers. -/
def Nums (w : World) (a : Option Addr) (n : Nat) (P : Nat → Nat) : Prop := n = 0 ∨ ∃ b off, a = some ⟨b, off, none⟩ ∧ b < w.heap.size ∧ ∀ i, i < n → w.cell? ⟨b, off + i, none⟩ = some (.int .i64 ((P i : Nat) : Int))
theorem Nums.below {w w' : World} {a : Option Addr} {n B : Nat} {P : Nat → Nat} (h : Nums w a n P) (hb : Below B w w') (hB : w.heap.size ≤ B) : Nums w' a n P :=
  h.imp id fun ⟨b, off, e, hl, hc⟩ => ⟨b, off, e, Nat.lt_of_lt_of_le hl hb.size, fun i hi => (hb.cell (p := ⟨b, off + i, none⟩) (by show b < B; omega)).trans (hc i hi)⟩
theorem info_i64 : (Try.prog.info? 3).map (fun i => (i.zero, i.size, i.bytes)) = some (some (.int .i64 0), 1, 8) := by kernel_rfl
/-- Numbers in a slice of the call's own. -/
def OwnI (w : World) (base : Nat) (v : Value) (n : Nat) (l : List Int) : Prop := w.ownsRow base 3 1 v n (l.map (Value.int .i64))
theorem OwnI.none (w : World) (base : Nat) : OwnI w base (.slice none 0 0) 0 [] := ⟨rfl, .inl ⟨rfl, rfl⟩⟩
theorem OwnI.below {w w' : World} {base B : Nat} {v : Value} {n : Nat} {l : List Int} (h : OwnI w base v n l) (hb : Below B w w') (hB : w.heap.size ≤ B) : OwnI w' base v n l := by
  refine ⟨h.1, h.2.imp id ?_⟩
  rintro ⟨g, cap, cur, e, h1, hg, h2⟩
  refine ⟨g, cap, cur, e, h1, ?_, h2⟩
  obtain ⟨h3, _⟩ := Array.getElem?_eq_some_iff.1 hg
  rw [hb.block g (by omega)]
  exact hg
theorem OwnI.nums {w : World} {base n C : Nat} {A : Option Addr} {P : Nat → Nat} (h : OwnI w base (.slice A n C) n (ofF P n)) : Nums w A n P := by
  rcases h.2 with ⟨e, h0⟩ | ⟨g, cap, cur, e, _, hg, _, _, _, _⟩
  · exact .inl h0
  · simp only [Value.slice.injEq, true_and] at e
    obtain ⟨rfl, rfl⟩ := e
    refine .inr ⟨g, 0, rfl, (Array.getElem?_eq_some_iff.1 hg).1, fun i hi => ?_⟩
    have := World.ownsRow.cellAt h i (by omega)
    rw [Nat.zero_add, this, List.getElem?_map]
    have e := ofF_get P n i hi
    rw [List.getD_eq_getElem?_getD, List.getElem?_eq_getElem (by rw [ofF_length]; exact hi)] at e
    rw [List.getElem?_eq_getElem (by rw [ofF_length]; exact hi)]
    simp at e
    simp [e]
theorem wpList_append_int {w : World} {ops : Array Oper} {rest : List Oper} {o : Oper} {a : Act} {Q : Exit → Act → World → Prop} (hgd : o.guard = none) (s x : Operand)
    (ho : o.op = .call { callee := .builtin .append, args := #[s, x], argTypes := #[46, 46] })
    (base : Nat) (dp : Option Addr) (n dC : Nat) (hs : a.eval s = .slice dp n dC) (l : List Int) (hown : OwnI w base (.slice dp n dC) n l)
    (g : Nat) (hx : a.eval x = .slice (some ⟨g, 0, none⟩) 1 1) (z : Int) (hy : w.cell? ⟨g, 0, none⟩ = some (.int .i64 z)) (hb : n + 1 ≤ 100000) (hbase : base ≤ w.heap.size)
    (h : ∀ A C w', OwnI w' base (.slice A (n + 1) C) (n + 1) (l ++ [z]) → Below base w w' → wpList Try.prog ops Q rest (a.put o.dst (.slice A (n + 1) C)) w') :
    wpList Try.prog ops Q (o :: rest) a w := by
  refine wpList_plain hgd fun K hK => ?_
  obtain ⟨i, hi, hzz⟩ := Option.map_eq_some_iff.1 info_i64
  simp only [Prod.mk.injEq] at hzz
  obtain ⟨hz, hsz, hby⟩ := hzz
  refine wp_append_own w s x 46 ho base 3 i (.int .i64 0) 1 8 Try.underlying46 hi hz hsz hby rfl (by omega) _ n _ hs hown ⟨g, 0, none⟩ 1 1 [.int .i64 z] hx rfl ?_ ?_ (by unfold maxLen; omega) (by omega) hbase ?_
  · intro j u hu
    cases j with
    | zero => simp at hu; subst hu; rw [add_any]; exact hy
    | succ j => simp at hu
  · intro u hu
    simp at hu
    subst hu
    rfl
  · intro v' w' h1 h2 _
    have h3 : OwnI w' base v' (n + 1) (l ++ [z]) := by unfold OwnI; rw [List.map_append]; exact h1
    have h4 : ∃ A C, v' = .slice A (n + 1) C := by
      rcases h3.2 with ⟨rfl, h0⟩ | ⟨g, cap, cur, rfl, _⟩
      · omega
      · exact ⟨_, _, rfl⟩
    obtain ⟨A, C, rfl⟩ := h4
    refine hK _ _ (h A C w' h3 (below_grown (Below.refl base w) h2 hbase (fun k hk => ?_)))
    rcases hown.2 with ⟨e, _⟩ | ⟨g, cap, cur, e, h5, _⟩
    · rw [e] at hk; simp [Value.ownBlock] at hk
    · rw [e] at hk; simp [Value.ownBlock] at hk; omega
set_option maxRecDepth 100000 in
set_option maxHeartbeats 4000000 in
theorem rpick_any (r : Int) (R Cn n cap capP : Nat) (hR : R ≤ 255) (hC : Cn ≤ 255) (a aP : Option Addr) (l : List Int) (P : Nat → Nat) (w : World) (ha : Bytes w a n l) (hn : n ≤ 65025) (hP : Nums w aP R P) (hf : ∀ i k, i < R → k < Cn → P i * Cn + k < n) :
    Calls Try.prog 29 #[.agg #[.int .i64 r, .int .i64 Cn, .slice a n cap], .slice aP R capP] w (HandedR R Cn (fun i k => co l (P i * Cn + k)) w) := by
  have HAT : Hid (∀ i k w', i < R → k < Cn → Below w.heap.size w w' → Calls Try.prog 35 #[.agg #[.int .i64 r, .int .i64 Cn, .slice a n cap], .int .i64 ((P i : Nat) : Int), .int .i64 (k : Nat)] w' fun e w'' => e = .returned (.int .u8 (co l (P i * Cn + k))) ∧ Below w'.heap.size w' w'') :=
    Lib.hid (fun i k w' hi hk h => rat_any r Cn (P i) k n cap a l w' (ha.below h (Nat.le_refl _)) (hf i k hi hk) (by omega))
  obtain ⟨E, hE⟩ : ∃ E : Nat → Nat → Nat, E = fun i k => co l (P i * Cn + k) := ⟨_, rfl⟩
  have HE := Lib.hid (fun i k => congrFun (congrFun hE i) k)
  have HEL : Hid (∀ i k, E i k < 256) := Lib.hid (fun i k => by rw [hE]; exact ha.by_.lt _)
  rw [← hE]
  have HRC : Hid (R * Cn ≤ 65025) := Lib.hid (Nat.mul_le_mul hR hC)
  have HPN := Lib.hid hP
  clear hE ha hP hf
  go_enter Try.func29, Try.ntmps29
  go_wp2
  have HX2 : Hid (Rx (((w.alloc (.cells #[.int .i64 r, .int .i64 Cn, .slice a n cap] 27)).alloc (.cells #[.int .i64 0, .int .i64 0, .slice none 0 0] 27)).alloc (.cells #[.int .i64 R, .int .i64 Cn, .slice none 0 0] 27)) w.heap.size (.int .i64 r) (.int .i64 Cn) (.slice a n cap)) := Lib.hid (((alloc_rx w _ _ _).keep (Below.heap_alloc _ _ _ (alloc_lt _ _))).keep (Below.heap_alloc _ _ _ (by simp; omega)))
  have HG0 : Hid (Outg w (((w.alloc (.cells #[.int .i64 r, .int .i64 Cn, .slice a n cap] 27)).alloc (.cells #[.int .i64 0, .int .i64 0, .slice none 0 0] 27)).alloc (.cells #[.int .i64 R, .int .i64 Cn, .slice none 0 0] 27)) (w.heap.size + 1) (w.heap.size + 1 + 1) (((w.alloc (.cells #[.int .i64 r, .int .i64 Cn, .slice a n cap] 27)).alloc (.cells #[.int .i64 0, .int .i64 0, .slice none 0 0] 27)).alloc (.cells #[.int .i64 R, .int .i64 Cn, .slice none 0 0] 27)).heap.size R Cn 0 none 0 (ofF (flat Cn E) 0)) := Lib.hid (by
    have h4 := alloc_rx (w.alloc (.cells #[.int .i64 r, .int .i64 Cn, .slice a n cap] 27)) (.int .i64 0) (.int .i64 0) (.slice none 0 0)
    have h5 := alloc_rx ((w.alloc (.cells #[.int .i64 r, .int .i64 Cn, .slice a n cap] 27)).alloc (.cells #[.int .i64 0, .int .i64 0, .slice none 0 0] 27)) (.int .i64 R) (.int .i64 Cn) (.slice none 0 0)
    rw [World.size_alloc] at h4
    rw [World.size_alloc, World.size_alloc] at h5
    exact ⟨Own8.none _ _, h5, h4.keep (Below.heap_alloc _ _ _ (by simp)), by go_grown, by omega, by omega, by simp, Nat.le_refl _⟩)
  generalize (((w.alloc (.cells #[.int .i64 r, .int .i64 Cn, .slice a n cap] 27)).alloc (.cells #[.int .i64 0, .int .i64 0, .slice none 0 0] 27)).alloc (.cells #[.int .i64 R, .int .i64 Cn, .slice none 0 0] 27)) = w0 at *
  have HS0 : Hid (w.heap.size + 1 + 1 < w0.heap.size) := Lib.hid HG0.out.ord.2.2.1
  generalize w0.heap.size = base at *
  go_loopw [6, 7] (fun i _ wr => ∃ (I : Nat) (A : Option Addr) (C : Nat), I ≤ R ∧ i = .int .i64 (I : Nat) ∧ Hid (Outg w wr (w.heap.size + 1) (w.heap.size + 1 + 1) base R Cn (I * Cn) A C (ofF (flat Cn E) (I * Cn))) ∧ Hid (Rx wr w.heap.size (.int .i64 r) (.int .i64 Cn) (.slice a n cap))) (fun i _ _ => R - (intOf i).toNat)
  case atStart => exact ⟨0, none, 0, by omega, rfl, by rw [Nat.zero_mul]; exact HG0, HX2⟩
  case round =>
    clear HX2 HG0
    obtain ⟨I, A, C, hI, rfl, HG, HX2⟩ := hrel
    obtain ⟨wo, ho⟩ : ∃ wo, wo = wr := ⟨_, rfl⟩
    subst ho
    by_cases hlt : I < R
    · go_wp2
      go_loopw [7] (fun k wr => ∃ (K : Nat) (A : Option Addr) (C : Nat), K ≤ Cn ∧ k = .int .i64 (K : Nat) ∧ Hid (Outg w wr (w.heap.size + 1) (w.heap.size + 1 + 1) base R Cn (I * Cn + K) A C (ofF (flat Cn E) (I * Cn + K))) ∧ Hid (Rx wr w.heap.size (.int .i64 r) (.int .i64 Cn) (.slice a n cap))) (fun k _ => Cn - (intOf k).toNat)
      case atStart => exact ⟨0, A, C, by omega, rfl, HG, HX2⟩
      case round =>
        clear HX2 HG A C
        obtain ⟨K, A, C, hK, rfl, HG, HX2⟩ := hrel
        obtain ⟨wi, hi⟩ : ∃ wi, wi = wr := ⟨_, rfl⟩
        subst hi
        obtain ⟨a0, a1, a2, af⟩ := HX2.out.cells
        by_cases hlk : K < Cn
        · have HRI : Hid (I * Cn + K < R * Cn) := Lib.hid (spot_lt hlt hlk)
          have he := HEL.out I K
          have HEE : Hid (co l (P I * Cn + K) = E I K) := Lib.hid (HE.out I K).symm
          have HSF : Hid (ofF (flat Cn E) (I * Cn + K) ++ [((E I K : Nat) : Int)] = ofF (flat Cn E) (I * Cn + K + 1)) := Lib.hid (by rw [ofF_succ, flat_at _ _ _ _ hlk])
          have HA2 := Lib.hid (HAT.out I K wi.drew hlt hlk HG.out.bel.drew)
          rw [HEE.out] at HA2
          generalize E I K = v at *
          rcases HPN.out with h0 | ⟨pb, po, rfl, hpl, hpc⟩
          · omega
          have cp := ((HG.out.bel).cell (p := ⟨pb, po + I, none⟩) hpl).trans (hpc I hlt)
          obtain ⟨p0, p1, p2, pf⟩ := HG.out.out.cells
          have HAPP : Hid (∀ w2, Below wi.heap.size wi w2 → Own8 (w2.alloc (.cells #[.int .u8 (v : Int)] 5)) base (.slice A (I * Cn + K) C) (I * Cn + K) (ofF (flat Cn E) (I * Cn + K)) ∧ Bytes (w2.alloc (.cells #[.int .u8 (v : Int)] 5)) (some ⟨w2.heap.size, 0, none⟩) 1 [(v : Int)] ∧ base ≤ (w2.alloc (.cells #[.int .u8 (v : Int)] 5)).heap.size ∧ Rx (w2.alloc (.cells #[.int .u8 (v : Int)] 5)) (w.heap.size + 1 + 1) (.int .i64 R) (.int .i64 Cn) (.slice A (I * Cn + K) C)) :=
            Lib.hid (fun w2 h => by
              have h1 := (HG.out.later h).later ((Below.refl w2.heap.size w2).alloc (Nat.le_refl _) (.cells #[.int .u8 (v : Int)] 5))
              exact ⟨h1.own, one_blk w2 v he, h1.ord.2.2.2, h1.out⟩)
          have H6 : Hid (I * Cn + K + 1 ≤ 1000000) := Lib.hid (by have := HRI.out; have := HRC.out; omega)
          have HP2 : Hid (∀ w2, Below wi.heap.size wi w2 → Rx w2 (w.heap.size + 1 + 1) (.int .i64 R) (.int .i64 Cn) (.slice A (I * Cn + K) C)) := Lib.hid (fun w2 h => (HG.out.later h).out)
          have HP3 : Hid (∀ w2, Below wi.heap.size wi w2 → ∀ o, (w2.alloc o).cell? ⟨w.heap.size + 1 + 1, 2, none⟩ = some (.slice A (I * Cn + K) C)) := Lib.hid (fun w2 h o => ((HG.out.later h).later ((Below.refl w2.heap.size w2).alloc (Nat.le_refl _) o)).out.cells.2.2.1)
          clear hpc
          go_wp2
          go_region_law (first
            | (go_simp; go_at_call 35; (with_reducible refine HA2.out.mono ?_); rintro e w2 ⟨rfl, hb2⟩; have hb2' := (Below.refl wi.heap.size wi).drew.trans hb2; obtain ⟨q0, q1, q2, qf⟩ := (HP2.out w2 hb2').cells; have q5 := HP3.out w2 hb2')
            | (refine step_append_bytes (w := w2.alloc _) rfl (.tmp 26) (.tmp 34) rfl base A (I * Cn + K) C rfl (ofF (flat Cn E) (I * Cn + K)) (HAPP.out w2 hb2').1 (some ⟨w2.heap.size, 0, none⟩) 1 1 rfl [(v : Int)] (HAPP.out w2 hb2').2.1 (fun h => nomatch h) H6.out base (w2.alloc _) (Below.refl _ _) (Nat.le_refl _) (HAPP.out w2 hb2').2.2.1 (I * Cn + K + 1) rfl _ rfl ?_; intro A2 C2 w3 HO3 hb3; obtain ⟨s0, s1, s2, sf⟩ := ((HAPP.out w2 hb2').2.2.2.below hb3 HS0.out).cells))
          all_goals
            have HG3 := Lib.hid ((HG.out.later hb2').more HO3.out hb3)
            rw [HSF.out] at HG3
            have HX3 := Lib.hid ((HX2.out.below hb2' HX2.out.lt).more (v := .slice A2 (I * Cn + K + 1) C2) hb3 (show w.heap.size < base by have := HS0.out; omega) (show w.heap.size ≠ w.heap.size + 1 + 1 by omega))
            clear HO3 hb3 s0 s1 s2 sf hb2 hb2' q0 q1 q2 qf q5
            go_wp2
            go_roundw
            case rel => exact ⟨K + 1, A2, C2, by omega, by go_num, HG3, HX3⟩
            case measure => simp [intOf]; omega
        · obtain rfl : K = Cn := by omega
          go_wp2
          go_roundw
          case rel => exact ⟨I + 1, A, C, by omega, by go_num, by rw [Nat.succ_mul]; exact HG, HX2⟩
          case measure => simp [intOf]; omega
    · obtain rfl : I = R := by omega
      obtain ⟨i0, i1, i2, _⟩ := HG.out.out.cells
      obtain ⟨r0, r1, r2, rf⟩ := HG.out.res.cells
      go_wp2
      clear i0 i1 i2 r0 r1 r2 rf
      obtain ⟨z0, z1, z2, _⟩ := (HG.out.res.write (x' := .int .i64 I) (y' := .int .i64 Cn) (z' := .slice A (I * Cn) C)).cells
      refine bodyPost_ret (v := .agg #[.int .i64 I, .int .i64 Cn, .slice A ((I * Cn : Nat)) C]) (by simp [results, Try.results29, go_sem, z0, z1, z2]) rfl ?_
      exact HG.out.hand HEL.out
end Go.Proofs.Ytipaolkgafhliaa
