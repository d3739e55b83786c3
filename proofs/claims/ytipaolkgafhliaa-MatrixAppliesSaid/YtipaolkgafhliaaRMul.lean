/-
  Own text: a document's matrix that grows element by element; its Mul, walked.
-/
import Derived.Test.YtipaolkgafhliaaRIdent
import Derived.Test.YtipaolkgafhliaaGfD
namespace Go.Proofs.Ytipaolkgafhliaa
open Go.RowKit

theorem one_blk (w : World) (q : Nat) (h : q < 256) : Bytes (w.alloc (.cells #[.int .u8 (q : Int)] 5)) (some ⟨w.heap.size, 0, none⟩) 1 [(q : Int)] :=
  new_block w _ _ _ _ rfl [(q : Int)] rfl (by simp) (fun z hz => by simp at hz; omega) 1 rfl
/-- A matrix that is being made: its elements, its box, and the box of the result. -/
structure Outg (w wr : World) (b4 b5 base : Nat) (r c : Int) (p : Nat) (A : Option Addr) (C : Nat) (L : List Int) : Prop where
  own : Own8 wr base (.slice A p C) p L
  out : Rx wr b5 (.int .i64 r) (.int .i64 c) (.slice A p C)
  res : Rx wr b4 (.int .i64 0) (.int .i64 0) (.slice none 0 0)
  bel : Below w.heap.size w wr
  ord : w.heap.size ≤ b4 ∧ b4 < b5 ∧ b5 < base ∧ base ≤ wr.heap.size
theorem Outg.later {w wr wr' : World} {b4 b5 base : Nat} {r c : Int} {p : Nat} {A : Option Addr} {C : Nat} {L : List Int} (h : Outg w wr b4 b5 base r c p A C L) (hb : Below wr.heap.size wr wr') : Outg w wr' b4 b5 base r c p A C L :=
  ⟨h.own.below hb (Nat.le_refl _), h.out.below hb h.out.lt, h.res.below hb h.res.lt, h.bel.trans (hb.mono h.bel.size), h.ord.1, h.ord.2.1, h.ord.2.2.1, Nat.le_trans h.ord.2.2.2 hb.size⟩
theorem rx_set2 {w : World} {b : Nat} {x y z z' : Value} (h : Rx w b x y z) : Rx (w.setCell ⟨b, 2, none⟩ z') b x y z' := by
  unfold Rx at *
  simp [World.setCell, Array.getElem?_modify, h]
theorem Outg.more {w wX w3 : World} {b4 b5 base : Nat} {r c : Int} {p : Nat} {A A2 : Option Addr} {C C2 : Nat} {L L2 : List Int} {o : Obj} (h : Outg w wX b4 b5 base r c p A C L) (ho : Own8 w3 base (.slice A2 (p + 1) C2) (p + 1) L2) (hb : Below base (wX.alloc o) w3) :
    Outg w (w3.setCell ⟨b5, 2, none⟩ (.slice A2 (p + 1) C2)) b4 b5 base r c (p + 1) A2 C2 L2 := by
  have h1 := h.later ((Below.refl wX.heap.size wX).alloc (Nat.le_refl _) o)
  have o1 := h.ord
  have hb2 : Below w.heap.size w w3 := h1.bel.trans (hb.mono (by omega))
  exact ⟨ho.setBelow (a := ⟨b5, 2, none⟩) o1.2.2.1 _, rx_set2 (h1.out.below hb o1.2.2.1), (h1.res.below hb (by omega)).keep (Below.heap_setCell _ ⟨b5, 2, none⟩ _ _ (by show b4 ≠ b5; omega)), hb2.setCell (p := ⟨b5, 2, none⟩) (by show w.heap.size ≤ b5; omega) _, o1.1, o1.2.1, o1.2.2.1, by have := hb.size; have := h1.ord.2.2.2; simp; omega⟩
theorem Rx.more {wX w3 : World} {b b5 base : Nat} {x y z v : Value} {o : Obj} (h : Rx wX b x y z) (hb : Below base (wX.alloc o) w3) (h1 : b < base) (h2 : b ≠ b5) : Rx (w3.setCell ⟨b5, 2, none⟩ v) b x y z :=
  ((h.keep (Below.heap_alloc _ o _ h.lt)).below hb h1).keep (Below.heap_setCell _ ⟨b5, 2, none⟩ _ _ h2)
/-- Elements, row by row. -/
def flat (C : Nat) (E : Nat → Nat → Nat) (p : Nat) : Nat := E (p / C) (p % C)
theorem flat_at (C : Nat) (E : Nat → Nat → Nat) (i k : Nat) (h : k < C) : flat C E (i * C + k) = E i k := by
  unfold flat
  rw [Nat.mul_comm i C, Nat.mul_add_div (by omega), Nat.div_eq_of_lt h, Nat.mul_add_mod, Nat.mod_eq_of_lt h, Nat.add_zero]
/-- The matrix is ready. -/
theorem Outg.hand {w wr : World} {b4 b5 base : Nat} {R Cn : Nat} {A : Option Addr} {C : Nat} {E : Nat → Nat → Nat} {x y z : Value} (hE : ∀ i k, E i k < 256) (h : Outg w wr b4 b5 base R Cn (R * Cn) A C (ofF (flat Cn E) (R * Cn))) :
    HandedR R Cn E w (.returned (.agg #[.int .i64 R, .int .i64 Cn, .slice A ((R * Cn : Nat)) C])) (((wr.setCell ⟨b4, 0, none⟩ x).setCell ⟨b4, 1, none⟩ y).setCell ⟨b4, 2, none⟩ z) := by
  refine ⟨A, C, _, rfl, sl_set3 (h.own.sl (ofF_by (fun i => hE _ _) _)) (fun c o e h0 e2 => ?_), fun i k hi hk => ?_, below_set3 h.bel h.ord.1⟩
  · obtain ⟨g, e3, h3, _⟩ := h.own.at_ h0
    rw [e] at e3
    cases e3
    have := h.ord
    omega
  · rw [ofF_co _ _ _ (spot_lt hi hk), flat_at _ _ _ _ hk]
set_option maxRecDepth 100000 in
set_option maxHeartbeats 4000000 in
theorem rmulm_any (R N Cn : Nat) (hR : R ≤ 255) (hN : N ≤ 255) (hC : Cn ≤ 255) (aA aB : Option Addr) (ca cb : Nat) (la lb : List Int) (w : World) (ha : Bytes w aA (R * N) la) (hb : Bytes w aB (N * Cn) lb) :
    Calls Try.prog 26 #[.agg #[.int .i64 R, .int .i64 N, .slice aA ((R * N : Nat)) ca], .agg #[.int .i64 N, .int .i64 Cn, .slice aB ((N * Cn : Nat)) cb]] w (HandedR R Cn (fun i k => dots (fun j => co la (i * N + j)) (fun j => co lb (j * Cn + k)) N) w) := by
  have hm1 : R * N ≤ 65025 := Nat.mul_le_mul hR hN
  have hm2 : N * Cn ≤ 65025 := Nat.mul_le_mul hN hC
  have HYA := Lib.hid ha.by_
  have HYB := Lib.hid hb.by_
  have HAA : Hid (∀ i j w', i < R → j < N → Below w.heap.size w w' → Calls Try.prog 35 #[.agg #[.int .i64 R, .int .i64 N, .slice aA ((R * N : Nat)) ca], .int .i64 (i : Nat), .int .i64 (j : Nat)] w' fun e w'' => e = .returned (.int .u8 (co la (i * N + j))) ∧ Below w'.heap.size w' w'') :=
    Lib.hid (fun i j w' hi hj h => rat_any R N i j (R * N) ca aA la w' (ha.below h (Nat.le_refl _)) (spot_lt hi hj) (by omega))
  have HBB : Hid (∀ j k w', j < N → k < Cn → Below w.heap.size w w' → Calls Try.prog 35 #[.agg #[.int .i64 N, .int .i64 Cn, .slice aB ((N * Cn : Nat)) cb], .int .i64 (j : Nat), .int .i64 (k : Nat)] w' fun e w'' => e = .returned (.int .u8 (co lb (j * Cn + k))) ∧ Below w'.heap.size w' w'') :=
    Lib.hid (fun i j w' hi hj h => rat_any N Cn i j (N * Cn) cb aB lb w' (hb.below h (Nat.le_refl _)) (spot_lt hi hj) (by omega))
  obtain ⟨E, hE⟩ : ∃ E : Nat → Nat → Nat, E = fun i k => dots (fun j => co la (i * N + j)) (fun j => co lb (j * Cn + k)) N := ⟨_, rfl⟩
  have HE := Lib.hid (fun i k => congrFun (congrFun hE i) k)
  have HEL : Hid (∀ i k, E i k < 256) := Lib.hid (fun i k => by rw [hE]; exact dots_lt _ _ _)
  rw [← hE]
  have HRC : Hid (R * Cn ≤ 65025) := Lib.hid (Nat.mul_le_mul hR hC)
  obtain ⟨m1, hm1e⟩ : ∃ m, R * N = m := ⟨_, rfl⟩
  obtain ⟨m2, hm2e⟩ : ∃ m, N * Cn = m := ⟨_, rfl⟩
  rw [hm1e] at HAA hm1
  rw [hm2e] at HBB hm2
  rw [hm1e, hm2e]
  clear hE ha hb hm1e hm2e
  go_enter Try.func26, Try.ntmps26
  go_wp2
  have HX2 : Hid (Rx ((((w.alloc (.cells #[.int .i64 R, .int .i64 N, .slice aA m1 ca] 27)).alloc (.cells #[.int .i64 N, .int .i64 Cn, .slice aB m2 cb] 27)).alloc (.cells #[.int .i64 0, .int .i64 0, .slice none 0 0] 27)).alloc (.cells #[.int .i64 R, .int .i64 Cn, .slice none 0 0] 27)) w.heap.size (.int .i64 R) (.int .i64 N) (.slice aA m1 ca)) := Lib.hid ((((alloc_rx w _ _ _).keep (Below.heap_alloc _ _ _ (alloc_lt _ _))).keep (Below.heap_alloc _ _ _ (by simp; omega))).keep (Below.heap_alloc _ _ _ (by simp; omega)))
  have HX3 : Hid (Rx ((((w.alloc (.cells #[.int .i64 R, .int .i64 N, .slice aA m1 ca] 27)).alloc (.cells #[.int .i64 N, .int .i64 Cn, .slice aB m2 cb] 27)).alloc (.cells #[.int .i64 0, .int .i64 0, .slice none 0 0] 27)).alloc (.cells #[.int .i64 R, .int .i64 Cn, .slice none 0 0] 27)) (w.heap.size + 1) (.int .i64 N) (.int .i64 Cn) (.slice aB m2 cb)) := Lib.hid (by
    have := alloc_rx (w.alloc (.cells #[.int .i64 R, .int .i64 N, .slice aA m1 ca] 27)) (.int .i64 N) (.int .i64 Cn) (.slice aB m2 cb)
    rw [World.size_alloc] at this
    exact (this.keep (Below.heap_alloc _ _ _ (by simp))).keep (Below.heap_alloc _ _ _ (by simp)))
  have HG0 : Hid (Outg w ((((w.alloc (.cells #[.int .i64 R, .int .i64 N, .slice aA m1 ca] 27)).alloc (.cells #[.int .i64 N, .int .i64 Cn, .slice aB m2 cb] 27)).alloc (.cells #[.int .i64 0, .int .i64 0, .slice none 0 0] 27)).alloc (.cells #[.int .i64 R, .int .i64 Cn, .slice none 0 0] 27)) (w.heap.size + 1 + 1) (w.heap.size + 1 + 1 + 1) ((((w.alloc (.cells #[.int .i64 R, .int .i64 N, .slice aA m1 ca] 27)).alloc (.cells #[.int .i64 N, .int .i64 Cn, .slice aB m2 cb] 27)).alloc (.cells #[.int .i64 0, .int .i64 0, .slice none 0 0] 27)).alloc (.cells #[.int .i64 R, .int .i64 Cn, .slice none 0 0] 27)).heap.size R Cn 0 none 0 (ofF (flat Cn E) 0)) := Lib.hid (by
    have h4 := alloc_rx ((w.alloc (.cells #[.int .i64 R, .int .i64 N, .slice aA m1 ca] 27)).alloc (.cells #[.int .i64 N, .int .i64 Cn, .slice aB m2 cb] 27)) (.int .i64 0) (.int .i64 0) (.slice none 0 0)
    have h5 := alloc_rx (((w.alloc (.cells #[.int .i64 R, .int .i64 N, .slice aA m1 ca] 27)).alloc (.cells #[.int .i64 N, .int .i64 Cn, .slice aB m2 cb] 27)).alloc (.cells #[.int .i64 0, .int .i64 0, .slice none 0 0] 27)) (.int .i64 R) (.int .i64 Cn) (.slice none 0 0)
    rw [World.size_alloc, World.size_alloc] at h4
    rw [World.size_alloc, World.size_alloc, World.size_alloc] at h5
    exact ⟨Own8.none _ _, h5, h4.keep (Below.heap_alloc _ _ _ (by simp)), by go_grown, by omega, by omega, by simp, Nat.le_refl _⟩)
  generalize ((((w.alloc (.cells #[.int .i64 R, .int .i64 N, .slice aA m1 ca] 27)).alloc (.cells #[.int .i64 N, .int .i64 Cn, .slice aB m2 cb] 27)).alloc (.cells #[.int .i64 0, .int .i64 0, .slice none 0 0] 27)).alloc (.cells #[.int .i64 R, .int .i64 Cn, .slice none 0 0] 27)) = w0 at *
  have HS0 : Hid (w.heap.size + 1 + 1 + 1 < w0.heap.size) := Lib.hid HG0.out.ord.2.2.1
  generalize w0.heap.size = base at *
  clear hm1 hm2
  go_loopw [6, 7, 8, 9] (fun i _ _ _ wr => ∃ (I : Nat) (A : Option Addr) (C : Nat), I ≤ R ∧ i = .int .i64 (I : Nat) ∧ Hid (Outg w wr (w.heap.size + 1 + 1) (w.heap.size + 1 + 1 + 1) base R Cn (I * Cn) A C (ofF (flat Cn E) (I * Cn))) ∧ Hid (Rx wr w.heap.size (.int .i64 R) (.int .i64 N) (.slice aA m1 ca)) ∧ Hid (Rx wr (w.heap.size + 1) (.int .i64 N) (.int .i64 Cn) (.slice aB m2 cb))) (fun i _ _ _ _ => R - (intOf i).toNat)
  case atStart => exact ⟨0, none, 0, by omega, rfl, by rw [Nat.zero_mul]; exact HG0, HX2, HX3⟩
  case round =>
    clear HX2 HX3 HG0
    obtain ⟨I, A, C, hI, rfl, HG, HX2, HX3⟩ := hrel
    obtain ⟨wo, ho⟩ : ∃ wo, wo = wr := ⟨_, rfl⟩
    subst ho
    by_cases hlt : I < R
    · obtain ⟨a0, a1, a2, af⟩ := HX2.out.cells
      go_wp2
      clear a0 a1 a2 af
      go_loopw [7, 8, 9] (fun k _ _ wr => ∃ (K : Nat) (A : Option Addr) (C : Nat), K ≤ Cn ∧ k = .int .i64 (K : Nat) ∧ Hid (Outg w wr (w.heap.size + 1 + 1) (w.heap.size + 1 + 1 + 1) base R Cn (I * Cn + K) A C (ofF (flat Cn E) (I * Cn + K))) ∧ Hid (Rx wr w.heap.size (.int .i64 R) (.int .i64 N) (.slice aA m1 ca)) ∧ Hid (Rx wr (w.heap.size + 1) (.int .i64 N) (.int .i64 Cn) (.slice aB m2 cb))) (fun k _ _ _ => Cn - (intOf k).toNat)
      case atStart => exact ⟨0, A, C, by omega, rfl, HG, HX2, HX3⟩
      case round =>
        clear HX2 HX3 HG A C
        obtain ⟨K, A, C, hK, rfl, HG, HX2, HX3⟩ := hrel
        obtain ⟨wk, hk⟩ : ∃ wk, wk = wr := ⟨_, rfl⟩
        subst hk
        by_cases hlk : K < Cn
        · obtain ⟨a0, a1, a2, af⟩ := HX3.out.cells
          go_wp2
          clear a0 a1 a2 af
          have HBR := Lib.hid (Below.refl wk.heap.size wk)
          go_loopw [8, 9] (fun c n wr => ∃ q : Nat, q ≤ N ∧ n = .int .i64 (q : Nat) ∧ c = .int .u8 ((xs (fun j => mu (co la (I * N + j)) (co lb (j * Cn + K))) q : Nat) : Int) ∧ Hid (Below wk.heap.size wk wr)) (fun _ n _ => N - (intOf n).toNat)
          case atStart => exact ⟨0, by omega, rfl, rfl, HBR⟩
          case round =>
            obtain ⟨q, hq, rfl, rfl, HB⟩ := hrel
            obtain ⟨wi, hi⟩ : ∃ wi, wi = wr := ⟨_, rfl⟩
            subst hi
            have HXa := Lib.hid (HX2.out.below HB.out HX2.out.lt)
            have HXb := Lib.hid (HX3.out.below HB.out HX3.out.lt)
            by_cases hlq : q < N
            · obtain ⟨a0, a1, a2, af⟩ := HXa.out.cells
              have HBw : Hid (Below w.heap.size w wi) := Lib.hid (HG.out.bel.trans (HB.out.mono HG.out.bel.size))
              have HS : Hid (∀ w', Below wi.heap.size wi w' → Below wi.heap.size wi w' ∧ w'.cell? ⟨w.heap.size, 0, none⟩ = some (.int .i64 (R : Int)) ∧ w'.cell? ⟨w.heap.size, 1, none⟩ = some (.int .i64 (N : Int)) ∧ w'.cell? ⟨w.heap.size, 2, none⟩ = some (.slice aA m1 ca) ∧
                  w'.cell? ⟨w.heap.size + 1, 0, none⟩ = some (.int .i64 (N : Int)) ∧ w'.cell? ⟨w.heap.size + 1, 1, none⟩ = some (.int .i64 (Cn : Int)) ∧ w'.cell? ⟨w.heap.size + 1, 2, none⟩ = some (.slice aB m2 cb)) :=
                Lib.hid (fun w' h => ⟨h, (HXa.out.below h HXa.out.lt).cells.1, (HXa.out.below h HXa.out.lt).cells.2.1, (HXa.out.below h HXa.out.lt).cells.2.2.1, (HXb.out.below h HXb.out.lt).cells.1, (HXb.out.below h HXb.out.lt).cells.2.1, (HXb.out.below h HXb.out.lt).cells.2.2.1⟩)
              have hu := HYA.out.lt (I * N + q)
              have hv := HYB.out.lt (q * Cn + K)
              have HA2 := Lib.hid (HAA.out I q wi.drew hlt hlq HBw.out.drew)
              have HB2 : Hid (∀ w2, Below wi.drew.heap.size wi.drew w2 → Calls Try.prog 35 #[.agg #[.int .i64 N, .int .i64 Cn, .slice aB m2 cb], .int .i64 (q : Nat), .int .i64 (K : Nat)] w2 fun e w'' => e = .returned (.int .u8 (co lb (q * Cn + K))) ∧ Below w2.heap.size w2 w'') :=
                Lib.hid (fun w2 h => HBB.out q K w2 hlq hlk (HBw.out.drew.trans (h.mono HBw.out.size)))
              have HSX : Hid (xs (fun j => mu (co la (I * N + j)) (co lb (j * Cn + K))) (q + 1) = xs (fun j => mu (co la (I * N + j)) (co lb (j * Cn + K))) q ^^^ gm (co la (I * N + q)) (co lb (q * Cn + K))) := Lib.hid (by rw [← mu_eq hu hv]; rfl)
              have hx := xs_lt (fun j => mu (co la (I * N + j)) (co lb (j * Cn + K))) (fun _ => mu_lt _ _) q
              have hg := gm_lt hu hv
              have HM2 := Lib.hid (fun w => rmul_any (co la (I * N + q)) (co lb (q * Cn + K)) hu hv w)
              generalize xs (fun j => mu (co la (I * N + j)) (co lb (j * Cn + K))) q = x at *
              generalize gm (co la (I * N + q)) (co lb (q * Cn + K)) = g at *
              generalize co la (I * N + q) = u at *
              generalize co lb (q * Cn + K) = v at *
              have bx := bits_u8 x g hx hg
              go_wp2
              clear a0 a1 a2 af
              go_region_held3 (fun w' => Below wi.heap.size wi w' ∧ w'.cell? ⟨w.heap.size, 0, none⟩ = some (.int .i64 (R : Int)) ∧ w'.cell? ⟨w.heap.size, 1, none⟩ = some (.int .i64 (N : Int)) ∧ w'.cell? ⟨w.heap.size, 2, none⟩ = some (.slice aA m1 ca) ∧
                  w'.cell? ⟨w.heap.size + 1, 0, none⟩ = some (.int .i64 (N : Int)) ∧ w'.cell? ⟨w.heap.size + 1, 1, none⟩ = some (.int .i64 (Cn : Int)) ∧ w'.cell? ⟨w.heap.size + 1, 2, none⟩ = some (.slice aB m2 cb))
                (first
                  | exact HS.out _ (Below.refl _ _)
                  | exact HS.out _ (Below.refl _ _).drew
                  | exact HS.out _ (((Below.refl _ _).drew.trans hb2).trans (hb3.mono hb2.size))
                  | exact HS.out _ ((Below.refl _ _).drew.trans hb2))
                (first
                  | (go_at_call 35; (with_reducible refine HA2.out.mono ?_); rintro e w2 ⟨rfl, hb2⟩)
                  | (go_at_call 35; (with_reducible refine (HB2.out _ hb2).mono ?_); rintro e w3 ⟨rfl, hb3⟩)
                  | (go_at_call 34; (with_reducible refine (HM2.out _).mono ?_); rintro e w4 ⟨rfl, rfl⟩))
              all_goals
                have HB9 : Hid (Below wk.heap.size wk w3) := Lib.hid (HB.out.trans (((Below.refl _ _).drew.trans (hb2.trans (hb3.mono hb2.size))).mono HB.out.size))
                clear hb2 hb3
                go_wp2
                go_roundw
                case rel => exact ⟨q + 1, by omega, by go_num, by rw [HSX.out], HB9⟩
                case measure => simp [intOf]; omega
            · obtain rfl : q = N := by omega
              have HEE : Hid (xs (fun j => mu (co la (I * q + j)) (co lb (j * Cn + K))) q = E I K) := Lib.hid (HE.out I K).symm
              have he := HEL.out I K
              rw [HEE.out]
              have HSF : Hid (ofF (flat Cn E) (I * Cn + K) ++ [((E I K : Nat) : Int)] = ofF (flat Cn E) (I * Cn + K + 1)) := Lib.hid (by rw [ofF_succ, flat_at _ _ _ _ hlk])
              generalize E I K = v at *
              have HG2 := Lib.hid (HG.out.later HB.out)
              have HRI : Hid (I * Cn + K < R * Cn) := Lib.hid (spot_lt hlt hlk)
              have HO1 := Lib.hid ((HG2.out.later ((Below.refl wi.heap.size wi).alloc (Nat.le_refl _) (.cells #[.int .u8 (v : Int)] 5))).own)
              have HX5 := Lib.hid ((HG2.out.later ((Below.refl wi.heap.size wi).alloc (Nat.le_refl _) (.cells #[.int .u8 (v : Int)] 5))).out)
              have HY1 := Lib.hid (one_blk wi v he)
              have HN : Hid (some (⟨wi.heap.size, 0, none⟩ : Addr) = Option.none → 1 = 0) := Lib.hid (fun h => nomatch h)
              have H6 : Hid (I * Cn + K + 1 ≤ 1000000) := Lib.hid (by have := HRI.out; have := HRC.out; omega)
              have HBI : Hid (Below base (wi.alloc (.cells #[.int .u8 (v : Int)] 5)) (wi.alloc (.cells #[.int .u8 (v : Int)] 5))) := Lib.hid (Below.refl _ _)
              have H7 : Hid (base ≤ (wi.alloc (.cells #[.int .u8 (v : Int)] 5)).heap.size) := Lib.hid (Nat.le_trans HG2.out.ord.2.2.2 (Nat.le_of_lt (alloc_lt _ _)))
              obtain ⟨a0, a1, a2, af⟩ := HXa.out.cells
              obtain ⟨o0, o1, o2, of⟩ := HX5.out.cells
              obtain ⟨p0, p1, p2, pf⟩ := HG2.out.out.cells
              go_wp2_with ((with_reducible refine wpList_append_bytes (w := wi.alloc _) rfl (.tmp 45) (.tmp 47) rfl base _ _ _ rfl (ofF (flat Cn E) (I * Cn + K)) HO1.out _ _ _ rfl [(v : Int)] HY1.out HN.out H6.out base (wi.alloc _) HBI.out (Nat.le_refl _) H7.out (I * Cn + K + 1) rfl _ rfl ?_); intro A2 C2 w3 hown hb; have HO3 := hown; have HB3 := Lib.hid hb; clear hown hb; obtain ⟨s0, s1, s2, sf⟩ := (HX5.out.below HB3.out HG2.out.ord.2.2.1).cells)
              clear s0 s1 s2 sf a0 a1 a2 af o0 o1 o2 of p0 p1 p2 pf
              have HG3 := Lib.hid (HG2.out.more HO3.out HB3.out)
              rw [HSF.out] at HG3
              go_wp2
              go_roundw
              case rel => exact ⟨K + 1, A2, C2, by omega, by go_num, HG3, Lib.hid (HXa.out.more HB3.out (by have := HS0.out; omega) (by omega)), Lib.hid (HXb.out.more HB3.out (by have := HS0.out; omega) (by omega))⟩
              case measure => simp [intOf]; omega
        · obtain rfl : K = Cn := by omega
          obtain ⟨a0, a1, a2, af⟩ := HX3.out.cells
          go_wp2
          go_roundw
          case rel => exact ⟨I + 1, A, C, by omega, by go_num, by rw [Nat.succ_mul]; exact HG, HX2, HX3⟩
          case measure => simp [intOf]; omega
    · obtain rfl : I = R := by omega
      obtain ⟨a0, a1, a2, af⟩ := HX2.out.cells
      obtain ⟨i0, i1, i2, _⟩ := HG.out.out.cells
      obtain ⟨r0, r1, r2, rf⟩ := HG.out.res.cells
      go_wp2
      clear a0 a1 a2 af i0 i1 i2 r0 r1 r2 rf
      obtain ⟨z0, z1, z2, _⟩ := (HG.out.res.write (x' := .int .i64 I) (y' := .int .i64 Cn) (z' := .slice A (I * Cn) C)).cells
      refine bodyPost_ret (v := .agg #[.int .i64 I, .int .i64 Cn, .slice A ((I * Cn : Nat)) C]) (by simp [results, Try.results26, go_sem, z0, z1, z2]) rfl ?_
      exact HG.out.hand HEL.out
end Go.Proofs.Ytipaolkgafhliaa
