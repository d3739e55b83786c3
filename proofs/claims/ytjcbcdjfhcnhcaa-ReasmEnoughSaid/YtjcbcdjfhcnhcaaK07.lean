/-
  Own text: Apply of package matrix, walked.
  Own text: even of package rs, walked.
    bytes as strings: bytes.Equal, slices.EqualFunc, the document's Same of lists: walked.
  Own text: powers of elements; Powers, walked.
-/
import Derived.Test.YtjcbcdjfhcnhcaaK06
import Derived.Test.YtjcbcdjfhcnhcaaK05
import Derived.Test.YtjcbcdjfhcnhcaaK01
import Derived.Laws.BytesArg
import Derived.BigQuiet
namespace Go.Proofs.Ytjcbcdjfhcnhcaa
open Go.RowKit

/-- Columns of bytes that came in. -/
def ColsIn (w : World) (a : Option Addr) (len cap : Nat) (A : Nat → Option Addr) (L C : Nat → Nat) (X : Nat → List Int) : Prop :=
  len ≤ cap ∧ cap ≤ 9223372036854775807 ∧ (a = none → cap = 0) ∧ ∀ r, r < len → (∃ b off, a = some ⟨b, off, none⟩ ∧ b < w.heap.size ∧ w.cell? ⟨b, off + r, none⟩ = some (.slice (A r) (L r) (C r))) ∧ Sl w (A r) (L r) (C r) (X r)
theorem ColsIn.below {w w' : World} {a : Option Addr} {len cap B : Nat} {A : Nat → Option Addr} {L C : Nat → Nat} {X : Nat → List Int} (h : ColsIn w a len cap A L C X) (hb : Below B w w') (hB : w.heap.size ≤ B) : ColsIn w' a len cap A L C X :=
  ⟨h.1, h.2.1, h.2.2.1, fun r hr => by
    obtain ⟨⟨b, off, e, hl, hc⟩, hs⟩ := h.2.2.2 r hr
    exact ⟨⟨b, off, e, Nat.lt_of_lt_of_le hl hb.size, (hb.cell (p := ⟨b, off + r, none⟩) (by show b < B; omega)).trans hc⟩, hs.below hb hB⟩⟩
theorem ColsIn.src {w : World} {a : Option Addr} {N cap len : Nat} {A : Nat → Option Addr} {L C : Nat → Nat} {X : Nat → List Int} (h : ColsIn w a N cap A L C X) (hL : ∀ k, k < N → L k = len) : Src w (.slice a N cap) N len X := by
  refine ⟨a, cap, A, C, rfl, h.1, fun k hk => ?_⟩
  obtain ⟨⟨b, off, e, _, hc⟩, hs⟩ := h.2.2.2 k hk
  rw [hL k hk] at hc hs
  exact ⟨b, off, e, hc, hs.cap, hs.bytes⟩
/-- Where they lie. -/
theorem ColsIn.at_ {w : World} {a : Option Addr} {N cap : Nat} {A : Nat → Option Addr} {L C : Nat → Nat} {X : Nat → List Int} (h : ColsIn w a N cap A L C X) : ∃ b off, (0 < N → a = some ⟨b, off, none⟩) ∧ ∀ k, k < N → w.cell? ⟨b, off + k, none⟩ = some (.slice (A k) (L k) (C k)) := by
  by_cases h0 : 0 < N
  · obtain ⟨⟨b, off, e, _, _⟩, _⟩ := h.2.2.2 0 h0
    refine ⟨b, off, fun _ => e, fun k hk => ?_⟩
    obtain ⟨⟨b', off', e', _, hc⟩, _⟩ := h.2.2.2 k hk
    rw [e] at e'
    cases e'
    exact hc
  · exact ⟨0, 0, fun h => absurd h h0, fun k hk => absurd hk (by omega)⟩
theorem differs (a : Option Addr) (n cap len b : Nat) (w : World) (hb : w.cell? ⟨b, 0, none⟩ = some (.int .i64 len)) :
    Calls Try.prog 109 #[.slice a n cap, .pointer (some ⟨b, 0, none⟩)] w fun e w' => e = .returned (.bool (decide (n ≠ len))) ∧ w = w' := by
  go_enter Try.func109, Try.ntmps109
  go_wp2
  go_ret
  refine ⟨ret_bool ?_, rfl⟩
  by_cases h : n = len
  · subst h; simp
  · rw [decide_eq_true h]; simp; omega
/-- Is one of them longer, or shorter? -/
def Uneven (m len : Nat) (L : Nat → Nat) (r : Int) : Prop := (∃ j : Nat, j < m ∧ r = j ∧ L j ≠ len) ∨ (r = -1 ∧ ∀ j, j < m → L j = len)
theorem index_len (h off m cap len b : Nat) (a : Option Addr) (A : Nat → Option Addr) (L C : Nat → Nat) (w : World) (hA : 0 < m → a = some ⟨h, off, none⟩) (hm : m ≤ 1000)
    (hc : ∀ j, j < m → w.cell? ⟨h, off + j, none⟩ = some (.slice (A j) (L j) (C j))) (hb : w.cell? ⟨b, 0, none⟩ = some (.int .i64 len)) :
    Calls Try.prog 108 #[.slice a m cap, .func (.func 109) #[] #[.pointer (some ⟨b, 0, none⟩)]] w fun e w' => ∃ r, e = .returned (.int .i64 r) ∧ Uneven m len L r ∧ w = w' := by
  have HE := Lib.hid (fun j => differs (A j) (L j) (C j) len b w hb)
  have HC := Lib.hid hc
  have HAA := Lib.hid hA
  clear hc hb hA
  go_enter Try.func108, Try.ntmps108
  go_wp2
  go_loopw [5, 8] (fun _ i wr => ∃ j : Nat, j ≤ m ∧ i = .int .i64 j ∧ Hid (∀ i, i < j → L i = len) ∧ wr = w) (fun _ i _ => m - (intOf i).toNat)
  case atStart => exact ⟨0, by omega, rfl, Lib.hid (fun _ h => by omega), rfl⟩
  case round =>
    obtain ⟨j, hj, rfl, HV, rfl⟩ := hrel
    obtain ⟨wo, ho⟩ : ∃ wo, wo = wr := ⟨_, rfl⟩
    subst ho
    by_cases hlt : j < m
    · obtain rfl := HAA.out (by omega)
      have cr := HC.out j hlt
      have he := HE.out j
      by_cases hz : L j = len
      · rw [show decide (L j ≠ len) = false by simp [hz]] at he
        have HJ := Lib.hid he
        have HZ := Lib.hid hz
        clear he hz
        go_wp2_with ((with_reducible refine HJ.out.mono ?_); rintro e w1 ⟨rfl, rfl⟩)
        go_roundw
        case rel => exact ⟨j + 1, by omega, by go_num, Lib.hid (fun i hi => if e : i = j then e ▸ HZ.out else HV.out i (by omega)), trivial⟩
        case measure => simp [intOf]; omega
      · rw [show decide (L j ≠ len) = true by simp [hz]] at he
        have HJ := Lib.hid he
        have HZ := Lib.hid hz
        clear he hz
        go_wp2_with ((with_reducible refine HJ.out.mono ?_); rintro e w1 ⟨rfl, rfl⟩)
        go_ret
        exact ⟨j, rfl, .inl ⟨j, hlt, rfl, HZ.out⟩, rfl⟩
    · obtain rfl : j = m := by omega
      go_wp2
      go_ret
      exact ⟨-1, rfl, .inr ⟨rfl, HV.out⟩, rfl⟩
theorem contains_len (m cap len b : Nat) (a : Option Addr) (A : Nat → Option Addr) (L C : Nat → Nat) (X : Nat → List Int) (w : World) (hc : ColsIn w a m cap A L C X) (hm : m ≤ 1000) (hb : w.cell? ⟨b, 0, none⟩ = some (.int .i64 len)) (v : Bool) (hv : v = false → ∀ j, j < m → L j = len) (hv2 : v = true → ∃ j, j < m ∧ L j ≠ len) :
    Calls Try.prog 86 #[.slice a m cap, .func (.func 109) #[] #[.pointer (some ⟨b, 0, none⟩)]] w fun e w' => e = .returned (.bool v) ∧ w = w' := by
  obtain ⟨h, off, h1, h2⟩ := hc.at_
  have HI := Lib.hid (index_len h off m cap len b a A L C w h1 hm h2 hb)
  have HV := Lib.hid (And.intro hv hv2)
  clear hv hv2 hc h1 h2 hb
  go_enter Try.func86, Try.ntmps86
  go_wp2_with (go_at_call 108; refine HI.out.mono ?_; rintro e w1 ⟨r, rfl, hu, rfl⟩; have HU := Lib.hid hu; clear hu)
  go_ret
  refine ⟨ret_bool ?_, rfl⟩
  rcases HU.out with ⟨j, hj, e, hne⟩ | ⟨e, hall⟩
  · rw [e]
    cases v with
    | true => simp
    | false => exact absurd (HV.out.1 rfl j hj) hne
  · rw [e]
    cases v with
    | false => simp
    | true => obtain ⟨j, hj, hne⟩ := HV.out.2 rfl; exact absurd (hall j hj) hne
theorem new_len (W : World) (len : Nat) : (W.alloc (.cells #[.int .i64 (len : Int)] 3)).cell? ⟨W.heap.size, 0, none⟩ = some (.int .i64 (len : Int)) := by
  have h := Go.Deep.blk_alloc_new W (.cells #[.int .i64 (len : Int)] 3)
  simp only [World.cell?, h]
  rfl
/-- What Apply answers if it refuses. -/
def Barred (k : Int) (w : World) (e : Ending) (w' : World) : Prop := e = .returned (.tuple #[.slice none 0 0, .int .i64 k]) ∧ Below w.heap.size w w'
/-- The lists that Apply hands back. -/
def AppliedTo (R len : Nat) (E : Nat → Nat → Nat) (w : World) (e : Ending) (w' : World) : Prop :=
  ∃ h g l, e = .returned (.tuple #[.slice (some ⟨h, 0, none⟩) R R, .int .i64 0]) ∧ w.heap.size ≤ h ∧ w.heap.size ≤ g ∧ Lst w' h R len (fun i => some ⟨g, i * len, none⟩) ∧ Dat w' g (R * len) l ∧ (∀ i c, i < R → c < len → gr (fun i => i * len) l i c = E i c) ∧ Below w.heap.size w w'
set_option maxRecDepth 100000 in
set_option maxHeartbeats 2000000 in
theorem mapply_some (t R N len capA capC : Nat) (hR : R ≤ 255) (hN : N ≤ 255) (hlen : len ≤ 1200) (aA aC : Option Addr) (la : List Int) (A : Nat → Option Addr) (L C : Nat → Nat) (X : Nat → List Int) (w : World) (ha : Sl w aA (R * N) capA la) (hc : ColsIn w aC N capC A L C X) (hL : ∀ k, k < N → L k = len) (h0 : N = 0 → len = 0) (ht : IsTab w t) :
    Calls Try.prog 88 #[.pointer (some ⟨t, 0, none⟩), .agg #[.int .i64 R, .int .i64 N, .slice aA ((R * N : Nat)) capA], .slice aC N capC] w (AppliedTo R len (fun i c => xs (fun k => mu (co la (i * N + k)) (co (X k) c)) N) w) := by
  have hm1 : R * N ≤ 65025 := Nat.mul_le_mul hR hN
  have hm2 : R * len ≤ 306000 := Nat.mul_le_mul hR hlen
  have HR := Lib.hid (right_yes R N (R * N) hR hN rfl aA capA)
  have HCT : Hid (∀ w' b, Below w.heap.size w w' → w'.cell? ⟨b, 0, none⟩ = some (.int .i64 (len : Nat)) → Calls Try.prog 86 #[.slice aC N capC, .func (.func 109) #[] #[.pointer (some ⟨b, 0, none⟩)]] w' fun e w'' => e = .returned (.bool false) ∧ w' = w'') :=
    Lib.hid (fun w' b hw hb => contains_len N capC len b aC A L C X w' (hc.below hw (Nat.le_refl _)) (by omega) hb false (fun _ => hL) (fun h => nomatch h))
  have HCR : Hid (∀ w', Below w.heap.size w w' → 0 < N → ∃ b off, aC = some ⟨b, off, none⟩ ∧ w'.cell? ⟨b, off, none⟩ = some (.slice (A 0) len (C 0))) := Lib.hid (fun w' h hp => by
    obtain ⟨⟨b, off, e, _, h1⟩, _⟩ := (hc.below h (Nat.le_refl _)).2.2.2 0 hp
    rw [hL 0 hp] at h1
    exact ⟨b, off, e, h1⟩)
  have HCU := Lib.hid (fun g w => cut_any' (some ⟨g, 0, none⟩) (R * len) (R * len) R len (by omega) (Nat.le_refl _) (Nat.le_refl _) (by omega) (fun h => nomatch h) w)
  have HMX : Hid (∀ g h w', Below w.heap.size w w' → w.heap.size ≤ g → g < h → Dat w' g (R * len) (List.replicate (R * len) 0) → Lst w' h R len (fun i => onA (some ⟨g, 0, none⟩) (i * len)) →
      Calls Try.prog 107 #[.pointer (some ⟨t, 0, none⟩), .slice (some ⟨h, 0, none⟩) R R, .agg #[.int .i64 R, .int .i64 N, .slice aA ((R * N : Nat)) capA], .slice aC N capC] w' (MixedM g R len (R * len) (fun i => i * len) (fun i c => xs (fun k => mu (co la (i * N + k)) (co (X k) c)) N) w')) :=
    Lib.hid (fun g h w' hbw h1 h3 hd hl => mix_rows t h g R N len (R * len) capA R aA la _ X (fun i => i * len) _ w' hR hN (by omega) (by omega) (Nat.le_refl _) (ha.below hbw (Nat.le_refl _)) (fun w2 hg => (hc.below (hbw.trans (below_grows hg h1 hbw.size)) (Nat.le_refl _)).src hL) (World.rowIs.congr hl (fun i _ => by dsimp only; rw [onA_at, Nat.zero_add])) hd (laid_rows R len _ (Nat.le_refl _)) (fun i c _ _ => co_zero _ _) (ht.below hbw ht.lt) (by have := ht.lt; omega) (by omega) (fun b off e h0 => by
      rcases ha.bytes.cell with h5 | ⟨_, b', off', e', hl, _⟩
      · omega
      · rw [e] at e'; cases e'; omega))
  obtain ⟨E, hE⟩ : ∃ E : Nat → Nat → Nat, E = fun i c => xs (fun k => mu (co la (i * N + k)) (co (X k) c)) N := ⟨_, rfl⟩
  rw [← hE] at HMX ⊢
  unfold AppliedTo
  obtain ⟨m1, hm1e⟩ : ∃ m, R * N = m := ⟨_, rfl⟩
  obtain ⟨m2, hm2e⟩ : ∃ m, R * len = m := ⟨_, rfl⟩
  have hmi : (R : Int) * len = m2 := by rw [← hm2e]; omega
  rw [hm1e] at hm1 HR HMX
  rw [hm2e] at hm2 HCU HMX
  rw [hm1e, hm2e]
  have hcase : (¬ (0 : Int) < (N : Int) ∧ ((len : Nat) : Int) = 0) ∨ ((0 : Int) < (N : Int) ∧ 0 < N) := by
    rcases Nat.eq_zero_or_pos N with g | g
    · exact .inl ⟨by omega, by have := h0 g; omega⟩
    · exact .inr ⟨by omega, g⟩
  clear hE hm1e hm2e ha hc hL h0 ht
  have hmk := fun w => run_make_row' (P := Try.prog) 42 5 (.int .u8 0) 1 Try.underlying42 info_u8 rfl .i64 .i64 m2 (by omega) (by omega) w
  have HMR := Lib.hid (fun w b => made_row' w m2 5 b)
  generalize madeCells #[Value.int .u8 0] m2 = M at *
  have HMI := Lib.hid (And.intro hmi hmk)
  clear hmi hmk
  rcases hcase with ⟨hn, hz⟩ | ⟨hn, hp⟩
  case inl =>
    have HZ := Lib.hid hz
    clear hz
    go_enter Try.func88, Try.ntmps88
    go_wp2_with first
      | (go_at_call 101; refine (HR.out _).mono ?_; rintro e w1 ⟨rfl, hb⟩; have HX := Lib.hid ((alloc_bx w _ _ _).below hb (alloc_lt _ _)); have HB := Lib.hid (later1 hb); clear hb; obtain ⟨k0, k1, k2, kf⟩ := HX.out.cells)
      | (go_at_call 86; refine (HCT.out _ w1.heap.size (HB.out.alloc HB.out.size (.cells #[.int .i64 0] 3)) (by rw [← HZ.out]; exact new_len w1 len)).mono ?_; rintro e w2 ⟨rfl, rfl⟩; clear k0 k1 k2 kf)
    have HB2 : Hid (Below w.heap.size w (w1.alloc (.cells #[.int .i64 0] 3))) := Lib.hid (HB.out.alloc HB.out.size _)
    have HX2 := Lib.hid (bx_alloc HX.out (.cells #[.int .i64 0] 3))
    have HL2 : Hid ((w1.alloc (.cells #[.int .i64 0] 3)).cell? ⟨w1.heap.size, 0, none⟩ = some (.int .i64 (len : Int))) := Lib.hid (by first | exact new_len w1 len | (rw [← HZ.out]; exact new_len w1 len))
    have HBL : Hid (w1.heap.size < (w1.alloc (.cells #[.int .i64 0] 3)).heap.size) := Lib.hid (alloc_lt _ _)
    clear HX HB
    generalize w1.alloc (.cells #[.int .i64 0] 3) = w2 at *
    generalize w1.heap.size = bl at *
    obtain ⟨hmi, hmk⟩ := HMI.out
    have hwr : IntKind.i64.wrap (m2 : Int) = m2 := IntWalk.i64_in _ (by omega)
    have HS : Hid (∀ w', Below w2.heap.size w2 w' → Below w2.heap.size w2 w' ∧ w'.cell? ⟨w.heap.size, 0, none⟩ = some (.int .i64 (R : Int)) ∧ w'.cell? ⟨w.heap.size, 1, none⟩ = some (.int .i64 (N : Int)) ∧ w'.cell? ⟨w.heap.size, 2, none⟩ = some (.slice aA m1 capA) ∧ w'.cell? ⟨bl, 0, none⟩ = some (.int .i64 (len : Int))) :=
      Lib.hid (fun w' h => ⟨h, (HX2.out.below h HX2.out.lt).cells.1, (HX2.out.below h HX2.out.lt).cells.2.1, (HX2.out.below h HX2.out.lt).cells.2.2.1, (h.cell (p := ⟨bl, 0, none⟩) HBL.out).trans HL2.out⟩)
    have cc : Below w2.heap.size w2 w2.drew := (Below.refl _ _).drew
    go_region_held3 (fun w' => Below w2.heap.size w2 w' ∧ w'.cell? ⟨w.heap.size, 0, none⟩ = some (.int .i64 (R : Int)) ∧ w'.cell? ⟨w.heap.size, 1, none⟩ = some (.int .i64 (N : Int)) ∧ w'.cell? ⟨w.heap.size, 2, none⟩ = some (.slice aA m1 capA) ∧ w'.cell? ⟨bl, 0, none⟩ = some (.int .i64 (len : Int)))
      (first
        | exact HS.out _ cc
        | exact HS.out _ (cc.alloc cc.size _)
        | exact HS.out _ (Below.refl _ _)
        | fail "keep")
      (first
        | (go_at_call 110; refine (HCU.out w2.heap.size _).mono ?_; rintro e w3 ⟨h, rfl, hh, hl, hb⟩; have c3 := (cc.alloc cc.size _).trans (hb.mono (cc.alloc cc.size _).size); clear cc; have cc := c3)
        | fail "arm")
    all_goals
      have HD3 : Hid (Dat w3 w2.heap.size m2 (List.replicate m2 0)) := Lib.hid (by
        have h1 := (HMR.out w2.drew w2.heap.size rfl).dat (by_zero m2)
        rw [List.length_replicate] at h1
        exact h1.below hb h1.lt)
      have HL3 := Lib.hid hl
      have HH3 : Hid (w2.heap.size < h) := Lib.hid (Nat.lt_of_lt_of_le (alloc_lt w2.drew _) hh)
      have HX3 := Lib.hid (HX2.out.below cc HX2.out.lt)
      have HB3 := Lib.hid (HB2.out.trans (cc.mono HB2.out.size))
      have HSZ := Lib.hid HB2.out.size
      rename_i hHeld
      clear hHeld hl hh hb cc c3 HS HX2 HB2 HL2 HBL HMR HCU HCT HCR HR hmk hmi
      generalize w2.heap.size = g at *
      obtain ⟨k0, k1, k2, kf⟩ := HX3.out.cells
      go_wp2_with (go_at_call 107; refine (HMX.out g h w3 HB3.out HSZ.out HH3.out HD3.out HL3.out).mono ?_; rintro e w4 ⟨rfl, l4, hd4, hc4, hw4⟩; have HD4 := Lib.hid hd4; have HC4 := Lib.hid hc4; have HW4 := Lib.hid hw4; clear hd4 hc4 hw4)
      go_ret2
      exact ⟨h, g, l4, rfl, Nat.le_trans HSZ.out (Nat.le_of_lt HH3.out), HSZ.out, World.rowIs.congr (HL3.out.grown HW4.out (fun e => by have := HH3.out; cases e; omega)) (fun i _ => by dsimp only; rw [onA_at, Nat.zero_add]), HD4.out, HC4.out, HB3.out.trans (below_grows HW4.out HSZ.out HB3.out.size)⟩

  case inr =>
    have HZ := Lib.hid trivial
    go_enter Try.func88, Try.ntmps88
    go_wp2_with first
      | (go_at_call 101; refine (HR.out _).mono ?_; rintro e w1 ⟨rfl, hb⟩; have HX := Lib.hid ((alloc_bx w _ _ _).below hb (alloc_lt _ _)); have HB := Lib.hid (later1 hb); clear hb; obtain ⟨k0, k1, k2, kf⟩ := HX.out.cells; obtain ⟨cb, co_, rfl, _⟩ := HCR.out w (Below.refl _ _) hp; have cr : ∀ o, (w1.alloc o).cell? ⟨cb, co_, none⟩ = some (.slice (A 0) len (C 0)) := fun o => by { obtain ⟨b2, o2, e2, h2⟩ := HCR.out (w1.alloc o) (HB.out.alloc HB.out.size o) hp; cases e2; exact h2 })
      | (go_at_call 86; refine (HCT.out _ w1.heap.size (HB.out.alloc HB.out.size (.cells #[.int .i64 len] 3)) (new_len w1 len)).mono ?_; rintro e w2 ⟨rfl, rfl⟩; clear cr k0 k1 k2 kf)
    have HB2 : Hid (Below w.heap.size w (w1.alloc (.cells #[.int .i64 (len : Int)] 3))) := Lib.hid (HB.out.alloc HB.out.size _)
    have HX2 := Lib.hid (bx_alloc HX.out (.cells #[.int .i64 (len : Int)] 3))
    have HL2 : Hid ((w1.alloc (.cells #[.int .i64 (len : Int)] 3)).cell? ⟨w1.heap.size, 0, none⟩ = some (.int .i64 (len : Int))) := Lib.hid (by first | exact new_len w1 len | (rw [← HZ.out]; exact new_len w1 len))
    have HBL : Hid (w1.heap.size < (w1.alloc (.cells #[.int .i64 (len : Int)] 3)).heap.size) := Lib.hid (alloc_lt _ _)
    clear HX HB
    generalize w1.alloc (.cells #[.int .i64 (len : Int)] 3) = w2 at *
    generalize w1.heap.size = bl at *
    obtain ⟨hmi, hmk⟩ := HMI.out
    have hwr : IntKind.i64.wrap (m2 : Int) = m2 := IntWalk.i64_in _ (by omega)
    have HS : Hid (∀ w', Below w2.heap.size w2 w' → Below w2.heap.size w2 w' ∧ w'.cell? ⟨w.heap.size, 0, none⟩ = some (.int .i64 (R : Int)) ∧ w'.cell? ⟨w.heap.size, 1, none⟩ = some (.int .i64 (N : Int)) ∧ w'.cell? ⟨w.heap.size, 2, none⟩ = some (.slice aA m1 capA) ∧ w'.cell? ⟨bl, 0, none⟩ = some (.int .i64 (len : Int))) :=
      Lib.hid (fun w' h => ⟨h, (HX2.out.below h HX2.out.lt).cells.1, (HX2.out.below h HX2.out.lt).cells.2.1, (HX2.out.below h HX2.out.lt).cells.2.2.1, (h.cell (p := ⟨bl, 0, none⟩) HBL.out).trans HL2.out⟩)
    have cc : Below w2.heap.size w2 w2.drew := (Below.refl _ _).drew
    go_region_held3 (fun w' => Below w2.heap.size w2 w' ∧ w'.cell? ⟨w.heap.size, 0, none⟩ = some (.int .i64 (R : Int)) ∧ w'.cell? ⟨w.heap.size, 1, none⟩ = some (.int .i64 (N : Int)) ∧ w'.cell? ⟨w.heap.size, 2, none⟩ = some (.slice aA m1 capA) ∧ w'.cell? ⟨bl, 0, none⟩ = some (.int .i64 (len : Int)))
      (first
        | exact HS.out _ cc
        | exact HS.out _ (cc.alloc cc.size _)
        | exact HS.out _ (Below.refl _ _)
        | fail "keep")
      (first
        | (go_at_call 110; refine (HCU.out w2.heap.size _).mono ?_; rintro e w3 ⟨h, rfl, hh, hl, hb⟩; have c3 := (cc.alloc cc.size _).trans (hb.mono (cc.alloc cc.size _).size); clear cc; have cc := c3)
        | fail "arm")
    all_goals
      have HD3 : Hid (Dat w3 w2.heap.size m2 (List.replicate m2 0)) := Lib.hid (by
        have h1 := (HMR.out w2.drew w2.heap.size rfl).dat (by_zero m2)
        rw [List.length_replicate] at h1
        exact h1.below hb h1.lt)
      have HL3 := Lib.hid hl
      have HH3 : Hid (w2.heap.size < h) := Lib.hid (Nat.lt_of_lt_of_le (alloc_lt w2.drew _) hh)
      have HX3 := Lib.hid (HX2.out.below cc HX2.out.lt)
      have HB3 := Lib.hid (HB2.out.trans (cc.mono HB2.out.size))
      have HSZ := Lib.hid HB2.out.size
      rename_i hHeld
      clear hHeld hl hh hb cc c3 HS HX2 HB2 HL2 HBL HMR HCU HCT HCR HR hmk hmi
      generalize w2.heap.size = g at *
      obtain ⟨k0, k1, k2, kf⟩ := HX3.out.cells
      go_wp2_with (go_at_call 107; refine (HMX.out g h w3 HB3.out HSZ.out HH3.out HD3.out HL3.out).mono ?_; rintro e w4 ⟨rfl, l4, hd4, hc4, hw4⟩; have HD4 := Lib.hid hd4; have HC4 := Lib.hid hc4; have HW4 := Lib.hid hw4; clear hd4 hc4 hw4)
      go_ret2
      exact ⟨h, g, l4, rfl, Nat.le_trans HSZ.out (Nat.le_of_lt HH3.out), HSZ.out, World.rowIs.congr (HL3.out.grown HW4.out (fun e => by have := HH3.out; cases e; omega)) (fun i _ => by dsimp only; rw [onA_at, Nat.zero_add]), HD4.out, HC4.out, HB3.out.trans (below_grows HW4.out HSZ.out HB3.out.size)⟩
end Go.Proofs.Ytjcbcdjfhcnhcaa
namespace Go.Proofs.Ytjcbcdjfhcnhcaa
open Go.RowKit

theorem even_one (h off n cap b L0 C0 m c : Nat) (A0 a : Option Addr) (w : World) (hb : w.cell? ⟨b, 0, none⟩ = some (.slice (some ⟨h, off, none⟩) n cap)) (h0 : 0 < n) (hc : w.cell? ⟨h, off, none⟩ = some (.slice A0 L0 C0)) :
    Calls Try.prog 87 #[.slice a m c, .pointer (some ⟨b, 0, none⟩)] w fun e w' => e = .returned (.bool (decide (m ≠ L0 ∨ 1200 < m))) ∧ w = w' := by
  have hp : (0 : Int) < n := by omega
  by_cases g : m = L0
  · subst g
    go_enter Try.func87, Try.ntmps87
    go_wp2
    go_ret
    exact ⟨ret_bool (by simp; omega), rfl⟩
  · have g1 : ¬ (m : Int) = L0 := by omega
    have g2 : ((m : Int) != L0) = true := by simpa using g1
    have hd : decide (m ≠ L0 ∨ 1200 < m) = true := decide_eq_true (.inl g)
    rw [hd]
    clear g g1 hd
    go_enter Try.func87, Try.ntmps87
    go_wp2
    go_ret
    exact ⟨rfl, rfl⟩
/-- Does one of them bear the mark? -/
def Marked (m : Nat) (V : Nat → Bool) (r : Int) : Prop := (∃ j : Nat, j < m ∧ r = j ∧ V j = true) ∨ (r = -1 ∧ ∀ j, j < m → V j = false)
theorem index_even (h off m cap b : Nat) (a : Option Addr) (A : Nat → Option Addr) (L C : Nat → Nat) (V : Nat → Bool) (w : World) (hA : 0 < m → a = some ⟨h, off, none⟩) (hm : m ≤ 1000)
    (hc : ∀ j, j < m → w.cell? ⟨h, off + j, none⟩ = some (.slice (A j) (L j) (C j))) (hV : ∀ j, j < m → Calls Try.prog 87 #[.slice (A j) (L j) (C j), .pointer (some ⟨b, 0, none⟩)] w fun e w' => e = .returned (.bool (V j)) ∧ w = w') :
    Calls Try.prog 108 #[.slice a m cap, .func (.func 87) #[] #[.pointer (some ⟨b, 0, none⟩)]] w fun e w' => ∃ r, e = .returned (.int .i64 r) ∧ Marked m V r ∧ w = w' := by
  have HE := Lib.hid hV
  have HC := Lib.hid hc
  have HAA := Lib.hid hA
  clear hc hA hV
  go_enter Try.func108, Try.ntmps108
  go_wp2
  go_loopw [5, 8] (fun _ i wr => ∃ j : Nat, j ≤ m ∧ i = .int .i64 j ∧ Hid (∀ i, i < j → V i = false) ∧ wr = w) (fun _ i _ => m - (intOf i).toNat)
  case atStart => exact ⟨0, by omega, rfl, Lib.hid (fun _ h => by omega), rfl⟩
  case round =>
    obtain ⟨j, hj, rfl, HV, rfl⟩ := hrel
    obtain ⟨wo, ho⟩ : ∃ wo, wo = wr := ⟨_, rfl⟩
    subst ho
    by_cases hlt : j < m
    · obtain rfl := HAA.out (by omega)
      have cr := HC.out j hlt
      have he := HE.out j hlt
      cases hz : V j with
      | false =>
        rw [hz] at he
        have HJ := Lib.hid he
        have HZ := Lib.hid hz
        clear he hz
        go_wp2_with ((with_reducible refine HJ.out.mono ?_); rintro e w1 ⟨rfl, rfl⟩)
        go_roundw
        case rel => exact ⟨j + 1, by omega, by go_num, Lib.hid (fun i hi => if e : i = j then e ▸ HZ.out else HV.out i (by omega)), trivial⟩
        case measure => simp [intOf]; omega
      | true =>
        rw [hz] at he
        have HJ := Lib.hid he
        have HZ := Lib.hid hz
        clear he hz
        go_wp2_with ((with_reducible refine HJ.out.mono ?_); rintro e w1 ⟨rfl, rfl⟩)
        go_ret
        exact ⟨j, rfl, .inl ⟨j, hlt, rfl, HZ.out⟩, rfl⟩
    · obtain rfl : j = m := by omega
      go_wp2
      go_ret
      exact ⟨-1, rfl, .inr ⟨rfl, HV.out⟩, rfl⟩
/-- Equally long, and none too long? -/
def EvenL (n : Nat) (L : Nat → Nat) : Prop := ∀ j, j < n → L j = L 0 ∧ L j ≤ 1200
theorem evenL_dec (n : Nat) (L : Nat → Nat) : EvenL n L ∨ ∃ j, j < n ∧ (L j ≠ L 0 ∨ 1200 < L j) := by
  by_cases h : EvenL n L
  · exact .inl h
  · refine .inr (Classical.byContradiction fun g => h fun j hj => ⟨Classical.byContradiction fun e => g ⟨j, hj, .inl e⟩, Nat.le_of_not_lt fun e => g ⟨j, hj, .inr e⟩⟩)
theorem contains_even (m cap b : Nat) (a : Option Addr) (A : Nat → Option Addr) (L C : Nat → Nat) (X : Nat → List Int) (w : World) (hc : ColsIn w a m cap A L C X) (hm : m ≤ 1000) (hb : w.cell? ⟨b, 0, none⟩ = some (.slice a m cap)) (v : Bool) (hv : v = false → EvenL m L) (hv2 : v = true → ∃ j, j < m ∧ (L j ≠ L 0 ∨ 1200 < L j)) :
    Calls Try.prog 86 #[.slice a m cap, .func (.func 87) #[] #[.pointer (some ⟨b, 0, none⟩)]] w fun e w' => e = .returned (.bool v) ∧ w = w' := by
  obtain ⟨h, off, h1, h2⟩ := hc.at_
  have hV : ∀ j, j < m → Calls Try.prog 87 #[.slice (A j) (L j) (C j), .pointer (some ⟨b, 0, none⟩)] w fun e w' => e = .returned (.bool (decide (L j ≠ L 0 ∨ 1200 < L j))) ∧ w = w' := fun j hj => by
    have e := h1 (by omega)
    rw [e] at hb
    exact even_one h off m cap b (L 0) (C 0) (L j) (C j) (A 0) (A j) w hb (by omega) (by have := h2 0 (by omega); rwa [Nat.add_zero] at this)
  have HI := Lib.hid (index_even h off m cap b a A L C _ w h1 hm h2 hV)
  have HV := Lib.hid (And.intro hv hv2)
  clear hv hv2 hc h1 h2 hb hV
  go_enter Try.func86, Try.ntmps86
  go_wp2_with (go_at_call 108; refine HI.out.mono ?_; rintro e w1 ⟨r, rfl, hu, rfl⟩; have HU := Lib.hid hu; clear hu)
  go_ret
  refine ⟨ret_bool ?_, rfl⟩
  rcases HU.out with ⟨j, hj, e, hne⟩ | ⟨e, hall⟩
  · rw [e]
    cases v with
    | true => simp
    | false =>
      have := HV.out.1 rfl j hj
      have h4 := of_decide_eq_true hne
      omega
  · rw [e]
    cases v with
    | false => simp
    | true =>
      obtain ⟨j, hj, hne⟩ := HV.out.2 rfl
      exact absurd hne (of_decide_eq_false (hall j hj))
theorem new_box (W : World) (v : Value) (t : TypeId) : (W.alloc (.cells #[v] t)).cell? ⟨W.heap.size, 0, none⟩ = some v := by
  have h := Go.Deep.blk_alloc_new W (.cells #[v] t)
  simp only [World.cell?, h]
  rfl
/-- What even answers. -/
theorem even_any (n cap : Nat) (a : Option Addr) (A : Nat → Option Addr) (L C : Nat → Nat) (X : Nat → List Int) (w : World) (hc : ColsIn w a n cap A L C X) (hn : n ≤ 1000) (v : Bool) (hv : v = true → EvenL n L) (hv2 : v = false → ∃ j, j < n ∧ (L j ≠ L 0 ∨ 1200 < L j)) :
    Calls Try.prog 65 #[.slice a n cap] w fun e w' => e = .returned (.bool v) ∧ Below w.heap.size w w' := by
  have HC := Lib.hid (contains_even n cap w.heap.size a A L C X (w.alloc (.cells #[.slice a n cap] 26)) (hc.below ((Below.refl _ w).alloc (Nat.le_refl _) _) (Nat.le_refl _)) hn (new_box w _ _) (!v) (fun h => hv (by simpa using h)) (fun h => hv2 (by simpa using h)))
  have HX := Lib.hid (new_box w (.slice a n cap) 26)
  clear hv hv2 hc
  go_enter Try.func65, Try.ntmps65
  have k0 := HX.out
  go_wp2_with (go_at_call 86; refine HC.out.mono ?_; rintro e w1 ⟨rfl, rfl⟩)
  go_ret
  exact ⟨ret_bool (by simp), (Below.refl _ w).alloc (Nat.le_refl _) _⟩
end Go.Proofs.Ytjcbcdjfhcnhcaa
namespace Go.Proofs.Ytjcbcdjfhcnhcaa
open Go.RowKit

/-- Are two lists the same? -/
def sameB6 (x y : List Int) : Bool := decide (x = y)
theorem str_zero (w : World) (p : Option Addr) (c : Nat) : (convert 42 9 (.slice p 0 c)).run Try.prog w = .ok (.string (strOfNums [])) w := by
  rw [run_convert_bytes_string w 42 9 5 _ 0 c Try.underlying42 Try.underlying5 Try.underlying9]
  cases p <;> simp [Conv.bytesToString, loadCells]
  all_goals rfl
theorem Bytes.str {w : World} {a : Option Addr} {n : Nat} {l : List Int} (h : Bytes w a n l) (c : Nat) : (convert 42 9 (.slice a n c)).run Try.prog w = .ok (.string (strOfNums l)) w := by
  rcases h.cell with h0 | ⟨_, b, off, rfl, _, hc⟩
  · subst h0
    obtain rfl : l = [] := List.eq_nil_of_length_eq_zero h.size
    exact str_zero w a c
  · exact run_convert_bytes_arg (P := Try.prog) w 42 5 Try.underlying42 Try.underlying5 b off n c l h.size hc 9 Try.underlying9
theorem str_inj : ∀ {x y : List Int}, By x → By y → strOfNums x = strOfNums y → x = y := by
  intro x y hx hy h
  have e : x.map (fun n => UInt8.ofNat n.toNat) = y.map (fun n => UInt8.ofNat n.toNat) := by
    rw [← strOfNums_data, ← strOfNums_data, h]
  have hl : x.length = y.length := by have := congrArg List.length e; simpa using this
  refine same_getD hl (fun i hi => ?_)
  have ei : (x.map (fun n => UInt8.ofNat n.toNat))[i]? = (y.map (fun n => UInt8.ofNat n.toNat))[i]? := by rw [e]
  rw [List.getElem?_map, List.getElem?_map, List.getElem?_eq_getElem hi, List.getElem?_eq_getElem (by omega)] at ei
  simp only [Option.map_some, Option.some.injEq] at ei
  have h1 := hx _ (List.getElem_mem hi)
  have h2 := hy _ (List.getElem_mem (show i < y.length by omega))
  rw [List.getD_eq_getElem?_getD, List.getD_eq_getElem?_getD, List.getElem?_eq_getElem hi, List.getElem?_eq_getElem (by omega)]
  have e3 := congrArg UInt8.toNat ei
  simp only [UInt8.toNat_ofNat'] at e3
  simp only [Option.getD_some]
  omega
theorem str_eq {x y : List Int} (hx : By x) (hy : By y) : ((strOfNums x).toList == (strOfNums y).toList) = sameB6 x y := by
  unfold sameB6
  by_cases h : x = y
  · subst h; simp
  · rw [decide_eq_false h, beq_eq_false_iff_ne]
    intro e
    rw [ByteArray.toList_eq, ByteArray.toList_eq] at e
    refine h (str_inj hx hy ?_)
    have e2 : (strOfNums x).data = (strOfNums y).data := Array.toList_inj.1 e
    exact congrArg ByteArray.mk e2
/-- Are two lists of lists the same, so far? -/
def SameTo (n : Nat) (X Y : Nat → List Int) : Prop := ∀ j, j < n → X j = Y j
theorem ColsIn.drewN {w : World} {a : Option Addr} {n c : Nat} {A : Nat → Option Addr} {L C : Nat → Nat} {X : Nat → List Int} (h : ColsIn w a n c A L C X) (k : Nat) : ColsIn (w.drewN k) a n c A L C X :=
  ⟨h.1, h.2.1, h.2.2.1, fun r hr => ⟨(h.2.2.2 r hr).1, ⟨(h.2.2.2 r hr).2.bytes.drewN k, (h.2.2.2 r hr).2.cap, (h.2.2.2 r hr).2.top, (h.2.2.2 r hr).2.nilc⟩⟩⟩
set_option maxRecDepth 100000 in
theorem rsame_lists (a b : Option Addr) (n m ca cb : Nat) (A B : Nat → Option Addr) (L C L' C' : Nat → Nat) (X Y : Nat → List Int) (w : World) (hx : ColsIn w a n ca A L C X) (hy : ColsIn w b m cb B L' C' Y) (hn : n ≤ 1000) (hm : m ≤ 1000) (v : Bool)
    (hv : v = true → n = m ∧ SameTo n X Y) (hv2 : v = false → ¬ (n = m ∧ SameTo n X Y)) :
    Calls Try.prog 35 #[.slice a n ca, .slice b m cb] w fun e w' => e = .returned (.bool v) ∧ ∃ k, w' = w.drewN k := by
  by_cases hnm : n = m
  case neg =>
    have hne : ¬ (n : Int) = m := by omega
    have hb : ((n : Int) != m) = true := by simpa using hne
    have hf : v = false := by
      cases v with
      | false => rfl
      | true => exact absurd (hv rfl).1 hnm
    subst hf
    clear hv hv2 hx hy hnm hne
    go_enter Try.func35, Try.ntmps35
    go_wp2
    go_ret
    exact ⟨rfl, 0, rfl⟩
  case pos =>
  subst hnm
  have HV := Lib.hid (And.intro hv hv2)
  have HX := Lib.hid hx
  have HY := Lib.hid hy
  clear hv hv2 hx hy
  go_enter Try.func35, Try.ntmps35
  go_wp2
  go_loopw [5] (fun i wr => ∃ j k : Nat, j ≤ n ∧ i = .int .i64 (j : Nat) ∧ Hid (SameTo j X Y) ∧ wr = w.drewN k) (fun i _ => n - (intOf i).toNat)
  case atStart => exact ⟨0, 0, by omega, rfl, Lib.hid (fun _ h => by omega), rfl⟩
  case round =>
    obtain ⟨j, k, hj, rfl, HS, hw⟩ := hrel
    have HXk := Lib.hid (HX.out.drewN k)
    have HYk := Lib.hid (HY.out.drewN k)
    rw [← hw] at HXk HYk
    have HW := Lib.hid hw
    clear hw
    by_cases hlt : j < n
    · obtain ⟨⟨h, off, rfl, _, c1⟩, s1⟩ := HXk.out.2.2.2 j hlt
      obtain ⟨⟨h', off', rfl, _, c2⟩, s2⟩ := HYk.out.2.2.2 j hlt
      have k1 := fun q => (s1.bytes.drewN q).str (C j)
      have k2 := fun q => (s2.bytes.drewN q).str (C' j)
      have j0 : (0 : Int) ≤ j := by omega
      have j1 : (j : Int) < n := by omega
      have hq := str_eq (show By (X j) from s1.bytes.range) (show By (Y j) from s2.bytes.range)
      clear s1 s2
      generalize hsx : strOfNums (X j) = sx at *
      generalize hsy : strOfNums (Y j) = sy at *
      cases hz : sameB6 (X j) (Y j) with
      | true =>
        rw [hz] at hq
        have hqn : (!sx.toList == sy.toList) = false := by simp only [hq, Bool.not_true]
        have HZ := Lib.hid hz
        clear hq hz hsx hsy
        go_wp2
        go_quiet (fail)
        go_wp2
        go_roundw
        case rel =>
          rw [HW.out]
          exact ⟨j + 1, _, by omega, by go_num, Lib.hid (fun i hi => if e : i = j then e ▸ of_decide_eq_true HZ.out else HS.out i (by omega)), by rw [World.drewN_drewN]⟩
        case measure => simp [intOf]; omega
      | false =>
        rw [hz] at hq
        have hqn : (!sx.toList == sy.toList) = true := by simp only [hq, Bool.not_false]
        have HZ := Lib.hid hz
        clear hq hz hsx hsy
        go_wp2
        go_quiet (fail)
        go_wp2
        go_ret
        rw [HW.out]
        refine ⟨ret_bool ?_, _, by rw [World.drewN_drewN]⟩
        cases v with
        | false => rfl
        | true => exact absurd ((HV.out.1 rfl).2 j hlt) (of_decide_eq_false HZ.out)
    · obtain rfl : j = n := by omega
      go_wp2
      go_ret
      rw [HW.out]
      refine ⟨ret_bool ?_, k, rfl⟩
      cases v with
      | true => rfl
      | false => exact absurd ⟨trivial, HS.out⟩ (HV.out.2 rfl)
end Go.Proofs.Ytjcbcdjfhcnhcaa
namespace Go.Proofs.Ytjcbcdjfhcnhcaa
open Go.RowKit

theorem pwr_pw {a : Nat} (ha : a < 256) (h0 : a ≠ 0) : ∀ n : Nat, pwZ ((lg a : Int) * (n : Nat)) = pwr a n
  | 0 => by simp; rfl
  | n + 1 => by
    have := pwZ_add (lg a * (n : Nat)) (lg a)
    rw [pwZ_lg ha h0, pwr_pw ha h0 n] at this
    show _ = mu (pwr a n) a
    rw [mu_eq (pwr_lt a n) ha, this, Int.natCast_add, Int.mul_add]; simp
theorem pwr_null : ∀ n : Nat, n ≠ 0 → pwr 0 n = 0
  | 0, h => absurd rfl h
  | _ + 1, _ => mu_zero _
theorem pow_nat (t a n : Nat) (ha : a < 256) (w : World) (ht : IsTab w t) : ∃ v : Value, Calls Try.prog 100 #[.pointer (some ⟨t, 0, none⟩), .int .u8 a, .int .i64 n] w fun e w' => e = .returned (.tuple #[.int .u8 (pwr a n), v]) ∧ w = w' := by
  by_cases h0 : a = 0
  · subst h0
    by_cases hn : n = 0
    · subst hn; exact ⟨_, pow_zero t 0 w⟩
    · rw [pwr_null n hn]; exact ⟨_, pow_null t n (by omega) w⟩
  · rw [← pwr_pw ha h0 n]; exact ⟨_, pow_some t a n ha h0 w ht⟩
set_option maxRecDepth 100000 in
set_option maxHeartbeats 2000000 in
theorem powers_some (t r c : Nat) (hr : r ≤ 255) (hc : c ≤ 255) (w : World) (ht : IsTab w t) : Calls Try.prog 82 #[.pointer (some ⟨t, 0, none⟩), .int .i64 r, .int .i64 c] w (Handed r c pwr w) := by
  have hm : r * c ≤ 65025 := Nat.mul_le_mul hr hc
  have HN := Lib.hid (new_some r c hr hc)
  have HP := Lib.hid (fun g => parts_any (some ⟨g, 0, none⟩) (r * c) (r * c) r c (by omega) (Nat.le_refl _) (Nat.le_refl _) (by omega) (fun h => nomatch h))
  have HPW := Lib.hid (fun (a n : Nat) (ha : a < 256) w ht => pow_nat t a n ha w ht)
  have HT := Lib.hid ht
  unfold Handed
  have HSP : Hid (∀ i k, i < r → k < c → i * c + k < r * c) := Lib.hid (fun i k hi hk => spot_lt hi hk)
  obtain ⟨m, hmm⟩ : ∃ m, r * c = m := ⟨_, rfl⟩
  unfold Newed at HN
  rw [hmm] at hm HN HP HSP ⊢
  clear hmm ht
  go_enter Try.func82, Try.ntmps82
  go_wp2_with first
    | (go_at_call 98; refine (HN.out _).mono ?_; rintro e w1 ⟨g, rfl, hg, hr, hb⟩; have HG := Lib.hid hg; have HR := Lib.hid hr; have HB := Lib.hid hb; clear hg hr hb)
    | (go_at_call 99; refine (HP.out _ _).mono ?_; rintro e w3 ⟨h, rfl, hh, hl, hb⟩; have HH := Lib.hid hh; have HL := Lib.hid hl; have HB3 := Lib.hid hb; clear hh hl hb)
  have HO1 : Hid (w.heap.size < g ∧ g < w1.heap.size ∧ w1.heap.size < h) := Lib.hid ⟨Nat.lt_of_lt_of_le (alloc_lt _ _) HG.out, HR.out.lt, Nat.lt_of_lt_of_le (alloc_lt _ _) HH.out⟩
  have HD3 : Hid (Dat w3 g m (List.replicate m 0)) := Lib.hid (by
    have := HR.out.dat (by_zero m)
    rw [List.length_replicate] at this
    exact (this.keep (Below.heap_alloc _ _ _ this.lt)).below HB3.out (Nat.lt_trans this.lt (alloc_lt _ _)))
  have HX2 : Hid (Bx w3 w.heap.size (.int .i64 0) (.int .i64 0) (.slice none 0 0)) := Lib.hid ((bx_alloc ((alloc_bx w _ _ _).below HB.out (alloc_lt _ _)) _).below HB3.out (Nat.lt_trans (Nat.lt_trans HO1.out.1 HO1.out.2.1) (alloc_lt _ _)))
  have HX4 : Hid (Bx w3 w1.heap.size (.int .i64 r) (.int .i64 c) (.slice (some ⟨g, 0, none⟩) m m)) := Lib.hid ((alloc_bx w1 _ _ _).below HB3.out (alloc_lt _ _))
  have HB0 : Hid (Below w.heap.size w w3) := Lib.hid (((((Below.refl _ w).alloc (Nat.le_refl _) _).trans (HB.out.mono (Nat.le_of_lt (alloc_lt _ _)))).alloc (Nat.le_of_lt (Nat.lt_trans HO1.out.1 HO1.out.2.1)) _).trans (HB3.out.mono (Nat.le_of_lt (Nat.lt_trans (Nat.lt_trans HO1.out.1 HO1.out.2.1) (alloc_lt _ _)))))
  have HT3 := Lib.hid (HT.out.below HB0.out HT.out.lt)
  have HLT := Lib.hid HT.out.lt
  have HGR0 := Lib.hid (grown_refl w3 (some g))
  clear HG HR HB HH HB3 HT HN HP
  generalize w1.heap.size = b4 at *
  go_loopw [10, 11, 12, 26] (fun _ _ _ i wr => ∃ (j : Nat) (lc : List Int), j ≤ r ∧ i = .int .i64 (j : Nat) ∧ Hid (Dat wr g m lc) ∧ Hid (∀ i k, i < r → k < c → co lc (i * c + k) = if i < j then pwr i k else 0) ∧ Hid (w3.grownBy wr (some g))) (fun _ _ _ i _ => r - (intOf i).toNat)
  case atStart => exact ⟨0, _, by omega, rfl, HD3, Lib.hid (fun i k _ _ => by rw [co_zero, if_neg (by omega)]), HGR0⟩
  case round =>
    obtain ⟨j, lc, hj, rfl, HDj, HCj, HGj⟩ := hrel
    obtain ⟨wo, ho⟩ : ∃ wo, wo = wr := ⟨_, rfl⟩
    subst ho
    by_cases hlt : j < r
    · have cr := (HL.out.grown HGj.out (fun e => by have := HO1.out; cases e; omega)).cell j hlt
      rw [onA_at, Nat.zero_add] at cr
      have HC0 : Hid (∀ i k, i < r → k < c → co lc (i * c + k) = if i < j ∨ (i = j ∧ k < 0) then pwr i k else 0) := Lib.hid (fun i k hi hk => by
        rw [HCj.out i k hi hk]
        by_cases g : i < j
        · rw [if_pos g, if_pos (.inl g)]
        · rw [if_neg g, if_neg (by omega)])
      go_wp2
      go_loopw [12, 33] (fun _ i wr => ∃ (q : Nat) (lc : List Int), q ≤ c ∧ i = .int .i64 (q : Nat) ∧ Hid (Dat wr g m lc) ∧ Hid (∀ i k, i < r → k < c → co lc (i * c + k) = if i < j ∨ (i = j ∧ k < q) then pwr i k else 0) ∧ Hid (w3.grownBy wr (some g))) (fun _ i _ => c - (intOf i).toNat)
      case atStart => exact ⟨0, lc, by omega, rfl, HDj, HC0, HGj⟩
      case round =>
        clear HDj HCj HGj HC0 lc
        obtain ⟨q, lc, hq, rfl, HDj, HCj, HGj⟩ := hrel
        obtain ⟨wi, hi⟩ : ∃ wi, wi = wr := ⟨_, rfl⟩
        subst hi
        by_cases hlq : q < c
        · have c0 := HDj.out.cell (j * c + q) (HSP.out j q hlt hlq)
          have f0 := HDj.out.frozen (j * c + q)
          obtain ⟨v, hv⟩ := HPW.out j q (by omega) wi (HT3.out.grown HGj.out (fun e => by have := HO1.out; have := HLT.out; cases e; omega))
          have HV := Lib.hid hv
          have hpl := pwr_lt j q
          have HPV : Hid (∃ pv, pv = pwr j q) := Lib.hid ⟨_, rfl⟩
          obtain ⟨pv, hpv⟩ := HPV.out
          rw [← hpv] at HV hpl
          have HPE := Lib.hid hpv
          have hju : IntKind.u8.wrap (j : Int) = j := IntWalk.u8_in _ (by omega)
          clear hv hpv cr
          go_wp2_with (go_at_call 100; refine HV.out.mono ?_; rintro e w5 ⟨rfl, rfl⟩)
          go_roundw
          case rel =>
            refine ⟨q + 1, lc.set (j * c + q) pv, by omega, by go_num, Lib.hid (HDj.out.set (j * c + q) pv hpl), Lib.hid (fun i k hi hk => ?_), Lib.hid (grown_trans HGj.out (grown_set _ _ _ _))⟩
            rw [co_set lc (j * c + q) pv (i * c + k) (by rw [HDj.out.size]; exact HSP.out j q hlt hlq)]
            by_cases g1 : i = j ∧ k = q
            · rw [g1.1, g1.2, if_pos rfl, if_pos (by omega), HPE.out]
            · rw [if_neg (spot_ne hk hlq g1), HCj.out i k hi hk]
              by_cases g2 : i < j ∨ (i = j ∧ k < q)
              · rw [if_pos g2, if_pos (by omega)]
              · rw [if_neg g2, if_neg (by omega)]
          case measure => simp [intOf]; omega
        · obtain rfl : q = c := by omega
          go_wp2
          go_roundw
          case rel =>
            refine ⟨j + 1, lc, by omega, by go_num, HDj, Lib.hid (fun i k hi hk => ?_), HGj⟩
            rw [HCj.out i k hi hk]
            by_cases g2 : i < j ∨ (i = j ∧ k < q)
            · rw [if_pos g2, if_pos (by omega)]
            · rw [if_neg g2, if_neg (by omega)]
          case measure => simp [intOf]; omega
    · obtain rfl : j = r := by omega
      obtain ⟨k0, k1, k2, kf⟩ := (HX4.out.keep (HGj.out.block b4 HX4.out.lt (fun e => by have := HO1.out; cases e; omega))).cells
      have HXr := Lib.hid (HX2.out.keep (HGj.out.block _ HX2.out.lt (fun e => by have := HO1.out; cases e; omega)))
      obtain ⟨r0, r1, r2, rf⟩ := HXr.out.cells
      go_wp2
      clear k0 k1 k2 kf r0 r1 r2 rf
      obtain ⟨z0, z1, z2, _⟩ := (HXr.out.write (x' := .int .i64 j) (y' := .int .i64 c) (z' := .slice (some ⟨g, 0, none⟩) m m)).cells
      refine bodyPost_ret (v := .tuple #[.agg #[.int .i64 j, .int .i64 c, .slice (some ⟨g, 0, none⟩) m m], .int .i64 0]) (by simp [results, Try.results82, go_sem, z0, z1, z2]) rfl ?_
      clear z0 z1 z2
      exact ⟨g, lc, rfl, by have := HO1.out; omega, dat_set3 HDj.out (by have := HO1.out; omega), fun i k hi hk => by rw [HCj.out i k hi hk, if_pos hi], below_set3 (HB0.out.trans (below_grows HGj.out (by have := HO1.out; omega) HB0.out.size)) (Nat.le_refl _)⟩
end Go.Proofs.Ytjcbcdjfhcnhcaa
