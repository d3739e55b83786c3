/-
  Own text: Apply of package matrix, walked.
-/
import Derived.Test.YtjcbcdjfhcnhcaaMMul
namespace Go.Proofs.Ytjcbcdjfhcnhcaa
open Go.RowKit

/-- Columns of bytes that came in. -/
def ColsIn (w : World) (a : Option Addr) (len cap : Nat) (A : Nat → Option Addr) (L C : Nat → Nat) (X : Nat → List Int) : Prop :=
  len ≤ cap ∧ cap ≤ 9223372036854775807 ∧ (a = none → cap = 0) ∧ ∀ r, r < len → (∃ b off, a = some ⟨b, off, none⟩ ∧ b < w.heap.size ∧ w.cell? ⟨b, off + r, none⟩ = some (.slice (A r) (L r) (C r))) ∧ Sl w (A r) (L r) (C r) (X r)
theorem ColsIn.below {w w' : World} {a : Option Addr} {len cap B : Nat} {A : Nat → Option Addr} {L C : Nat → Nat} {X : Nat → List Int} (h : ColsIn w a len cap A L C X) (hb : Below B w w') (hB : w.heap.size ≤ B) : ColsIn w' a len cap A L C X :=
  ⟨h.1, h.2.1, h.2.2.1, fun r hr => by
    obtain ⟨⟨b, off, e, hl, hc⟩, hs⟩ := h.2.2.2 r hr
    exact ⟨⟨b, off, e, Nat.lt_of_lt_of_le hl hb.size, (hb.cell (p := ⟨b, off + r, none⟩) (by show b < B; omega)).trans hc⟩, hs.below hb hB⟩⟩
theorem ColsIn.src {w : World} {a : Option Addr} {N cap len : Nat} {A : Nat → Option Addr} {L C : Nat → Nat} {X : Nat → List Int} (h : ColsIn w a N cap A L C X) (hL : ∀ k, k < N → L k = len) : Src w (.slice a N cap) N len X := by
  refine ⟨a, cap, A, C, rfl, h.1, fun k hk => ?_⟩
  obtain ⟨⟨b, off, e, _, hc⟩, hs⟩ := h.2.2.2 k hk
  rw [hL k hk] at hc hs
  exact ⟨b, off, e, hc, hs.cap, hs.bytes⟩
/-- Where they lie. -/
theorem ColsIn.at_ {w : World} {a : Option Addr} {N cap : Nat} {A : Nat → Option Addr} {L C : Nat → Nat} {X : Nat → List Int} (h : ColsIn w a N cap A L C X) : ∃ b off, (0 < N → a = some ⟨b, off, none⟩) ∧ ∀ k, k < N → w.cell? ⟨b, off + k, none⟩ = some (.slice (A k) (L k) (C k)) := by
  by_cases h0 : 0 < N
  · obtain ⟨⟨b, off, e, _, _⟩, _⟩ := h.2.2.2 0 h0
    refine ⟨b, off, fun _ => e, fun k hk => ?_⟩
    obtain ⟨⟨b', off', e', _, hc⟩, _⟩ := h.2.2.2 k hk
    rw [e] at e'
    cases e'
    exact hc
  · exact ⟨0, 0, fun h => absurd h h0, fun k hk => absurd hk (by omega)⟩
theorem differs (a : Option Addr) (n cap len b : Nat) (w : World) (hb : w.cell? ⟨b, 0, none⟩ = some (.int .i64 len)) :
    Calls Try.prog 109 #[.slice a n cap, .pointer (some ⟨b, 0, none⟩)] w fun e w' => e = .returned (.bool (decide (n ≠ len))) ∧ w = w' := by
  go_enter Try.func109, Try.ntmps109
  go_wp2
  go_ret
  refine ⟨ret_bool ?_, rfl⟩
  by_cases h : n = len
  · subst h; simp
  · rw [decide_eq_true h]; simp; omega
/-- Is one of them longer, or shorter? -/
def Uneven (m len : Nat) (L : Nat → Nat) (r : Int) : Prop := (∃ j : Nat, j < m ∧ r = j ∧ L j ≠ len) ∨ (r = -1 ∧ ∀ j, j < m → L j = len)
theorem index_len (h off m cap len b : Nat) (a : Option Addr) (A : Nat → Option Addr) (L C : Nat → Nat) (w : World) (hA : 0 < m → a = some ⟨h, off, none⟩) (hm : m ≤ 1000)
    (hc : ∀ j, j < m → w.cell? ⟨h, off + j, none⟩ = some (.slice (A j) (L j) (C j))) (hb : w.cell? ⟨b, 0, none⟩ = some (.int .i64 len)) :
    Calls Try.prog 108 #[.slice a m cap, .func (.func 109) #[] #[.pointer (some ⟨b, 0, none⟩)]] w fun e w' => ∃ r, e = .returned (.int .i64 r) ∧ Uneven m len L r ∧ w = w' := by
  have HE := Lib.hid (fun j => differs (A j) (L j) (C j) len b w hb)
  have HC := Lib.hid hc
  have HAA := Lib.hid hA
  clear hc hb hA
  go_enter Try.func108, Try.ntmps108
  go_wp2
  go_loopw [5, 8] (fun _ i wr => ∃ j : Nat, j ≤ m ∧ i = .int .i64 j ∧ Hid (∀ i, i < j → L i = len) ∧ wr = w) (fun _ i _ => m - (intOf i).toNat)
  case atStart => exact ⟨0, by omega, rfl, Lib.hid (fun _ h => by omega), rfl⟩
  case round =>
    obtain ⟨j, hj, rfl, HV, rfl⟩ := hrel
    obtain ⟨wo, ho⟩ : ∃ wo, wo = wr := ⟨_, rfl⟩
    subst ho
    by_cases hlt : j < m
    · obtain rfl := HAA.out (by omega)
      have cr := HC.out j hlt
      have he := HE.out j
      by_cases hz : L j = len
      · rw [show decide (L j ≠ len) = false by simp [hz]] at he
        have HJ := Lib.hid he
        have HZ := Lib.hid hz
        clear he hz
        go_wp2_with ((with_reducible refine HJ.out.mono ?_); rintro e w1 ⟨rfl, rfl⟩)
        go_roundw
        case rel => exact ⟨j + 1, by omega, by go_num, Lib.hid (fun i hi => if e : i = j then e ▸ HZ.out else HV.out i (by omega)), trivial⟩
        case measure => simp [intOf]; omega
      · rw [show decide (L j ≠ len) = true by simp [hz]] at he
        have HJ := Lib.hid he
        have HZ := Lib.hid hz
        clear he hz
        go_wp2_with ((with_reducible refine HJ.out.mono ?_); rintro e w1 ⟨rfl, rfl⟩)
        go_ret
        exact ⟨j, rfl, .inl ⟨j, hlt, rfl, HZ.out⟩, rfl⟩
    · obtain rfl : j = m := by omega
      go_wp2
      go_ret
      exact ⟨-1, rfl, .inr ⟨rfl, HV.out⟩, rfl⟩
theorem contains_len (m cap len b : Nat) (a : Option Addr) (A : Nat → Option Addr) (L C : Nat → Nat) (X : Nat → List Int) (w : World) (hc : ColsIn w a m cap A L C X) (hm : m ≤ 1000) (hb : w.cell? ⟨b, 0, none⟩ = some (.int .i64 len)) (v : Bool) (hv : v = false → ∀ j, j < m → L j = len) (hv2 : v = true → ∃ j, j < m ∧ L j ≠ len) :
    Calls Try.prog 86 #[.slice a m cap, .func (.func 109) #[] #[.pointer (some ⟨b, 0, none⟩)]] w fun e w' => e = .returned (.bool v) ∧ w = w' := by
  obtain ⟨h, off, h1, h2⟩ := hc.at_
  have HI := Lib.hid (index_len h off m cap len b a A L C w h1 hm h2 hb)
  have HV := Lib.hid (And.intro hv hv2)
  clear hv hv2 hc h1 h2 hb
  go_enter Try.func86, Try.ntmps86
  go_wp2_with (go_at_call 108; refine HI.out.mono ?_; rintro e w1 ⟨r, rfl, hu, rfl⟩; have HU := Lib.hid hu; clear hu)
  go_ret
  refine ⟨ret_bool ?_, rfl⟩
  rcases HU.out with ⟨j, hj, e, hne⟩ | ⟨e, hall⟩
  · rw [e]
    cases v with
    | true => simp
    | false => exact absurd (HV.out.1 rfl j hj) hne
  · rw [e]
    cases v with
    | false => simp
    | true => obtain ⟨j, hj, hne⟩ := HV.out.2 rfl; exact absurd (hall j hj) hne
theorem new_len (W : World) (len : Nat) : (W.alloc (.cells #[.int .i64 (len : Int)] 3)).cell? ⟨W.heap.size, 0, none⟩ = some (.int .i64 (len : Int)) := by
  have h := Go.Deep.blk_alloc_new W (.cells #[.int .i64 (len : Int)] 3)
  simp only [World.cell?, h]
  rfl
/-- What Apply answers if it refuses. -/
def Barred (k : Int) (w : World) (e : Ending) (w' : World) : Prop := e = .returned (.tuple #[.slice none 0 0, .int .i64 k]) ∧ Below w.heap.size w w'
set_option maxRecDepth 100000 in
theorem mapply_size (t : Nat) (r c : Int) (a aC : Option Addr) (n cap m capC : Nat) (w : World) (_hm : m ≤ 1000) (h : ¬ (RightM r c n ∧ (m : Int) = c)) :
    Calls Try.prog 88 #[.pointer (some ⟨t, 0, none⟩), .agg #[.int .i64 r, .int .i64 c, .slice a n cap], .slice aC m capC] w (Barred 50 w) := by
  have HR := Lib.hid (right_any r c n a cap)
  have hcase : decide (RightM r c n) = false ∨ (decide (RightM r c n) = true ∧ ((m : Int) != c) = true) := by
    by_cases h1 : RightM r c n
    · refine .inr ⟨decide_eq_true h1, ?_⟩
      have hne : ¬ (m : Int) = c := fun e => h ⟨h1, e⟩
      simpa using hne
    · exact .inl (decide_eq_false h1)
  clear h
  rcases hcase with h1 | ⟨h1, h2⟩
  all_goals
    rw [h1] at HR
    clear h1
    go_enter Try.func88, Try.ntmps88
    go_wp2_with (go_at_call 101; refine (HR.out _).mono ?_; rintro e w1 ⟨rfl, hb⟩; have HX := Lib.hid ((alloc_bx w _ _ _).below hb (alloc_lt _ _)); have HB := Lib.hid (later1 hb); clear hb; obtain ⟨k0, k1, k2, kf⟩ := HX.out.cells)
    go_ret2
    exact ⟨rfl, HB.out⟩
set_option maxRecDepth 100000 in
theorem mapply_len (t R N capA capC m : Nat) (hR : R ≤ 255) (hN : N ≤ 255) (hm : m = R * N) (aA aC : Option Addr) (A : Nat → Option Addr) (L C : Nat → Nat) (X : Nat → List Int) (w : World) (hc : ColsIn w aC N capC A L C X) (hL : ∃ k, k < N ∧ L k ≠ L 0) :
    Calls Try.prog 88 #[.pointer (some ⟨t, 0, none⟩), .agg #[.int .i64 R, .int .i64 N, .slice aA m capA], .slice aC N capC] w (Barred 61 w) := by
  have HR := Lib.hid (right_yes R N m hR hN hm aA capA)
  have hp : (0 : Int) < (N : Int) := by obtain ⟨k, hk, _⟩ := hL; omega
  have HCT : Hid (∀ w' b, Below w.heap.size w w' → w'.cell? ⟨b, 0, none⟩ = some (.int .i64 (L 0 : Nat)) → Calls Try.prog 86 #[.slice aC N capC, .func (.func 109) #[] #[.pointer (some ⟨b, 0, none⟩)]] w' fun e w'' => e = .returned (.bool true) ∧ w' = w'') :=
    Lib.hid (fun w' b hw hb => contains_len N capC (L 0) b aC A L C X w' (hc.below hw (Nat.le_refl _)) (by omega) hb true (fun h => nomatch h) (fun _ => hL))
  have HCR : Hid (∀ w', Below w.heap.size w w' → ∃ b off, aC = some ⟨b, off, none⟩ ∧ w'.cell? ⟨b, off, none⟩ = some (.slice (A 0) (L 0) (C 0))) := Lib.hid (fun w' h => by
    obtain ⟨⟨b, off, e, _, h1⟩, _⟩ := (hc.below h (Nat.le_refl _)).2.2.2 0 (by omega)
    exact ⟨b, off, e, h1⟩)
  obtain ⟨len, hlen⟩ : ∃ len, len = L 0 := ⟨_, rfl⟩
  rw [← hlen] at HCT HCR
  clear hlen hL hc hm
  go_enter Try.func88, Try.ntmps88
  go_wp2_with first
    | (go_at_call 101; refine (HR.out _).mono ?_; rintro e w1 ⟨rfl, hb⟩; have HX := Lib.hid ((alloc_bx w _ _ _).below hb (alloc_lt _ _)); have HB := Lib.hid (later1 hb); clear hb; obtain ⟨k0, k1, k2, kf⟩ := HX.out.cells; obtain ⟨cb, co_, rfl, _⟩ := HCR.out w (Below.refl _ _); have cr : ∀ o, (w1.alloc o).cell? ⟨cb, co_, none⟩ = some (.slice (A 0) len (C 0)) := fun o => by { obtain ⟨b2, o2, e2, h2⟩ := HCR.out (w1.alloc o) (HB.out.alloc HB.out.size o); cases e2; exact h2 })
    | (go_at_call 86; refine (HCT.out _ w1.heap.size (HB.out.alloc HB.out.size (.cells #[.int .i64 len] 3)) (new_len w1 len)).mono ?_; rintro e w2 ⟨rfl, rfl⟩; clear cr k0 k1 k2 kf)
  go_ret2
  exact ⟨rfl, HB.out.alloc HB.out.size _⟩
/-- The lists that Apply hands back. -/
def AppliedTo (R len : Nat) (E : Nat → Nat → Nat) (w : World) (e : Ending) (w' : World) : Prop :=
  ∃ h g l, e = .returned (.tuple #[.slice (some ⟨h, 0, none⟩) R R, .int .i64 0]) ∧ w.heap.size ≤ h ∧ w.heap.size ≤ g ∧ Lst w' h R len (fun i => some ⟨g, i * len, none⟩) ∧ Dat w' g (R * len) l ∧ (∀ i c, i < R → c < len → gr (fun i => i * len) l i c = E i c) ∧ Below w.heap.size w w'
set_option maxRecDepth 100000 in
set_option maxHeartbeats 2000000 in
theorem mapply_some (t R N len capA capC : Nat) (hR : R ≤ 255) (hN : N ≤ 255) (hlen : len ≤ 1200) (aA aC : Option Addr) (la : List Int) (A : Nat → Option Addr) (L C : Nat → Nat) (X : Nat → List Int) (w : World) (ha : Sl w aA (R * N) capA la) (hc : ColsIn w aC N capC A L C X) (hL : ∀ k, k < N → L k = len) (h0 : N = 0 → len = 0) (ht : IsTab w t) :
    Calls Try.prog 88 #[.pointer (some ⟨t, 0, none⟩), .agg #[.int .i64 R, .int .i64 N, .slice aA ((R * N : Nat)) capA], .slice aC N capC] w (AppliedTo R len (fun i c => xs (fun k => mu (co la (i * N + k)) (co (X k) c)) N) w) := by
  have hm1 : R * N ≤ 65025 := Nat.mul_le_mul hR hN
  have hm2 : R * len ≤ 306000 := Nat.mul_le_mul hR hlen
  have HR := Lib.hid (right_yes R N (R * N) hR hN rfl aA capA)
  have HCT : Hid (∀ w' b, Below w.heap.size w w' → w'.cell? ⟨b, 0, none⟩ = some (.int .i64 (len : Nat)) → Calls Try.prog 86 #[.slice aC N capC, .func (.func 109) #[] #[.pointer (some ⟨b, 0, none⟩)]] w' fun e w'' => e = .returned (.bool false) ∧ w' = w'') :=
    Lib.hid (fun w' b hw hb => contains_len N capC len b aC A L C X w' (hc.below hw (Nat.le_refl _)) (by omega) hb false (fun _ => hL) (fun h => nomatch h))
  have HCR : Hid (∀ w', Below w.heap.size w w' → 0 < N → ∃ b off, aC = some ⟨b, off, none⟩ ∧ w'.cell? ⟨b, off, none⟩ = some (.slice (A 0) len (C 0))) := Lib.hid (fun w' h hp => by
    obtain ⟨⟨b, off, e, _, h1⟩, _⟩ := (hc.below h (Nat.le_refl _)).2.2.2 0 hp
    rw [hL 0 hp] at h1
    exact ⟨b, off, e, h1⟩)
  have HCU := Lib.hid (fun g w => cut_any' (some ⟨g, 0, none⟩) (R * len) (R * len) R len (by omega) (Nat.le_refl _) (Nat.le_refl _) (by omega) (fun h => nomatch h) w)
  have HMX : Hid (∀ g h w', Below w.heap.size w w' → w.heap.size ≤ g → g < h → Dat w' g (R * len) (List.replicate (R * len) 0) → Lst w' h R len (fun i => onA (some ⟨g, 0, none⟩) (i * len)) →
      Calls Try.prog 107 #[.pointer (some ⟨t, 0, none⟩), .slice (some ⟨h, 0, none⟩) R R, .agg #[.int .i64 R, .int .i64 N, .slice aA ((R * N : Nat)) capA], .slice aC N capC] w' (MixedM g R len (R * len) (fun i => i * len) (fun i c => xs (fun k => mu (co la (i * N + k)) (co (X k) c)) N) w')) :=
    Lib.hid (fun g h w' hbw h1 h3 hd hl => mix_rows t h g R N len (R * len) capA R aA la _ X (fun i => i * len) _ w' hR hN (by omega) (by omega) (Nat.le_refl _) (ha.below hbw (Nat.le_refl _)) (fun w2 hg => (hc.below (hbw.trans (below_grows hg h1 hbw.size)) (Nat.le_refl _)).src hL) (World.rowIs.congr hl (fun i _ => by dsimp only; rw [onA_at, Nat.zero_add])) hd (laid_rows R len _ (Nat.le_refl _)) (fun i c _ _ => co_zero _ _) (ht.below hbw ht.lt) (by have := ht.lt; omega) (by omega) (fun b off e h0 => by
      rcases ha.bytes.cell with h5 | ⟨_, b', off', e', hl, _⟩
      · omega
      · rw [e] at e'; cases e'; omega))
  obtain ⟨E, hE⟩ : ∃ E : Nat → Nat → Nat, E = fun i c => xs (fun k => mu (co la (i * N + k)) (co (X k) c)) N := ⟨_, rfl⟩
  rw [← hE] at HMX ⊢
  unfold AppliedTo
  obtain ⟨m1, hm1e⟩ : ∃ m, R * N = m := ⟨_, rfl⟩
  obtain ⟨m2, hm2e⟩ : ∃ m, R * len = m := ⟨_, rfl⟩
  have hmi : (R : Int) * len = m2 := by rw [← hm2e]; omega
  rw [hm1e] at hm1 HR HMX
  rw [hm2e] at hm2 HCU HMX
  rw [hm1e, hm2e]
  have hcase : (¬ (0 : Int) < (N : Int) ∧ ((len : Nat) : Int) = 0) ∨ ((0 : Int) < (N : Int) ∧ 0 < N) := by
    rcases Nat.eq_zero_or_pos N with g | g
    · exact .inl ⟨by omega, by have := h0 g; omega⟩
    · exact .inr ⟨by omega, g⟩
  clear hE hm1e hm2e ha hc hL h0 ht
  have hmk := fun w => run_make_row' (P := Try.prog) 42 5 (.int .u8 0) 1 Try.underlying42 info_u8 rfl .i64 .i64 m2 (by omega) (by omega) w
  have HMR := Lib.hid (fun w b => made_row' w m2 5 b)
  generalize madeCells #[Value.int .u8 0] m2 = M at *
  have HMI := Lib.hid (And.intro hmi hmk)
  clear hmi hmk
  rcases hcase with ⟨hn, hz⟩ | ⟨hn, hp⟩
  case inl =>
    have HZ := Lib.hid hz
    clear hz
    go_enter Try.func88, Try.ntmps88
    go_wp2_with first
      | (go_at_call 101; refine (HR.out _).mono ?_; rintro e w1 ⟨rfl, hb⟩; have HX := Lib.hid ((alloc_bx w _ _ _).below hb (alloc_lt _ _)); have HB := Lib.hid (later1 hb); clear hb; obtain ⟨k0, k1, k2, kf⟩ := HX.out.cells)
      | (go_at_call 86; refine (HCT.out _ w1.heap.size (HB.out.alloc HB.out.size (.cells #[.int .i64 0] 3)) (by rw [← HZ.out]; exact new_len w1 len)).mono ?_; rintro e w2 ⟨rfl, rfl⟩; clear k0 k1 k2 kf)
    have HB2 : Hid (Below w.heap.size w (w1.alloc (.cells #[.int .i64 0] 3))) := Lib.hid (HB.out.alloc HB.out.size _)
    have HX2 := Lib.hid (bx_alloc HX.out (.cells #[.int .i64 0] 3))
    have HL2 : Hid ((w1.alloc (.cells #[.int .i64 0] 3)).cell? ⟨w1.heap.size, 0, none⟩ = some (.int .i64 (len : Int))) := Lib.hid (by first | exact new_len w1 len | (rw [← HZ.out]; exact new_len w1 len))
    have HBL : Hid (w1.heap.size < (w1.alloc (.cells #[.int .i64 0] 3)).heap.size) := Lib.hid (alloc_lt _ _)
    clear HX HB
    generalize w1.alloc (.cells #[.int .i64 0] 3) = w2 at *
    generalize w1.heap.size = bl at *
    obtain ⟨hmi, hmk⟩ := HMI.out
    have hwr : IntKind.i64.wrap (m2 : Int) = m2 := IntWalk.i64_in _ (by omega)
    have HS : Hid (∀ w', Below w2.heap.size w2 w' → Below w2.heap.size w2 w' ∧ w'.cell? ⟨w.heap.size, 0, none⟩ = some (.int .i64 (R : Int)) ∧ w'.cell? ⟨w.heap.size, 1, none⟩ = some (.int .i64 (N : Int)) ∧ w'.cell? ⟨w.heap.size, 2, none⟩ = some (.slice aA m1 capA) ∧ w'.cell? ⟨bl, 0, none⟩ = some (.int .i64 (len : Int))) :=
      Lib.hid (fun w' h => ⟨h, (HX2.out.below h HX2.out.lt).cells.1, (HX2.out.below h HX2.out.lt).cells.2.1, (HX2.out.below h HX2.out.lt).cells.2.2.1, (h.cell (p := ⟨bl, 0, none⟩) HBL.out).trans HL2.out⟩)
    have cc : Below w2.heap.size w2 w2.drew := (Below.refl _ _).drew
    go_region_held3 (fun w' => Below w2.heap.size w2 w' ∧ w'.cell? ⟨w.heap.size, 0, none⟩ = some (.int .i64 (R : Int)) ∧ w'.cell? ⟨w.heap.size, 1, none⟩ = some (.int .i64 (N : Int)) ∧ w'.cell? ⟨w.heap.size, 2, none⟩ = some (.slice aA m1 capA) ∧ w'.cell? ⟨bl, 0, none⟩ = some (.int .i64 (len : Int)))
      (first
        | exact HS.out _ cc
        | exact HS.out _ (cc.alloc cc.size _)
        | exact HS.out _ (Below.refl _ _)
        | fail "keep")
      (first
        | (go_at_call 110; refine (HCU.out w2.heap.size _).mono ?_; rintro e w3 ⟨h, rfl, hh, hl, hb⟩; have c3 := (cc.alloc cc.size _).trans (hb.mono (cc.alloc cc.size _).size); clear cc; have cc := c3)
        | fail "arm")
    all_goals
      have HD3 : Hid (Dat w3 w2.heap.size m2 (List.replicate m2 0)) := Lib.hid (by
        have h1 := (HMR.out w2.drew w2.heap.size rfl).dat (by_zero m2)
        rw [List.length_replicate] at h1
        exact h1.below hb h1.lt)
      have HL3 := Lib.hid hl
      have HH3 : Hid (w2.heap.size < h) := Lib.hid (Nat.lt_of_lt_of_le (alloc_lt w2.drew _) hh)
      have HX3 := Lib.hid (HX2.out.below cc HX2.out.lt)
      have HB3 := Lib.hid (HB2.out.trans (cc.mono HB2.out.size))
      have HSZ := Lib.hid HB2.out.size
      rename_i hHeld
      clear hHeld hl hh hb cc c3 HS HX2 HB2 HL2 HBL HMR HCU HCT HCR HR hmk hmi
      generalize w2.heap.size = g at *
      obtain ⟨k0, k1, k2, kf⟩ := HX3.out.cells
      go_wp2_with (go_at_call 107; refine (HMX.out g h w3 HB3.out HSZ.out HH3.out HD3.out HL3.out).mono ?_; rintro e w4 ⟨rfl, l4, hd4, hc4, hw4⟩; have HD4 := Lib.hid hd4; have HC4 := Lib.hid hc4; have HW4 := Lib.hid hw4; clear hd4 hc4 hw4)
      go_ret2
      exact ⟨h, g, l4, rfl, Nat.le_trans HSZ.out (Nat.le_of_lt HH3.out), HSZ.out, World.rowIs.congr (HL3.out.grown HW4.out (fun e => by have := HH3.out; cases e; omega)) (fun i _ => by dsimp only; rw [onA_at, Nat.zero_add]), HD4.out, HC4.out, HB3.out.trans (below_grows HW4.out HSZ.out HB3.out.size)⟩

  case inr =>
    have HZ := Lib.hid trivial
    go_enter Try.func88, Try.ntmps88
    go_wp2_with first
      | (go_at_call 101; refine (HR.out _).mono ?_; rintro e w1 ⟨rfl, hb⟩; have HX := Lib.hid ((alloc_bx w _ _ _).below hb (alloc_lt _ _)); have HB := Lib.hid (later1 hb); clear hb; obtain ⟨k0, k1, k2, kf⟩ := HX.out.cells; obtain ⟨cb, co_, rfl, _⟩ := HCR.out w (Below.refl _ _) hp; have cr : ∀ o, (w1.alloc o).cell? ⟨cb, co_, none⟩ = some (.slice (A 0) len (C 0)) := fun o => by { obtain ⟨b2, o2, e2, h2⟩ := HCR.out (w1.alloc o) (HB.out.alloc HB.out.size o) hp; cases e2; exact h2 })
      | (go_at_call 86; refine (HCT.out _ w1.heap.size (HB.out.alloc HB.out.size (.cells #[.int .i64 len] 3)) (new_len w1 len)).mono ?_; rintro e w2 ⟨rfl, rfl⟩; clear cr k0 k1 k2 kf)
    have HB2 : Hid (Below w.heap.size w (w1.alloc (.cells #[.int .i64 (len : Int)] 3))) := Lib.hid (HB.out.alloc HB.out.size _)
    have HX2 := Lib.hid (bx_alloc HX.out (.cells #[.int .i64 (len : Int)] 3))
    have HL2 : Hid ((w1.alloc (.cells #[.int .i64 (len : Int)] 3)).cell? ⟨w1.heap.size, 0, none⟩ = some (.int .i64 (len : Int))) := Lib.hid (by first | exact new_len w1 len | (rw [← HZ.out]; exact new_len w1 len))
    have HBL : Hid (w1.heap.size < (w1.alloc (.cells #[.int .i64 (len : Int)] 3)).heap.size) := Lib.hid (alloc_lt _ _)
    clear HX HB
    generalize w1.alloc (.cells #[.int .i64 (len : Int)] 3) = w2 at *
    generalize w1.heap.size = bl at *
    obtain ⟨hmi, hmk⟩ := HMI.out
    have hwr : IntKind.i64.wrap (m2 : Int) = m2 := IntWalk.i64_in _ (by omega)
    have HS : Hid (∀ w', Below w2.heap.size w2 w' → Below w2.heap.size w2 w' ∧ w'.cell? ⟨w.heap.size, 0, none⟩ = some (.int .i64 (R : Int)) ∧ w'.cell? ⟨w.heap.size, 1, none⟩ = some (.int .i64 (N : Int)) ∧ w'.cell? ⟨w.heap.size, 2, none⟩ = some (.slice aA m1 capA) ∧ w'.cell? ⟨bl, 0, none⟩ = some (.int .i64 (len : Int))) :=
      Lib.hid (fun w' h => ⟨h, (HX2.out.below h HX2.out.lt).cells.1, (HX2.out.below h HX2.out.lt).cells.2.1, (HX2.out.below h HX2.out.lt).cells.2.2.1, (h.cell (p := ⟨bl, 0, none⟩) HBL.out).trans HL2.out⟩)
    have cc : Below w2.heap.size w2 w2.drew := (Below.refl _ _).drew
    go_region_held3 (fun w' => Below w2.heap.size w2 w' ∧ w'.cell? ⟨w.heap.size, 0, none⟩ = some (.int .i64 (R : Int)) ∧ w'.cell? ⟨w.heap.size, 1, none⟩ = some (.int .i64 (N : Int)) ∧ w'.cell? ⟨w.heap.size, 2, none⟩ = some (.slice aA m1 capA) ∧ w'.cell? ⟨bl, 0, none⟩ = some (.int .i64 (len : Int)))
      (first
        | exact HS.out _ cc
        | exact HS.out _ (cc.alloc cc.size _)
        | exact HS.out _ (Below.refl _ _)
        | fail "keep")
      (first
        | (go_at_call 110; refine (HCU.out w2.heap.size _).mono ?_; rintro e w3 ⟨h, rfl, hh, hl, hb⟩; have c3 := (cc.alloc cc.size _).trans (hb.mono (cc.alloc cc.size _).size); clear cc; have cc := c3)
        | fail "arm")
    all_goals
      have HD3 : Hid (Dat w3 w2.heap.size m2 (List.replicate m2 0)) := Lib.hid (by
        have h1 := (HMR.out w2.drew w2.heap.size rfl).dat (by_zero m2)
        rw [List.length_replicate] at h1
        exact h1.below hb h1.lt)
      have HL3 := Lib.hid hl
      have HH3 : Hid (w2.heap.size < h) := Lib.hid (Nat.lt_of_lt_of_le (alloc_lt w2.drew _) hh)
      have HX3 := Lib.hid (HX2.out.below cc HX2.out.lt)
      have HB3 := Lib.hid (HB2.out.trans (cc.mono HB2.out.size))
      have HSZ := Lib.hid HB2.out.size
      rename_i hHeld
      clear hHeld hl hh hb cc c3 HS HX2 HB2 HL2 HBL HMR HCU HCT HCR HR hmk hmi
      generalize w2.heap.size = g at *
      obtain ⟨k0, k1, k2, kf⟩ := HX3.out.cells
      go_wp2_with (go_at_call 107; refine (HMX.out g h w3 HB3.out HSZ.out HH3.out HD3.out HL3.out).mono ?_; rintro e w4 ⟨rfl, l4, hd4, hc4, hw4⟩; have HD4 := Lib.hid hd4; have HC4 := Lib.hid hc4; have HW4 := Lib.hid hw4; clear hd4 hc4 hw4)
      go_ret2
      exact ⟨h, g, l4, rfl, Nat.le_trans HSZ.out (Nat.le_of_lt HH3.out), HSZ.out, World.rowIs.congr (HL3.out.grown HW4.out (fun e => by have := HH3.out; cases e; omega)) (fun i _ => by dsimp only; rw [onA_at, Nat.zero_add]), HD4.out, HC4.out, HB3.out.trans (below_grows HW4.out HSZ.out HB3.out.size)⟩
end Go.Proofs.Ytjcbcdjfhcnhcaa
