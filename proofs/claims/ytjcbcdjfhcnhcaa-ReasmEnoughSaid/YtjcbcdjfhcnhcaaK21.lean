/-
  Own text: layer 18 (reasm): a shard is taken: the walk of Take.
-/
import Derived.Test.YtjcbcdjfhcnhcaaK20
import Derived.BigQuiet
namespace Go.Proofs.Ytjcbcdjfhcnhcaa
open Go.RowKit
set_option maxRecDepth 100000 in
set_option maxHeartbeats 8000000 in
theorem take18_yes (b t base n : Nat) (O : Nat → Prop) (S : Wn) (kind ses seq path tick K M : Int) (ixn A B g0 off dc b0 b1 : Nat) (w : World) (h : CW w b t base O none S) (hS : S.ok n) (hn : n ≤ 299) (hA : A < 4294967296) (hb : badOf kind K M (ixn : Nat) 2 = 0) (hfar : S.far A = 0) (hz : 0 ≤ aheadZ A S.base ∧ aheadZ A S.base < 32 ∧ S.base ≤ A ∧ A < S.base + 32) (hst : S.next = none) (hBf : B < 4294967296) (hb0 : b0 ≤ 255) (hb1 : b1 ≤ 255) (hdc : 2 ≤ dc) (hrw : Rw w g0 off (f2 ⟨ixn, b0, b1⟩)) (hc : S.code (⟨kind, A, B, K, M, (ixn : Nat), 2, b0, b1⟩ : Cd) = 0) :
    Calls Try.prog 20 #[.pointer (some ⟨b, 0, none⟩), .agg #[.int .i64 kind, .int .u32 ses, .int .u32 seq, .int .i64 path, .int .u32 tick, .int .u32 (A : Nat), .int .u32 (B : Nat), .int .i64 K, .int .i64 M, .int .i64 (ixn : Nat), .slice (some ⟨g0, off, none⟩) 2 dc]] w (TakeTo b t base O S (⟨kind, A, B, K, M, (ixn : Nat), 2, b0, b1⟩ : Cd) w) := by
  obtain ⟨W, hW⟩ : ∃ W, W = w.alloc (.cells #[.int .i64 kind, .int .u32 ses, .int .u32 seq, .int .i64 path, .int .u32 tick, .int .u32 (A : Nat), .int .u32 (B : Nat), .int .i64 K, .int .i64 M, .int .i64 (ixn : Nat), .slice (some ⟨g0, off, none⟩) 2 dc] 44) := ⟨_, rfl⟩
  have HB0 : Hid (Below w.heap.size w W) := Lib.hid (by rw [hW]; exact (Below.refl _ _).alloc (Nat.le_refl _) _)
  have hDX : Lies W w.heap.size 0 #[.int .i64 kind, .int .u32 ses, .int .u32 seq, .int .i64 path, .int .u32 tick, .int .u32 (A : Nat), .int .u32 (B : Nat), .int .i64 K, .int .i64 M, .int .i64 (ixn : Nat), .slice (some ⟨g0, off, none⟩) 2 dc] := by rw [hW]; exact Lies.new _ _ _ (Below.refl _ _)
  have HX : Hid (∀ u, Below W.heap.size W u → u.cell? ⟨w.heap.size, 0, none⟩ = some (.int .i64 kind) ∧ u.cell? ⟨w.heap.size, 1, none⟩ = some (.int .u32 ses) ∧ u.cell? ⟨w.heap.size, 2, none⟩ = some (.int .u32 seq) ∧ u.cell? ⟨w.heap.size, 3, none⟩ = some (.int .i64 path) ∧ u.cell? ⟨w.heap.size, 4, none⟩ = some (.int .u32 tick) ∧ u.cell? ⟨w.heap.size, 5, none⟩ = some (.int .u32 (A : Nat)) ∧ u.cell? ⟨w.heap.size, 6, none⟩ = some (.int .u32 (B : Nat)) ∧ u.cell? ⟨w.heap.size, 7, none⟩ = some (.int .i64 K) ∧ u.cell? ⟨w.heap.size, 8, none⟩ = some (.int .i64 M) ∧ u.cell? ⟨w.heap.size, 9, none⟩ = some (.int .i64 (ixn : Nat)) ∧ u.cell? ⟨w.heap.size, 10, none⟩ = some (.slice (some ⟨g0, off, none⟩) 2 dc)) := Lib.hid (fun u hu => by
    have hd := hDX.below hu hDX.lt
    exact ⟨lies_get hd 0 rfl, lies_get hd 1 rfl, lies_get hd 2 rfl, lies_get hd 3 rfl, lies_get hd 4 rfl, lies_get hd 5 rfl, lies_get hd 6 rfl, lies_get hd 7 rfl, lies_get hd 8 rfl, lies_get hd 9 rfl, lies_get hd 10 rfl⟩)
  have HCW : Hid (∀ u, Below w.heap.size w u → CW u b t base (OO O w u) none S ∧ FrO O w u) := Lib.hid (fun u hu => ⟨h.over hu, FrO.of_below hu⟩)
  have HCH := Lib.hid (fun u => check18 kind ses seq path tick (A : Nat) (B : Nat) K M (ixn : Nat) (some ⟨g0, off, none⟩) 2 dc u)
  obtain ⟨x0, x1, x2, x3, x4, x5, x6, x7, x8, x9, x10⟩ := HX.out W (Below.refl _ _)
  rw [hb] at HCH
  have hbase : S.base ≤ 300 := by have := hS.base; omega
  have HAT : Hid (∀ u, Below w.heap.size w u → Calls Try.prog 46 #[.pointer (some ⟨b, 0, none⟩), .int .u32 (A : Nat)] u fun e u' => e = .returned (.tuple #[.pointer (some ⟨b, 5 + A % 32 * 5, none⟩), .int .i64 0]) ∧ u = u') := Lib.hid (fun u hu => by
    obtain ⟨sv, rd, h1, _⟩ := (h.below hu).ex
    exact (at18 b S.base A (A % 32) hA (by omega) rfl u h1.cells.2.1).mono fun e u' he => ⟨by rw [he.1, if_neg (by omega), if_neg (by omega)], he.2⟩)
  obtain ⟨sv, rd, g1, g2, g3, g4, g5, g6, g7⟩ := h.ex
  have hs0 : A % 32 < 32 := Nat.mod_lt _ (by omega)
  have hi := g4 _ hs0
  have hraw : ((none : Option Nat) == some (A % 32)) = false := rfl
  rw [hraw] at hi
  obtain ⟨pf, pk, pm, SA, m, SC, QA, qn, QC, sh, hc5⟩ := CW.cells5 (d := (⟨kind, A, B, K, M, (ixn : Nat), 2, b0, b1⟩ : Cd)) hS hz.2.2 hi
  have hl := g1.lies hs0
  rw [hc5.eq] at hl
  have hbw : b < w.heap.size := hl.lt
  have HL : Hid (∀ u, Below w.heap.size w u → Lies u b (5 + A % 32 * 5) #[.int .u32 (pf : Nat), .int .i64 (pk : Nat), .int .i64 (pm : Nat), .slice SA m SC, .slice QA qn QC] ∧ WB u b t S.base S.frames S.doubles S.mended sv rd ∧ ShO u base (fun _ => True) (.slice SA m SC) sh) := Lib.hid (fun u hu => ⟨hl.below hu hbw, g1.keep (hu.block b hbw), hc5.row.below hu (Nat.le_refl _)⟩)
  have HCM := Lib.hid (fun u (hu : Below w.heap.size w u) => came18 b (5 + A % 32 * 5) (pk : Nat) u (lies_get (HL.out u hu).1 1 rfl))
  have HFI := Lib.hid (fun u (hu : Below w.heap.size w u) => fits18 b (5 + A % 32 * 5) (pf : Nat) (pk : Nat) (pm : Nat) kind ses seq path tick (A : Nat) (B : Nat) K M (ixn : Nat) (some ⟨g0, off, none⟩) 2 dc u (by have := lies_get (HL.out u hu).1 0 rfl; rwa [Nat.add_zero] at this) (lies_get (HL.out u hu).1 1 rfl) (lies_get (HL.out u hu).1 2 rfl))
  have HWH := Lib.hid (fun u (hu : Below w.heap.size w u) => whole18 b (5 + A % 32 * 5) qn QC QA u (lies_get (HL.out u hu).1 4 rfl))
  have HHS : Hid (∀ u, Below w.heap.size w u → Calls Try.prog 50 #[.pointer (some ⟨b, 5 + A % 32 * 5, none⟩), .int .i64 (ixn : Nat)] u fun e u' => e = .returned (.bool (hasIx sh (ixn : Nat))) ∧ Below u.heap.size u u') := Lib.hid (fun u hu => by
    obtain ⟨A', C', hs⟩ := (HL.out u hu).2.2.shards hc5.len hc5.ix
    exact has18 b (5 + A % 32 * 5) m SC SA sh A' (fun _ => 2) C' (byL sh) (ixn : Nat) u (by have := hc5.le; omega) hc5.len (lies_get (HL.out u hu).1 3 rfl) hs)
  have hcode : S.code (⟨kind, A, B, K, M, (ixn : Nat), 2, b0, b1⟩ : Cd) = if 0 < pk ∧ ¬ (B = pf ∧ K = (pk : Nat) ∧ M = (pm : Nat)) then 170 else if 0 < qn ∨ hasIx sh (ixn : Nat) = true then 171 else 0 := by
    have hcc := hc5.code
    rw [if_neg (fun c => c hb), if_neg (fun c => c hfar)] at hcc
    exact hcc
  have hBe : (((B : Nat) : Int) = ((pf : Nat) : Int) ∧ K = ((pk : Nat) : Int) ∧ M = ((pm : Nat) : Int)) ↔ (B = pf ∧ K = ((pk : Nat) : Int) ∧ M = ((pm : Nat) : Int)) := by
    constructor <;> (rintro ⟨q1, q2, q3⟩; exact ⟨by omega, q2, q3⟩)
  have hC : Came S (⟨kind, A, B, K, M, (ixn : Nat), 2, b0, b1⟩ : Cd) := Wn.came hc
  have hfit : ((⟨kind, A, B, K, M, (ixn : Nat), 2, b0, b1⟩ : Cd)).fit := ⟨hA, hBf, hb0, hb1⟩
  obtain ⟨pok, pno, pk', pm', pf'⟩ := hC.part hS hfit
  obtain ⟨hpart, hq1, hq2, hq3⟩ := hc5.part hc
  subst hq1 hq2 hq3
  obtain ⟨P, hP0⟩ : ∃ P, P = (S.part (⟨kind, A, B, K, M, (ixn : Nat), 2, b0, b1⟩ : Cd)).add ((⟨kind, A, B, K, M, (ixn : Nat), 2, b0, b1⟩ : Cd)).sd := ⟨_, rfl⟩
  have hPsh : P.sh = sh ++ [⟨ixn, b0, b1⟩] := by rw [hP0, ← hpart]; rfl
  have HADD := Lib.hid (fun u (hu : Below w.heap.size w u) => add18 b (5 + A % 32 * 5) base g0 off dc kind ses seq path tick (A : Nat) (B : Nat) K M (.int .u32 (pf : Nat)) (.int .i64 (pk : Nat)) (.int .i64 (pm : Nat)) (.slice none 0 0) (.slice SA m SC) sh ⟨ixn, b0, b1⟩ u (HL.out u hu).1 (HL.out u hu).2.1.typ (HL.out u hu).2.2 (Nat.le_trans h.low hu.size) (by have := hc5.len; have := hc5.le; omega) hdc (hrw.below hu (Nat.le_refl _)))
  -- the state behind add
  have HST : Hid (∀ u, Below w.heap.size w u → ∀ u' v', Lies u' b (5 + A % 32 * 5) #[.int .u32 (B : Nat), .int .i64 K, .int .i64 M, v', .slice none 0 0] → ShO u' base (fun _ => True) v' (sh ++ [⟨ixn, b0, b1⟩]) → (v'.ownBlock = (Value.slice SA m SC).ownBlock ∨ ∃ q, v'.ownBlock = some q ∧ u.heap.size ≤ q) → PrtR b (Value.slice SA m SC).ownBlock (Sl5 (5 + A % 32 * 5)) u u' → CW u' b t base (OO O w u') (some (A % 32)) (S.put0 (⟨kind, A, B, K, M, (ixn : Nat), 2, b0, b1⟩ : Cd)) ∧ FrO O w u') := Lib.hid (fun u hu u' v' a1 a2 a3 a4 => by
    have hcw := HCW.out u hu
    have k4 : ∀ s, s < 32 → SlotIs u base (none == some s) (S.slot s) (sv s) := fun s hs => (g4 s hs).keep (fun q hq => hu.block q ((g4 s hs).typ3 hq).2.1) (fun q cur hq => hu.block q (Array.getElem?_eq_some_iff.1 hq).1) (fun q hq => hu.block q ((g4 s hs).typ4 hq).2.1)
    have hh := hcw.1.added (d := (⟨kind, A, B, K, M, (ixn : Nat), 2, b0, b1⟩ : Cd)) hS hC hfit (HL.out u hu).2.1 (g2.below hu (Nat.le_refl _)) (fun q hq => .inl (g3 q hq)) k4 (fun s q hs hq => .inl (g5 s q hs hq)) g6 (fun s q hs hq => ⟨(g7 s q hs hq).1, .inl (g7 s q hs hq).2⟩) (v := .slice SA m SC) (by show blkAt (sv (A % 32)) 3 = _; rw [hc5.eq]; rfl) a4 a1 (by rw [hpart]; exact a2) a3
    exact ⟨hh.1.flat hcw.2.size hh.2.size h.low h.own, hcw.2.trans hh.2⟩)
  have hslot : (S.put0 (⟨kind, A, B, K, M, (ixn : Nat), 2, b0, b1⟩ : Cd)).slot (A % 32) = some P := by
    rw [hC.put_slot hS hfit hs0, if_pos rfl, hP0]
  have hcases : (sh.length + 1 = P.k) ∨ ¬ (sh.length + 1 = P.k) := Decidable.em _
  have hPl : P.sh.length = sh.length + 1 := by rw [hPsh]; simp
  rw [← hP0] at pok pk' pm' pf'
  have hmdn : S.mended ≤ 300 := by have := hS.mended; omega
  have htb : t ≠ b := by have := h.tb; have := h.bb; omega
  have hok1 := hC.put_ok hS hfit
  have hqn : ¬ hasIx sh (ixn : Nat) = true := fun hh => by
    rw [hcode] at hc
    split at hc
    · cases hc
    · rw [if_pos (.inr hh)] at hc; cases hc
  have v4 : hasIx sh (ixn : Nat) = false := by simpa using hqn
  have q1 : ¬ (0 < pk ∧ ¬ (B = pf ∧ K = ((pk : Nat) : Int) ∧ M = ((pm : Nat) : Int))) := fun hh => by
    rw [hcode, if_pos hh] at hc; cases hc
  rw [v4] at HHS
  have v3 : decide (0 < 0) = false := rfl
  rw [v3] at HWH
  have HCO := Lib.hid hc
  have hK : K = ((P.k : Nat) : Int) := pk'.symm
  have HLOW := Lib.hid (And.intro h.low h.own)
  have HS0 := Lib.hid hs0
  have HPF : Hid (P.fst = B ∧ ((P.k : Nat) : Int) = K ∧ ((P.m : Nat) : Int) = M) := Lib.hid ⟨pf', pk', pm'⟩
  have HPO := Lib.hid pok
  have HPL := Lib.hid hPl
  have HPS := Lib.hid hPsh
  have HSL := Lib.hid hslot
  have HOK := Lib.hid hok1
  have HTB := Lib.hid htb
  have HMN := Lib.hid hmdn
  have HTAK : Hid (S.take (⟨kind, A, B, K, M, (ixn : Nat), 2, b0, b1⟩ : Cd) = (S.put (⟨kind, A, B, K, M, (ixn : Nat), 2, b0, b1⟩ : Cd)).tell (S.put (⟨kind, A, B, K, M, (ixn : Nat), 2, b0, b1⟩ : Cd)).l.length) := Lib.hid (by
    unfold Wn.take
    rw [if_neg (by rw [hc]; omega), if_neg (fun c => c hc)])
  have HNN : Hid (n + 1 ≤ 300) := Lib.hid (by omega)
  have HOPEN : Hid (¬ P.full → S.put (⟨kind, A, B, K, M, (ixn : Nat), 2, b0, b1⟩ : Cd) = S.put0 (⟨kind, A, B, K, M, (ixn : Nat), 2, b0, b1⟩ : Cd) ∧ (S.put (⟨kind, A, B, K, M, (ixn : Nat), 2, b0, b1⟩ : Cd)).next = none) := Lib.hid (fun hf => by
    rw [hP0] at hf
    exact ⟨Wn.put_open S _ hf, hC.put_next hS hfit hst hf⟩)
  have HFULL : Hid (P.full → S.put (⟨kind, A, B, K, M, (ixn : Nat), 2, b0, b1⟩ : Cd) = (S.put0 (⟨kind, A, B, K, M, (ixn : Nat), 2, b0, b1⟩ : Cd)).mend P) := Lib.hid (fun hf => by
    rw [hP0] at hf ⊢
    exact Wn.put_full S _ hf)
  have i1 : (P.k : Int) ≤ 16 := by have := pok.k2; omega
  have i2 : (sh.length : Int) ≤ 16 := by have := hc5.len; have := hc5.le; omega
  rcases hcases with q5 | q5
  all_goals by_cases q3 : 0 < pk
  · have v1 : decide ((0 : Int) < ((pk : Nat) : Int)) = true := decide_eq_true (by omega)
    have v2 : decide (((B : Nat) : Int) = ((pf : Nat) : Int) ∧ K = ((pk : Nat) : Int) ∧ M = ((pm : Nat) : Int)) = true := decide_eq_true (hBe.2 (Decidable.byContradiction (fun hh => q1 ⟨q3, hh⟩)))
    rw [v1] at HCM
    rw [v2] at HFI
    have HF : Hid (P.full) := Lib.hid (by unfold Pt.full; rw [HPL.out]; exact q5)
    have eK : ((((sh ++ [(⟨ixn, b0, b1⟩ : Sd)]).length : Nat) : Int) == K) = true := by
      have e0 : (sh ++ [(⟨ixn, b0, b1⟩ : Sd)]).length = sh.length + 1 := by simp
      rw [hK, e0]
      simp only [beq_iff_eq]
      omega
    clear hb hfar hz h hS hn hA hDX hbase g1 g2 g3 g4 g5 g6 g7 hi hraw hc5 hl hs0 hbw hcode q1 q3 q5 hBe hc v1 v3 v4 hst hBf hb0 hb1 hdc hrw hC hfit pok pno pk' pm' pf' hpart hP0 hPsh hslot hPl hmdn htb hok1 hqn hK i1 v2
    generalize A % 32 = s0 at *
    obtain ⟨N1, hN1⟩ : ∃ N1, N1 = (sh ++ [(⟨ixn, b0, b1⟩ : Sd)]).length := ⟨_, rfl⟩
    rw [← hN1] at eK
    have HN1 := Lib.hid hN1
    clear hN1
    go_enter Try.func20, Try.ntmps20
    go_upto_region 1 with fail
    rw [← hW]
    clear hW
    go_upto_region 13 with (first
      | (go_at_call 45; (with_reducible refine (HCH.out _).mono ?_); rintro e w1 ⟨rfl, hb1⟩; have HW1 := Lib.hid hb1; clear hb1; have HB1 := Lib.hid (HB0.out.trans (HW1.out.mono HB0.out.size)); obtain ⟨x0, x1, x2, x3, x4, x5, x6, x7, x8, x9, x10⟩ := HX.out _ HW1.out)
      | (go_at_call 46; (with_reducible refine (HAT.out _ HB1.out).mono ?_); rintro e w1' ⟨rfl, rfl⟩)
      | (go_at_call 47; (with_reducible refine (HCM.out _ HB1.out).mono ?_); rintro e w1'' ⟨rfl, rfl⟩)
      | (go_at_call 48; (with_reducible refine (HFI.out _ HB1.out).mono ?_); rintro e w2 ⟨rfl, hb2⟩; have HW2 := Lib.hid (HW1.out.trans (hb2.mono HW1.out.size)); have HB2 := Lib.hid (HB1.out.trans (hb2.mono HB1.out.size)); clear hb2; obtain ⟨x0, x1, x2, x3, x4, x5, x6, x7, x8, x9, x10⟩ := HX.out _ HW2.out)
      | (go_at_call 49; (with_reducible refine (HWH.out _ HB2.out).mono ?_); rintro e w2' ⟨rfl, rfl⟩)
      | (go_at_call 50; (with_reducible refine (HHS.out _ HB2.out).mono ?_); rintro e w3 ⟨rfl, hb3⟩; have HW3 := Lib.hid (HW2.out.trans (hb3.mono HW2.out.size)); have HB3 := Lib.hid (HB2.out.trans (hb3.mono HB2.out.size)); clear hb3; obtain ⟨x0, x1, x2, x3, x4, x5, x6, x7, x8, x9, x10⟩ := HX.out _ HW3.out)
      | (go_at_call 51; (with_reducible refine (HADD.out _ HB3.out).mono ?_); rintro e w4 ⟨⟨_, rfl⟩, v', HL4, HT4, HS4, HR4, HP4⟩)
      | fail "arm")
    obtain ⟨A', C', hv', _, _, _⟩ := HS4.out.slice
    rw [← HN1.out] at hv'
    subst hv'
    have HC4 := Lib.hid (HST.out _ HB3.out _ _ HL4.out HS4.out HR4.out HP4.out)
    have HU4 : Hid (∀ u, Below w4.heap.size w4 u → Lies u b (5 + s0 * 5) #[.int .u32 (B : Nat), .int .i64 K, .int .i64 M, .slice A' N1 C', .slice none 0 0] ∧ ShO u base (fun _ => True) (.slice A' N1 C') (sh ++ [⟨ixn, b0, b1⟩]) ∧ CW u b t base (OO O w u) (some s0) (S.put0 (⟨kind, A, B, K, M, (ixn : Nat), 2, b0, b1⟩ : Cd)) ∧ FrO O w u) := Lib.hid (fun u hu => by
      have h1 := HC4.out.1.over hu
      exact ⟨HL4.out.below hu HL4.out.lt, HS4.out.below hu (Nat.le_refl _), h1.flat HC4.out.2.size hu.size HLOW.out.1 HLOW.out.2, HC4.out.2.trans (FrO.of_below hu)⟩)
    obtain ⟨hl4, _⟩ := HU4.out w4 (Below.refl _ _)
    have k1 := lies_get hl4 1 rfl
    have k3 := lies_get hl4 3 rfl
    clear hl4
    go_quiet (fail)
    have HMD : Hid (∀ u, Below w4.heap.size w4 u → Calls Try.prog 52 #[.pointer (some ⟨b, 0, none⟩), .pointer (some ⟨b, 5 + s0 * 5, none⟩)] u (MendTo b (5 + s0 * 5) S.mended base P u)) := Lib.hid (fun u hu => by
      obtain ⟨h1, h2, h3, _⟩ := HU4.out u hu
      obtain ⟨sv', rd', r1, _⟩ := h3.ex
      have eN : N1 = P.k := by rw [HN1.out, ← HPS.out]; exact HF.out
      have h1' : Lies u b (5 + s0 * 5) #[.int .u32 (P.fst : Nat), .int .i64 (P.k : Nat), .int .i64 (P.m : Nat), .slice A' P.k C', .slice none 0 0] := by
        rw [HPF.out.1, HPF.out.2.1, HPF.out.2.2, ← eN]
        exact h1
      exact mend18 b (5 + s0 * 5) t S.mended base C' A' P u HPO.out HF.out (by have := HMN.out; omega) (by omega) HTB.out h1' r1.typ r1.cells.1 r1.cells.2.2.2.2.1 h3.tab (by rw [HPS.out, ← eN]; exact h2))
    have HTL : Hid (∀ u u' , Below w4.heap.size w4 u → ∀ q, Lies u' b (5 + s0 * 5) #[.int .u32 (P.fst : Nat), .int .i64 (P.k : Nat), .int .i64 (P.m : Nat), .slice none 0 0, .slice (some ⟨q, 0, none⟩) P.k P.k] → u'.rowIs q 79 P.k (fun i => .int .u16 (P.ins.getD i 0)) → u.heap.size ≤ q → u'.cell? ⟨b, 4, none⟩ = some (.int .i64 ((if hasPar P.sh P.k = true then S.mended + 1 else S.mended : Nat) : Int)) → PrtR b none (fun j => j = 4 ∨ Sl5 (5 + s0 * 5) j) u u' → CW u' b t base (OO O w u') none (S.put (⟨kind, A, B, K, M, (ixn : Nat), 2, b0, b1⟩ : Cd)) ∧ FrO O w u') := Lib.hid (fun u u' hu q a1 a2 a3 a4 a5 => by
      obtain ⟨_, _, h3, h4⟩ := HU4.out u hu
      have hh := h3.mended HS0.out HSL.out HF.out a5 a1 a2 a3 a4
      rw [HFULL.out HF.out]
      exact ⟨hh.1.flat h4.size hh.2.size HLOW.out.1 HLOW.out.2, h4.trans hh.2⟩)
    have HD4 : Hid (Below w4.heap.size w4 (w4.drewN nq)) := Lib.hid (below_drewN (Below.refl _ _) nq)
    go_upto_region 15 with (first
      | (go_at_call 52; (with_reducible refine (HMD.out _ HD4.out).mono ?_); rintro e w5 ⟨⟨_, rfl⟩, gq, HM1, HM2, HM3, HM4, HM5⟩)
      | fail "armM")
    have HC5 := Lib.hid (HTL.out _ _ HD4.out _ HM1.out HM2.out HM3.out HM4.out HM5.out)
    have HTE := Lib.hid (tell18 b t base (n + 1) _ (S.put (⟨kind, A, B, K, M, (ixn : Nat), 2, b0, b1⟩ : Cd)) w5 HC5.out.1 HOK.out HNN.out)
    go_wp2_with (first
      | (go_at_call 53; (with_reducible refine HTE.out.mono ?_); rintro e w6 ⟨⟨_, rfl⟩, HC6, HF6⟩)
      | fail "armT")
    go_ret
    refine ⟨congrArg (fun z : Int => Ending.returned (.int .i64 z)) HCO.out.symm, Lib.hid ?_, Lib.hid (HC5.out.2.trans HF6.out)⟩
    rw [HTAK.out]
    exact HC6.out.flat HC5.out.2.size HF6.out.size HLOW.out.1 HLOW.out.2
  · have v1 : decide ((0 : Int) < ((pk : Nat) : Int)) = false := decide_eq_false (by omega)
    rw [v1] at HCM
    have HF : Hid (P.full) := Lib.hid (by unfold Pt.full; rw [HPL.out]; exact q5)
    have eK : ((((sh ++ [(⟨ixn, b0, b1⟩ : Sd)]).length : Nat) : Int) == K) = true := by
      have e0 : (sh ++ [(⟨ixn, b0, b1⟩ : Sd)]).length = sh.length + 1 := by simp
      rw [hK, e0]
      simp only [beq_iff_eq]
      omega
    clear hb hfar hz h hS hn hA hDX hbase g1 g2 g3 g4 g5 g6 g7 hi hraw hc5 hl hs0 hbw hcode q1 q3 q5 hBe hc v1 v3 v4 hst hBf hb0 hb1 hdc hrw hC hfit pok pno pk' pm' pf' hpart hP0 hPsh hslot hPl hmdn htb hok1 hqn hK i1
    generalize A % 32 = s0 at *
    obtain ⟨N1, hN1⟩ : ∃ N1, N1 = (sh ++ [(⟨ixn, b0, b1⟩ : Sd)]).length := ⟨_, rfl⟩
    rw [← hN1] at eK
    have HN1 := Lib.hid hN1
    clear hN1
    go_enter Try.func20, Try.ntmps20
    go_upto_region 1 with fail
    rw [← hW]
    clear hW
    go_upto_region 13 with (first
      | (go_at_call 45; (with_reducible refine (HCH.out _).mono ?_); rintro e w1 ⟨rfl, hb1⟩; have HW1 := Lib.hid hb1; clear hb1; have HB1 := Lib.hid (HB0.out.trans (HW1.out.mono HB0.out.size)); obtain ⟨x0, x1, x2, x3, x4, x5, x6, x7, x8, x9, x10⟩ := HX.out _ HW1.out)
      | (go_at_call 46; (with_reducible refine (HAT.out _ HB1.out).mono ?_); rintro e w1' ⟨rfl, rfl⟩)
      | (go_at_call 47; (with_reducible refine (HCM.out _ HB1.out).mono ?_); rintro e w1'' ⟨rfl, rfl⟩)
      | (go_at_call 49; (with_reducible refine (HWH.out _ HB1.out).mono ?_); rintro e w2' ⟨rfl, rfl⟩)
      | (go_at_call 50; (with_reducible refine (HHS.out _ HB1.out).mono ?_); rintro e w3 ⟨rfl, hb3⟩; have HW3 := Lib.hid (HW1.out.trans (hb3.mono HW1.out.size)); have HB3 := Lib.hid (HB1.out.trans (hb3.mono HB1.out.size)); clear hb3; obtain ⟨x0, x1, x2, x3, x4, x5, x6, x7, x8, x9, x10⟩ := HX.out _ HW3.out)
      | (go_at_call 51; (with_reducible refine (HADD.out _ HB3.out).mono ?_); rintro e w4 ⟨⟨_, rfl⟩, v', HL4, HT4, HS4, HR4, HP4⟩)
      | fail "arm")
    obtain ⟨A', C', hv', _, _, _⟩ := HS4.out.slice
    rw [← HN1.out] at hv'
    subst hv'
    have HC4 := Lib.hid (HST.out _ HB3.out _ _ HL4.out HS4.out HR4.out HP4.out)
    have HU4 : Hid (∀ u, Below w4.heap.size w4 u → Lies u b (5 + s0 * 5) #[.int .u32 (B : Nat), .int .i64 K, .int .i64 M, .slice A' N1 C', .slice none 0 0] ∧ ShO u base (fun _ => True) (.slice A' N1 C') (sh ++ [⟨ixn, b0, b1⟩]) ∧ CW u b t base (OO O w u) (some s0) (S.put0 (⟨kind, A, B, K, M, (ixn : Nat), 2, b0, b1⟩ : Cd)) ∧ FrO O w u) := Lib.hid (fun u hu => by
      have h1 := HC4.out.1.over hu
      exact ⟨HL4.out.below hu HL4.out.lt, HS4.out.below hu (Nat.le_refl _), h1.flat HC4.out.2.size hu.size HLOW.out.1 HLOW.out.2, HC4.out.2.trans (FrO.of_below hu)⟩)
    obtain ⟨hl4, _⟩ := HU4.out w4 (Below.refl _ _)
    have k1 := lies_get hl4 1 rfl
    have k3 := lies_get hl4 3 rfl
    clear hl4
    go_quiet (fail)
    have HMD : Hid (∀ u, Below w4.heap.size w4 u → Calls Try.prog 52 #[.pointer (some ⟨b, 0, none⟩), .pointer (some ⟨b, 5 + s0 * 5, none⟩)] u (MendTo b (5 + s0 * 5) S.mended base P u)) := Lib.hid (fun u hu => by
      obtain ⟨h1, h2, h3, _⟩ := HU4.out u hu
      obtain ⟨sv', rd', r1, _⟩ := h3.ex
      have eN : N1 = P.k := by rw [HN1.out, ← HPS.out]; exact HF.out
      have h1' : Lies u b (5 + s0 * 5) #[.int .u32 (P.fst : Nat), .int .i64 (P.k : Nat), .int .i64 (P.m : Nat), .slice A' P.k C', .slice none 0 0] := by
        rw [HPF.out.1, HPF.out.2.1, HPF.out.2.2, ← eN]
        exact h1
      exact mend18 b (5 + s0 * 5) t S.mended base C' A' P u HPO.out HF.out (by have := HMN.out; omega) (by omega) HTB.out h1' r1.typ r1.cells.1 r1.cells.2.2.2.2.1 h3.tab (by rw [HPS.out, ← eN]; exact h2))
    have HTL : Hid (∀ u u' , Below w4.heap.size w4 u → ∀ q, Lies u' b (5 + s0 * 5) #[.int .u32 (P.fst : Nat), .int .i64 (P.k : Nat), .int .i64 (P.m : Nat), .slice none 0 0, .slice (some ⟨q, 0, none⟩) P.k P.k] → u'.rowIs q 79 P.k (fun i => .int .u16 (P.ins.getD i 0)) → u.heap.size ≤ q → u'.cell? ⟨b, 4, none⟩ = some (.int .i64 ((if hasPar P.sh P.k = true then S.mended + 1 else S.mended : Nat) : Int)) → PrtR b none (fun j => j = 4 ∨ Sl5 (5 + s0 * 5) j) u u' → CW u' b t base (OO O w u') none (S.put (⟨kind, A, B, K, M, (ixn : Nat), 2, b0, b1⟩ : Cd)) ∧ FrO O w u') := Lib.hid (fun u u' hu q a1 a2 a3 a4 a5 => by
      obtain ⟨_, _, h3, h4⟩ := HU4.out u hu
      have hh := h3.mended HS0.out HSL.out HF.out a5 a1 a2 a3 a4
      rw [HFULL.out HF.out]
      exact ⟨hh.1.flat h4.size hh.2.size HLOW.out.1 HLOW.out.2, h4.trans hh.2⟩)
    have HD4 : Hid (Below w4.heap.size w4 (w4.drewN nq)) := Lib.hid (below_drewN (Below.refl _ _) nq)
    go_upto_region 15 with (first
      | (go_at_call 52; (with_reducible refine (HMD.out _ HD4.out).mono ?_); rintro e w5 ⟨⟨_, rfl⟩, gq, HM1, HM2, HM3, HM4, HM5⟩)
      | fail "armM")
    have HC5 := Lib.hid (HTL.out _ _ HD4.out _ HM1.out HM2.out HM3.out HM4.out HM5.out)
    have HTE := Lib.hid (tell18 b t base (n + 1) _ (S.put (⟨kind, A, B, K, M, (ixn : Nat), 2, b0, b1⟩ : Cd)) w5 HC5.out.1 HOK.out HNN.out)
    go_wp2_with (first
      | (go_at_call 53; (with_reducible refine HTE.out.mono ?_); rintro e w6 ⟨⟨_, rfl⟩, HC6, HF6⟩)
      | fail "armT")
    go_ret
    refine ⟨congrArg (fun z : Int => Ending.returned (.int .i64 z)) HCO.out.symm, Lib.hid ?_, Lib.hid (HC5.out.2.trans HF6.out)⟩
    rw [HTAK.out]
    exact HC6.out.flat HC5.out.2.size HF6.out.size HLOW.out.1 HLOW.out.2
  · have v1 : decide ((0 : Int) < ((pk : Nat) : Int)) = true := decide_eq_true (by omega)
    have v2 : decide (((B : Nat) : Int) = ((pf : Nat) : Int) ∧ K = ((pk : Nat) : Int) ∧ M = ((pm : Nat) : Int)) = true := decide_eq_true (hBe.2 (Decidable.byContradiction (fun hh => q1 ⟨q3, hh⟩)))
    rw [v1] at HCM
    rw [v2] at HFI
    have HF : Hid (¬ P.full) := Lib.hid (by unfold Pt.full; rw [HPL.out]; exact q5)
    have eK : ((((sh ++ [(⟨ixn, b0, b1⟩ : Sd)]).length : Nat) : Int) == K) = false := by
      have e0 : (sh ++ [(⟨ixn, b0, b1⟩ : Sd)]).length = sh.length + 1 := by simp
      rw [hK, e0]
      simp only [beq_eq_false_iff_ne, ne_eq]
      omega
    clear hb hfar hz h hS hn hA hDX hbase g1 g2 g3 g4 g5 g6 g7 hi hraw hc5 hl hs0 hbw hcode q1 q3 q5 hBe hc v1 v3 v4 hst hBf hb0 hb1 hdc hrw hC hfit pok pno pk' pm' pf' hpart hP0 hPsh hslot hPl hmdn htb hok1 hqn hK i1 v2
    generalize A % 32 = s0 at *
    obtain ⟨N1, hN1⟩ : ∃ N1, N1 = (sh ++ [(⟨ixn, b0, b1⟩ : Sd)]).length := ⟨_, rfl⟩
    rw [← hN1] at eK
    have HN1 := Lib.hid hN1
    clear hN1
    go_enter Try.func20, Try.ntmps20
    go_upto_region 1 with fail
    rw [← hW]
    clear hW
    go_upto_region 13 with (first
      | (go_at_call 45; (with_reducible refine (HCH.out _).mono ?_); rintro e w1 ⟨rfl, hb1⟩; have HW1 := Lib.hid hb1; clear hb1; have HB1 := Lib.hid (HB0.out.trans (HW1.out.mono HB0.out.size)); obtain ⟨x0, x1, x2, x3, x4, x5, x6, x7, x8, x9, x10⟩ := HX.out _ HW1.out)
      | (go_at_call 46; (with_reducible refine (HAT.out _ HB1.out).mono ?_); rintro e w1' ⟨rfl, rfl⟩)
      | (go_at_call 47; (with_reducible refine (HCM.out _ HB1.out).mono ?_); rintro e w1'' ⟨rfl, rfl⟩)
      | (go_at_call 48; (with_reducible refine (HFI.out _ HB1.out).mono ?_); rintro e w2 ⟨rfl, hb2⟩; have HW2 := Lib.hid (HW1.out.trans (hb2.mono HW1.out.size)); have HB2 := Lib.hid (HB1.out.trans (hb2.mono HB1.out.size)); clear hb2; obtain ⟨x0, x1, x2, x3, x4, x5, x6, x7, x8, x9, x10⟩ := HX.out _ HW2.out)
      | (go_at_call 49; (with_reducible refine (HWH.out _ HB2.out).mono ?_); rintro e w2' ⟨rfl, rfl⟩)
      | (go_at_call 50; (with_reducible refine (HHS.out _ HB2.out).mono ?_); rintro e w3 ⟨rfl, hb3⟩; have HW3 := Lib.hid (HW2.out.trans (hb3.mono HW2.out.size)); have HB3 := Lib.hid (HB2.out.trans (hb3.mono HB2.out.size)); clear hb3; obtain ⟨x0, x1, x2, x3, x4, x5, x6, x7, x8, x9, x10⟩ := HX.out _ HW3.out)
      | (go_at_call 51; (with_reducible refine (HADD.out _ HB3.out).mono ?_); rintro e w4 ⟨⟨_, rfl⟩, v', HL4, HT4, HS4, HR4, HP4⟩)
      | fail "arm")
    obtain ⟨A', C', hv', _, _, _⟩ := HS4.out.slice
    rw [← HN1.out] at hv'
    subst hv'
    have HC4 := Lib.hid (HST.out _ HB3.out _ _ HL4.out HS4.out HR4.out HP4.out)
    have HU4 : Hid (∀ u, Below w4.heap.size w4 u → Lies u b (5 + s0 * 5) #[.int .u32 (B : Nat), .int .i64 K, .int .i64 M, .slice A' N1 C', .slice none 0 0] ∧ ShO u base (fun _ => True) (.slice A' N1 C') (sh ++ [⟨ixn, b0, b1⟩]) ∧ CW u b t base (OO O w u) (some s0) (S.put0 (⟨kind, A, B, K, M, (ixn : Nat), 2, b0, b1⟩ : Cd)) ∧ FrO O w u) := Lib.hid (fun u hu => by
      have h1 := HC4.out.1.over hu
      exact ⟨HL4.out.below hu HL4.out.lt, HS4.out.below hu (Nat.le_refl _), h1.flat HC4.out.2.size hu.size HLOW.out.1 HLOW.out.2, HC4.out.2.trans (FrO.of_below hu)⟩)
    obtain ⟨hl4, _⟩ := HU4.out w4 (Below.refl _ _)
    have k1 := lies_get hl4 1 rfl
    have k3 := lies_get hl4 3 rfl
    clear hl4
    go_quiet (fail)
    go_wp2
    go_ret
    obtain ⟨_, _, h3, h4⟩ := HU4.out _ (below_drewN (Below.refl _ _) nq)
    obtain ⟨e1, e2⟩ := HOPEN.out HF.out
    refine ⟨congrArg (fun z : Int => Ending.returned (.int .i64 z)) HCO.out.symm, Lib.hid ?_, Lib.hid h4⟩
    rw [HTAK.out, Wn.tell_none e2, e1]
    exact h3.settle (fun p _ hp => by rw [HSL.out] at hp; cases hp; exact HF.out)
  · have v1 : decide ((0 : Int) < ((pk : Nat) : Int)) = false := decide_eq_false (by omega)
    rw [v1] at HCM
    have HF : Hid (¬ P.full) := Lib.hid (by unfold Pt.full; rw [HPL.out]; exact q5)
    have eK : ((((sh ++ [(⟨ixn, b0, b1⟩ : Sd)]).length : Nat) : Int) == K) = false := by
      have e0 : (sh ++ [(⟨ixn, b0, b1⟩ : Sd)]).length = sh.length + 1 := by simp
      rw [hK, e0]
      simp only [beq_eq_false_iff_ne, ne_eq]
      omega
    clear hb hfar hz h hS hn hA hDX hbase g1 g2 g3 g4 g5 g6 g7 hi hraw hc5 hl hs0 hbw hcode q1 q3 q5 hBe hc v1 v3 v4 hst hBf hb0 hb1 hdc hrw hC hfit pok pno pk' pm' pf' hpart hP0 hPsh hslot hPl hmdn htb hok1 hqn hK i1
    generalize A % 32 = s0 at *
    obtain ⟨N1, hN1⟩ : ∃ N1, N1 = (sh ++ [(⟨ixn, b0, b1⟩ : Sd)]).length := ⟨_, rfl⟩
    rw [← hN1] at eK
    have HN1 := Lib.hid hN1
    clear hN1
    go_enter Try.func20, Try.ntmps20
    go_upto_region 1 with fail
    rw [← hW]
    clear hW
    go_upto_region 13 with (first
      | (go_at_call 45; (with_reducible refine (HCH.out _).mono ?_); rintro e w1 ⟨rfl, hb1⟩; have HW1 := Lib.hid hb1; clear hb1; have HB1 := Lib.hid (HB0.out.trans (HW1.out.mono HB0.out.size)); obtain ⟨x0, x1, x2, x3, x4, x5, x6, x7, x8, x9, x10⟩ := HX.out _ HW1.out)
      | (go_at_call 46; (with_reducible refine (HAT.out _ HB1.out).mono ?_); rintro e w1' ⟨rfl, rfl⟩)
      | (go_at_call 47; (with_reducible refine (HCM.out _ HB1.out).mono ?_); rintro e w1'' ⟨rfl, rfl⟩)
      | (go_at_call 49; (with_reducible refine (HWH.out _ HB1.out).mono ?_); rintro e w2' ⟨rfl, rfl⟩)
      | (go_at_call 50; (with_reducible refine (HHS.out _ HB1.out).mono ?_); rintro e w3 ⟨rfl, hb3⟩; have HW3 := Lib.hid (HW1.out.trans (hb3.mono HW1.out.size)); have HB3 := Lib.hid (HB1.out.trans (hb3.mono HB1.out.size)); clear hb3; obtain ⟨x0, x1, x2, x3, x4, x5, x6, x7, x8, x9, x10⟩ := HX.out _ HW3.out)
      | (go_at_call 51; (with_reducible refine (HADD.out _ HB3.out).mono ?_); rintro e w4 ⟨⟨_, rfl⟩, v', HL4, HT4, HS4, HR4, HP4⟩)
      | fail "arm")
    obtain ⟨A', C', hv', _, _, _⟩ := HS4.out.slice
    rw [← HN1.out] at hv'
    subst hv'
    have HC4 := Lib.hid (HST.out _ HB3.out _ _ HL4.out HS4.out HR4.out HP4.out)
    have HU4 : Hid (∀ u, Below w4.heap.size w4 u → Lies u b (5 + s0 * 5) #[.int .u32 (B : Nat), .int .i64 K, .int .i64 M, .slice A' N1 C', .slice none 0 0] ∧ ShO u base (fun _ => True) (.slice A' N1 C') (sh ++ [⟨ixn, b0, b1⟩]) ∧ CW u b t base (OO O w u) (some s0) (S.put0 (⟨kind, A, B, K, M, (ixn : Nat), 2, b0, b1⟩ : Cd)) ∧ FrO O w u) := Lib.hid (fun u hu => by
      have h1 := HC4.out.1.over hu
      exact ⟨HL4.out.below hu HL4.out.lt, HS4.out.below hu (Nat.le_refl _), h1.flat HC4.out.2.size hu.size HLOW.out.1 HLOW.out.2, HC4.out.2.trans (FrO.of_below hu)⟩)
    obtain ⟨hl4, _⟩ := HU4.out w4 (Below.refl _ _)
    have k1 := lies_get hl4 1 rfl
    have k3 := lies_get hl4 3 rfl
    clear hl4
    go_quiet (fail)
    go_wp2
    go_ret
    obtain ⟨_, _, h3, h4⟩ := HU4.out _ (below_drewN (Below.refl _ _) nq)
    obtain ⟨e1, e2⟩ := HOPEN.out HF.out
    refine ⟨congrArg (fun z : Int => Ending.returned (.int .i64 z)) HCO.out.symm, Lib.hid ?_, Lib.hid h4⟩
    rw [HTAK.out, Wn.tell_none e2, e1]
    exact h3.settle (fun p _ hp => by rw [HSL.out] at hp; cases hp; exact HF.out)
end Go.Proofs.Ytjcbcdjfhcnhcaa
