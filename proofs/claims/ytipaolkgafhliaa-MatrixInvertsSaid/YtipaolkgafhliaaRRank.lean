/-
  Own text: the document's Rank, walked.
-/
import Derived.Test.YtipaolkgafhliaaRWith
namespace Go.Proofs.Ytipaolkgafhliaa
open Go.RowKit

/-- One step of the document's way. -/
theorem ech_doc {M : Nat → Nat → Nat} {R C k d j : Nat} {p : Nat → Nat} {N N1 N2 : Nat → Nat → Nat} (h : Ech M N R C k d p) (hN : ∀ i c, N i c < 256) (h1 : d ≤ j) (h2 : j < R) (hk : k < C) (hp : N j k ≠ 0)
    (e1 : ∀ i c, i < R → c < C → N1 i c = N (sw d j i) c) (e2 : ∀ i c, i < R → c < C → N2 i c = if d < i then N1 i c ^^^ mu (mu (N1 i k) (gi (N1 d k))) (N1 d c) else N1 i c) : Ech M N2 R C (k + 1) (d + 1) (fun i => if i = d then k else p i) := by
  have hs := h.swap hN h1 h2
  have hsd : sw d j d = j := by unfold sw; rw [if_pos rfl]
  have hPl : ∀ i c, (fun i => N (sw d j i)) i c < 256 := fun i c => hN _ _
  have hPp : (fun i => N (sw d j i)) d k ≠ 0 := by show N (sw d j d) k ≠ 0; rw [hsd]; exact hp
  refine hs.step hPl (by omega) hk (fun _ => 1) (fun i => if d < i then mu (N (sw d j i) k) (gi (N (sw d j d) k)) else 0) (fun i _ => by omega) (if_neg (by omega)) (fun i c hi hc => ?_) hPp (fun l hl hlr => ?_)
  · rw [e2 i c hi hc, e1 i c hi hc, e1 i k hi hk, e1 d k (by omega) hk, e1 d c (by omega) hc]
    show _ = mu 1 (N (sw d j i) c) ^^^ mu (if d < i then mu (N (sw d j i) k) (gi (N (sw d j d) k)) else 0) (N (sw d j d) c)
    rw [one_mu (hN _ _)]
    by_cases g : d < i
    · rw [if_pos g, if_pos g]
    · rw [if_neg g, if_neg g, zero_mu, Nat.xor_zero]
  · rw [e2 l k hlr hk, if_pos hl, e1 l k hlr hk, e1 d k (by omega) hk, ← mu_assoc, mu_comm (gi _), mu_gi (hN _ _) hPp, mu_one (hN _ _), Nat.xor_self]
theorem Ech.congr {M N N' : Nat → Nat → Nat} {R C k d : Nat} {p : Nat → Nat} (h : Ech M N R C k d p) (hk : k ≤ C) (e : ∀ i c, i < R → c < C → N i c = N' i c) : Ech M N' R C k d p :=
  ⟨h.mates.congr e, h.dR, fun i hi => ⟨(h.piv i hi).1, by rw [← e i _ (by have := h.dR; omega) (by have := (h.piv i hi).1; omega)]; exact (h.piv i hi).2⟩,
    fun i j hi hij hj => by rw [← e j _ hj (by have := (h.piv i hi).1; omega)]; exact h.low i j hi hij hj, fun i c h1 h2 h3 => by rw [← e i c h2 (by omega)]; exact h.rest i c h1 h2 h3⟩
/-- Where the rows are used up it has come to the end. -/
theorem Ech.full {M N : Nat → Nat → Nat} {R C k : Nat} {p : Nat → Nat} (h : Ech M N R C k R p) (hk : k ≤ C) : Ech M N R C C R p :=
  ⟨h.mates, h.dR, fun i hi => ⟨by have := (h.piv i hi).1; omega, (h.piv i hi).2⟩, h.low, fun i c h1 h2 _ => by omega⟩
theorem swap_pivot {l l3 : List Int} {R C d q k x : Nat} (h : ∀ i c, i < R → c < C → co l3 (i * C + c) = (fun i c => co l (sw d q i * C + c)) i c) (hd : d < R) (hk : k < C) (hx : co l (q * C + k) = x) (h0 : x ≠ 0) : co l3 (d * C + k) ≠ 0 := by
  rw [h d k hd hk]
  show co l (sw d q d * C + k) ≠ 0
  have : sw d q d = q := by unfold sw; rw [if_pos rfl]
  rw [this, hx]
  exact h0
/-- A matrix's elements in a list. -/
def En (C : Nat) (l : List Int) (i c : Nat) : Nat := co l (i * C + c)
set_option maxRecDepth 100000 in
set_option maxHeartbeats 4000000 in
theorem rrank_any (R C cap : Nat) (hR : R ≤ 255) (hC : C ≤ 255) (a : Option Addr) (l : List Int) (w : World) (ha : Sl w a (R * C) cap l) :
    Calls Try.prog 31 #[.agg #[.int .i64 R, .int .i64 C, .slice a ((R * C : Nat)) cap]] w fun e w' => ∃ d : Nat, e = .returned (.int .i64 d) ∧ RankIs (En C l) R C d ∧ Below w.heap.size w w' := by
  have hm : R * C ≤ 65025 := Nat.mul_le_mul hR hC
  have HSWP : Hid (∀ w' A cp lc i j, Sl w' A (R * C) cp lc → i < R → j < R → Calls Try.prog 47 #[.agg #[.int .i64 R, .int .i64 C, .slice A ((R * C : Nat)) cp], .int .i64 (i : Nat), .int .i64 (j : Nat)] w' (HandedR R C (fun x k => co lc (sw i j x * C + k)) w')) :=
    Lib.hid (fun w' A cp lc i j hs hi hj => rswap_any R C i j cp hR hC hi hj A lc w' hs.bytes)
  have HWTH : Hid (∀ w' A cp lc d k, Sl w' A (R * C) cp lc → d < R → k < C → co lc (d * C + k) ≠ 0 → Calls Try.prog 46 #[.agg #[.int .i64 R, .int .i64 C, .slice A ((R * C : Nat)) cp], .int .i64 (d : Nat), .int .i64 (k : Nat)] w' (HandedR R C (fun i c => if d < i then co lc (i * C + c) ^^^ mu (mu (co lc (i * C + k)) (gi (co lc (d * C + k)))) (co lc (d * C + c)) else co lc (i * C + c)) w')) :=
    Lib.hid (fun w' A cp lc d k hs hd hk hp => rwith_any R C d k cp hR hC hd hk A lc w' hs hp)
  have HAT : Hid (∀ w' A cp lc i k, Sl w' A (R * C) cp lc → i < R → k < C → Calls Try.prog 35 #[.agg #[.int .i64 R, .int .i64 C, .slice A ((R * C : Nat)) cp], .int .i64 (i : Nat), .int .i64 (k : Nat)] w' fun e w'' => e = .returned (.int .u8 (co lc (i * C + k))) ∧ Below w'.heap.size w' w'') :=
    Lib.hid (fun w' A cp lc i k hs hi hk => rat_any R C i k (R * C) cp A lc w' hs.bytes (spot_lt hi hk) (by omega))
  unfold HandedR at HSWP HWTH
  obtain ⟨m, hmm⟩ : ∃ m, R * C = m := ⟨_, rfl⟩
  rw [hmm] at hm HSWP HWTH HAT ha
  rw [hmm]
  have HE0 := Lib.hid (Ech.start (M := En C l) (fun i k => ha.bytes.by_.lt _) R C (fun _ => 0))
  have HA := Lib.hid ha
  clear hmm ha
  go_enter Try.func31, Try.ntmps31
  go_wp2
  have HX0 := Lib.hid (alloc_rx w (.int .i64 R) (.int .i64 C) (.slice a m cap))
  have HB0 : Hid (Below w.heap.size w (w.alloc (.cells #[.int .i64 R, .int .i64 C, .slice a m cap] 27))) := Lib.hid (by go_grown)
  have HA0 := Lib.hid (HA.out.below HB0.out (Nat.le_refl _))
  generalize w.alloc (.cells #[.int .i64 R, .int .i64 C, .slice a m cap] 27) = w0 at *
  go_loopw [3, 4, 5] (fun dv kv _ wr => ∃ (d k : Nat) (A : Option Addr) (cp : Nat) (lc : List Int) (p : Nat → Nat), d ≤ R ∧ k ≤ C ∧ dv = .int .i64 (d : Nat) ∧ kv = .int .i64 (k : Nat) ∧ Hid (Rx wr w.heap.size (.int .i64 R) (.int .i64 C) (.slice A m cp)) ∧ Hid (Sl wr A m cp lc) ∧ Hid (Ech (En C l) (En C lc) R C k d p) ∧ Hid (Below w.heap.size w wr)) (fun _ kv _ _ => C - (intOf kv).toNat)
  case atStart => exact ⟨0, 0, a, cap, l, _, by omega, by omega, rfl, rfl, HX0, HA0, HE0, HB0⟩
  case round =>
    obtain ⟨d, k, A, cp, lc, p, hd, hk, rfl, rfl, HX, HS, HEC, HB⟩ := hrel
    obtain ⟨wo, ho⟩ : ∃ wo, wo = wr := ⟨_, rfl⟩
    subst ho
    obtain ⟨a0, a1, a2, af⟩ := HX.out.cells
    by_cases hkl : k < C
    · by_cases hdl : d < R
      · go_wp2
        clear a0 a1 a2 af
        have HBR := Lib.hid (Below.refl wo.heap.size wo)
        go_loopw [5] (fun kv wr => ∃ q : Nat, d ≤ q ∧ q ≤ R ∧ kv = .int .i64 (q : Nat) ∧ Hid (∀ i, d ≤ i → i < q → co lc (i * C + k) = 0) ∧ Hid (Below wo.heap.size wo wr)) (fun kv _ => R - (intOf kv).toNat)
        case atStart => exact ⟨d, by omega, by omega, rfl, Lib.hid (fun i h1 h2 => by omega), HBR⟩
        case round =>
          obtain ⟨q, hdq, hq, rfl, HZ, HBi⟩ := hrel
          obtain ⟨wi, hi⟩ : ∃ wi, wi = wr := ⟨_, rfl⟩
          subst hi
          have HXi := Lib.hid (HX.out.below HBi.out HX.out.lt)
          have HSi := Lib.hid (HS.out.below HBi.out (Nat.le_refl _))
          have HBw := Lib.hid (HB.out.trans (HBi.out.mono HB.out.size))
          obtain ⟨a0, a1, a2, af⟩ := HXi.out.cells
          by_cases hlq : q < R
          · have HA1 := Lib.hid (HAT.out wi A cp lc q k HSi.out hlq hkl)
            by_cases hz : co lc (q * C + k) = 0
            · have HZ0 := Lib.hid hz
              rw [hz] at HA1
              clear hz
              go_wp2_with (go_at_call 35; refine HA1.out.mono ?_; rintro e w2 ⟨rfl, hb2⟩; have HB2 := Lib.hid hb2; clear hb2)
              clear a0 a1 a2 af
              go_wp2
              go_roundw
              case rel => exact ⟨q + 1, by omega, by omega, by go_num, Lib.hid (fun i h1 h2 => if e : i = q then e ▸ HZ0.out else HZ.out i h1 (by omega)), Lib.hid (HBi.out.trans (HB2.out.mono HBi.out.size))⟩
              case measure => simp [intOf]; omega
            · have HZ0 := Lib.hid hz
              have HZB : Hid ((((co lc (q * C + k) : Nat) : Int) == 0) = false) := Lib.hid (by simp; exact hz)
              generalize hx : co lc (q * C + k) = x at *
              have hxb := HZB.out
              have HXX := Lib.hid hx
              clear hz hx
              have hqr : ¬ q = R := by omega
              have hqb : ((q : Int) == R) = false := by simp; omega
              go_wp2_with first
                | (go_at_call 35; refine HA1.out.mono ?_; rintro e w2 ⟨rfl, hb2⟩; have HB2 := Lib.hid hb2; clear hb2 a0 a1 a2 af; obtain ⟨a0, a1, a2, af⟩ := (HXi.out.below HB2.out HXi.out.lt).cells)
                | (go_at_call 47; refine (HSWP.out _ A cp lc d q (HSi.out.below HB2.out (Nat.le_refl _)) hdl hlq).mono ?_; rintro e w3 ⟨A3, C3, l3, rfl, hs3, hc3, hb3⟩; have HS3 := Lib.hid hs3; have HC3 := Lib.hid hc3; have HB3 := Lib.hid (HB2.out.trans (hb3.mono HB2.out.size)); clear hs3 hc3 hb3)
                | (go_at_call 46; refine (HWTH.out _ A3 C3 l3 d k HS3.out hdl hkl (swap_pivot HC3.out hdl hkl HXX.out HZ0.out)).mono ?_; rintro e w4 ⟨A4, C4, l4, rfl, hs4, hc4, hb4⟩; have HS4 := Lib.hid hs4; have HC4 := Lib.hid hc4; have HB4 := Lib.hid (HB3.out.trans (hb4.mono HB3.out.size)); clear hs4 hc4 hb4 a0 a1 a2 af; obtain ⟨a0, a1, a2, af⟩ := (HXi.out.below HB4.out HXi.out.lt).cells)
              clear a0 a1 a2 af
              have HX4 := Lib.hid (HXi.out.below HB4.out HXi.out.lt)
              refine ⟨⟨d + 1, k + 1, A4, C4, l4, _, by omega, by omega, by go_num, by go_num, Lib.hid HX4.out.write, Lib.hid (sl_set3 HS4.out (fun c o e h0 => rx_apart HX4.out HS4.out.bytes h0 e)),
                Lib.hid (ech_doc (N1 := En C l3) HEC.out (fun i c => HS.out.bytes.by_.lt _) hdq hlq hkl (by show co lc (q * C + k) ≠ 0; rw [HXX.out]; exact HZ0.out) (fun i c hi hc => HC3.out i c hi hc) (fun i c hi hc => HC4.out i c hi hc)),
                Lib.hid (below_set3 (HBw.out.trans (HB4.out.mono HBw.out.size)) (Nat.le_refl _))⟩, by simp [intOf]; omega⟩
          · obtain rfl : q = R := by omega
            have hqb : ((q : Int) == q) = true := by simp
            go_wp2
            exact ⟨⟨d, k + 1, A, cp, lc, p, by omega, by omega, rfl, by go_num, HXi, HSi, Lib.hid (HEC.out.skip (fun i h1 h2 => HZ.out i h1 h2)), HBw⟩, by simp [intOf]; omega⟩
      · obtain rfl : d = R := by omega
        go_wp2
        go_ret
        exact ⟨d, rfl, (HEC.out.full hk).rank (fun i c => HS.out.bytes.by_.lt _) (Nat.le_refl _), HB.out⟩
    · obtain rfl : k = C := by omega
      go_wp2
      go_ret
      exact ⟨d, rfl, HEC.out.rank (fun i c => HS.out.bytes.by_.lt _) (Nat.le_refl _), HB.out⟩
end Go.Proofs.Ytipaolkgafhliaa
