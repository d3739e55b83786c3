/-
  Own text: law PacerBounds, walked. (Written by gen_pcaa.py.)
-/
import Derived.Test.YtbbdkkjbcpkplaaPcZ
namespace Go.Proofs.Ytbbdkkjbcpkplaa
open Go.RowKit

/-- What the law counts, behind so many calls: the bucket was k, it is k2, so many ticks have gone by. -/
structure Bf (k k2 : Bk) (t : Int) (j : Nat) : Prop where
  fit : k2.fit (100 + j)
  ra : k2.ra = k.ra
  bu : k2.bu = k.bu
  sum : k2.he + k2.sp ≤ k.bu + k.sp + k.ra * t
  t0 : 0 ≤ t
  t1 : t ≤ 1000000 * (j : Int)
  f0 : k.fit 100
theorem Bf.start {k : Bk} (h : k.fit 100) : Bf k k 0 0 := ⟨h, rfl, rfl, by have := h.h2; rw [Int.mul_zero]; omega, Int.le_refl _, by omega, h⟩
theorem Bf.stay {k k2 : Bk} {t : Int} {j : Nat} (h : Bf k k2 t j) : Bf k k2 t (j + 1) := ⟨h.fit.more, h.ra, h.bu, h.sum, h.t0, by have := h.t1; push_cast; omega, h.f0⟩
theorem Bf.take {k k2 : Bk} {t : Int} {j : Nat} (h : Bf k k2 t j) (a : Int) : Bf k (k2.take a) t (j + 1) := by
  obtain ⟨e1, e2⟩ := k2.take_keeps a
  have e3 := k2.take_sum a
  have := h.sum
  exact ⟨Bk.take_fit h.fit a, e1.trans h.ra, e2.trans h.bu, by omega, h.t0, by have := h.t1; push_cast; omega, h.f0⟩
theorem Bf.tick {k k2 : Bk} {t : Int} {j : Nat} (h : Bf k k2 t j) (a : Int) (h0 : 0 ≤ a) (h1 : a ≤ 1000000) : Bf k (k2.tick a) (t + a) (j + 1) := by
  have e3 := Bk.tick_sum h.fit a h0
  have := h.sum
  rw [h.ra] at e3
  exact ⟨(Bk.tick_fit h.fit a).more, h.ra, h.bu, by rw [Int.mul_add]; omega, by have := h.t0; omega, by have := h.t1; push_cast; omega, h.f0⟩
/-- What the law asks. -/
theorem Bf.check {k k2 : Bk} {t : Int} {j : Nat} (h : Bf k k2 t j) (hj : j ≤ 100) :
    IntKind.i64.wrap (k2.sp - k.sp) = k2.sp - k.sp ∧ IntKind.i64.wrap (k.ra * t) = k.ra * t ∧ IntKind.i64.wrap (k.bu + k.ra * t) = k.bu + k.ra * t ∧ ¬ k.bu + k.ra * t < k2.sp - k.sp ∧ ¬ k2.he < 0 ∧ ¬ k.bu < k2.he := by
  have g1 := h.fit.s1
  have g2 := h.fit.s2
  have g3 := h.fit.h1
  have g4 := h.fit.h2
  have g5 := h.f0.s1
  have g6 := h.f0.s2
  have g7 := h.f0.b1
  have g8 := h.f0.b2
  have g9 := h.sum
  have b1 := h.bu
  have p1 : 0 ≤ k.ra * t := Int.mul_nonneg (by have := h.f0.r1; omega) h.t0
  have p2 : k.ra * t ≤ 1048576 * 100000000 := Int.mul_le_mul h.f0.r2 (by have := h.t1; omega) h.t0 (by omega)
  generalize k.ra * t = P at *
  push_cast at g2 g6
  refine ⟨?_, ?_, ?_, by omega, by omega, by omega⟩ <;> (rw [IntKind.wrap_i64]; omega)
/-- The code's bucket, the document's box, in the law's world. -/
structure Bd (w : World) (b c : Nat) (k k2 : Bk) (W : World) : Prop where
  code : KBlk 33 W b k2
  doc : KBlk 26 W c k
  bel : Below w.heap.size w W
  hb : w.heap.size ≤ b
  hc : c ≠ b
theorem Bd.frm {w : World} {b c : Nat} {k k2 k3 : Bk} {W W' : World} (h : Bd w b c k k2 W) (hk : KBlk 33 W' b k3) (hf : Frm b W W') : Bd w b c k k3 W' :=
  ⟨hk, h.doc.keep (hf.block _ h.doc.lt h.hc), hf.bel h.bel h.bel.size h.hb, h.hb, h.hc⟩
theorem Bd.drewN {w : World} {b c : Nat} {k k2 : Bk} {W : World} (h : Bd w b c k k2 W) (q : Nat) : Bd w b c k k2 (W.drewN q) := ⟨h.code.drewN q, h.doc.drewN q, below_drewN h.bel q, h.hb, h.hc⟩
theorem take_bd {w : World} {b c i : Nat} {k k2 : Bk} {W : World} (h : Bd w b c k k2 W) (hf : k2.fit i) (hi : i ≤ 1000) (n : Int) :
    Calls Try.prog 12 #[.pointer (some ⟨b, 0, none⟩), .int .i64 n] W fun e W' => e = .returned (.bool (k2.may n)) ∧ Hid (Bd w b c k (k2.take n) W') :=
  (take_any n b i k2 hf hi W h.code).mono fun _ _ ⟨e, h1, h2⟩ => ⟨e, Lib.hid (h.frm h1.out h2.out)⟩
theorem tick_bd {w : World} {b c i : Nat} {k k2 : Bk} {W : World} (h : Bd w b c k k2 W) (hf : k2.fit i) (n : Int) (hn : I64 n) :
    Calls Try.prog 10 #[.pointer (some ⟨b, 0, none⟩), .int .i64 n] W fun e W' => e = .returned (.tuple #[]) ∧ Hid (Bd w b c k (k2.tick n) W') :=
  (tick12_any n hn.1 hn.2 b i k2 hf W h.code).mono fun _ _ ⟨e, h1, h2⟩ => ⟨e, Lib.hid (h.frm h1.out h2.out)⟩
set_option maxRecDepth 100000 in
theorem bounds12_no (r bb : Int) (hok : okB r bb = false) (a : Option Addr) (n c : Nat) (a2 : Option Addr) (n2 c2 : Nat) (w : World) :
    Calls Try.prog 5 #[.agg #[.int .i64 r, .int .i64 bb], .slice a n c, .slice a2 n2 c2] w (Yes12 w) := by
  have CP := Lib.hid (played12_no r bb hok a n c)
  clear hok
  unfold KV Bk.zero at CP
  dsimp only at CP
  obtain ⟨W, hW⟩ : ∃ W, W = w.alloc (.cells #[.int .i64 r, .int .i64 bb] 30) := ⟨_, rfl⟩
  obtain ⟨hs, hb, hc⟩ := two_new w r bb hW
  have HB := Lib.hid hb
  have HC := Lib.hid hc
  clear hs hb hc
  go_enter Try.func5, Try.ntmps5
  go_upto_region 1 with fail
  rw [← hW]
  clear hW
  go_wp2_with (first
    | (go_at_call 7; (refine (awake12_any _).mono ?_); rintro e w1 ⟨rfl, hb1⟩; have HB1 := Lib.hid hb1; obtain ⟨x0, x1⟩ := HC.out _ hb1; clear hb1)
    | (go_at_call 8; (with_reducible refine (CP.out _).mono ?_); rintro e w2 ⟨rfl, hb⟩; have HB2 := Lib.hid (HB.out.trans ((HB1.out.trans (hb.mono HB1.out.size)).mono HB.out.size)); clear hb)
    | fail)
  go_ret
  exact ⟨rfl, HB2.out.alloc HB2.out.size _⟩
set_option maxRecDepth 100000 in
set_option maxHeartbeats 4000000 in
theorem bounds12_yes (r bb : Int) (hok : okB r bb = true) (a : Option Addr) (n c : Nat) (K N V : Nat → Int) (a2 : Option Addr) (n2 c2 : Nat) (K2 N2 V2 : Nat → Int) (w : World) (ho : Ops w a n K N V) (ho2 : Ops w a2 n2 K2 N2 V2) :
    Calls Try.prog 5 #[.agg #[.int .i64 r, .int .i64 bb], .slice a n c, .slice a2 n2 c2] w (Yes12 w) := by
  obtain ⟨W, hW⟩ : ∃ W, W = w.alloc (.cells #[.int .i64 r, .int .i64 bb] 30) := ⟨_, rfl⟩
  obtain ⟨hs, hb, hc⟩ := two_new w r bb hW
  have CP := Lib.hid (fun w1 (hb1 : Below W.heap.size W w1) => played12_yes r bb hok a n c K N V w1 (ho.below (hb.trans (hb1.mono hb.size)) (Nat.le_refl _)))
  have HB := Lib.hid hb
  have HC := Lib.hid hc
  have HM := Lib.hid ho2
  clear hs hb hc hok ho ho2
  unfold KV at CP
  go_enter Try.func5, Try.ntmps5
  go_upto_region 1 with fail
  rw [← hW]
  clear hW
  go_upto_region 6 with (first
    | (go_at_call 7; (refine (awake12_any _).mono ?_); rintro e w1 ⟨rfl, hb1⟩; have HB1 := Lib.hid hb1; obtain ⟨x0, x1⟩ := HC.out _ hb1; clear hb1)
    | (go_at_call 8; (with_reducible refine (CP.out _ HB1.out).mono ?_); rintro e w2 ⟨b, k, rfl, HF, HN⟩)
    | fail)
  obtain ⟨hk, hbb, hb2⟩ := HN.out
  obtain ⟨W3, hW3⟩ : ∃ W3, W3 = w2.alloc (.cells #[.int .i64 k.ra, .int .i64 k.bu, .int .i64 k.he, .int .i64 k.sp, .int .i64 k.fu] 26) := ⟨_, rfl⟩
  rw [← hW3]
  have hb3 : Below w2.heap.size w2 W3 := by rw [hW3]; exact (Below.refl _ _).alloc (Nat.le_refl _) _
  have hx3 : KBlk 26 W3 w2.heap.size k := by rw [hW3]; exact KBlk.new w2 k _
  have hk3 := hk.below hb3 hk.lt
  have HBD : Hid (Bd w b w2.heap.size k k W3) := Lib.hid ⟨hk3, hx3, HB.out.trans ((HB1.out.trans ((hb2.trans (hb3.mono hb2.size)).mono HB1.out.size)).mono HB.out.size), by have := HB.out.size; have := HB1.out.size; omega, by have := hk.lt; omega⟩
  obtain ⟨v0, v1, v2, v3, v4⟩ := hk3.cells
  have HB0 := Lib.hid (Bf.start HF.out)
  clear hW3 hb3 hx3 hk3 hk hbb hb2 HN x0 x1 CP HC HB HB1 HF
  generalize w2.heap.size = cb at *
  go_wp2
  clear v0 v1 v2 v3 v4
  go_loopw [11, 12] (fun tt i wr => ∃ (j : Nat) (t : Int) (k2 : Bk), i = .int .i64 (j : Int) ∧ tt = .int .i64 t ∧ j ≤ 100 ∧ Hid (Bf k k2 t j) ∧ Hid (Bd w b cb k k2 wr)) (fun _ i _ => 100 - (intOf i).toNat)
  case atStart => exact ⟨0, 0, k, rfl, rfl, Nat.zero_le _, HB0, HBD⟩
  case round =>
    obtain ⟨j, t, k2, rfl, rfl, hj, HF, HD⟩ := hrel
    clear HBD HB0
    obtain ⟨wo, hwo⟩ : ∃ wo, wo = wr := ⟨_, rfl⟩
    subst hwo
    have i2 : (0 : Int) ≤ (j : Int) := by omega
    have i3 : (j : Int) ≤ 100 := by omega
    by_cases hlt : j < n2 ∧ j < 100
    · obtain ⟨g, off, rfl, hg, hi, _⟩ := HM.out.at_ hlt.1
      have HCE : Hid (∀ w', Below w.heap.size w w' → w'.cell? ⟨g, off + j * 3, none⟩ = some (.int .i64 (K2 j)) ∧ w'.cell? ⟨g, off + j * 3 + 1, none⟩ = some (.int .i64 (N2 j))) := Lib.hid (fun w' h => by
        obtain ⟨g', off', e, _, _, c0, c1, _⟩ := (HM.out.below h (Nat.le_refl _)).at_ hlt.1
        simp only [Option.some.injEq, Addr.mk.injEq, and_true] at e
        obtain ⟨rfl, rfl⟩ := e
        exact ⟨c0, c1⟩)
      obtain ⟨c0, c1⟩ := HCE.out _ HD.out.bel
      have HI1 := Lib.hid hi.2.1
      have i1 : (j : Int) < n2 := by omega
      have i4 : (j : Int) < 100 := by omega
      have HJK : Hid (j + 1 ≤ 100) := Lib.hid (by omega)
      have HJ9 : Hid (100 + j ≤ 1000) := Lib.hid (by omega)
      have HT0 := Lib.hid HF.out.t0
      have HT1 : Hid (t ≤ 100000000) := Lib.hid (by have := HF.out.t1; omega)
      clear hlt hj hg hi
      generalize K2 j = kd at *
      generalize N2 j = x at *
      by_cases h0 : kd = 0
      · subst h0
        have CT := Lib.hid (take_bd HD.out HF.out.fit HJ9.out x)
        have HF2 := Lib.hid (HF.out.take x)
        obtain ⟨k3, hk3⟩ : ∃ k3, k3 = k2.take x := ⟨_, rfl⟩
        rw [← hk3] at CT HF2
        clear hk3
        generalize k2.may x = my at *
        go_upto_region 15 with (first
          | (go_at_call 12; (with_reducible refine (CT.out).mono ?_); rintro e w5 ⟨rfl, HD5⟩; obtain ⟨y0, y1⟩ := HCE.out _ HD5.out.bel)
          | fail)
        clear y0 y1 CT
        obtain ⟨v0, v1, v2, v3, v4⟩ := HD5.out.code.cells
        obtain ⟨d0, d1, d2, d3, d4⟩ := HD5.out.doc.cells
        obtain ⟨r1, r2, r3, r4, r5, r6⟩ := HF2.out.check HJK.out
        clear HF HD c0 c1 HCE
        go_quiet (fail)
        go_wp2
        go_roundw
        case rel => exact ⟨j + 1, t, k3, by go_num, rfl, HJK.out, HF2, Lib.hid (HD5.out.drewN _)⟩
        case measure => simp [intOf] <;> omega
      · have e0 : (kd == 0) = false := by simp [h0]
        by_cases h1 : kd = 1 ∧ 0 ≤ x ∧ x ≤ 1000000
        · obtain ⟨rfl, hx0, hx1⟩ := h1
          have CT := Lib.hid (tick_bd HD.out HF.out.fit x HI1.out)
          have HF2 := Lib.hid (HF.out.tick x hx0 hx1)
          obtain ⟨k3, hk3⟩ : ∃ k3, k3 = k2.tick x := ⟨_, rfl⟩
          rw [← hk3] at CT HF2
          have wr9 : IntKind.i64.wrap (t + x) = t + x := by have := HT0.out; have := HT1.out; rw [IntKind.wrap_i64]; omega
          clear hk3 h0
          go_upto_region 15 with (first
            | (go_at_call 10; (with_reducible refine (CT.out).mono ?_); rintro e w5 ⟨rfl, HD5⟩; obtain ⟨y0, y1⟩ := HCE.out _ HD5.out.bel)
            | fail)
          clear y0 y1 CT wr9 hx0 hx1
          generalize t + x = t2 at *
          obtain ⟨v0, v1, v2, v3, v4⟩ := HD5.out.code.cells
          obtain ⟨d0, d1, d2, d3, d4⟩ := HD5.out.doc.cells
          obtain ⟨r1, r2, r3, r4, r5, r6⟩ := HF2.out.check HJK.out
          clear HF HD c0 c1 HCE
          go_quiet (fail)
          go_wp2
          go_roundw
          case rel => exact ⟨j + 1, t2, k3, by go_num, rfl, HJK.out, HF2, Lib.hid (HD5.out.drewN _)⟩
          case measure => simp [intOf] <;> omega
        · have HF2 := Lib.hid HF.out.stay
          have hc : ¬ kd = 1 ∨ (kd = 1 ∧ x < 0) ∨ (kd = 1 ∧ 0 ≤ x ∧ 1000000 < x) := by omega
          clear h1
          rcases hc with hc | ⟨rfl, hc⟩ | ⟨rfl, hc, hc2⟩
          · have e1 : (kd == 1) = false := by simp [hc]
            clear hc h0
            have HD5 := HD
            go_upto_region 15 with fail
            obtain ⟨v0, v1, v2, v3, v4⟩ := HD5.out.code.cells
            obtain ⟨d0, d1, d2, d3, d4⟩ := HD5.out.doc.cells
            obtain ⟨r1, r2, r3, r4, r5, r6⟩ := HF2.out.check HJK.out
            clear HF HD c0 c1 HCE
            go_quiet (fail)
            go_wp2
            go_roundw
            case rel => exact ⟨j + 1, t, k2, by go_num, rfl, HJK.out, HF2, Lib.hid (HD5.out.drewN _)⟩
            case measure => simp [intOf] <;> omega
          · clear h0 e0
            have HD5 := HD
            go_upto_region 15 with fail
            clear hc
            obtain ⟨v0, v1, v2, v3, v4⟩ := HD5.out.code.cells
            obtain ⟨d0, d1, d2, d3, d4⟩ := HD5.out.doc.cells
            obtain ⟨r1, r2, r3, r4, r5, r6⟩ := HF2.out.check HJK.out
            clear HF HD c0 c1 HCE
            go_quiet (fail)
            go_wp2
            go_roundw
            case rel => exact ⟨j + 1, t, k2, by go_num, rfl, HJK.out, HF2, Lib.hid (HD5.out.drewN _)⟩
            case measure => simp [intOf] <;> omega
          · clear h0 e0
            have HD5 := HD
            go_upto_region 15 with fail
            clear hc hc2
            obtain ⟨v0, v1, v2, v3, v4⟩ := HD5.out.code.cells
            obtain ⟨d0, d1, d2, d3, d4⟩ := HD5.out.doc.cells
            obtain ⟨r1, r2, r3, r4, r5, r6⟩ := HF2.out.check HJK.out
            clear HF HD c0 c1 HCE
            go_quiet (fail)
            go_wp2
            go_roundw
            case rel => exact ⟨j + 1, t, k2, by go_num, rfl, HJK.out, HF2, Lib.hid (HD5.out.drewN _)⟩
            case measure => simp [intOf] <;> omega
    · have hend : n2 ≤ j ∨ (j < n2 ∧ j = 100) := by omega
      clear hlt hj
      rcases hend with hend | ⟨hend, rfl⟩
      all_goals
        go_wp2
        go_ret
        exact ⟨rfl, HD.out.bel⟩
theorem bounds12_walk (r bb : Int) (a : Option Addr) (n c : Nat) (a2 : Option Addr) (n2 c2 : Nat) (w : World) (hp : True → ∃ K N V, Ops w a n K N V) (hq : True → ∃ K N V, Ops w a2 n2 K N V) :
    Calls Try.prog 5 #[.agg #[.int .i64 r, .int .i64 bb], .slice a n c, .slice a2 n2 c2] w (Yes12 w) := by
  obtain ⟨K, N, V, ho⟩ := hp trivial
  obtain ⟨K2, N2, V2, ho2⟩ := hq trivial
  cases hok : okB r bb
  · exact bounds12_no r bb hok a n c a2 n2 c2 w
  · exact bounds12_yes r bb hok a n c K N V a2 n2 c2 K2 N2 V2 w ho ho2
end Go.Proofs.Ytbbdkkjbcpkplaa
