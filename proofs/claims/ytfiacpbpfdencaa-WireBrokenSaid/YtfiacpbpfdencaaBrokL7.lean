/-
  Own text: the law WireBroken, walked.
-/
import Derived.Test.YtfiacpbpfdencaaBackM7
import Derived.Test.YtfiacpbpfdencaaBurstM
namespace Go.Proofs.Ytfiacpbpfdencaa
open Go.RowKit

set_option maxRecDepth 100000 in
set_option maxHeartbeats 8000000 in
theorem broken7_bad (d : Dg) (l : List Int) (p q : Int) (w : World) (hl : Bytes w d.da d.dl l) (hc : chk d l ≠ 0) :
    Calls Try.prog 7 #[d.val, .int .u16 p, .int .u32 q] w fun e w' => e = .returned (.bool true) ∧ Below w.heap.size w w' := by
  have HX := dbox_all w d 25 l hl
  have hm := hl.max
  have HAW := Lib.hid (fun w => awake7_any w)
  have HE := Lib.hid (fun t w h => encode_no t d l w h hc)
  have hv : (chk d l != 0) = true := by simpa using hc
  generalize chk d l = c at *
  clear hl
  dsimp only [Dg.val, Dg.cells] at *
  go_enter Try.func7, Try.ntmps7
  go_upto_region 1 with fail
  generalize (w.alloc (.cells #[.int .i64 d.kind, .int .u32 d.ses, .int .u32 d.seq, .int .i64 d.path, .int .u32 d.tick, .int .u32 d.A, .int .u32 d.B, .int .i64 d.K, .int .i64 d.M, .int .i64 d.ix, .slice d.da d.dl d.dc] 25)) = w0 at *
  go_wp2_with first
    | (go_at_call 9; refine (HAW.out _).mono ?_; rintro e w1 ⟨rfl, hb⟩; have C1 := Lib.hid hb; clear hb)
    | (go_at_call 11; refine (new_any _).mono ?_; rintro e w2 ⟨rfl, ht, hb⟩; have HT := Lib.hid ht; have C2 := Lib.hid (C1.out.trans (hb.mono C1.out.size)); clear ht hb; obtain ⟨⟨_, x0, x1, x2, x3, x4, x5, x6, x7, x8, x9, x10⟩, _, _⟩ := HX.out _ C2.out)
    | (go_at_call 10; refine (HE.out _ _ (HX.out _ C2.out).2.1).mono ?_; rintro e w3 ⟨rfl, hb⟩; have C3 := Lib.hid (C2.out.trans (hb.mono C2.out.size)); clear hb)
    | fail
  go_ret
  exact ⟨rfl, (HX.out _ C3.out).2.2⟩
set_option maxRecDepth 100000 in
set_option maxHeartbeats 8000000 in
theorem broken7_good (d : Dg) (l : List Int) (p q : Int) (w : World) (hl : Bytes w d.da d.dl l) (hf : d.fit) (hnil : d.da = none → d.dc = 0) (hc : chk d l = 0) (p0 : 0 ≤ p) (p1 : p ≤ 65535) (_ : 0 ≤ q) (_ : q ≤ 4294967295) :
    Calls Try.prog 7 #[d.val, .int .u16 p, .int .u32 q] w fun e w' => e = .returned (.bool true) ∧ Below w.heap.size w w' := by
  have HX := dbox_all w d 25 l hl
  have hm := hl.max
  have HAW := Lib.hid (fun w => awake7_any w)
  have hs := chk_small hc (fun i hi => (hl.byte i hi).1)
  have hdl := hs.dl
  have HE := Lib.hid (fun (t : Nat) (w1 : World) (ht : IsTab w1 t) (h : Bytes w1 d.da d.dl l) => encode_ok t d l w1 ht h hf hnil hc)
  have HD := Lib.hid (fun (t : Nat) (a : Option Addr) (w1 : World) (ht : IsTab w1 t) (h : Bytes w1 a (29 + d.dl + 4) (wholeL d l)) => decode_own t d l a w1 ht h hf hs hl.size hc)
  have HPL : Hid (∀ z ∈ wholeL d l, 0 ≤ z ∧ z ≤ 255) := Lib.hid (sealed_range7 hl hs)
  have HLL : Hid ((wholeL d l).length = 29 + d.dl + 4) := Lib.hid (wholeL_length d l hl.size)
  have HOP : Hid (opensB (29 + d.dl) (wholeL d l) = true) := Lib.hid (opens_sealed7 _ _ (by rw [plainL_length, hl.size]))
  rw [show plainL d l ++ sealL (sumB (plainL d l)) = wholeL d l from rfl] at HE
  generalize wholeL d l = P at *
  obtain ⟨n, hn⟩ : ∃ n, n = 29 + d.dl := ⟨_, rfl⟩
  have hn29 : 29 ≤ n := by omega
  have hn12 : n ≤ 1229 := by omega
  rw [← hn] at HE HD HLL HOP
  have HTS : ∀ F, Hid (Turned P P F 0 false) := fun F => Lib.hid (Turned.start _ F HPL.out)
  clear hl hf hnil hs hc hn hdl
  obtain ⟨F, hF⟩ : ∃ F : Nat, p % (8 * ((n : Int) + 4)) = F := ⟨(p % (8 * ((n : Int) + 4))).toNat, by have := Int.emod_nonneg p (show 8 * ((n : Int) + 4) ≠ 0 by omega); omega⟩
  have hF2 : F < 8 * (n + 4) := by
    have := Int.emod_lt_of_pos p (show 0 < 8 * ((n : Int) + 4) by omega)
    omega
  dsimp only [Dg.val, Dg.cells] at *
  go_enter Try.func7, Try.ntmps7
  go_upto_region 1 with fail
  generalize (w.alloc (.cells #[.int .i64 d.kind, .int .u32 d.ses, .int .u32 d.seq, .int .i64 d.path, .int .u32 d.tick, .int .u32 d.A, .int .u32 d.B, .int .i64 d.K, .int .i64 d.M, .int .i64 d.ix, .slice d.da d.dl d.dc] 25)) = w0 at *
  go_wp2_with first
    | (go_at_call 9; refine (HAW.out _).mono ?_; rintro e w1 ⟨rfl, hb⟩; have C1 := Lib.hid hb; clear hb)
    | (go_at_call 11; refine (new_any _).mono ?_; rintro e w2 ⟨rfl, ht, hb⟩; have HT := Lib.hid ht; have C2 := Lib.hid (C1.out.trans (hb.mono C1.out.size)); clear ht hb; obtain ⟨⟨_, x0, x1, x2, x3, x4, x5, x6, x7, x8, x9, x10⟩, _, _⟩ := HX.out _ C2.out)
    | (go_at_call 10; refine (HE.out _ _ HT.out (HX.out _ C2.out).2.1).mono ?_; rintro e w3 ⟨g, rfl, hg, hr, hb⟩; have HR3 := Lib.hid hr; have HG := Lib.hid (Nat.le_trans C2.out.size hg); have HG2 := Lib.hid hg; have HT3 := Lib.hid (HT.out.below hb HT.out.lt); have C3 := Lib.hid (C2.out.trans (hb.mono C2.out.size)); clear hb hg hr x0 x1 x2 x3 x4 x5 x6 x7 x8 x9 x10)
    | fail
  rw [hF]
  clear hF
  go_loopw [11, 12] (fun tb i wr => ∃ (c : Nat) (b : Bool) (Z : List Int), c ≤ 32 ∧ i = .int .i64 c ∧ tb = .bool b ∧ Hid (Row8 wr g 5 Z) ∧ Hid (Turned P Z F c b) ∧ Hid (Below g w3 wr)) (fun _ i _ => 32 - (intOf i).toNat)
  case atStart => exact ⟨0, false, _, by omega, rfl, rfl, HR3, HTS F, Lib.hid (Below.refl _ _)⟩
  case round =>
    obtain ⟨c, b, Z, hc, rfl, rfl, HR, HTT, HB⟩ := hrel
    have c0 : (0 : Int) ≤ c := by omega
    by_cases hlt : c < 32 ∧ F + c < 8 * (n + 4)
    · obtain ⟨h1, h2⟩ := hlt
      have h2' : (F : Int) + c < 8 * ((n : Int) + 4) := by omega
      go_wp2
      rotate_left
      · go_roundw
        case rel => exact ⟨c + 1, b, Z, by omega, by go_num, rfl, HR, Lib.hid HTT.out.on, HB⟩
        case measure => simp [intOf]; omega
      obtain ⟨k, hk⟩ : ∃ k : Nat, k = (F + c) / 8 := ⟨_, rfl⟩
      obtain ⟨j, hj⟩ : ∃ j : Nat, j = (F + c) % 8 := ⟨_, rfl⟩
      have e1 : ((F : Int) + c).tdiv 8 = (k : Int) := by rw [Int.tdiv_eq_ediv_of_nonneg (by omega)]; omega
      have e2 : ((F : Int) + c).tmod 8 = (j : Int) := by rw [Int.tmod_eq_emod_of_nonneg (by omega)]; omega
      have e3 : IntKind.i64.wrap (k : Int) = k := IntWalk.i64_in _ (by omega)
      have e4 : IntKind.i64.wrap (j : Int) = j := IntWalk.i64_in _ (by omega)
      have e5 : ((F : Int) + c) / 8 = (k : Int) := by omega
      have e6 : ((F : Int) + c) % 8 = (j : Int) := by omega
      have k0 : (0 : Int) ≤ k := by omega
      have k1 : (k : Int) < (n : Int) + 4 := by omega
      have j0 : (0 : Int) ≤ j := by omega
      have j1 : (j : Int) < 8 := by omega
      have hlen : Z.length = n + 4 := by have := HTT.out.len; have := HLL.out; omega
      have HK := Lib.hid hk
      have HJ := Lib.hid hj
      have cc := HR.out.cell k (by omega)
      have hf := HR.out.frozen k
      obtain ⟨z, hz⟩ : ∃ z, z = Z.getD k 0 := ⟨_, rfl⟩
      rw [← hz] at cc
      have HZ := Lib.hid hz
      have HLN := Lib.hid hlen
      clear hk hj hz hlen
      refine wp_region_still_tail 13 (by kernel_rfl) (by kernel_rfl) ?_
      simp only [List.take_succ_cons, List.take_zero, List.drop_succ_cons, List.drop_zero]
      repeat still_step
      refine wpStill_nil ?_
      change wpList _ _ _ _ _ wr.drew
      go_wp2
      obtain ⟨y0, y1, y2⟩ := turn_val z (by rw [HZ.out]; exact (HTT.out.range _ (by rw [List.getD_eq_getElem?_getD, List.getElem?_eq_getElem (by rw [HLN.out]; omega)]; exact List.getElem_mem _)).1) (by rw [HZ.out]; exact (HTT.out.range _ (by rw [List.getD_eq_getElem?_getD, List.getElem?_eq_getElem (by rw [HLN.out]; omega)]; exact List.getElem_mem _)).2) j (by omega)
      generalize bits .xor .u8 z (2 ^ j % 256) = z' at *
      go_roundw
      case rel =>
        refine ⟨c + 1, true, Z.set k z', by omega, by go_num, rfl, Lib.hid (HR.out.set k z'), ?_, Lib.hid ((HB.out.setCell (p := ⟨g, k, none⟩) (Nat.le_refl _) _).drew)⟩
        have := HTT.out.turn z' h1 (by rw [HLL.out]; omega) y0 y1 (by rw [← HK.out, ← HJ.out, ← HZ.out]; exact y2)
        rw [← HK.out] at this
        exact Lib.hid this
      case measure => simp [intOf]; omega
    · have CR : Hid (Below w0.heap.size w0 wr) := Lib.hid (C3.out.trans (HB.out.mono HG.out))
      have HT5 : Hid (IsTab wr w1.heap.size) := Lib.hid (HT3.out.below HB.out (Nat.lt_of_lt_of_le HT.out.lt HG2.out))
      have HY : Hid (Bytes wr (some ⟨g, 0, none⟩) (n + 4) Z) := Lib.hid (HR.out.whole HTT.out.range (n + 4) (by rw [HTT.out.len, HLL.out]) (by omega))
      obtain ⟨⟨_, x0, x1, x2, x3, x4, x5, x6, x7, x8, x9, x10⟩, _, _⟩ := HX.out _ CR.out
      have hx2 : c < 32 → ¬ ((F : Int) + c < 8 * ((n : Int) + 4)) := fun h g => hlt ⟨h, by omega⟩
      have HX2 := Lib.hid hx2
      clear hx2 hlt
      by_cases h32 : c < 32
      all_goals
        have hx3 := HX2.out
        first | (have hx4 := hx3 h32; clear hx3) | clear hx3
        cases b
        · have HZP : Hid (Z = P) := Lib.hid (by
            obtain ⟨M, _, _, m3, _⟩ := HTT.out.said
            exact (m3 rfl).2)
          have HYP := Lib.hid (HZP.out ▸ HY.out)
          go_wp2_with first
            | (go_at_call 16; refine (HD.out _ _ _ HT5.out HYP.out).mono ?_; rintro e w5 ⟨A5, C5, rfl, hx, hb⟩; have C5' := Lib.hid (CR.out.trans (hb.mono CR.out.size)); clear hx hb)
            | fail
          go_ret
          exact ⟨rfl, (HX.out _ (C5'.out.alloc C5'.out.size _)).2.2⟩
        · have ho : Hid (opensB n Z = false) := Lib.hid (by
            obtain ⟨M, _, m2, _, m4⟩ := HTT.out.said
            exact turned_shut n Z _ _ M HOP.out m2 (m4 rfl))
          have HDZ := Lib.hid (decode_shut w1.heap.size n Z (some ⟨g, 0, none⟩) d.ses wr HT5.out HY.out hn29 (by omega) ho.out)
          dsimp only [Dg.zero, Dg.val] at HDZ
          go_wp2_with first
            | (go_at_call 16; refine HDZ.out.mono ?_; rintro e w5 ⟨rfl, hb⟩; have C5' := Lib.hid (CR.out.trans (hb.mono CR.out.size)); clear hb)
            | (go_at_call 18; refine (rsame7_true _ _ _ _ _ _ _ _ _ _ none none 0 0 0 [] _ (Bytes.nil _) (Bytes.nil _)).mono ?_; rintro e w8 ⟨rfl, hb⟩; have HB8 := Lib.hid hb; clear hb)
            | fail
          go_ret
          exact ⟨rfl, (HX.out _ ((C5'.out.alloc C5'.out.size _).trans (HB8.out.mono (C5'.out.alloc C5'.out.size _).size))).2.2⟩
theorem broken7_walk (d : Dg) (l : List Int) (p q : Int) (w : World) (hl : Bytes w d.da d.dl l) (hf : d.fit) (hnil : d.da = none → d.dc = 0) (hp : (Lit.int .u16 p).wf = true) (hq : (Lit.int .u32 q).wf = true) :
    Calls Try.prog 7 #[d.val, .int .u16 p, .int .u32 q] w fun e w' => e = .returned (.bool true) ∧ Below w.heap.size w w' := by
  obtain ⟨p0, p1⟩ := u16_lo hp
  obtain ⟨q0, q1⟩ := u32_lo hq
  by_cases hc : chk d l = 0
  · exact broken7_good d l p q w hl hf hnil hc p0 p1 q0 q1
  · exact broken7_bad d l p q w hl hc
theorem broken7_in (d : Dg) (zs : List Int) (p q : Int) (w : World) (fit : d.fit) (row : IsRow .u8 w d.da d.dl d.dc zs) (hp : (Lit.int .u16 p).wf = true) (hq : (Lit.int .u32 q).wf = true) :
    Calls Try.prog 7 #[d.val, .int .u16 p, .int .u32 q] w fun e w' => e = .returned (.bool true) ∧ Below w.heap.size w w' :=
  broken7_walk d _ p q w row.bytes fit row.nil_cap hp hq
end Go.Proofs.Ytfiacpbpfdencaa
