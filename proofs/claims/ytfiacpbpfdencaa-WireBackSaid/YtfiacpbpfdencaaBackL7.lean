/-
  Own text: the law WireBack, walked.
-/
import Derived.Test.YtfiacpbpfdencaaBackM7
namespace Go.Proofs.Ytfiacpbpfdencaa
open Go.RowKit

set_option maxRecDepth 100000 in
set_option maxHeartbeats 8000000 in
theorem back7_bad (d : Dg) (l : List Int) (o : Int) (w : World) (hl : Bytes w d.da d.dl l) (hc : chk d l ≠ 0) :
    Calls Try.prog 6 #[d.val, .int .u32 o] w fun e w' => e = .returned (.bool true) ∧ Below w.heap.size w w' := by
  have HX := dbox_all w d 25 l hl
  have hm := hl.max
  have HAW := Lib.hid (fun w => awake7_any w)
  have HE := Lib.hid (fun t w h => encode_no t d l w h hc)
  have hv := chk_val d l hc
  generalize chk d l = c at *
  clear hl hc
  rcases hv with rfl | rfl
  · dsimp only [Dg.val, Dg.cells] at *
    go_enter Try.func6, Try.ntmps6
    go_upto_region 1 with fail
    generalize (w.alloc (.cells #[.int .i64 d.kind, .int .u32 d.ses, .int .u32 d.seq, .int .i64 d.path, .int .u32 d.tick, .int .u32 d.A, .int .u32 d.B, .int .i64 d.K, .int .i64 d.M, .int .i64 d.ix, .slice d.da d.dl d.dc] 25)) = w0 at *
    go_wp2_with first
      | (go_at_call 9; refine (HAW.out _).mono ?_; rintro e w1 ⟨rfl, hb⟩; have C1 := Lib.hid hb; clear hb)
      | (go_at_call 11; refine (new_any _).mono ?_; rintro e w2 ⟨rfl, ht, hb⟩; have HT := Lib.hid ht; have C2 := Lib.hid (C1.out.trans (hb.mono C1.out.size)); clear ht hb; obtain ⟨⟨_, x0, x1, x2, x3, x4, x5, x6, x7, x8, x9, x10⟩, _, _⟩ := HX.out _ C2.out)
      | (go_at_call 10; refine (HE.out _ _ (HX.out _ C2.out).2.1).mono ?_; rintro e w3 ⟨rfl, hb⟩; have C3 := Lib.hid (C2.out.trans (hb.mono C2.out.size)); clear hb)
      | fail
    go_ret
    exact ⟨rfl, (HX.out _ C3.out).2.2⟩
  · dsimp only [Dg.val, Dg.cells] at *
    go_enter Try.func6, Try.ntmps6
    go_upto_region 1 with fail
    generalize (w.alloc (.cells #[.int .i64 d.kind, .int .u32 d.ses, .int .u32 d.seq, .int .i64 d.path, .int .u32 d.tick, .int .u32 d.A, .int .u32 d.B, .int .i64 d.K, .int .i64 d.M, .int .i64 d.ix, .slice d.da d.dl d.dc] 25)) = w0 at *
    go_wp2_with first
      | (go_at_call 9; refine (HAW.out _).mono ?_; rintro e w1 ⟨rfl, hb⟩; have C1 := Lib.hid hb; clear hb)
      | (go_at_call 11; refine (new_any _).mono ?_; rintro e w2 ⟨rfl, ht, hb⟩; have HT := Lib.hid ht; have C2 := Lib.hid (C1.out.trans (hb.mono C1.out.size)); clear ht hb; obtain ⟨⟨_, x0, x1, x2, x3, x4, x5, x6, x7, x8, x9, x10⟩, _, _⟩ := HX.out _ C2.out)
      | (go_at_call 10; refine (HE.out _ _ (HX.out _ C2.out).2.1).mono ?_; rintro e w3 ⟨rfl, hb⟩; have C3 := Lib.hid (C2.out.trans (hb.mono C2.out.size)); clear hb)
      | fail
    go_ret
    exact ⟨rfl, (HX.out _ C3.out).2.2⟩
set_option maxRecDepth 100000 in
set_option maxHeartbeats 8000000 in
theorem back7_good (d : Dg) (l : List Int) (o : Int) (w : World) (hl : Bytes w d.da d.dl l) (hf : d.fit) (hnil : d.da = none → d.dc = 0) (hc : chk d l = 0) :
    Calls Try.prog 6 #[d.val, .int .u32 o] w fun e w' => e = .returned (.bool true) ∧ Below w.heap.size w w' := by
  have HX := dbox_all w d 25 l hl
  have hm := hl.max
  have HAW := Lib.hid (fun w => awake7_any w)
  have hs := chk_small hc (fun i hi => (hl.byte i hi).1)
  have hdl := hs.dl
  have HE := Lib.hid (fun (t : Nat) (w1 : World) (ht : IsTab w1 t) (h : Bytes w1 d.da d.dl l) => encode_ok t d l w1 ht h hf hnil hc)
  have HD := Lib.hid (fun (t : Nat) (a : Option Addr) (w1 : World) (ht : IsTab w1 t) (h : Bytes w1 a (29 + d.dl + 4) (wholeL d l)) => decode_own t d l a w1 ht h hf hs hl.size hc)
  have HDO := Lib.hid (fun (t : Nat) (a : Option Addr) (w1 : World) (ht : IsTab w1 t) (h : Bytes w1 a (29 + d.dl + 4) (wholeL d l)) (ho : o ≠ d.ses) => decode_other t d l a o w1 ht h hf hs hl.size hc ho)
  have HPL : Hid (∀ z ∈ wholeL d l, 0 ≤ z ∧ z ≤ 255) := Lib.hid (sealed_range7 hl hs)
  have HPN : Hid ((wholeL d l).length = 29 + d.dl + 4) := Lib.hid (wholeL_length d l hl.size)
  rw [show plainL d l ++ sealL (sumB (plainL d l)) = wholeL d l from rfl] at HE
  generalize wholeL d l = P at *
  clear hl hf hnil hs hc
  dsimp only [Dg.val, Dg.cells] at *
  go_enter Try.func6, Try.ntmps6
  go_upto_region 1 with fail
  generalize (w.alloc (.cells #[.int .i64 d.kind, .int .u32 d.ses, .int .u32 d.seq, .int .i64 d.path, .int .u32 d.tick, .int .u32 d.A, .int .u32 d.B, .int .i64 d.K, .int .i64 d.M, .int .i64 d.ix, .slice d.da d.dl d.dc] 25)) = w0 at *
  go_upto_region 8 with first
    | (go_at_call 9; refine (HAW.out _).mono ?_; rintro e w1 ⟨rfl, hb⟩; have C1 := Lib.hid hb; clear hb)
    | (go_at_call 11; refine (new_any _).mono ?_; rintro e w2 ⟨rfl, ht, hb⟩; have HT := Lib.hid ht; have C2 := Lib.hid (C1.out.trans (hb.mono C1.out.size)); clear ht hb; obtain ⟨⟨_, x0, x1, x2, x3, x4, x5, x6, x7, x8, x9, x10⟩, _, _⟩ := HX.out _ C2.out)
    | (go_at_call 10; refine (HE.out _ _ HT.out (HX.out _ C2.out).2.1).mono ?_; rintro e w3 ⟨g, rfl, hg, hr, hb⟩; have HP3 := Lib.hid (Row8.whole hr HPL.out (29 + d.dl + 4) HPN.out.symm (by omega)); have HT3 := Lib.hid (HT.out.below hb HT.out.lt); have C3 := Lib.hid (C2.out.trans (hb.mono C2.out.size)); clear hb hg hr x0 x1 x2 x3 x4 x5 x6 x7 x8 x9 x10; obtain ⟨⟨_, x0, x1, x2, x3, x4, x5, x6, x7, x8, x9, x10⟩, _, _⟩ := HX.out _ C3.out)
    | (go_at_call 16; refine (HD.out _ _ _ HT3.out HP3.out).mono ?_; rintro e w4 ⟨A4, C4, rfl, hx, hb⟩; have HX4 := Lib.hid hx; have HB4 := Lib.hid hb; have C4' := Lib.hid (C3.out.trans (hb.mono C3.out.size)); clear hx hb x0 x1 x2 x3 x4 x5 x6 x7 x8 x9 x10)
    | fail
  have HQ : Hid (DBlk (w4.alloc (.cells #[.int .i64 d.kind, .int .u32 d.ses, .int .u32 d.seq, .int .i64 d.path, .int .u32 d.tick, .int .u32 d.A, .int .u32 d.B, .int .i64 d.K, .int .i64 d.M, .int .i64 d.ix, .slice A4 d.dl C4] 25)) w4.heap.size ⟨d.kind, d.ses, d.seq, d.path, d.tick, d.A, d.B, d.K, d.M, d.ix, A4, d.dl, C4⟩) := Lib.hid (Go.Deep.blk_alloc_new w4 _)
  have H5 : Hid (Below w3.heap.size w3 (w4.alloc (.cells #[.int .i64 d.kind, .int .u32 d.ses, .int .u32 d.seq, .int .i64 d.path, .int .u32 d.tick, .int .u32 d.A, .int .u32 d.B, .int .i64 d.K, .int .i64 d.M, .int .i64 d.ix, .slice A4 d.dl C4] 25)) ∧ Below w4.heap.size w4 (w4.alloc (.cells #[.int .i64 d.kind, .int .u32 d.ses, .int .u32 d.seq, .int .i64 d.path, .int .u32 d.tick, .int .u32 d.A, .int .u32 d.B, .int .i64 d.K, .int .i64 d.M, .int .i64 d.ix, .slice A4 d.dl C4] 25)) ∧ Below w0.heap.size w0 (w4.alloc (.cells #[.int .i64 d.kind, .int .u32 d.ses, .int .u32 d.seq, .int .i64 d.path, .int .u32 d.tick, .int .u32 d.A, .int .u32 d.B, .int .i64 d.K, .int .i64 d.M, .int .i64 d.ix, .slice A4 d.dl C4] 25))) := Lib.hid ⟨HB4.out.alloc HB4.out.size _, (Below.refl w4.heap.size w4).alloc (Nat.le_refl _) _, C4'.out.alloc C4'.out.size _⟩
  generalize (w4.alloc (.cells #[.int .i64 d.kind, .int .u32 d.ses, .int .u32 d.seq, .int .i64 d.path, .int .u32 d.tick, .int .u32 d.A, .int .u32 d.B, .int .i64 d.K, .int .i64 d.M, .int .i64 d.ix, .slice A4 d.dl C4] 25)) = w5 at *
  have HP5 := Lib.hid (HP3.out.below H5.out.1 (Nat.le_refl _))
  have HT5 := Lib.hid (HT3.out.below H5.out.1 HT3.out.lt)
  have HX5 := Lib.hid (HX4.out.below H5.out.2.1 (Nat.le_refl _))
  have C5 := Lib.hid H5.out.2.2
  clear H5 C4' HB4 HX4 HT3 HP3 HT C1 C2 C3 HAW
  obtain ⟨⟨_, x0, x1, x2, x3, x4, x5, x6, x7, x8, x9, x10⟩, hdat, _⟩ := HX.out _ C5.out
  have HDT := Lib.hid hdat
  clear hdat
  obtain ⟨_, y0, y1, y2, y3, y4, y5, y6, y7, y8, y9, y10⟩ := HQ.out.box
  dsimp only at y0 y1 y2 y3 y4 y5 y6 y7 y8 y9 y10
  go_upto_region 10 with first
    | (go_at_call 18; refine (rsame7_true _ _ _ _ _ _ _ _ _ _ A4 d.da d.dl C4 d.dc l _ HX5.out HDT.out).mono ?_; rintro e w6 ⟨rfl, hb⟩; have HB6 := Lib.hid hb; clear hb)
    | fail
  have HP6 := Lib.hid (HP5.out.below HB6.out (Nat.le_refl _))
  have HT6 := Lib.hid (HT5.out.below HB6.out HT5.out.lt)
  have C6 := Lib.hid (C5.out.trans (HB6.out.mono C5.out.size))
  clear HP5 HT5 C5 HB6 HQ HX5 HDT x0 x1 x2 x3 x4 x5 x6 x7 x8 x9 x10 y0 y1 y2 y3 y4 y5 y6 y7 y8 y9 y10
  obtain ⟨⟨_, x0, x1, x2, x3, x4, x5, x6, x7, x8, x9, x10⟩, _, _⟩ := HX.out _ C6.out
  by_cases ho : o = d.ses
  · subst ho
    go_wp2_with first
      | (go_at_call 16; refine (HD.out _ _ _ HT6.out HP6.out).mono ?_; rintro e w7 ⟨A7, C7, rfl, hx, hb⟩; have C7' := Lib.hid (C6.out.trans (hb.mono C6.out.size)); clear hx hb; have z1 := fun o => ((HX.out _ (C7'.out.alloc C7'.out.size o)).1).c1)
      | fail
    go_ret
    exact ⟨rfl, (HX.out _ (C7'.out.alloc C7'.out.size _)).2.2⟩
  · have e5 : (o == d.ses) = false := by simpa using ho
    have HDZ := Lib.hid (HDO.out _ _ _ HT6.out HP6.out ho)
    clear ho HDO HD
    dsimp only [Dg.zero, Dg.val] at HDZ
    go_wp2_with first
      | (go_at_call 16; refine HDZ.out.mono ?_; rintro e w7 ⟨rfl, hb⟩; have C7' := Lib.hid (C6.out.trans (hb.mono C6.out.size)); clear hb; have z1 := fun o => ((HX.out _ (C7'.out.alloc C7'.out.size o)).1).c1)
      | (go_at_call 18; refine (rsame7_true _ _ _ _ _ _ _ _ _ _ none none 0 0 0 [] _ (Bytes.nil _) (Bytes.nil _)).mono ?_; rintro e w8 ⟨rfl, hb⟩; have HB8 := Lib.hid hb; clear hb)
      | fail
    go_ret
    exact ⟨rfl, (HX.out _ ((C7'.out.alloc C7'.out.size _).trans (HB8.out.mono (C7'.out.alloc C7'.out.size _).size))).2.2⟩
theorem back7_walk (d : Dg) (l : List Int) (o : Int) (w : World) (hl : Bytes w d.da d.dl l) (hf : d.fit) (hnil : d.da = none → d.dc = 0) :
    Calls Try.prog 6 #[d.val, .int .u32 o] w fun e w' => e = .returned (.bool true) ∧ Below w.heap.size w w' := by
  by_cases hc : chk d l = 0
  · exact back7_good d l o w hl hf hnil hc
  · exact back7_bad d l o w hl hc
theorem back7_in (d : Dg) (zs : List Int) (o : Int) (w : World) (fit : d.fit) (row : IsRow .u8 w d.da d.dl d.dc zs) (_ : (Lit.int .u32 o).wf = true) :
    Calls Try.prog 6 #[d.val, .int .u32 o] w fun e w' => e = .returned (.bool true) ∧ Below w.heap.size w w' :=
  back7_walk d _ o w row.bytes fit row.nil_cap
end Go.Proofs.Ytfiacpbpfdencaa
