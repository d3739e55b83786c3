/-
  Own text: the law WireEncodes, walked.
-/
import Derived.Test.YtfiacpbpfdencaaBackM7
import Derived.Test.YtfiacpbpfdencaaRSame7
import Derived.Test.YtfiacpbpfdencaaAwake7
import Derived.Deep.RegionHeld3
namespace Go.Proofs.Ytfiacpbpfdencaa
open Go.RowKit

set_option maxRecDepth 100000 in
set_option maxHeartbeats 8000000 in
theorem encodes7_long (d : Dg) (l : List Int) (w : World) (hl : Bytes w d.da d.dl l) (h3 : 3000 < d.dl) :
    Calls Try.prog 3 #[d.val] w fun e w' => e = .returned (.bool true) ∧ Below w.heap.size w w' := by
  have HX := dbox_all w d 25 l hl
  have hm := hl.max
  have HAW := Lib.hid (fun w => awake7_any w)
  clear hl
  dsimp only [Dg.val, Dg.cells] at *
  have h3' : (3000 : Int) < d.dl := by omega
  go_enter Try.func3, Try.ntmps3
  go_wp2_with first
    | (go_at_call 9; refine (HAW.out _).mono ?_; rintro e w1 ⟨rfl, hb⟩; have HB1 := Lib.hid hb; clear hb; obtain ⟨⟨_, x0, x1, x2, x3, x4, x5, x6, x7, x8, x9, x10⟩, _, _⟩ := HX.out _ HB1.out)
    | fail
  go_ret
  exact ⟨rfl, (HX.out _ HB1.out).2.2⟩
set_option maxRecDepth 100000 in
set_option maxHeartbeats 8000000 in
theorem encodes7_bad (d : Dg) (l : List Int) (w : World) (hl : Bytes w d.da d.dl l) (h3 : ¬ 3000 < d.dl) (hc : chk d l ≠ 0) :
    Calls Try.prog 3 #[d.val] w fun e w' => e = .returned (.bool true) ∧ Below w.heap.size w w' := by
  have HX := dbox_all w d 25 l hl
  have hm := hl.max
  have HAW := Lib.hid (fun w => awake7_any w)
  have HE := Lib.hid (fun t w h => encode_no t d l w h hc)
  have HR := Lib.hid (fun w h => rencode_no d l w h hc)
  have HC := Lib.hid (fun w h => check_any d l w h)
  obtain ⟨c, hcc⟩ : ∃ c, c = chk d l := ⟨_, rfl⟩
  rw [← hcc] at HE HR HC hc
  have e1 : (c != 0) = true := by simpa using hc
  have h3' : ¬ (3000 : Int) < d.dl := by omega
  clear hl hcc
  dsimp only [Dg.val, Dg.cells] at *
  go_enter Try.func3, Try.ntmps3
  go_upto_region 5 with first
    | (go_at_call 9; refine (HAW.out _).mono ?_; rintro e w1 ⟨rfl, hb⟩; have HB1 := Lib.hid hb; clear hb; obtain ⟨⟨_, x0, x1, x2, x3, x4, x5, x6, x7, x8, x9, x10⟩, _, _⟩ := HX.out _ HB1.out)
    | fail
  have HK : Hid (∀ w', Below w1.heap.size w1 w' → w'.cell? ⟨w.heap.size, 0, none⟩ = some (.int .i64 d.kind) ∧ w'.cell? ⟨w.heap.size, 1, none⟩ = some (.int .u32 d.ses) ∧ w'.cell? ⟨w.heap.size, 2, none⟩ = some (.int .u32 d.seq) ∧ w'.cell? ⟨w.heap.size, 3, none⟩ = some (.int .i64 d.path) ∧ w'.cell? ⟨w.heap.size, 4, none⟩ = some (.int .u32 d.tick) ∧ w'.cell? ⟨w.heap.size, 5, none⟩ = some (.int .u32 d.A) ∧ w'.cell? ⟨w.heap.size, 6, none⟩ = some (.int .u32 d.B) ∧ w'.cell? ⟨w.heap.size, 7, none⟩ = some (.int .i64 d.K) ∧ w'.cell? ⟨w.heap.size, 8, none⟩ = some (.int .i64 d.M) ∧ w'.cell? ⟨w.heap.size, 9, none⟩ = some (.int .i64 d.ix) ∧ w'.cell? ⟨w.heap.size, 10, none⟩ = some (.slice d.da d.dl d.dc)) := Lib.hid (fun w' h => by
    obtain ⟨⟨_, x0, x1, x2, x3, x4, x5, x6, x7, x8, x9, x10⟩, _, _⟩ := HX.out _ (HB1.out.trans (h.mono HB1.out.size))
    exact ⟨x0, x1, x2, x3, x4, x5, x6, x7, x8, x9, x10⟩)
  have HK2 : Hid (∀ w', Below w1.heap.size w1 w' → Bytes w' d.da d.dl l ∧ Below w.heap.size w w') := Lib.hid (fun w' h => (HX.out _ (HB1.out.trans (h.mono HB1.out.size))).2)
  clear HX HB1 x0 x1 x2 x3 x4 x5 x6 x7 x8 x9 x10
  have cc : Below w1.heap.size w1 w1.drew := (Below.refl _ _).drew
  go_region_held3 (fun w' => w'.cell? ⟨w.heap.size, 0, none⟩ = some (.int .i64 d.kind) ∧ w'.cell? ⟨w.heap.size, 1, none⟩ = some (.int .u32 d.ses) ∧ w'.cell? ⟨w.heap.size, 2, none⟩ = some (.int .u32 d.seq) ∧ w'.cell? ⟨w.heap.size, 3, none⟩ = some (.int .i64 d.path) ∧ w'.cell? ⟨w.heap.size, 4, none⟩ = some (.int .u32 d.tick) ∧ w'.cell? ⟨w.heap.size, 5, none⟩ = some (.int .u32 d.A) ∧ w'.cell? ⟨w.heap.size, 6, none⟩ = some (.int .u32 d.B) ∧ w'.cell? ⟨w.heap.size, 7, none⟩ = some (.int .i64 d.K) ∧ w'.cell? ⟨w.heap.size, 8, none⟩ = some (.int .i64 d.M) ∧ w'.cell? ⟨w.heap.size, 9, none⟩ = some (.int .i64 d.ix) ∧ w'.cell? ⟨w.heap.size, 10, none⟩ = some (.slice d.da d.dl d.dc))
    (first
      | exact HK.out _ (Below.refl _ _)
      | exact HK.out _ cc)
    (first
      | (go_at_call 11; refine (new_any _).mono ?_; rintro e w2 ⟨rfl, ht, hb⟩; have HT := Lib.hid ht; replace cc := cc.trans (hb.mono cc.size); clear ht hb)
      | (go_at_call 10; refine (HE.out _ _ (HK2.out _ cc).1).mono ?_; rintro e w3 ⟨rfl, hb⟩; replace cc := cc.trans (hb.mono cc.size); clear hb)
      | fail)
  obtain ⟨x0, x1, x2, x3, x4, x5, x6, x7, x8, x9, x10⟩ := HK.out _ cc
  have CC3 := Lib.hid cc
  clear cc
  go_wp2_with first
    | (go_at_call 12; refine (HR.out _ (HK2.out _ CC3.out).1).mono ?_; rintro e w4 ⟨rfl, hb⟩; have CC4 := Lib.hid (CC3.out.trans (hb.mono CC3.out.size)); clear hb x0 x1 x2 x3 x4 x5 x6 x7 x8 x9 x10; obtain ⟨x0, x1, x2, x3, x4, x5, x6, x7, x8, x9, x10⟩ := HK.out _ CC4.out)
    | (go_at_call 13; refine (HC.out _ (HK2.out _ CC4.out).1).mono ?_; rintro e w5 ⟨rfl, hb⟩; have CC5 := Lib.hid (CC4.out.trans (hb.mono CC4.out.size)); clear hb)
    | (go_at_call 14; refine (same_true none none 0 0 0 0 [] _ (Bytes.nil _) (Bytes.nil _)).mono ?_; rintro e w6 ⟨rfl, hb⟩; have CC6 := Lib.hid (CC5.out.trans (hb.mono CC5.out.size)); clear hb)
    | fail
  go_ret
  exact ⟨rfl, (HK2.out _ CC6.out).2⟩
set_option maxRecDepth 100000 in
set_option maxHeartbeats 8000000 in
theorem encodes7_good (d : Dg) (l : List Int) (w : World) (hl : Bytes w d.da d.dl l) (hf : d.fit) (hnil : d.da = none → d.dc = 0) (h3 : ¬ 3000 < d.dl) (hc : chk d l = 0) :
    Calls Try.prog 3 #[d.val] w fun e w' => e = .returned (.bool true) ∧ Below w.heap.size w w' := by
  have HX := dbox_all w d 25 l hl
  have hm := hl.max
  have HAW := Lib.hid (fun w => awake7_any w)
  have HE := Lib.hid (fun t w ht h => encode_ok t d l w ht h hf hnil hc)
  have HR := Lib.hid (fun w h => rencode_ok d l w h hf hnil hc)
  have HC := Lib.hid (fun w h => check_any d l w h)
  have HSZ := Lib.hid (fun w => size7_any d w (by omega))
  have HPL : Hid (∀ z ∈ plainL d l ++ sealL (sumB (plainL d l)), 0 ≤ z ∧ z ≤ 255) := Lib.hid (sealed_range7 hl (chk_small hc (fun i hi => (hl.byte i hi).1)))
  have HPN : Hid ((plainL d l ++ sealL (sumB (plainL d l))).length = 29 + d.dl + 4) := Lib.hid (by rw [List.length_append, plainL_length, hl.size]; rfl)
  generalize plainL d l ++ sealL (sumB (plainL d l)) = P at *
  rw [hc] at HC
  have h3' : ¬ (3000 : Int) < d.dl := by omega
  have h4' : (d.dl : Int) ≤ 3000 := by omega
  clear hl hnil hf hc
  dsimp only [Dg.val, Dg.cells] at *
  go_enter Try.func3, Try.ntmps3
  go_upto_region 5 with first
    | (go_at_call 9; refine (HAW.out _).mono ?_; rintro e w1 ⟨rfl, hb⟩; have HB1 := Lib.hid hb; clear hb; obtain ⟨⟨_, x0, x1, x2, x3, x4, x5, x6, x7, x8, x9, x10⟩, _, _⟩ := HX.out _ HB1.out)
    | fail
  have HK : Hid (∀ w', Below w1.heap.size w1 w' → w'.cell? ⟨w.heap.size, 0, none⟩ = some (.int .i64 d.kind) ∧ w'.cell? ⟨w.heap.size, 1, none⟩ = some (.int .u32 d.ses) ∧ w'.cell? ⟨w.heap.size, 2, none⟩ = some (.int .u32 d.seq) ∧ w'.cell? ⟨w.heap.size, 3, none⟩ = some (.int .i64 d.path) ∧ w'.cell? ⟨w.heap.size, 4, none⟩ = some (.int .u32 d.tick) ∧ w'.cell? ⟨w.heap.size, 5, none⟩ = some (.int .u32 d.A) ∧ w'.cell? ⟨w.heap.size, 6, none⟩ = some (.int .u32 d.B) ∧ w'.cell? ⟨w.heap.size, 7, none⟩ = some (.int .i64 d.K) ∧ w'.cell? ⟨w.heap.size, 8, none⟩ = some (.int .i64 d.M) ∧ w'.cell? ⟨w.heap.size, 9, none⟩ = some (.int .i64 d.ix) ∧ w'.cell? ⟨w.heap.size, 10, none⟩ = some (.slice d.da d.dl d.dc)) := Lib.hid (fun w' h => by
    obtain ⟨⟨_, x0, x1, x2, x3, x4, x5, x6, x7, x8, x9, x10⟩, _, _⟩ := HX.out _ (HB1.out.trans (h.mono HB1.out.size))
    exact ⟨x0, x1, x2, x3, x4, x5, x6, x7, x8, x9, x10⟩)
  have HK2 : Hid (∀ w', Below w1.heap.size w1 w' → Bytes w' d.da d.dl l ∧ Below w.heap.size w w') := Lib.hid (fun w' h => (HX.out _ (HB1.out.trans (h.mono HB1.out.size))).2)
  clear HX HB1 x0 x1 x2 x3 x4 x5 x6 x7 x8 x9 x10
  have cc : Below w1.heap.size w1 w1.drew := (Below.refl _ _).drew
  go_region_held3 (fun w' => w'.cell? ⟨w.heap.size, 0, none⟩ = some (.int .i64 d.kind) ∧ w'.cell? ⟨w.heap.size, 1, none⟩ = some (.int .u32 d.ses) ∧ w'.cell? ⟨w.heap.size, 2, none⟩ = some (.int .u32 d.seq) ∧ w'.cell? ⟨w.heap.size, 3, none⟩ = some (.int .i64 d.path) ∧ w'.cell? ⟨w.heap.size, 4, none⟩ = some (.int .u32 d.tick) ∧ w'.cell? ⟨w.heap.size, 5, none⟩ = some (.int .u32 d.A) ∧ w'.cell? ⟨w.heap.size, 6, none⟩ = some (.int .u32 d.B) ∧ w'.cell? ⟨w.heap.size, 7, none⟩ = some (.int .i64 d.K) ∧ w'.cell? ⟨w.heap.size, 8, none⟩ = some (.int .i64 d.M) ∧ w'.cell? ⟨w.heap.size, 9, none⟩ = some (.int .i64 d.ix) ∧ w'.cell? ⟨w.heap.size, 10, none⟩ = some (.slice d.da d.dl d.dc))
    (first
      | exact HK.out _ (Below.refl _ _)
      | exact HK.out _ cc)
    (first
      | (go_at_call 11; refine (new_any _).mono ?_; rintro e w2 ⟨rfl, ht, hb⟩; have HT := Lib.hid ht; replace cc := cc.trans (hb.mono cc.size); clear ht hb)
      | (go_at_call 10; refine (HE.out _ _ HT.out (HK2.out _ cc).1).mono ?_; rintro e w3 ⟨g, rfl, hg, hr, hb⟩; have HP3 := Lib.hid (Row8.whole hr HPL.out (29 + d.dl + 4) HPN.out.symm (by omega)); replace cc := cc.trans (hb.mono cc.size); clear hb hg hr)
      | fail)
  obtain ⟨x0, x1, x2, x3, x4, x5, x6, x7, x8, x9, x10⟩ := HK.out _ cc
  have CC3 := Lib.hid cc
  clear cc
  go_wp2_with first
    | (go_at_call 12; refine (HR.out _ (HK2.out _ CC3.out).1).mono ?_; rintro e w4 ⟨A4, C4, rfl, hp, hb⟩; have HP4 := Lib.hid hp; have HB4 := Lib.hid hb; have CC4 := Lib.hid (CC3.out.trans (hb.mono CC3.out.size)); clear hb hp x0 x1 x2 x3 x4 x5 x6 x7 x8 x9 x10; obtain ⟨x0, x1, x2, x3, x4, x5, x6, x7, x8, x9, x10⟩ := HK.out _ CC4.out)
    | (go_at_call 13; refine (HC.out _ (HK2.out _ CC4.out).1).mono ?_; rintro e w5 ⟨rfl, hb⟩; have HB5 := Lib.hid hb; have CC5 := Lib.hid (CC4.out.trans (hb.mono CC4.out.size)); clear hb)
    | (go_at_call 14; refine (same_true _ _ _ _ _ _ P _ ((HP3.out.below HB4.out (Nat.le_refl _)).below HB5.out (Nat.le_refl _)) (HP4.out.below HB5.out (Nat.le_refl _))).mono ?_; rintro e w6 ⟨rfl, hb⟩; have CC6 := Lib.hid (CC5.out.trans (hb.mono CC5.out.size)); clear hb x0 x1 x2 x3 x4 x5 x6 x7 x8 x9 x10; obtain ⟨x0, x1, x2, x3, x4, x5, x6, x7, x8, x9, x10⟩ := HK.out _ CC6.out)
    | (go_at_call 15; refine (HSZ.out _).mono ?_; rintro e w7 ⟨rfl, hb⟩; have CC7 := Lib.hid (CC6.out.trans (hb.mono CC6.out.size)); clear hb)
    | fail
  go_ret
  exact ⟨ret_bool (by simp; omega), (HK2.out _ CC7.out).2⟩
theorem encodes7_walk (d : Dg) (l : List Int) (w : World) (hl : Bytes w d.da d.dl l) (hf : d.fit) (hnil : d.da = none → d.dc = 0) :
    Calls Try.prog 3 #[d.val] w fun e w' => e = .returned (.bool true) ∧ Below w.heap.size w w' := by
  by_cases h3 : 3000 < d.dl
  · exact encodes7_long d l w hl h3
  · by_cases hc : chk d l = 0
    · exact encodes7_good d l w hl hf hnil h3 hc
    · exact encodes7_bad d l w hl h3 hc
theorem encodes7_in (d : Dg) (zs : List Int) (w : World) (fit : d.fit) (row : IsRow .u8 w d.da d.dl d.dc zs) :
    Calls Try.prog 3 #[d.val] w fun e w' => e = .returned (.bool true) ∧ Below w.heap.size w w' :=
  encodes7_walk d _ w row.bytes fit row.nil_cap
end Go.Proofs.Ytfiacpbpfdencaa
