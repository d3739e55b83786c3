/-
  Own text: the document's Plain, Encode, walked.
-/
import Derived.Test.YtfiacpbpfdencaaEnc7
import Derived.Test.YtfiacpbpfdencaaRCheck7
namespace Go.Proofs.Ytfiacpbpfdencaa
open Go.RowKit

theorem Own8.none (w : World) (base : Nat) : Own8 w base (.slice .none 0 0) 0 [] := ⟨rfl, .inl ⟨rfl, rfl⟩⟩
theorem rput1 (base : Nat) (dp : Option Addr) (m n dC : Nat) (l : List Int) (z : Int) (w : World) (ho : Own8 w base (.slice dp m dC) m l) (hbase : base ≤ w.heap.size) (hm : m ≤ 100000) (hn : n = m + 1) (hz0 : 0 ≤ z) (hz : z ≤ 255) :
    Calls Try.prog 41 #[.slice dp m dC, .int .u64 z, .int .i64 1] w fun e w' => ∃ A C, e = .returned (.slice A n C) ∧ Own8 w' base (.slice A n C) n (l ++ be 1 z) ∧ Below base w w' := by
  subst hn
  exact rput_any base dp m dC l z 1 w ho hbase hm (by omega) hz0 (by omega) (by omega)
theorem rput2 (base : Nat) (dp : Option Addr) (m n dC : Nat) (l : List Int) (z : Int) (w : World) (ho : Own8 w base (.slice dp m dC) m l) (hbase : base ≤ w.heap.size) (hm : m ≤ 100000) (hn : n = m + 2) (hz0 : 0 ≤ z) (hz : z ≤ 4294967295) :
    Calls Try.prog 41 #[.slice dp m dC, .int .u64 z, .int .i64 2] w fun e w' => ∃ A C, e = .returned (.slice A n C) ∧ Own8 w' base (.slice A n C) n (l ++ be 2 z) ∧ Below base w w' := by
  subst hn
  exact rput_any base dp m dC l z 2 w ho hbase hm (by omega) hz0 (by omega) (by omega)
theorem rput4 (base : Nat) (dp : Option Addr) (m n dC : Nat) (l : List Int) (z : Int) (w : World) (ho : Own8 w base (.slice dp m dC) m l) (hbase : base ≤ w.heap.size) (hm : m ≤ 100000) (hn : n = m + 4) (hz0 : 0 ≤ z) (hz : z ≤ 4294967295) :
    Calls Try.prog 41 #[.slice dp m dC, .int .u64 z, .int .i64 4] w fun e w' => ∃ A C, e = .returned (.slice A n C) ∧ Own8 w' base (.slice A n C) n (l ++ be 4 z) ∧ Below base w w' := by
  subst hn
  exact rput_any base dp m dC l z 4 w ho hbase hm (by omega) hz0 (by omega) (by omega)
set_option maxRecDepth 100000 in
set_option maxHeartbeats 8000000 in
theorem rplain_any (d : Dg) (l : List Int) (w : World) (hl : Bytes w d.da d.dl l) (hf : d.fit) (hs : d.small) (hnil : d.da = none → d.dc = 0) :
    Calls Try.prog 28 #[d.val] w fun e w' => ∃ A C, e = .returned (.slice A (29 + d.dl) C) ∧ Bytes w' A (29 + d.dl) (plainL d l) ∧ Below w.heap.size w w' := by
  have HX := dbox_all w d 25 l hl
  have HNIL := Lib.hid hnil
  have HLL := Lib.hid hl.range
  clear hl hnil
  obtain ⟨kind, ses, seq, path, tick, A, B, K, M, ix, da, dl, dc⟩ := d
  obtain ⟨⟨a1, a2⟩, ⟨a3, a4⟩, ⟨a5, a6⟩, ⟨a7, a8⟩, ⟨a9, a10⟩, a11⟩ := hs
  obtain ⟨_, _, _, _, _, ⟨b1, b2⟩, ⟨b3, b4⟩, ⟨b5, b6⟩, ⟨b7, b8⟩, ⟨b9, b10⟩, b11, b12⟩ := hf
  dsimp only [Dg.val, Dg.cells] at *
  go_enter Try.func28, Try.ntmps28
  go_upto_region 1 with fail
  have HW1 : Hid (Below w.heap.size w (w.alloc (.cells #[.int .i64 kind, .int .u32 ses, .int .u32 seq, .int .i64 path, .int .u32 tick, .int .u32 A, .int .u32 B, .int .i64 K, .int .i64 M, .int .i64 ix, .slice da dl dc] 25))) := Lib.hid ((Below.refl w.heap.size w).alloc (Nat.le_refl _) _)
  have HB : Hid (Below (w.alloc (.cells #[.int .i64 kind, .int .u32 ses, .int .u32 seq, .int .i64 path, .int .u32 tick, .int .u32 A, .int .u32 B, .int .i64 K, .int .i64 M, .int .i64 ix, .slice da dl dc] 25)).heap.size (w.alloc (.cells #[.int .i64 kind, .int .u32 ses, .int .u32 seq, .int .i64 path, .int .u32 tick, .int .u32 A, .int .u32 B, .int .i64 K, .int .i64 M, .int .i64 ix, .slice da dl dc] 25)) (w.alloc (.cells #[.int .i64 kind, .int .u32 ses, .int .u32 seq, .int .i64 path, .int .u32 tick, .int .u32 A, .int .u32 B, .int .i64 K, .int .i64 M, .int .i64 ix, .slice da dl dc] 25))) := Lib.hid (Below.refl _ _)
  generalize (w.alloc (.cells #[.int .i64 kind, .int .u32 ses, .int .u32 seq, .int .i64 path, .int .u32 tick, .int .u32 A, .int .u32 B, .int .i64 K, .int .i64 M, .int .i64 ix, .slice da dl dc] 25)) = w1 at *
  have HO0 : Hid (Own8 w1 w1.heap.size (.slice none 0 0) 0 []) := Lib.hid (Own8.none _ _)
  obtain ⟨⟨_, x0, x1, x2, x3, x4, x5, x6, x7, x8, x9, x10⟩, _, _⟩ := HX.out _ HB.out
  go_upto_region 2 with first
    | (go_at_call 41; (with_reducible refine (rput2 w1.heap.size none 0 2 0 ([]) 17003 _ HO0.out HB.out.size (by decide) rfl (by omega) (by omega)).mono ?_); rintro e v0 ⟨D0, E0, rfl, ho, hb⟩; have HB' := Lib.hid (HB.out.trans hb); have HO1 := Lib.hid ho; clear HB hb ho HO0 x0 x1 x2 x3 x4 x5 x6 x7 x8 x9 x10; have HB := HB'; clear HB'; obtain ⟨⟨_, x0, x1, x2, x3, x4, x5, x6, x7, x8, x9, x10⟩, _, _⟩ := HX.out _ HB.out)
    | fail
  go_upto_region 3 with first
    | (go_at_call 41; (with_reducible refine (rput1 w1.heap.size D0 2 3 E0 ([] ++ be 2 17003) kind _ HO1.out HB.out.size (by decide) rfl (by omega) (by omega)).mono ?_); rintro e v1 ⟨D1, E1, rfl, ho, hb⟩; have HB' := Lib.hid (HB.out.trans hb); have HO2 := Lib.hid ho; clear HB hb ho HO1 x0 x1 x2 x3 x4 x5 x6 x7 x8 x9 x10; have HB := HB'; clear HB'; obtain ⟨⟨_, x0, x1, x2, x3, x4, x5, x6, x7, x8, x9, x10⟩, _, _⟩ := HX.out _ HB.out)
    | fail
  go_upto_region 4 with first
    | (go_at_call 41; (with_reducible refine (rput1 w1.heap.size D1 3 4 E1 ([] ++ be 2 17003 ++ be 1 kind) path _ HO2.out HB.out.size (by decide) rfl (by omega) (by omega)).mono ?_); rintro e v2 ⟨D2, E2, rfl, ho, hb⟩; have HB' := Lib.hid (HB.out.trans hb); have HO3 := Lib.hid ho; clear HB hb ho HO2 x0 x1 x2 x3 x4 x5 x6 x7 x8 x9 x10; have HB := HB'; clear HB'; obtain ⟨⟨_, x0, x1, x2, x3, x4, x5, x6, x7, x8, x9, x10⟩, _, _⟩ := HX.out _ HB.out)
    | fail
  go_upto_region 5 with first
    | (go_at_call 41; (with_reducible refine (rput4 w1.heap.size D2 4 8 E2 ([] ++ be 2 17003 ++ be 1 kind ++ be 1 path) ses _ HO3.out HB.out.size (by decide) rfl b1 b2).mono ?_); rintro e v3 ⟨D3, E3, rfl, ho, hb⟩; have HB' := Lib.hid (HB.out.trans hb); have HO4 := Lib.hid ho; clear HB hb ho HO3 x0 x1 x2 x3 x4 x5 x6 x7 x8 x9 x10; have HB := HB'; clear HB'; obtain ⟨⟨_, x0, x1, x2, x3, x4, x5, x6, x7, x8, x9, x10⟩, _, _⟩ := HX.out _ HB.out)
    | fail
  go_upto_region 6 with first
    | (go_at_call 41; (with_reducible refine (rput4 w1.heap.size D3 8 12 E3 ([] ++ be 2 17003 ++ be 1 kind ++ be 1 path ++ be 4 ses) seq _ HO4.out HB.out.size (by decide) rfl b3 b4).mono ?_); rintro e v4 ⟨D4, E4, rfl, ho, hb⟩; have HB' := Lib.hid (HB.out.trans hb); have HO5 := Lib.hid ho; clear HB hb ho HO4 x0 x1 x2 x3 x4 x5 x6 x7 x8 x9 x10; have HB := HB'; clear HB'; obtain ⟨⟨_, x0, x1, x2, x3, x4, x5, x6, x7, x8, x9, x10⟩, _, _⟩ := HX.out _ HB.out)
    | fail
  go_upto_region 7 with first
    | (go_at_call 41; (with_reducible refine (rput4 w1.heap.size D4 12 16 E4 ([] ++ be 2 17003 ++ be 1 kind ++ be 1 path ++ be 4 ses ++ be 4 seq) tick _ HO5.out HB.out.size (by decide) rfl b5 b6).mono ?_); rintro e v5 ⟨D5, E5, rfl, ho, hb⟩; have HB' := Lib.hid (HB.out.trans hb); have HO6 := Lib.hid ho; clear HB hb ho HO5 x0 x1 x2 x3 x4 x5 x6 x7 x8 x9 x10; have HB := HB'; clear HB'; obtain ⟨⟨_, x0, x1, x2, x3, x4, x5, x6, x7, x8, x9, x10⟩, _, _⟩ := HX.out _ HB.out)
    | fail
  go_upto_region 8 with first
    | (go_at_call 41; (with_reducible refine (rput4 w1.heap.size D5 16 20 E5 ([] ++ be 2 17003 ++ be 1 kind ++ be 1 path ++ be 4 ses ++ be 4 seq ++ be 4 tick) A _ HO6.out HB.out.size (by decide) rfl b7 b8).mono ?_); rintro e v6 ⟨D6, E6, rfl, ho, hb⟩; have HB' := Lib.hid (HB.out.trans hb); have HO7 := Lib.hid ho; clear HB hb ho HO6 x0 x1 x2 x3 x4 x5 x6 x7 x8 x9 x10; have HB := HB'; clear HB'; obtain ⟨⟨_, x0, x1, x2, x3, x4, x5, x6, x7, x8, x9, x10⟩, _, _⟩ := HX.out _ HB.out)
    | fail
  go_upto_region 9 with first
    | (go_at_call 41; (with_reducible refine (rput4 w1.heap.size D6 20 24 E6 ([] ++ be 2 17003 ++ be 1 kind ++ be 1 path ++ be 4 ses ++ be 4 seq ++ be 4 tick ++ be 4 A) B _ HO7.out HB.out.size (by decide) rfl b9 b10).mono ?_); rintro e v7 ⟨D7, E7, rfl, ho, hb⟩; have HB' := Lib.hid (HB.out.trans hb); have HO8 := Lib.hid ho; clear HB hb ho HO7 x0 x1 x2 x3 x4 x5 x6 x7 x8 x9 x10; have HB := HB'; clear HB'; obtain ⟨⟨_, x0, x1, x2, x3, x4, x5, x6, x7, x8, x9, x10⟩, _, _⟩ := HX.out _ HB.out)
    | fail
  go_upto_region 10 with first
    | (go_at_call 41; (with_reducible refine (rput1 w1.heap.size D7 24 25 E7 ([] ++ be 2 17003 ++ be 1 kind ++ be 1 path ++ be 4 ses ++ be 4 seq ++ be 4 tick ++ be 4 A ++ be 4 B) K _ HO8.out HB.out.size (by decide) rfl (by omega) (by omega)).mono ?_); rintro e v8 ⟨D8, E8, rfl, ho, hb⟩; have HB' := Lib.hid (HB.out.trans hb); have HO9 := Lib.hid ho; clear HB hb ho HO8 x0 x1 x2 x3 x4 x5 x6 x7 x8 x9 x10; have HB := HB'; clear HB'; obtain ⟨⟨_, x0, x1, x2, x3, x4, x5, x6, x7, x8, x9, x10⟩, _, _⟩ := HX.out _ HB.out)
    | fail
  go_upto_region 11 with first
    | (go_at_call 41; (with_reducible refine (rput1 w1.heap.size D8 25 26 E8 ([] ++ be 2 17003 ++ be 1 kind ++ be 1 path ++ be 4 ses ++ be 4 seq ++ be 4 tick ++ be 4 A ++ be 4 B ++ be 1 K) M _ HO9.out HB.out.size (by decide) rfl (by omega) (by omega)).mono ?_); rintro e v9 ⟨D9, E9, rfl, ho, hb⟩; have HB' := Lib.hid (HB.out.trans hb); have HO10 := Lib.hid ho; clear HB hb ho HO9 x0 x1 x2 x3 x4 x5 x6 x7 x8 x9 x10; have HB := HB'; clear HB'; obtain ⟨⟨_, x0, x1, x2, x3, x4, x5, x6, x7, x8, x9, x10⟩, _, _⟩ := HX.out _ HB.out)
    | fail
  go_upto_region 12 with first
    | (go_at_call 41; (with_reducible refine (rput1 w1.heap.size D9 26 27 E9 ([] ++ be 2 17003 ++ be 1 kind ++ be 1 path ++ be 4 ses ++ be 4 seq ++ be 4 tick ++ be 4 A ++ be 4 B ++ be 1 K ++ be 1 M) ix _ HO10.out HB.out.size (by decide) rfl (by omega) (by omega)).mono ?_); rintro e v10 ⟨D10, E10, rfl, ho, hb⟩; have HB' := Lib.hid (HB.out.trans hb); have HO11 := Lib.hid ho; clear HB hb ho HO10 x0 x1 x2 x3 x4 x5 x6 x7 x8 x9 x10; have HB := HB'; clear HB'; obtain ⟨⟨_, x0, x1, x2, x3, x4, x5, x6, x7, x8, x9, x10⟩, _, _⟩ := HX.out _ HB.out)
    | fail
  go_upto_region 13 with first
    | (go_at_call 41; (with_reducible refine (rput2 w1.heap.size D10 27 29 E10 ([] ++ be 2 17003 ++ be 1 kind ++ be 1 path ++ be 4 ses ++ be 4 seq ++ be 4 tick ++ be 4 A ++ be 4 B ++ be 1 K ++ be 1 M ++ be 1 ix) (dl : Int) _ HO11.out HB.out.size (by decide) rfl (by omega) (by omega)).mono ?_); rintro e v11 ⟨D11, E11, rfl, ho, hb⟩; have HB' := Lib.hid (HB.out.trans hb); have HO12 := Lib.hid ho; clear HB hb ho HO11 x0 x1 x2 x3 x4 x5 x6 x7 x8 x9 x10; have HB := HB'; clear HB'; obtain ⟨⟨_, x0, x1, x2, x3, x4, x5, x6, x7, x8, x9, x10⟩, _, _⟩ := HX.out _ HB.out)
    | fail
  have HDT : Hid (Bytes v11 da dl l) := Lib.hid (HX.out _ HB.out).2.1
  have HN9 : Hid (29 + dl ≤ 1000000) := Lib.hid (by omega)
  go_wp2_with first
    | (with_reducible refine wpList_append_bytes rfl (.tmp 61) (.tmp 63) rfl w1.heap.size D11 29 E11 rfl ([] ++ be 2 17003 ++ be 1 kind ++ be 1 path ++ be 4 ses ++ be 4 seq ++ be 4 tick ++ be 4 A ++ be 4 B ++ be 1 K ++ be 1 M ++ be 1 ix ++ be 2 (dl : Int)) HO12.out da dl dc rfl l HDT.out HNIL.out HN9.out w1.heap.size w1 HB.out (Nat.le_refl _) HB.out.size (29 + dl) rfl ([] ++ be 2 17003 ++ be 1 kind ++ be 1 path ++ be 4 ses ++ be 4 seq ++ be 4 tick ++ be 4 A ++ be 4 B ++ be 1 K ++ be 1 M ++ be 1 ix ++ be 2 (dl : Int) ++ l) rfl ?_; intro A7 C7 w7 HO7 hb7; have HB7 := Lib.hid hb7; clear hb7)
    | fail
  go_ret
  have hz : ∀ z ∈ [] ++ be 2 17003 ++ be 1 kind ++ be 1 path ++ be 4 ses ++ be 4 seq ++ be 4 tick ++ be 4 A ++ be 4 B ++ be 1 K ++ be 1 M ++ be 1 ix ++ be 2 (dl : Int) ++ l, 0 ≤ z ∧ z ≤ 255 := by
    refine byl_app ?_ HLL.out
    repeat' first | exact be_range _ _ | (refine byl_app ?_ (be_range _ _)) | exact fun z h => absurd h List.not_mem_nil
  refine ⟨A7, C7, rfl, ?_, HW1.out.trans (HB7.out.mono HW1.out.size)⟩
  have h := Own8.bytes HO7.out hz
  have e : ([] ++ be 2 17003 ++ be 1 kind ++ be 1 path ++ be 4 ses ++ be 4 seq ++ be 4 tick ++ be 4 A ++ be 4 B ++ be 1 K ++ be 1 M ++ be 1 ix ++ be 2 (dl : Int) ++ l) = plainL ⟨kind, ses, seq, path, tick, A, B, K, M, ix, da, dl, dc⟩ l := by
    unfold plainL
    rw [be_one kind (by omega) (by omega), be_one path (by omega) (by omega), be_one K (by omega) (by omega), be_one M (by omega) (by omega), be_one ix (by omega) (by omega)]
    simp
  rwa [e] at h
theorem rencode_no (d : Dg) (l : List Int) (w : World) (hl : Bytes w d.da d.dl l) (h : chk d l ≠ 0) :
    Calls Try.prog 12 #[d.val] w fun e w' => e = .returned (.tuple #[.slice none 0 0, .int .i64 (chk d l)]) ∧ Below w.heap.size w w' := by
  have HX := dbox_all w d 25 l hl
  have HC := Lib.hid (fun w h => rcheck_any d l w h)
  clear hl
  obtain ⟨c, hc⟩ : ∃ c, c = chk d l := ⟨_, rfl⟩
  rw [← hc] at HC h ⊢
  clear hc
  have e1 : (c != 0) = true := by simpa using h
  go_enter Try.func12, Try.ntmps12
  go_wp2_with first
    | (go_at_call 27; refine (HC.out _ (HX.out _ (Below.refl _ _)).2.1).mono ?_; rintro e w1 ⟨rfl, hb⟩; have HB1 := Lib.hid hb; clear hb)
  go_ret2
  exact ⟨rfl, (HX.out _ HB1.out).2.2⟩
theorem rencode_ok (d : Dg) (l : List Int) (w : World) (hl : Bytes w d.da d.dl l) (hf : d.fit) (hnil : d.da = none → d.dc = 0) (h : chk d l = 0) :
    Calls Try.prog 12 #[d.val] w fun e w' => ∃ A C, e = .returned (.tuple #[.slice A (29 + d.dl + 4) C, .int .i64 0]) ∧ Bytes w' A (29 + d.dl + 4) (plainL d l ++ sealL (sumB (plainL d l))) ∧ Below w.heap.size w w' := by
  have hs := chk_small h (fun i hi => (hl.byte i hi).1)
  have HX := dbox_all w d 25 l hl
  have HC := Lib.hid (fun w h => rcheck_any d l w h)
  have HP := Lib.hid (fun w h => rplain_any d l w h hf hs hnil)
  have hdl := hs.dl
  rw [h] at HC
  clear hl hf hs hnil h
  generalize plainL d l = P at *
  go_enter Try.func12, Try.ntmps12
  go_wp2_with first
    | (go_at_call 27; refine (HC.out _ (HX.out _ (Below.refl _ _)).2.1).mono ?_; rintro e w1 ⟨rfl, hb⟩; have HB1 := Lib.hid hb; clear hb; obtain ⟨⟨_, x0, x1, x2, x3, x4, x5, x6, x7, x8, x9, x10⟩, _, _⟩ := HX.out _ HB1.out)
    | (go_at_call 28; refine (HP.out _ (HX.out _ HB1.out).2.1).mono ?_; rintro e w2 ⟨A2, C2, rfl, hp2, hb⟩; have HB2 := Lib.hid hb; have HP2 := Lib.hid hp2; clear hb hp2)
    | (go_at_call 19; refine (rseal_any A2 (29 + d.dl) C2 P _ HP2.out (by omega)).mono ?_; rintro e w3 ⟨A3, C3, rfl, hp3, hb⟩; have HB3 := Lib.hid hb; have HP3 := Lib.hid hp3; clear hb hp3)
    | fail
  go_ret2
  exact ⟨A3, C3, rfl, HP3.out, ((HX.out _ HB1.out).2.2.trans (HB2.out.mono (HX.out _ HB1.out).2.2.size)).trans (HB3.out.mono (Nat.le_trans (HX.out _ HB1.out).2.2.size HB2.out.size))⟩
end Go.Proofs.Ytfiacpbpfdencaa
