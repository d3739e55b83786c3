/-
  Own text: wire.Encode, walked.
-/
import Derived.Test.YtfiacpbpfdencaaPut7
import Derived.Test.YtfiacpbpfdencaaForm7
import Derived.Test.YtfiacpbpfdencaaRCheckB
import Derived.Deep.RegionHeld3
import Derived.Deep.DeepCutAuto
namespace Go.Proofs.Ytfiacpbpfdencaa
open Go.RowKit

/-- The bytes ahead of the seal. -/
def plainL (d : Dg) (l : List Int) : List Int := be 2 17003 ++ [d.kind, d.path] ++ be 4 d.ses ++ be 4 d.seq ++ be 4 d.tick ++ be 4 d.A ++ be 4 d.B ++ [d.K, d.M, d.ix] ++ be 2 d.dl ++ l
/-- What may be is small. -/
structure Dg.small (d : Dg) : Prop where
  kind : 1 ≤ d.kind ∧ d.kind ≤ 8
  path : 0 ≤ d.path ∧ d.path ≤ 1
  K : 0 ≤ d.K ∧ d.K ≤ 16
  M : 0 ≤ d.M ∧ d.M ≤ 16
  ix : 0 ≤ d.ix ∧ d.ix ≤ 31
  dl : d.dl ≤ 1200
theorem chk_small {d : Dg} {l : List Int} (h : chk d l = 0) (hb : ∀ i, i < d.dl → 0 ≤ l.getD i 0) : d.small := by
  obtain ⟨h1, h2, h3, h4, h5⟩ := chk_ok h
  have hbare : bareB d = true → d.K = 0 ∧ d.M = 0 ∧ d.ix = 0 := fun h => by unfold bareB at h; exact decide_eq_true_iff.1 h
  have hcoded : codedB d = true → 1 ≤ d.K ∧ d.K ≤ 16 ∧ 0 ≤ d.M ∧ d.M ≤ 16 ∧ 1 ≤ d.dl ∧ d.dl ≤ 1200 := fun h => by unfold codedB at h; exact decide_eq_true_iff.1 h
  unfold formP at h5
  have hask : decide (0 < d.dl ∧ AskTo l d.dl) = true → d.dl ≤ 32 := fun h => by
    have h := (decide_eq_true_iff.1 h).2
    exact ask_few (fun i => l.getD i 0) d.dl hb h
  rcases h5 with ⟨_, h, _⟩ | ⟨_, h, _⟩ | ⟨_, h, _, g⟩ | ⟨_, h, _⟩ | ⟨_, h, _⟩ | ⟨_, h, _⟩ | ⟨_, h, _⟩
  · have := hcoded h; exact ⟨⟨h1, h2⟩, ⟨h3, by omega⟩, by omega, by omega, by omega, by omega⟩
  · have := hcoded h; exact ⟨⟨h1, h2⟩, ⟨h3, by omega⟩, by omega, by omega, by omega, by omega⟩
  · have := hbare h; have := hask g; exact ⟨⟨h1, h2⟩, ⟨h3, by omega⟩, by omega, by omega, by omega, by omega⟩
  · have := hbare h; exact ⟨⟨h1, h2⟩, ⟨h3, by omega⟩, by omega, by omega, by omega, by omega⟩
  · have := hbare h; exact ⟨⟨h1, h2⟩, ⟨h3, by omega⟩, by omega, by omega, by omega, by omega⟩
  · have := hbare h; exact ⟨⟨h1, h2⟩, ⟨h3, by omega⟩, by omega, by omega, by omega, by omega⟩
  · have := hbare h; exact ⟨⟨h1, h2⟩, ⟨h3, by omega⟩, by omega, by omega, by omega, by omega⟩
set_option maxRecDepth 100000 in
set_option maxHeartbeats 4000000 in
theorem encode_no (t : Nat) (d : Dg) (l : List Int) (w : World) (hl : Bytes w d.da d.dl l) (h : chk d l ≠ 0) :
    Calls Try.prog 10 #[.pointer (some ⟨t, 0, none⟩), d.val] w fun e w' => e = .returned (.tuple #[.slice none 0 0, .int .i64 (chk d l)]) ∧ Below w.heap.size w w' := by
  have HX := dbox_all w d 25 l hl
  have HC := Lib.hid (fun w h => check_any d l w h)
  clear hl
  obtain ⟨c, hc⟩ : ∃ c, c = chk d l := ⟨_, rfl⟩
  rw [← hc] at HC h ⊢
  clear hc
  have e1 : (c != 0) = true := by simpa using h
  go_enter Try.func10, Try.ntmps10
  go_wp2_with first
    | (go_at_call 13; refine (HC.out _ (HX.out _ (Below.refl _ _)).2.1).mono ?_; rintro e w1 ⟨rfl, hb⟩; have HB1 := Lib.hid hb; clear hb)
  go_ret2
  exact ⟨rfl, (HX.out _ HB1.out).2.2⟩
theorem row_bytes (w : World) (C : Array Value) (l : List Int) (n : Nat) (hC : C.toList = l.map (Value.int .u8)) (hn : n = l.length) (hm : n ≤ 100000) (hz : ∀ z ∈ l, 0 ≤ z ∧ z ≤ 255) : Bytes (w.alloc (.cells C 5)) (some ⟨w.heap.size, 0, none⟩) n l :=
  new_block w C 5 (0, 0) _ rfl l hC (by omega) hz n hn
theorem byl_app {x y : List Int} (hx : ∀ z ∈ x, 0 ≤ z ∧ z ≤ 255) (hy : ∀ z ∈ y, 0 ≤ z ∧ z ≤ 255) : ∀ z ∈ x ++ y, 0 ≤ z ∧ z ≤ 255 := fun z h => (List.mem_append.1 h).elim (hx z) (hy z)
theorem put32n (a : Option Addr) (m n cap : Nat) (l : List Int) (z : Int) (w : World) (hl : Bytes w a m l) (hn : n = m + 4) (hm : m ≤ 100000) (hz0 : 0 ≤ z) (hz : z ≤ 4294967295) :
    Calls Try.prog 24 #[.slice a m cap, .int .u32 z] w (NewRow n (l ++ be 4 z) w) := by
  subst hn
  exact put32_any a m cap l z w hl hm hz0 hz
theorem idxw_0 (a b c d e : Value) (w : World) : (Instr.index 56 (.agg #[a, b, c, d, e]) (.int .i64 0)).run Try.prog w = .ok a w := by kernel_rfl
theorem idxw_1 (a b c d e : Value) (w : World) : (Instr.index 56 (.agg #[a, b, c, d, e]) (.int .i64 1)).run Try.prog w = .ok b w := by kernel_rfl
theorem idxw_2 (a b c d e : Value) (w : World) : (Instr.index 56 (.agg #[a, b, c, d, e]) (.int .i64 2)).run Try.prog w = .ok c w := by kernel_rfl
theorem idxw_3 (a b c d e : Value) (w : World) : (Instr.index 56 (.agg #[a, b, c, d, e]) (.int .i64 3)).run Try.prog w = .ok d w := by kernel_rfl
theorem idxw_4 (a b c d e : Value) (w : World) : (Instr.index 56 (.agg #[a, b, c, d, e]) (.int .i64 4)).run Try.prog w = .ok e w := by kernel_rfl
set_option maxRecDepth 100000 in
set_option maxHeartbeats 4000000 in
theorem encode_ok (t : Nat) (d : Dg) (l : List Int) (w : World) (ht : IsTab w t) (hl : Bytes w d.da d.dl l) (hf : d.fit) (hnil : d.da = none → d.dc = 0) (h : chk d l = 0) :
    Calls Try.prog 10 #[.pointer (some ⟨t, 0, none⟩), d.val] w fun e w' => ∃ g, e = .returned (.tuple #[.slice (some ⟨g, 0, none⟩) (29 + d.dl + 4) (29 + d.dl + 4), .int .i64 0]) ∧ w.heap.size ≤ g ∧ Row8 w' g 5 (plainL d l ++ sealL (sumB (plainL d l))) ∧ Below w.heap.size w w' := by
  have hs := chk_small h (fun i hi => (hl.byte i hi).1)
  have HX := dbox_all w d 25 l hl
  have HC := Lib.hid (fun w h => check_any d l w h)
  have HLL := Lib.hid hl.size
  have HT0 : Hid (∀ w', Below w.heap.size w w' → IsTab w' t) := Lib.hid (fun w' h => ht.below h ht.lt)
  have HNIL := Lib.hid hnil
  rw [h] at HC
  clear hl h ht hnil
  obtain ⟨kind, ses, seq, path, tick, A, B, K, M, ix, da, dl, dc⟩ := d
  obtain ⟨⟨a1, a2⟩, ⟨a3, a4⟩, ⟨a5, a6⟩, ⟨a7, a8⟩, ⟨a9, a10⟩, a11⟩ := hs
  obtain ⟨_, _, _, _, _, ⟨b1, b2⟩, ⟨b3, b4⟩, ⟨b5, b6⟩, ⟨b7, b8⟩, ⟨b9, b10⟩, b11, b12⟩ := hf
  dsimp only [Dg.val, Dg.cells] at *
  have q1 : IntKind.u8.wrap kind = kind := by rw [IntKind.wrap_u8]; omega
  have q2 : IntKind.u8.wrap path = path := by rw [IntKind.wrap_u8]; omega
  have q3 : IntKind.u8.wrap K = K := by rw [IntKind.wrap_u8]; omega
  have q4 : IntKind.u8.wrap M = M := by rw [IntKind.wrap_u8]; omega
  have q5 : IntKind.u8.wrap ix = ix := by rw [IntKind.wrap_u8]; omega
  go_enter Try.func10, Try.ntmps10
  go_upto_region 4 with first
    | (go_at_call 13; refine (HC.out _ (HX.out _ (Below.refl _ _)).2.1).mono ?_; rintro e w1 ⟨rfl, hb⟩; have HB1 := Lib.hid hb; clear hb)
  obtain ⟨⟨hlt, x0, x1, x2, x3, x4, x5, x6, x7, x8, x9, x10⟩, hlw, hbw⟩ := HX.out _ HB1.out
  have HLW := Lib.hid hlw
  have HT1 := Lib.hid (HT0.out _ hbw)
  have HBW := Lib.hid hbw
  clear hlw hbw HB1 HX HC
  have HMG := Lib.hid (fun w => put16_any none 0 0 [] 17003 w (Bytes.nil w) (by omega) (by omega) (by omega))
  simp only [List.nil_append, Nat.zero_add] at HMG
  have HM4 : Hid (2 + 2 ≤ 1000000) := Lib.hid (by omega)
  have cA : Hid (Below w1.heap.size w1 w1.drew) := Lib.hid (Below.refl _ _).drew
  have cB : Hid (Below w1.heap.size w1 (w1.alloc (.cells #[.int .u8 kind, .int .u8 path] 5)).drew) := Lib.hid ((Below.refl w1.heap.size w1).alloc (Nat.le_refl _) _).drew
  have HRB : Hid (∀ w2 : World, Bytes (w2.alloc (.cells #[.int .u8 kind, .int .u8 path] 5)) (some ⟨w2.heap.size, 0, none⟩) 2 [kind, path]) := Lib.hid (fun w2 => row_bytes w2 _ [kind, path] 2 rfl rfl (by omega) (by
    simp only [List.mem_cons, List.not_mem_nil, or_false]; rintro z (rfl | rfl) <;> omega))
  have HOA : Hid (∀ (w2 : World) (g : Nat), Below w1.drew.heap.size w1.drew w2 → Row8 w2 g 5 (be 2 17003) → w1.drew.heap.size ≤ g → Own8 (w2.alloc (.cells #[.int .u8 kind, .int .u8 path] 5)) w1.heap.size (.slice (some ⟨g, 0, none⟩) 2 2) 2 (be 2 17003) ∧ Below w1.heap.size w1 (w2.alloc (.cells #[.int .u8 kind, .int .u8 path] 5))) := Lib.hid (fun w2 g hb hr hg =>
    have hb1 : Below w1.heap.size w1 w2 := cA.out.trans (hb.mono cA.out.size)
    ⟨(Own8.row hr hg (be_length 2 _) (by unfold maxLen; omega)).below ((Below.refl w2.heap.size w2).alloc (Nat.le_refl _) _) (Nat.le_refl _), hb1.alloc hb1.size _⟩)
  have HOB : Hid (∀ (w2 : World) (g : Nat), Below (w1.alloc (.cells #[.int .u8 kind, .int .u8 path] 5)).drew.heap.size (w1.alloc (.cells #[.int .u8 kind, .int .u8 path] 5)).drew w2 → Row8 w2 g 5 (be 2 17003) → (w1.alloc (.cells #[.int .u8 kind, .int .u8 path] 5)).drew.heap.size ≤ g → Own8 w2 w1.heap.size (.slice (some ⟨g, 0, none⟩) 2 2) 2 (be 2 17003) ∧ Bytes w2 (some ⟨w1.heap.size, 0, none⟩) 2 [kind, path] ∧ Below w1.heap.size w1 w2) := Lib.hid (fun w2 g hb hr hg =>
    ⟨Own8.row hr (Nat.le_trans cB.out.size hg) (be_length 2 _) (by unfold maxLen; omega), (HRB.out w1).drew.below hb (Nat.le_refl _), cB.out.trans (hb.mono cB.out.size)⟩)
  have HSA : Hid (∀ w2 : World, w1.heap.size ≤ w2.heap.size → w1.heap.size ≤ (w2.alloc (.cells #[.int .u8 kind, .int .u8 path] 5)).heap.size) := Lib.hid (fun w2 h => by simp; omega)
  go_cut [7] (fun s wx => ∃ A3 C3, s = .slice A3 4 C3 ∧ Hid (Own8 wx w1.heap.size (.slice A3 4 C3) 4 (be 2 17003 ++ [kind, path])) ∧ Hid (Below w1.heap.size w1 wx))
  case first =>
    go_region_held3 (fun w' => w'.cell? ⟨w.heap.size, 0, none⟩ = some (.int .i64 kind) ∧ w'.cell? ⟨w.heap.size, 3, none⟩ = some (.int .i64 path))
      (first
        | exact ⟨x0, x3⟩
        | exact ⟨(hc2.out.cell (p := ⟨w.heap.size, 0, none⟩) hlt).trans x0, (hc2.out.cell (p := ⟨w.heap.size, 3, none⟩) hlt).trans x3⟩
        | exact ⟨((Below.alloc hc2.out hc2.out.size _).cell (p := ⟨w.heap.size, 0, none⟩) hlt).trans x0, ((Below.alloc hc2.out hc2.out.size _).cell (p := ⟨w.heap.size, 3, none⟩) hlt).trans x3⟩
        | exact ⟨(((Below.refl w1.heap.size w1).alloc (Nat.le_refl _) _).cell (p := ⟨w.heap.size, 0, none⟩) hlt).trans x0, (((Below.refl w1.heap.size w1).alloc (Nat.le_refl _) _).cell (p := ⟨w.heap.size, 3, none⟩) hlt).trans x3⟩)
      (first
        | (go_at_call 23; (with_reducible refine (HMG.out w1.drew).mono ?_); rintro e w2 ⟨g2, rfl, hg2, hr2, hb2⟩; have hc2 : Hid (Below w1.heap.size w1 w2) := Lib.hid (cA.out.trans (hb2.mono cA.out.size)); have hA2 := Lib.hid (HOA.out _ _ hb2 hr2 hg2))
        | (go_at_call 23; (with_reducible refine (HMG.out (w1.alloc (.cells #[.int .u8 kind, .int .u8 path] 5)).drew).mono ?_); rintro e w2 ⟨g2, rfl, hg2, hr2, hb2⟩; have hc2 : Hid (Below w1.heap.size w1 w2) := Lib.hid (cB.out.trans (hb2.mono cB.out.size)); have hB2 := Lib.hid (HOB.out _ _ hb2 hr2 hg2))
        | (refine step_append_bytes (w := w2) rfl (.tmp 15) (.tmp 22) rfl w1.heap.size (some ⟨g2, 0, none⟩) 2 2 rfl (be 2 17003) hB2.out.1 (some ⟨w1.heap.size, 0, none⟩) 2 2 rfl [kind, path] hB2.out.2.1 (fun h => nomatch h) HM4.out w1.heap.size w1 hB2.out.2.2 (Nat.le_refl _) hB2.out.2.2.size 4 rfl (be 2 17003 ++ [kind, path]) rfl ?_; intro A3 C3 w3 HO3 HB3; clear hc2; have hc2 : Hid (Below w1.heap.size w1 w3) := Lib.hid HB3)
        | (refine step_append_bytes (w := w2.alloc _) rfl (.tmp 15) (.tmp 22) rfl w1.heap.size (some ⟨g2, 0, none⟩) 2 2 rfl (be 2 17003) hA2.out.1 (some ⟨w2.heap.size, 0, none⟩) 2 2 rfl [kind, path] (HRB.out w2) (fun h => nomatch h) HM4.out w1.heap.size w1 hA2.out.2 (Nat.le_refl _) hA2.out.2.size 4 rfl (be 2 17003 ++ [kind, path]) rfl ?_; intro A3 C3 w3 HO3 HB3; clear hc2; have hc2 : Hid (Below w1.heap.size w1 w3) := Lib.hid HB3)
        | fail)
    all_goals
      go_wp2_with fail
      go_meet
      exact ⟨A3, C3, rfl, HO3, hc2⟩
  case rest =>
    obtain ⟨A3, C3, rfl, HO3, HB3⟩ := hcut
    generalize wc = w3 at *
    have HBX : Hid (∀ w', Below w1.heap.size w1 w' → DBox w' w.heap.size ⟨kind, ses, seq, path, tick, A, B, K, M, ix, da, dl, dc⟩ ∧ Bytes w' da dl l ∧ IsTab w' t) := Lib.hid (fun w' h => ⟨(DBox.mk hlt x0 x1 x2 x3 x4 x5 x6 x7 x8 x9 x10).below h hlt, HLW.out.below h (Nat.le_refl _), HT1.out.below h HT1.out.lt⟩)
    clear HOA HOB HRB HSA HMG x0 x1 x2 x3 x4 x5 x6 x7 x8 x9 x10 hlt q1 q2 HM4 cA cB
    have HP0 : Hid (Bytes w3 A3 4 (be 2 17003 ++ [kind, path])) := Lib.hid (Own8.bytes HO3.out (byl_app (be_range 2 _) (by simp only [List.mem_cons, List.not_mem_nil, or_false]; rintro z (rfl | rfl) <;> omega)))
    have hC3 : C3 ≤ 9223372036854775807 := by
      obtain ⟨A', C', e, h1, h2⟩ := HO3.out.slice
      unfold maxLen at h2
      simp at e
      omega
    clear HO3
    go_upto_region 5 with fail
    obtain ⟨⟨_, y0, y1, y2, y3, y4, y5, y6, y7, y8, y9, y10⟩, _, _⟩ := HBX.out _ HB3.out
    go_wp2_with fail
    clear y0 y1 y2 y3 y4 y5 y6 y7 y8 y9 y10
    have i0 := idxw_0
    have i1 := idxw_1
    have i2 := idxw_2
    have i3 := idxw_3
    have i4 := idxw_4
    refine wp_loop_rounds 6 ?_
    rw [rounds_succ]
    go_wp2_with first
      | (go_at_call 24; refine (put32n (A3) 4 8 C3 (be 2 17003 ++ [kind, path]) ses _ HP0.out rfl (by decide) b1 b2).mono ?_; rintro e wr0 ⟨g0, rfl, hg0, hr0, hb0⟩)
    have HB0' : Hid (Below w1.heap.size w1 wr0) := Lib.hid (HB3.out.trans (hb0.mono HB3.out.size))
    have HG0 : Hid (w1.heap.size ≤ g0) := Lib.hid (Nat.le_trans HB3.out.size hg0)
    have HR0 : Hid (Row8 wr0 g0 5 (be 2 17003 ++ [kind, path] ++ be 4 ses)) := Lib.hid hr0
    have HP1 : Hid (Bytes wr0 (some ⟨g0, 0, none⟩) 8 (be 2 17003 ++ [kind, path] ++ be 4 ses)) := Lib.hid (Row8.whole hr0 (byl_app HP0.out.range (be_range 4 _)) 8 (by have := HP0.out.size; rw [List.length_append, this, be_length]) (by omega))
    clear hg0 hr0 hb0
    rw [rounds_succ]
    go_wp2_with first
      | (go_at_call 24; refine (put32n (some ⟨g0, 0, none⟩) 8 12 8 (be 2 17003 ++ [kind, path] ++ be 4 ses) seq _ HP1.out rfl (by decide) b3 b4).mono ?_; rintro e wr1 ⟨g1, rfl, hg1, hr1, hb1⟩)
    have HB1' : Hid (Below w1.heap.size w1 wr1) := Lib.hid (HB0'.out.trans (hb1.mono HB0'.out.size))
    have HG1 : Hid (w1.heap.size ≤ g1) := Lib.hid (Nat.le_trans HB0'.out.size hg1)
    have HR1 : Hid (Row8 wr1 g1 5 (be 2 17003 ++ [kind, path] ++ be 4 ses ++ be 4 seq)) := Lib.hid hr1
    have HP2 : Hid (Bytes wr1 (some ⟨g1, 0, none⟩) 12 (be 2 17003 ++ [kind, path] ++ be 4 ses ++ be 4 seq)) := Lib.hid (Row8.whole hr1 (byl_app HP1.out.range (be_range 4 _)) 12 (by have := HP1.out.size; rw [List.length_append, this, be_length]) (by omega))
    clear hg1 hr1 hb1
    rw [rounds_succ]
    go_wp2_with first
      | (go_at_call 24; refine (put32n (some ⟨g1, 0, none⟩) 12 16 12 (be 2 17003 ++ [kind, path] ++ be 4 ses ++ be 4 seq) tick _ HP2.out rfl (by decide) b5 b6).mono ?_; rintro e wr2 ⟨g2, rfl, hg2, hr2, hb2⟩)
    have HB2' : Hid (Below w1.heap.size w1 wr2) := Lib.hid (HB1'.out.trans (hb2.mono HB1'.out.size))
    have HG2 : Hid (w1.heap.size ≤ g2) := Lib.hid (Nat.le_trans HB1'.out.size hg2)
    have HR2 : Hid (Row8 wr2 g2 5 (be 2 17003 ++ [kind, path] ++ be 4 ses ++ be 4 seq ++ be 4 tick)) := Lib.hid hr2
    have HP3 : Hid (Bytes wr2 (some ⟨g2, 0, none⟩) 16 (be 2 17003 ++ [kind, path] ++ be 4 ses ++ be 4 seq ++ be 4 tick)) := Lib.hid (Row8.whole hr2 (byl_app HP2.out.range (be_range 4 _)) 16 (by have := HP2.out.size; rw [List.length_append, this, be_length]) (by omega))
    clear hg2 hr2 hb2
    rw [rounds_succ]
    go_wp2_with first
      | (go_at_call 24; refine (put32n (some ⟨g2, 0, none⟩) 16 20 16 (be 2 17003 ++ [kind, path] ++ be 4 ses ++ be 4 seq ++ be 4 tick) A _ HP3.out rfl (by decide) b7 b8).mono ?_; rintro e wr3 ⟨g3, rfl, hg3, hr3, hb3⟩)
    have HB3' : Hid (Below w1.heap.size w1 wr3) := Lib.hid (HB2'.out.trans (hb3.mono HB2'.out.size))
    have HG3 : Hid (w1.heap.size ≤ g3) := Lib.hid (Nat.le_trans HB2'.out.size hg3)
    have HR3 : Hid (Row8 wr3 g3 5 (be 2 17003 ++ [kind, path] ++ be 4 ses ++ be 4 seq ++ be 4 tick ++ be 4 A)) := Lib.hid hr3
    have HP4 : Hid (Bytes wr3 (some ⟨g3, 0, none⟩) 20 (be 2 17003 ++ [kind, path] ++ be 4 ses ++ be 4 seq ++ be 4 tick ++ be 4 A)) := Lib.hid (Row8.whole hr3 (byl_app HP3.out.range (be_range 4 _)) 20 (by have := HP3.out.size; rw [List.length_append, this, be_length]) (by omega))
    clear hg3 hr3 hb3
    rw [rounds_succ]
    go_wp2_with first
      | (go_at_call 24; refine (put32n (some ⟨g3, 0, none⟩) 20 24 20 (be 2 17003 ++ [kind, path] ++ be 4 ses ++ be 4 seq ++ be 4 tick ++ be 4 A) B _ HP4.out rfl (by decide) b9 b10).mono ?_; rintro e wr4 ⟨g4, rfl, hg4, hr4, hb4⟩)
    have HB4' : Hid (Below w1.heap.size w1 wr4) := Lib.hid (HB3'.out.trans (hb4.mono HB3'.out.size))
    have HG4 : Hid (w1.heap.size ≤ g4) := Lib.hid (Nat.le_trans HB3'.out.size hg4)
    have HR4 : Hid (Row8 wr4 g4 5 (be 2 17003 ++ [kind, path] ++ be 4 ses ++ be 4 seq ++ be 4 tick ++ be 4 A ++ be 4 B)) := Lib.hid hr4
    have HP5 : Hid (Bytes wr4 (some ⟨g4, 0, none⟩) 24 (be 2 17003 ++ [kind, path] ++ be 4 ses ++ be 4 seq ++ be 4 tick ++ be 4 A ++ be 4 B)) := Lib.hid (Row8.whole hr4 (byl_app HP4.out.range (be_range 4 _)) 24 (by have := HP4.out.size; rw [List.length_append, this, be_length]) (by omega))
    clear hg4 hr4 hb4
    rw [rounds_succ]
    go_upto_region 10 with fail
    clear i0 i1 i2 i3 i4
    obtain ⟨⟨_, y0, y1, y2, y3, y4, y5, y6, y7, y8, y9, y10⟩, _, _⟩ := HBX.out _ HB4'.out
    have HRB : Hid (Bytes (wr4.alloc (.cells #[.int .u8 K, .int .u8 M, .int .u8 ix] 5)) (some ⟨wr4.heap.size, 0, none⟩) 3 [K, M, ix]) := Lib.hid (row_bytes wr4 _ [K, M, ix] 3 rfl rfl (by omega) (by
      simp only [List.mem_cons, List.not_mem_nil, or_false]; rintro z (rfl | rfl | rfl) <;> omega))
    have HOW : Hid (Own8 (wr4.alloc (.cells #[.int .u8 K, .int .u8 M, .int .u8 ix] 5)) w1.heap.size (.slice (some ⟨g4, 0, none⟩) 24 24) 24 (be 2 17003 ++ [kind, path] ++ be 4 ses ++ be 4 seq ++ be 4 tick ++ be 4 A ++ be 4 B)) := Lib.hid ((Own8.row HR4.out HG4.out HP5.out.size (by unfold maxLen; omega)).below ((Below.refl wr4.heap.size wr4).alloc (Nat.le_refl _) _) (Nat.le_refl _))
    have HBW4 : Hid (Below w1.heap.size w1 (wr4.alloc (.cells #[.int .u8 K, .int .u8 M, .int .u8 ix] 5))) := Lib.hid (HB4'.out.alloc HB4'.out.size _)
    go_upto_region 11 with (with_reducible refine wpList_append_bytes rfl (.tmp 42) (.tmp 52) rfl w1.heap.size (some ⟨g4, 0, none⟩) 24 24 rfl (be 2 17003 ++ [kind, path] ++ be 4 ses ++ be 4 seq ++ be 4 tick ++ be 4 A ++ be 4 B) HOW.out (some ⟨wr4.heap.size, 0, none⟩) 3 3 rfl [K, M, ix] HRB.out (fun h => nomatch h) (by decide) w1.heap.size w1 HBW4.out (Nat.le_refl _) HBW4.out.size 27 rfl (be 2 17003 ++ [kind, path] ++ be 4 ses ++ be 4 seq ++ be 4 tick ++ be 4 A ++ be 4 B ++ [K, M, ix]) rfl ?_; intro A5 C5 w5 HO5 hb5; have HB5 := Lib.hid hb5; clear hb5)
    clear y0 y1 y2 y3 y4 y5 y6 y7 y8 y9 y10
    obtain ⟨⟨_, y0, y1, y2, y3, y4, y5, y6, y7, y8, y9, y10⟩, _, _⟩ := HBX.out _ HB5.out
    have HZ5 : Hid (∀ z ∈ be 2 17003 ++ [kind, path] ++ be 4 ses ++ be 4 seq ++ be 4 tick ++ be 4 A ++ be 4 B ++ [K, M, ix], 0 ≤ z ∧ z ≤ 255) := Lib.hid (byl_app HP5.out.range (by simp only [List.mem_cons, List.not_mem_nil, or_false]; rintro z (rfl | rfl | rfl) <;> omega))
    have HP6 : Hid (Bytes w5 A5 27 (be 2 17003 ++ [kind, path] ++ be 4 ses ++ be 4 seq ++ be 4 tick ++ be 4 A ++ be 4 B ++ [K, M, ix])) := Lib.hid (Own8.bytes HO5.out HZ5.out)
    have q6 : IntKind.u16.wrap (dl : Int) = dl := IntWalk.u16_in _ (by omega)
    have q7 : (dl : Int) ≤ 1200 := by omega
    go_upto_region 12 with first
      | (go_at_call 23; refine (put16_any A5 27 C5 (be 2 17003 ++ [kind, path] ++ be 4 ses ++ be 4 seq ++ be 4 tick ++ be 4 A ++ be 4 B ++ [K, M, ix]) dl _ HP6.out (by decide) (by omega) (by omega)).mono ?_; rintro e w6 ⟨g6, rfl, hg6, hr6, hb6⟩)
    have HB6 : Hid (Below w1.heap.size w1 w6) := Lib.hid (HB5.out.trans (hb6.mono HB5.out.size))
    have HR6 : Hid (Own8 w6 w1.heap.size (.slice (some ⟨g6, 0, none⟩) 29 29) 29 (be 2 17003 ++ [kind, path] ++ be 4 ses ++ be 4 seq ++ be 4 tick ++ be 4 A ++ be 4 B ++ [K, M, ix] ++ be 2 dl)) := Lib.hid (Own8.row hr6 (Nat.le_trans HB5.out.size hg6) (by rw [List.length_append, HP6.out.size, be_length]) (by unfold maxLen; omega))
    have HZ6 : Hid (∀ z ∈ be 2 17003 ++ [kind, path] ++ be 4 ses ++ be 4 seq ++ be 4 tick ++ be 4 A ++ be 4 B ++ [K, M, ix] ++ be 2 dl, 0 ≤ z ∧ z ≤ 255) := Lib.hid (byl_app HZ5.out (be_range 2 _))
    clear hg6 hr6 hb6 y0 y1 y2 y3 y4 y5 y6 y7 y8 y9 y10
    obtain ⟨⟨_, y0, y1, y2, y3, y4, y5, y6, y7, y8, y9, y10⟩, hdat, htab⟩ := HBX.out _ HB6.out
    have HDT := Lib.hid hdat
    clear hdat htab
    have HN9 : Hid (29 + dl ≤ 1000000) := Lib.hid (by omega)
    go_wp2_with first
      | (with_reducible refine wpList_append_bytes rfl (.tmp 61) (.tmp 63) rfl w1.heap.size (some ⟨g6, 0, none⟩) 29 29 rfl (be 2 17003 ++ [kind, path] ++ be 4 ses ++ be 4 seq ++ be 4 tick ++ be 4 A ++ be 4 B ++ [K, M, ix] ++ be 2 dl) HR6.out da dl dc rfl l HDT.out HNIL.out HN9.out w1.heap.size w1 HB6.out (Nat.le_refl _) HB6.out.size (29 + dl) rfl (be 2 17003 ++ [kind, path] ++ be 4 ses ++ be 4 seq ++ be 4 tick ++ be 4 A ++ be 4 B ++ [K, M, ix] ++ be 2 dl ++ l) rfl ?_; intro A7 C7 w7 HO7 hb7; have HB7 := Lib.hid hb7; clear hb7)
      | (go_at_call 25; refine (seals_any t A7 (29 + dl) C7 (be 2 17003 ++ [kind, path] ++ be 4 ses ++ be 4 seq ++ be 4 tick ++ be 4 A ++ be 4 B ++ [K, M, ix] ++ be 2 dl ++ l) _ (HBX.out _ HB7.out).2.2 (Own8.bytes HO7.out (byl_app HZ6.out HDT.out.range)) (by omega)).mono ?_; rintro e w8 ⟨g8, rfl, hg8, hr8, hb8⟩)
    go_ret2
    refine ⟨g8, rfl, ?_, ?_, ?_⟩
    · exact Nat.le_trans HBW.out.size (Nat.le_trans HB7.out.size hg8)
    · exact hr8
    · exact (HBW.out.trans (HB7.out.mono HBW.out.size)).trans (hb8.mono (Nat.le_trans HBW.out.size HB7.out.size))
end Go.Proofs.Ytfiacpbpfdencaa
