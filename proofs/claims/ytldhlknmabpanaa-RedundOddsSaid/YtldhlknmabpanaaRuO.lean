/-
  Own text: layer 16 (redund): after, Odds, walked.
-/
import Derived.Test.YtldhlknmabpanaaRuB
import Derived.Test.YtldhlknmabpanaaRowA
namespace Go.Proofs.Ytldhlknmabpanaa
open Go.RowKit

/-- A row of numbers as cells. -/
def iv (f : Nat → Int) (i : Nat) : Value := .int .i64 (f i)
theorem iv_one (f : Nat → Int) (i : Nat) : (iv f i).oneCell' = true := rfl
/-- A step of the code's row: 33 of them, the last one is not stepped. -/
def nx (L : Nat → Int) (l : Int) (i : Nat) : Int := (if i < 32 then L i * l / 65536 else 0) + (if i = 0 then 0 else L (i - 1) * (65536 - l) / 65536)
/-- The row behind the first j of them. -/
def px (L : Nat → Int) (l : Int) (j i : Nat) : Int := (if i < j then L i * l / 65536 else 0) + (if 1 ≤ i ∧ i ≤ j then L (i - 1) * (65536 - l) / 65536 else 0)
/-- The row in the middle of a step. -/
def mx (L : Nat → Int) (l : Int) (j i : Nat) : Int := (if i < j + 1 then L i * l / 65536 else 0) + (if 1 ≤ i ∧ i ≤ j then L (i - 1) * (65536 - l) / 65536 else 0)
theorem px_zero (L : Nat → Int) (l : Int) (i : Nat) : px L l 0 i = 0 := by
  unfold px
  rw [if_neg (by omega), if_neg (by omega)]; rfl
theorem px_all (L : Nat → Int) (l : Int) (i : Nat) (hi : i < 33) : px L l 32 i = nx L l i := by
  unfold px nx
  by_cases h : i = 0
  · subst h; rfl
  · rw [if_neg h, if_pos (by omega : 1 ≤ i ∧ i ≤ 32)]
theorem mx_at (L : Nat → Int) (l : Int) (j : Nat) : mx L l j j = px L l j j + L j * l / 65536 := by
  unfold mx px
  rw [if_pos (by omega), if_neg (show ¬ j < j by omega)]
  split <;> omega
theorem mx_off (L : Nat → Int) (l : Int) (j i : Nat) (h : i ≠ j) : mx L l j i = px L l j i := by
  unfold mx px
  by_cases h1 : i < j
  · rw [if_pos (by omega), if_pos h1]
  · rw [if_neg (by omega), if_neg h1]
theorem mx_next (L : Nat → Int) (l : Int) (j : Nat) : mx L l j (j + 1) = 0 ∧ px L l (j + 1) (j + 1) = L j * (65536 - l) / 65536 := by
  unfold mx px
  constructor
  · rw [if_neg (by omega), if_neg (by omega)]; rfl
  · rw [if_neg (by omega), if_pos (by omega), show j + 1 - 1 = j by omega]; omega
theorem px_off (L : Nat → Int) (l : Int) (j i : Nat) (h : i ≠ j + 1) : px L l (j + 1) i = mx L l j i := by
  unfold mx px
  by_cases h1 : 1 ≤ i ∧ i ≤ j
  · rw [if_pos (show 1 ≤ i ∧ i ≤ j + 1 by omega), if_pos h1]
  · rw [if_neg (show ¬ (1 ≤ i ∧ i ≤ j + 1) by omega), if_neg h1]
/-- Numbers that may stand in a row. -/
def OkR (L : Nat → Int) : Prop := ∀ i, 0 ≤ L i ∧ L i ≤ 65536
theorem part_lo {x l : Int} (h0 : 0 ≤ x) (h1 : x ≤ 65536) (l0 : 0 ≤ l) (l1 : l ≤ 65536) : 0 ≤ x * l ∧ x * l ≤ 4294967296 ∧ 0 ≤ x * l / 65536 ∧ x * l / 65536 ≤ 65536 ∧ (x * l).tdiv 65536 = x * l / 65536 := by
  have a := Int.mul_nonneg h0 l0
  have b : x * l ≤ 65536 * 65536 := Int.mul_le_mul h1 l1 l0 (by omega)
  exact ⟨a, by omega, by omega, by omega, Int.tdiv_eq_ediv_of_nonneg a⟩
theorem px_lo {L : Nat → Int} (h : OkR L) {l : Int} (l0 : 0 ≤ l) (l1 : l ≤ 65536) (j i : Nat) : 0 ≤ px L l j i ∧ px L l j i ≤ 131072 := by
  have a := part_lo (h i).1 (h i).2 l0 l1
  have b := part_lo (h (i - 1)).1 (h (i - 1)).2 (show 0 ≤ 65536 - l by omega) (by omega)
  unfold px
  split <;> split <;> omega
theorem info33 : (Try.prog.info? 42).map (·.size) = some 33 := by kernel_rfl
theorem zero33 (w : World) : (zeroValue 42).run Try.prog w = .ok (.agg (rowOf 33 (iv fun _ => 0))) w := by kernel_rfl
/-- What a call answers whose result lies in a block. -/
theorem results_row1 {fn : Func} {p : Tmp} {ty : TypeId} (h : fn.results = #[.cell p ty]) (tmps : Array Value) (w : World) (g : Nat) (t : TypeId) (n : Nat) (f : Nat → Value) (d : TypeDesc)
    (hp : tmps.getD p undef = .pointer (some ⟨g, 0, none⟩)) (hg : w.rowIs g t n f) (hu : Try.prog.underlying ty = some d) (hd : d.isRow = true) (hi : (Try.prog.info? ty).map (·.size) = some n) :
    (results fn tmps).run Try.prog w = .ok (.agg (rowOf n f)) w := by
  have hl := run_loadVar_row w g t ty (rowOf n f) (0, 0) d (rowIs_heap hg) hu (by cases d <;> first | rfl | exact hd) (by rw [rowOf_size]; exact hi)
  have hp' : tmps[p]?.getD undef = .pointer (some ⟨g, 0, none⟩) := by simpa using hp
  simp [results, h, hp', asAddr, hl]
/-- Its block. -/
abbrev Row33 (w : World) (b : Nat) (f : Nat → Int) : Prop := w.rowIs b 42 33 (iv f)
set_option maxRecDepth 100000 in
set_option maxHeartbeats 1000000 in
theorem after_any (L : Nat → Int) (hL : OkR L) (l : Int) (l0 : 0 ≤ l) (l1 : l ≤ 65536) (w : World) :
    Calls Try.prog 18 #[.agg (rowOf 33 (iv L)), .int .i64 l] w fun e w' => e = .returned (.agg (rowOf 33 (iv (nx L l)))) ∧ Below w.heap.size w w' := by
  have zz := zero33
  obtain ⟨W, hW⟩ : ∃ W, W = ((w.alloc (.cells (rowOf 33 (iv L)) 42)).alloc (.cells (rowOf 33 (iv fun _ => 0)) 42)).alloc (.cells (rowOf 33 (iv fun _ => 0)) 42) := ⟨_, rfl⟩
  obtain ⟨B, hB⟩ : ∃ B, B = w.heap.size := ⟨_, rfl⟩
  have b1 : Below w.heap.size w (w.alloc (.cells (rowOf 33 (iv L)) 42)) := (Below.refl _ _).alloc (Nat.le_refl _) _
  have b2 : Below w.heap.size w ((w.alloc (.cells (rowOf 33 (iv L)) 42)).alloc (.cells (rowOf 33 (iv fun _ => 0)) 42)) := b1.alloc (by simp) _
  have b3 : Below w.heap.size w W := by rw [hW]; exact b2.alloc (by simp; omega) _
  have s1 : (w.alloc (.cells (rowOf 33 (iv L)) 42)).heap.size = B + 1 := by rw [hB]; simp
  have s2 : ((w.alloc (.cells (rowOf 33 (iv L)) 42)).alloc (.cells (rowOf 33 (iv fun _ => 0)) 42)).heap.size = B + 1 + 1 := by rw [hB]; simp
  have H0 : Row33 W B L := by
    have := ((rowIs_new w 33 (iv L) 42).alloc (.cells (rowOf 33 (iv fun _ => 0)) 42)).alloc (.cells (rowOf 33 (iv fun _ => 0)) 42)
    rw [← hB, ← hW] at this
    exact this
  have H1 : Row33 W (B + 1) (fun _ => 0) := by
    have := (rowIs_new (w.alloc (.cells (rowOf 33 (iv L)) 42)) 33 (iv fun _ => 0) 42).alloc (.cells (rowOf 33 (iv fun _ => 0)) 42)
    rw [s1, ← hW] at this
    exact this
  have H2 : Row33 W (B + 1 + 1) (px L l 0) := by
    have := rowIs_new ((w.alloc (.cells (rowOf 33 (iv L)) 42)).alloc (.cells (rowOf 33 (iv fun _ => 0)) 42)) 33 (iv fun _ => 0) 42
    rw [s2, ← hW] at this
    exact this.congr (fun i _ => by unfold iv; rw [px_zero])
  rw [← hB] at b3
  have HB := Lib.hid b3
  have HH := Lib.hid (⟨H0, H1, H2⟩ : Row33 W B L ∧ Row33 W (B + 1) (fun _ => 0) ∧ Row33 W (B + 1 + 1) (px L l 0))
  have HL := Lib.hid hL
  clear b1 b2 b3 s1 s2 H0 H1 H2 hL
  go_enter Try.func18, Try.ntmps18
  go_upto_region 2 with fail
  rw [← hW]
  rw [← hB]
  have HBE := Lib.hid hB
  clear hW hB
  go_wp2
  go_loopw [10, 6, 7] (fun s10 _ _ wr => ∃ j : Nat, j ≤ 32 ∧ s10 = .int .i64 (j : Int) ∧ Hid (Row33 wr B L ∧ Row33 wr (B + 1) (fun _ => 0) ∧ Row33 wr (B + 1 + 1) (px L l j)) ∧ Hid (Below B w wr)) (fun s10 _ _ _ => 32 - (intOf s10).toNat)
  case atStart => exact ⟨0, by omega, rfl, HH, HB⟩
  case round =>
    obtain ⟨j, hj, rfl, HR, HBR⟩ := hrel
    have k0 : (0 : Int) ≤ (j : Int) := by omega
    by_cases hlt : j < 32
    · have k1 : (j : Int) < 32 := by omega
      have c0 : wr.cell? ⟨B, j, none⟩ = some (.int .i64 (L j)) := HR.out.1.cell (by omega)
      have c1 : wr.cell? ⟨B + 1 + 1, j, none⟩ = some (.int .i64 (px L l j j)) := HR.out.2.2.cell (by omega)
      have f1 : wr.frozen? ⟨B + 1 + 1, j, none⟩ = false := HR.out.2.2.frozen j
      obtain ⟨x0, x1⟩ := HL.out j
      obtain ⟨p0, p1⟩ := px_lo HL.out l0 l1 j j
      obtain ⟨a0, a1, a2, a3, t1⟩ := part_lo x0 x1 l0 l1
      obtain ⟨d0, d1, d2, d3, t2⟩ := part_lo x0 x1 (show 0 ≤ 65536 - l by omega) (show 65536 - l ≤ 65536 by omega)
      have HMA := Lib.hid (mx_at L l j)
      have HMO := Lib.hid (fun i h => (mx_off L l j i h).symm)
      have HPO := Lib.hid (fun i h => (px_off L l j i h).symm)
      have HMN := Lib.hid (mx_next L l j)
      have w1 : IntKind.i64.wrap (L j * l) = L j * l := by rw [IntKind.wrap_i64]; omega
      have w2 : IntKind.i64.wrap (L j * (65536 - l)) = L j * (65536 - l) := by rw [IntKind.wrap_i64]; omega
      have HI : Hid (j + 1 ≤ 32) := Lib.hid hlt
      have HDM : Hid (32 - (j + 1) < 32 - j) := Lib.hid (by omega)
      generalize L j * l / 65536 = q1 at *
      generalize L j * (65536 - l) / 65536 = q2 at *
      generalize px L l j j = pj at *
      generalize L j = x at *
      go_upto_region 6 with fail
      obtain ⟨W5, hW5⟩ : ∃ W5, W5 = wr.setCell ⟨B + 1 + 1, j, none⟩ (.int .i64 (pj + q1)) := ⟨_, rfl⟩
      have hne0 : B ≠ B + 1 + 1 := by omega
      have hne1 : B + 1 ≠ B + 1 + 1 := by omega
      have HR5 : Hid (Row33 W5 B L ∧ Row33 W5 (B + 1) (fun _ => 0) ∧ Row33 W5 (B + 1 + 1) (mx L l j)) := Lib.hid (by
        rw [hW5]
        refine ⟨HR.out.1.setOther (a := ⟨B + 1 + 1, j, none⟩) hne0 _, HR.out.2.1.setOther (a := ⟨B + 1 + 1, j, none⟩) hne1 _, (HR.out.2.2.set j _).congr (fun i _ => ?_)⟩
        by_cases e : i = j
        · rw [if_pos e, e]; unfold iv; rw [HMA.out]
        · rw [if_neg e]; unfold iv; rw [HMO.out i e])
      have HB5 : Hid (Below B w W5) := Lib.hid (by rw [hW5]; exact HBR.out.setCell (p := ⟨B + 1 + 1, j, none⟩) (by show B ≤ B + 1 + 1; omega) _)
      rw [← hW5]
      clear c0 c1 f1 hW5
      have c2 : W5.cell? ⟨B + 1 + 1, j + 1, none⟩ = some (.int .i64 0) := by
        have : W5.cell? ⟨B + 1 + 1, j + 1, none⟩ = some (iv (mx L l j) (j + 1)) := HR5.out.2.2.cell (by omega)
        rw [this]; unfold iv; rw [HMN.out.1]
      have f2 : W5.frozen? ⟨B + 1 + 1, j + 1, none⟩ = false := HR5.out.2.2.frozen (j + 1)
      have HX : Hid (Row33 (W5.setCell ⟨B + 1 + 1, j + 1, none⟩ (.int .i64 q2)) B L ∧ Row33 (W5.setCell ⟨B + 1 + 1, j + 1, none⟩ (.int .i64 q2)) (B + 1) (fun _ => 0) ∧ Row33 (W5.setCell ⟨B + 1 + 1, j + 1, none⟩ (.int .i64 q2)) (B + 1 + 1) (px L l (j + 1))) := Lib.hid (by
        refine ⟨HR5.out.1.setOther (a := ⟨B + 1 + 1, j + 1, none⟩) hne0 _, HR5.out.2.1.setOther (a := ⟨B + 1 + 1, j + 1, none⟩) hne1 _, (HR5.out.2.2.set (j + 1) _).congr (fun i _ => ?_)⟩
        by_cases e : i = j + 1
        · rw [if_pos e, e]; unfold iv; rw [HMN.out.2]
        · rw [if_neg e]; unfold iv; rw [HPO.out i e])
      have HBX : Hid (Below B w (W5.setCell ⟨B + 1 + 1, j + 1, none⟩ (.int .i64 q2))) := Lib.hid (HB5.out.setCell (p := ⟨B + 1 + 1, j + 1, none⟩) (by show B ≤ B + 1 + 1; omega) _)
      clear HMA HMO HPO HMN HR HR5 hj hlt
      go_wp2
      go_roundw
      case rel => exact ⟨j + 1, HI.out, by go_num, HX, HBX⟩
      case measure => have := HDM.out; simp [intOf] <;> omega
    · obtain rfl : j = 32 := by omega
      have I33 := Lib.hid info33
      have HON : Hid (∀ i, (iv (px L l 32) i).oneCell' = true) := Lib.hid (iv_one _)
      clear hlt hj
      go_wp2_with (first
        | (with_reducible refine wpList_load_rowIs rfl 42 (.tmp 5) rfl (B + 1 + 1) rfl 42 33 (iv (px L l 32)) HR.out.2.2 _ Try.underlying42 rfl I33.out ?_)
        | (with_reducible refine wpList_store_rowIs rfl 42 (.tmp 4) (.tmp 36) rfl (B + 1) rfl 33 (iv (px L l 32)) rfl 42 (iv fun _ => 0) HR.out.2.1 I33.out HON.out ?_; intro W2 G1 G2 G3 G4)
        | fail)
      refine bodyPost_ret (v := .agg (rowOf 33 (iv (px L l 32)))) (results_row1 (p := 4) rfl _ W2 (B + 1) 42 33 (iv (px L l 32)) _ rfl G1.out Try.underlying42 rfl I33.out) rfl ?_
      have he : rowOf 33 (iv (px L l 32)) = rowOf 33 (iv (nx L l)) := rowOf_congr (fun i hi => by show Value.int .i64 _ = Value.int .i64 _; rw [px_all L l i hi])
      refine ⟨by rw [he], ?_⟩
      rw [← HBE.out]
      exact HBR.out.trans (G3.out.mono (Nat.le_succ _))

theorem nx_od {l : Int} (n : Nat) (hn : n < 32) (i : Nat) (hi : i < 33) : nx (od l n) l i = od l (n + 1) i := by
  unfold nx
  have e : od l (n + 1) i = od l n i * l / 65536 + (if i = 0 then 0 else od l n (i - 1) * (65536 - l) / 65536) := by rw [od]
  rw [e]
  by_cases h : i < 32
  · rw [if_pos h]
  · rw [if_neg h, od_far n i (by omega)]; simp
theorem tl16_below (f : Nat → Int) (a : Int) : ∀ m : Nat, (m : Int) ≤ a → tl16 f a m = 0
  | 0, _ => rfl
  | m + 1, h => by
      unfold tl16
      rw [tl16_below f a m (by omega), if_neg (by omega)]; rfl
theorem tl16_step (f : Nat → Int) (a : Int) (m : Nat) : tl16 f a (m + 1) = tl16 f a m + (if a ≤ m then f m else 0) := rfl
theorem od_part {l : Int} (h0 : 0 ≤ l) (h1 : l ≤ 65536) (n : Nat) (a : Int) (m : Nat) : 0 ≤ tl16 (od l n) a m ∧ tl16 (od l n) a m ≤ 65536 := by
  have h := fun i => od_lo h0 h1 n i
  have x := tl16_all h a m
  have y := od_sum h0 h1 n m
  exact ⟨tl16_lo h a m, by omega⟩
theorem odds16_none {s n l : Int} (h : s < 0 ∨ 32 < s ∨ s < n) : odds16 s n l = 0 := by unfold odds16; rw [if_pos h]
theorem odds16_some {s n l : Int} (h0 : 0 ≤ s) (h1 : s ≤ 32) (h2 : n ≤ s) : odds16 s n l = tl16 (od (held16 l 65536) s.toNat) n 33 := by unfold odds16; rw [if_neg (by omega)]
set_option maxRecDepth 100000 in
set_option maxHeartbeats 1000000 in
theorem odds_any (s n l : Int) (w : World) :
    Calls Try.prog 13 #[.int .i64 s, .int .i64 n, .int .i64 l] w fun e w' => e = .returned (.int .i64 (odds16 s n l)) ∧ Below w.heap.size w w' := by
  by_cases h0 : s < 0
  · rw [odds16_none (.inl h0)]
    go_enter Try.func13, Try.ntmps13
    go_wp2
    go_ret
    exact ⟨rfl, Below.refl _ _⟩
  by_cases h1 : 32 < s
  · rw [odds16_none (.inr (.inl h1))]
    go_enter Try.func13, Try.ntmps13
    go_wp2
    go_ret
    exact ⟨rfl, Below.refl _ _⟩
  by_cases h2 : s < n
  · rw [odds16_none (.inr (.inr h2))]
    go_enter Try.func13, Try.ntmps13
    go_wp2
    go_ret
    exact ⟨rfl, Below.refl _ _⟩
  rw [odds16_some (by omega) (by omega) (by omega)]
  obtain ⟨S, rfl⟩ : ∃ S : Nat, s = (S : Int) := ⟨s.toNat, by omega⟩
  rw [Int.toNat_natCast]
  have CH := Lib.hid (fun w => held_any l 65536 w)
  have hl := held16_lo l (show (0 : Int) ≤ 65536 by omega)
  generalize held16 l 65536 = lo at *
  have zz := zero33
  have CA : Hid (∀ j, j < 32 → ∀ w', Calls Try.prog 18 #[.agg (rowOf 33 (iv (od lo j))), .int .i64 lo] w' fun e w1 => e = .returned (.agg (rowOf 33 (iv (od lo (j + 1))))) ∧ Below w'.heap.size w' w1) := Lib.hid (fun j hj w' => by
    have e : rowOf 33 (iv (od lo (j + 1))) = rowOf 33 (iv (nx (od lo j) lo)) := rowOf_congr (fun i hi => by show Value.int .i64 _ = Value.int .i64 _; rw [nx_od j hj i hi])
    rw [e]
    exact after_any (od lo j) (fun i => ⟨od_lo hl.1 hl.2 j i, od_le hl.1 hl.2 j i⟩) lo hl.1 hl.2 w')
  have HS : Hid (S ≤ 32) := Lib.hid (by omega)
  have HP := Lib.hid (fun a m => od_part hl.1 hl.2 S a m)
  have HLO := Lib.hid hl
  have HN1 := Lib.hid (show n ≤ (S : Int) by omega)
  have I33 := Lib.hid info33
  have H0 : Hid (rowOf 33 (iv (od lo 0)) = (rowOf 33 (iv fun _ => 0)).setIfInBounds 0 (.int .i64 65536)) := Lib.hid (by
    rw [rowOf_set]
    exact rowOf_congr (fun i _ => by
      show Value.int .i64 (od lo 0 i) = _
      unfold od iv
      by_cases e : i = 0
      · rw [if_pos e, if_pos e]
      · rw [if_neg e, if_neg e]))
  clear hl
  go_enter Try.func13, Try.ntmps13
  go_upto_region 4 with (first
    | (go_at_call 15; (with_reducible refine (CH.out _).mono ?_); rintro e w1 ⟨rfl, rfl⟩)
    | fail)
  have HR0 : Hid (∀ w' : World, (w'.alloc (.cells (rowOf 33 (iv fun _ => 0)) 42)).rowIs w'.heap.size 42 33 (iv fun _ => 0)) := Lib.hid (fun w' => rowIs_new w' 33 (iv fun _ => 0) 42)
  have HON : Hid (∀ f : Nat → Int, ∀ i, (iv f i).oneCell' = true) := Lib.hid (fun f i => iv_one f i)
  go_upto_region 5 with (first
    | (with_reducible refine wpList_store_rowIs rfl 42 (.tmp 7) (.tmp 24) rfl w.heap.size rfl 33 (iv (od lo 0)) (by with_unfolding_all exact congrArg Value.agg H0.out.symm) 42 (iv fun _ => 0) (HR0.out w) I33.out (HON.out _) ?_; intro w2 G1 G2 G3 G4)
    | fail)
  have HB2 : Hid (Below w.heap.size w w2) := Lib.hid (((Below.refl _ _).alloc (Nat.le_refl _) _).trans (G3.out.mono (Nat.le_refl _)))
  clear G2 G3 G4 HR0 H0
  obtain ⟨B, hB⟩ : ∃ B, B = w.heap.size := ⟨_, rfl⟩
  rw [← hB] at HB2 G1 ⊢
  have HBE := Lib.hid hB
  clear hB CH
  go_wp2
  go_loopw [26] (fun s26 wr => ∃ j : Nat, j ≤ S ∧ s26 = .int .i64 (j : Int) ∧ Hid (Row33 wr B (od lo j)) ∧ Hid (Below B w wr)) (fun s26 _ => S - (intOf s26).toNat)
  case atStart => exact ⟨0, Nat.zero_le _, rfl, G1, HB2⟩
  case round =>
    obtain ⟨j, hj, rfl, HR, HBR⟩ := hrel
    clear G1 HB2
    have k0 : (0 : Int) ≤ (j : Int) := by omega
    by_cases hlt : j < S
    · have k1 : (j : Int) < (S : Int) := by omega
      have k2 : (j : Int) ≤ 32 := by omega
      have CJ := Lib.hid (fun w' => CA.out j (by omega) w')
      have HI : Hid (j + 1 ≤ S) := Lib.hid hlt
      have HDM : Hid (S - (j + 1) < S - j) := Lib.hid (by omega)
      obtain ⟨V, hV⟩ : ∃ V, V = rowOf 33 (iv (od lo j)) := ⟨_, rfl⟩
      clear hlt hj CA
      go_wp2_with (first
        | (with_reducible refine wpList_load_rowIs rfl 42 (.tmp 7) rfl B rfl 42 33 (iv (od lo j)) HR.out _ Try.underlying42 rfl I33.out ?_)
        | (go_at_call 18; (with_reducible refine (CJ.out _).mono ?_); rintro e w3 ⟨rfl, hb3⟩; have HB3 := Lib.hid hb3; clear hb3)
        | (with_reducible refine wpList_store_rowIs rfl 42 (.tmp 7) (.tmp 30) rfl B rfl 33 (iv (od lo (j + 1))) rfl 42 (iv (od lo j)) (HR.out.of_block (HB3.out.block _ HR.out.lt)) I33.out (HON.out _) ?_; intro w4 G1 G2 G3 G4)
        | fail)
      go_roundw
      case rel => exact ⟨j + 1, HI.out, by go_num, G1, Lib.hid ((HBR.out.trans (HB3.out.mono (Nat.le_of_lt HR.out.lt))).trans (G3.out.mono (Nat.le_refl _)))⟩
      case measure => have := HDM.out; simp [intOf] <;> omega
    · obtain rfl : j = S := by omega
      clear hlt hj CA
      obtain ⟨nd, hnd⟩ : ∃ nd : Nat, (nd : Int) = (if n < 0 then 0 else n) := ⟨(if n < 0 then 0 else n).toNat, by split <;> omega⟩
      have hn1 := HN1.out
      have hs1 := HS.out
      have nd1 : nd ≤ 32 := by split at hnd <;> omega
      have HTN : Hid (tl16 (od lo j) n 33 = tl16 (od lo j) nd 33) := Lib.hid (by
        rw [hnd]
        split
        · exact tl16_neg _ (by omega) 33
        · rfl)
      have HST : Hid (tl16 (od lo j) nd nd = 0) := Lib.hid (tl16_below _ _ nd (Int.le_refl _))
      have HSS : Hid (∀ i : Nat, tl16 (od lo j) nd (nd + i + 1) = tl16 (od lo j) nd (nd + i) + od lo j (nd + i)) := Lib.hid (fun i => by rw [tl16_step, if_pos (by omega)])
      obtain ⟨m, hm⟩ : ∃ m : Nat, m = 33 - nd := ⟨_, rfl⟩
      have hm1 : nd + m = 33 := by omega
      have HM := Lib.hid hm1
      have hpart : (n < 0 ∧ nd = 0) ∨ (¬ n < 0 ∧ n = (nd : Int)) := by split at hnd <;> omega
      clear hnd hn1
      go_upto_region 10 with fail
      go_cut [34, 35, 36] (fun s34 s35 s36 wx => s34 = .slice (some ⟨B, nd, none⟩) m m ∧ s35 = .int .i64 (m : Int) ∧ s36 = .int .i64 0 ∧ Hid (wx = wr))
      case first =>
        rcases hpart with ⟨hx, rfl⟩ | ⟨hx, rfl⟩
        · obtain rfl : m = 33 := by omega
          clear hm hm1 HST HSS HTN nd1 h2
          go_wp2
          go_meet
          exact ⟨rfl, rfl, rfl, Lib.hid rfl⟩
        · have e1 : 33 - nd = m := by omega
          have n1 : (nd : Int) ≤ 33 := by omega
          have n2 : (0 : Int) ≤ (nd : Int) := by omega
          have n3 : nd ≤ 33 := by omega
          have n4 : ¬ 33 = nd := by omega
          clear hm hm1 HST HSS HTN nd1 h2
          go_wp2
          go_meet
          exact ⟨rfl, rfl, rfl, Lib.hid rfl⟩
      case rest =>
        obtain ⟨rfl, rfl, rfl, HWC⟩ := hcut
        obtain rfl := HWC.out
        clear hpart hm hm1 HWC
        have HS0 : Hid (0 = tl16 (od lo j) nd (nd + 0)) := Lib.hid (by rw [Nat.add_zero, HST.out])
        have m1 : (m : Int) ≤ 33 := by have := HM.out; omega
        go_wp2
        go_loopw [36, 8] (fun s36 s8 wr => ∃ i : Nat, i ≤ m ∧ s36 = .int .i64 (i : Int) ∧ s8 = .int .i64 (tl16 (od lo j) nd (nd + i)) ∧ Hid (wr = wc)) (fun s36 _ _ => m - (intOf s36).toNat)
        case atStart => exact ⟨0, Nat.zero_le _, rfl, by rw [← HS0.out], Lib.hid rfl⟩
        case round =>
          obtain ⟨i, hi, rfl, rfl, HW⟩ := hrel
          obtain rfl := HW.out
          have q0 : (0 : Int) ≤ (i : Int) := by omega
          have q3 : (i : Int) ≤ 33 := by omega
          by_cases hlt : i < m
          · have q1 : (i : Int) < (m : Int) := by omega
            have q2 : nd + i < 33 := by have := HM.out; omega
            have c0 : wr.cell? ⟨B, nd + i, none⟩ = some (.int .i64 (od lo j (nd + i))) := HR.out.cell q2
            obtain ⟨x0, x1⟩ := HP.out nd (nd + i)
            obtain ⟨y0, y1⟩ := HP.out nd (nd + i + 1)
            have HSI := Lib.hid (HSS.out i)
            have HI : Hid (i + 1 ≤ m) := Lib.hid hlt
            have HDM : Hid (m - (i + 1) < m - i) := Lib.hid (by omega)
            have z0 : -9223372036854775808 ≤ tl16 (od lo j) nd (nd + i) + od lo j (nd + i) ∧ tl16 (od lo j) nd (nd + i) + od lo j (nd + i) ≤ 9223372036854775807 := by rw [← HSI.out]; omega
            have w1 : IntKind.i64.wrap (tl16 (od lo j) nd (nd + i) + od lo j (nd + i)) = tl16 (od lo j) nd (nd + i) + od lo j (nd + i) := by rw [IntKind.wrap_i64]; omega
            have HSI2 : Hid (∀ x y, x = tl16 (od lo j) nd (nd + i) → y = od lo j (nd + i) → x + y = tl16 (od lo j) nd (nd + (i + 1))) := Lib.hid (fun x y hx hy => by rw [hx, hy, ← HSI.out]; rfl)
            obtain ⟨x, hx⟩ : ∃ x, x = tl16 (od lo j) nd (nd + i) := ⟨_, rfl⟩
            obtain ⟨y, hy⟩ : ∃ y, y = od lo j (nd + i) := ⟨_, rfl⟩
            have HS2 := Lib.hid (HSI2.out x y hx hy)
            rw [← hx, ← hy] at w1
            rw [← hy] at c0
            rw [← hx]
            clear hx hy HSI HSI2 z0 x0 x1 y0 y1 HS0 hi hlt
            go_wp2
            go_roundw
            case rel => exact ⟨i + 1, HI.out, by go_num, by rw [← HS2.out], Lib.hid trivial⟩
            case measure => have := HDM.out; simp [intOf] <;> omega
          · obtain rfl : i = m := by omega
            have HTE : Hid (tl16 (od lo j) nd (nd + i) = tl16 (od lo j) n 33) := Lib.hid (by rw [HTN.out, HM.out])
            clear hlt hi
            go_wp2
            go_ret
            exact ⟨ret_int HTE.out, by rw [← HBE.out]; exact HBR.out⟩
end Go.Proofs.Ytldhlknmabpanaa
