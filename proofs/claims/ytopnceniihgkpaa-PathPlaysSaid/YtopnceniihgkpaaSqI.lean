/-
  Own text: the document's Take, walked: the way with a loop.
-/
import Derived.Test.YtopnceniihgkpaaSqH
namespace Go.Proofs.Ytopnceniihgkpaa
open Go.RowKit

theorem wpList_index28i {w : World} {ops : Array Oper} {rest : List Oper} {o : Oper} {a : Act} {Q : Exit → Act → World → Prop} (hgd : o.guard = none) (x y : Operand) (ho : o.op = .indexAddr 33 x y)
    (b off i p : Nat) (I : Int) (hx : a.eval x = .pointer (some ⟨b, off, none⟩)) (hy : a.eval y = .int .i64 I) (hI : I = (i : Int)) (hi : i < 64) (hp : off + i = p)
    (h : wpList Try.prog ops Q rest (a.put o.dst (.pointer (some ⟨b, p, none⟩))) w) : wpList Try.prog ops Q (o :: rest) a w := by
  subst hI hp
  exact wpList_index28 hgd x y ho b off i hx hy hi h
/-- The marks that have been moved, behind so many rounds. -/
def gMark (m : Nat → Bool) (k j i : Nat) : Value := .bool (decide (k ≤ i) && decide (i - k < j) && m (i - k))
/-- How many have gone out, behind so many rounds. -/
def gLost (m : Nat → Bool) (k j : Nat) : Nat := cnt (fun i => decide (64 ≤ i + k) && !m i) j
theorem gLost_le (m : Nat → Bool) (k j : Nat) : gLost m k j ≤ j := cnt_le _ _
theorem gMark_in (m : Nat → Bool) (k j i : Nat) : (if i = j + k then Value.bool (m j) else gMark m k j i) = gMark m k (j + 1) i := by
  unfold gMark
  by_cases h : i = j + k
  · subst h
    rw [if_pos rfl, show j + k - k = j by omega]
    simp
  · rw [if_neg h]
    by_cases h1 : k ≤ i
    · have : (i - k < j) = (i - k < j + 1) := by apply propext; omega
      simp only [this]
    · simp [h1]
theorem gMark_out (m : Nat → Bool) (k j i : Nat) (h : 64 ≤ j + k) (hi : i < 64) : gMark m k j i = gMark m k (j + 1) i := by
  rw [← gMark_in, if_neg (by omega)]
theorem gLost_in (m : Nat → Bool) (k j : Nat) (h : ¬ 64 ≤ j + k) : gLost m k (j + 1) = gLost m k j := by
  show gLost m k j + _ = _
  simp [h]
theorem gLost_not (m : Nat → Bool) (k j : Nat) (h : m j = true) : gLost m k (j + 1) = gLost m k j := by
  show gLost m k j + _ = _
  simp [h]
theorem gLost_out (m : Nat → Bool) (k j : Nat) (h : 64 ≤ j + k) (hm : m j = false) : gLost m k (j + 1) = gLost m k j + 1 := by
  show gLost m k j + _ = _
  simp [h, hm]
theorem dcl_lost (any : Bool) (top : Nat) (m : Nat → Bool) (came twice a b i : Nat) (v : Value) (hv : v = .int .i64 b) (hi : i < 69) : (if i = 68 then v else dcl any top m came twice a i) = dcl any top m came twice b i := by
  subst hv
  by_cases h : i = 68
  · subst h; rfl
  · rw [if_neg h]
    unfold dcl
    rcases (by omega : i < 66 ∨ i = 66 ∨ i = 67) with h1 | rfl | rfl
    · simp only [h1, if_true]
    · rfl
    · rfl
theorem rowOf_getD (n : Nat) (f : Nat → Value) (i : Nat) (d : Value) : (rowOf n f).toList.getD i d = if i < n then f i else d := by
  rw [List.getD_eq_getElem?_getD, Array.getElem?_toList]
  by_cases h : i < n
  · rw [rowOf_get n f i h, if_pos h]
    rfl
  · rw [Array.getElem?_eq_none (by rw [rowOf_size]; omega), if_neg h]
    rfl
theorem moved_cell (top n came twice q : Nat) (mk fb : Nat → Bool) (fm : Nat → Value) (hf : ∀ i, fm i = .bool (fb i)) (i : Nat) (hi : i < 69) :
    (if i = 66 then Value.int .i64 ((came : Int) + 1) else if i = 1 then Value.int .u32 n else if 2 ≤ i then (rowOf 64 fm).toList.getD (i - 2) (dcl true top mk came twice q i) else dcl true top mk came twice q i) = dcl true n fb (came + 1) twice q i := by
  rw [rowOf_getD]
  rcases (by omega : i = 0 ∨ i = 1 ∨ (2 ≤ i ∧ i < 66) ∨ i = 66 ∨ i = 67 ∨ i = 68) with rfl | rfl | h | rfl | rfl | rfl
  · rfl
  · rfl
  · have a0 : ¬ i = 0 := by omega
    have a1 : ¬ i = 1 := by omega
    have a66 : ¬ i = 66 := by omega
    have a2 : i - 2 < 64 := by omega
    simp only [dcl, a0, a1, a66, a2, h.1, h.2, if_true, if_false, hf]
  · rfl
  · rfl
  · rfl
set_option maxRecDepth 100000 in
theorem rtake_loop (top : Nat) (mk : Nat → Bool) (came twice lost n k : Nat) (hn : n < 4294967296) (ht : top < 4294967296) (ho : beh n top = k) (hk : 0 < k) (hk2 : k < 2147483648) (hl : came ≤ 1000000) (hl2 : lost ≤ 4294967296 * 1000000) (w : World) :
    Calls Try.prog 27 #[.agg (rowOf 69 (dcl true top mk came twice lost)), .int .u32 n] w fun e w' => ∃ f : Nat → Bool, e = .returned (.tuple #[.agg (rowOf 69 (dcl true n f (came + 1) twice (lost + gLost mk k 64 + (k - 64)))), .int .i64 0]) ∧ Hid (∀ i, i < 64 → Value.bool (f i) = if i = 0 then Value.bool true else gMark mk k 64 i) ∧ Below w.heap.size w w' := by
  have cb := srbehind_any n top hn ht
  rw [ho] at cb
  have CB := Lib.hid cb
  clear cb ho hn
  have zz := zero28
  have z := zero30
  have H0 : DRow ((w.alloc (.cells (rowOf 69 (dcl true top mk came twice lost)) 35)).alloc (.cells (rowOf 69 Sn.zero.dc) 35)) w.heap.size (dcl true top mk came twice lost) := (rowIs_new w 69 (dcl true top mk came twice lost) 35).alloc _
  have H1 : DRow ((w.alloc (.cells (rowOf 69 (dcl true top mk came twice lost)) 35)).alloc (.cells (rowOf 69 Sn.zero.dc) 35)) (w.heap.size + 1) Sn.zero.dc := by
    have := rowIs_new (w.alloc (.cells (rowOf 69 (dcl true top mk came twice lost)) 35)) 69 Sn.zero.dc 35
    simpa using this
  have H2 : Below w.heap.size w ((w.alloc (.cells (rowOf 69 (dcl true top mk came twice lost)) 35)).alloc (.cells (rowOf 69 Sn.zero.dc) 35)) := ((Below.refl _ _).alloc (Nat.le_refl _) _).alloc (by simp) _
  generalize rowOf 69 Sn.zero.dc = Z at *
  generalize hR : rowOf 69 (dcl true top mk came twice lost) = R at *
  have HR := Lib.hid hR
  clear hR
  have HH0 := Lib.hid H0
  have HH1 := Lib.hid H1
  have HH2 := Lib.hid H2
  clear H0 H1 H2
  go_enter Try.func27, Try.ntmps27
  go_upto_region 1 with fail
  generalize ((w.alloc (.cells R 35)).alloc (.cells Z 35)) = W at *
  clear z
  have c0 : W.cell? ⟨w.heap.size, 0, none⟩ = some (.bool true) := by rw [HH0.out.cell (i := 0) (by omega)]; rfl
  have c1 : W.cell? ⟨w.heap.size, 1, none⟩ = some (.int .u32 top) := HH0.out.cell (i := 1) (by omega)
  have hk3 : ¬ k = 0 := by omega
  go_upto_region 18 with (go_at_call 43; refine (CB.out _).mono ?_; rintro e w1 ⟨rfl, rfl⟩)
  have A0 : DRow (W.alloc (.cells (rowOf 64 fun _ => .bool false) 33)) w.heap.size (dcl true top mk came twice (lost + gLost mk k 0)) := HH0.out.alloc _
  have A1 : DRow (W.alloc (.cells (rowOf 64 fun _ => .bool false) 33)) (w.heap.size + 1) Sn.zero.dc := HH1.out.alloc _
  have A2 : Below w.heap.size w (W.alloc (.cells (rowOf 64 fun _ => .bool false) 33)) := HH2.out.alloc HH2.out.size _
  have A3 : (W.alloc (.cells (rowOf 64 fun _ => .bool false) 33)).rowIs W.heap.size 33 64 (gMark mk k 0) := (rowIs_new W 64 (fun _ => .bool false) 33).congr (fun i _ => by simp [gMark])
  have hm1 : w.heap.size + 1 < W.heap.size := HH1.out.lt
  obtain ⟨m, hm⟩ : ∃ m, m = W.heap.size := ⟨_, rfl⟩
  rw [← hm] at hm1 A3 ⊢
  have B0 := Lib.hid A0
  have B1 := Lib.hid A1
  have B2 := Lib.hid A2
  have B3 := Lib.hid A3
  clear A0 A1 A2 A3 hm c0 c1 zz HH0 HH1 HH2
  generalize (W.alloc (.cells (rowOf 64 fun _ => .bool false) 33)) = V at *
  go_loopw [9] (fun iv wr => ∃ j : Nat, j ≤ 64 ∧ iv = .int .i64 j ∧ Hid (DRow wr w.heap.size (dcl true top mk came twice (lost + gLost mk k j))) ∧ Hid (DRow wr (w.heap.size + 1) Sn.zero.dc) ∧ Hid (Below w.heap.size w wr) ∧ Hid (wr.rowIs m 33 64 (gMark mk k j))) (fun iv _ => 64 - (intOf iv).toNat)
  case atStart => exact ⟨0, by omega, rfl, B0, B1, B2, B3⟩
  case round =>
    clear B0 B1 B2 B3
    obtain ⟨j, hj, rfl, D0, D1, D2, D3⟩ := hrel
    have k0 : (0 : Int) ≤ j := by omega
    have hjb : IntKind.i64.wrap ((j : Int) + k) = (j : Int) + k := by rw [IntKind.wrap_i64]; omega
    by_cases hlt : j < 64
    · have k1 : (j : Int) < 64 := by omega
      have cj : wr.cell? ⟨w.heap.size, 2 + j, none⟩ = some (.bool (mk j)) := by rw [D0.out.cell (i := 2 + j) (by omega)]; exact congrArg some (dcl_mark _ _ _ _ _ _ _ hlt)
      by_cases hin : j + k < 64
      · have hin2 : (j : Int) + k < 64 := by omega
        have cm : wr.cell? ⟨m, j + k, none⟩ = some (gMark mk k j (j + k)) := D3.out.cell (i := j + k) hin
        have fm := D3.out.frozen (j + k)
        obtain ⟨v, hv⟩ : ∃ v, v = mk j := ⟨_, rfl⟩
        rw [← hv] at cj
        have HV := Lib.hid hv
        have HI := Lib.hid hin
        have HL := Lib.hid hlt
        clear hv
        go_wp2_with (first
          | (with_reducible refine wpList_index28i rfl (.tmp 60) (.tmp 59) rfl w.heap.size 2 j (2 + j) (j : Int) rfl rfl rfl HL.out rfl ?_)
          | (with_reducible refine wpList_index28i rfl (.tmp 8) (.tmp 58) rfl m 0 (j + k) (j + k) ((j : Int) + k) rfl rfl (by simp) HI.out (by simp) ?_))
        go_roundw
        case rel =>
          refine ⟨j + 1, by omega, by go_num, Lib.hid ?_, Lib.hid ?_, Lib.hid ?_, Lib.hid ?_⟩
          · rw [gLost_in mk k j (by have := HI.out; omega)]
            exact D0.out.setOther (a := ⟨m, j + k, none⟩) (by show _ ≠ m; omega) _
          · exact D1.out.setOther (a := ⟨m, j + k, none⟩) (by show _ ≠ m; omega) _
          · exact D2.out.setCell (p := ⟨m, j + k, none⟩) (by show _ ≤ m; omega) _
          · rw [HV.out]
            exact (D3.out.set (j + k) _).congr (fun i _ => gMark_in mk k j i)
        case measure => simp [intOf]; omega
      · have hin2 : ¬ (j : Int) + k < 64 := by omega
        have HI : Hid (64 ≤ j + k) := Lib.hid (by omega)
        have HL := Lib.hid hlt
        cases hb : mk j
        · rw [hb] at cj
          have HB := Lib.hid hb
          have c68 : wr.cell? ⟨w.heap.size, 68, none⟩ = some (.int .i64 ((lost + gLost mk k j : Nat) : Int)) := D0.out.cell (i := 68) (by omega)
          have f68 := D0.out.frozen 68
          have hg := gLost_le mk k j
          obtain ⟨q, hq⟩ : ∃ q, q = lost + gLost mk k j := ⟨_, rfl⟩
          rw [← hq] at c68
          have hqb : q ≤ 4294967296 * 1000001 := by omega
          have HQ := Lib.hid hq
          clear hb hq hg
          go_wp2_with (with_reducible refine wpList_index28i rfl (.tmp 65) (.tmp 64) rfl w.heap.size 2 j (2 + j) (j : Int) rfl rfl rfl HL.out rfl ?_)
          go_roundw
          case rel =>
            refine ⟨j + 1, by omega, by go_num, Lib.hid ?_, Lib.hid ?_, Lib.hid ?_, Lib.hid ?_⟩
            · refine (D0.out.set 68 _).congr (fun i hi => dcl_lost _ _ _ _ _ _ _ _ _ ?_ hi)
              rw [gLost_out mk k j HI.out HB.out, ← Nat.add_assoc, ← HQ.out]
              simp
            · exact D1.out.setOther (a := ⟨w.heap.size, 68, none⟩) (by simp) _
            · exact D2.out.setCell (p := ⟨w.heap.size, 68, none⟩) (Nat.le_refl _) _
            · exact (D3.out.setOther (a := ⟨w.heap.size, 68, none⟩) (by show m ≠ w.heap.size; omega) _).congr (fun i hi => gMark_out mk k j i HI.out hi)
          case measure => simp [intOf]; omega
        · rw [hb] at cj
          have HB := Lib.hid hb
          clear hb
          go_wp2_with (with_reducible refine wpList_index28i rfl (.tmp 65) (.tmp 64) rfl w.heap.size 2 j (2 + j) (j : Int) rfl rfl rfl HL.out rfl ?_)
          go_roundw
          case rel =>
            refine ⟨j + 1, by omega, by go_num, Lib.hid ?_, D1, D2, Lib.hid ?_⟩
            · rw [gLost_not mk k j HB.out]
              exact D0.out
            · exact D3.out.congr (fun i hi => gMark_out mk k j i HI.out hi)
          case measure => simp [intOf]; omega
    · obtain rfl : j = 64 := by omega
      clear k0 hjb hlt hj
      have HK := Lib.hid hk
      obtain ⟨q, hq⟩ : ∃ q, q = lost + gLost mk k 64 := ⟨_, rfl⟩
      have hg := gLost_le mk k 64
      have hqb : q ≤ 4294967296 * 1000001 := by omega
      rw [← hq] at D0
      have HQ := Lib.hid hq
      clear hg hq
      have c68 : wr.cell? ⟨w.heap.size, 68, none⟩ = some (.int .i64 (q : Int)) := D0.out.cell (i := 68) (by omega)
      have f68 := D0.out.frozen 68
      have I30 := Lib.hid info30
      have I28 := Lib.hid info28
      by_cases h64 : k ≤ 64
      · have HQ2 : Hid (q = lost + gLost mk k 64 + (k - 64)) := Lib.hid (by have := HQ.out; omega)
        clear c68 f68 HQ
        have cm : wr.cell? ⟨m, 0, none⟩ = some (gMark mk k 64 0) := D3.out.cell (i := 0) (by omega)
        have fm := D3.out.frozen 0
        go_upto_region 27 with fail
        have X0 : DRow (wr.setCell ⟨m, 0, none⟩ (.bool true)) w.heap.size (dcl true top mk came twice q) := D0.out.setOther (a := ⟨m, 0, none⟩) (by show w.heap.size ≠ m; omega) _
        have X1 : DRow (wr.setCell ⟨m, 0, none⟩ (.bool true)) (w.heap.size + 1) Sn.zero.dc := D1.out.setOther (a := ⟨m, 0, none⟩) (by show w.heap.size + 1 ≠ m; omega) _
        have X2 : Below w.heap.size w (wr.setCell ⟨m, 0, none⟩ (.bool true)) := D2.out.setCell (p := ⟨m, 0, none⟩) (by show w.heap.size ≤ m; omega) _
        have X3 : (wr.setCell ⟨m, 0, none⟩ (.bool true)).rowIs m 33 64 (fun i => if i = 0 then Value.bool true else gMark mk k 64 i) := D3.out.set 0 (.bool true)
        have HX0 := Lib.hid X0
        have HX1 := Lib.hid X1
        have HX2 := Lib.hid X2
        have HX3 := Lib.hid X3
        clear X0 X1 X2 X3 D0 D1 D2 D3 cm fm
        generalize (wr.setCell ⟨m, 0, none⟩ (.bool true)) = ur at *
        obtain ⟨fb, hfb⟩ : ∃ fb : Nat → Bool, ∀ i, Value.bool (fb i) = if i = 0 then Value.bool true else gMark mk k 64 i := ⟨fun i => if i = 0 then true else (decide (k ≤ i) && decide (i - k < 64) && mk (i - k)), fun i => by by_cases h : i = 0 <;> simp [h, gMark]⟩
        have HFB := Lib.hid hfb
        have HM : Hid (∀ i, (if i = 0 then Value.bool true else gMark mk k 64 i).oneCell' = true) := Lib.hid (fun i => by rw [← hfb i]; rfl)
        have HX : Hid (ur.rowIs m 33 64 (fun i => if i = 0 then Value.bool true else gMark mk k 64 i)) := HX3
        obtain ⟨fm, hfm⟩ : ∃ fm : Nat → Value, fm = (fun i => if i = 0 then Value.bool true else gMark mk k 64 i) := ⟨_, rfl⟩
        have HM2 : Hid (∀ i, (fm i).oneCell' = true) := Lib.hid (fun i => by rw [hfm]; exact HM.out i)
        have HFM : Hid (∀ i, fm i = .bool (fb i)) := Lib.hid (fun i => by rw [hfb i, hfm])
        rw [← hfm] at HX
        clear hfm hfb HX3 HM
        have c66 : ur.cell? ⟨w.heap.size, 66, none⟩ = some (.int .i64 came) := HX0.out.cell (i := 66) (by omega)
        have HT : Hid (ur.there w.heap.size 2 (rowOf 64 fm).size) := Lib.hid (fun j hj => by
          rw [rowOf_size] at hj
          exact ⟨by rw [HX0.out.cell (i := 2 + j) (by omega)]; rfl, HX0.out.frozen _⟩)
        have HI2 : Hid ((Try.prog.info? 33).map (·.size) = some (rowOf 64 fm).size) := Lib.hid (by rw [rowOf_size]; exact info28)
        have HO : Hid ((rowOf 64 fm).all (·.oneCell') = true) := Lib.hid (rowOf_one HM2.out)
        have Z0 := rowIs_setCells (rowOf 64 fm).toList 2 ur _ HX0.out
        have z1 : (ur.setCells w.heap.size 2 (rowOf 64 fm).toList).cell? ⟨w.heap.size, 1, none⟩ = some (.int .u32 top) := Z0.cell (i := 1) (by omega)
        have z66 : ((ur.setCells w.heap.size 2 (rowOf 64 fm).toList)).cell? ⟨w.heap.size, 66, none⟩ = some (.int .i64 came) := by
          rw [Z0.cell (i := 66) (by omega), if_pos (by omega), List.getD_eq_getElem?_getD, List.getElem?_eq_none (by simp [rowOf])]
          rfl
        have y1 := Z0.frozen 1
        have y66 := Z0.frozen 66
        have HZ0 := Lib.hid Z0
        have HZ1 : Hid (DRow (ur.setCells w.heap.size 2 (rowOf 64 fm).toList) (w.heap.size + 1) Sn.zero.dc) := Lib.hid (HX1.out.of_block (setCells_other _ _ _ _ _ (by omega)))
        have HZ2 : Hid (Below w.heap.size w (ur.setCells w.heap.size 2 (rowOf 64 fm).toList)) := Lib.hid (setCells_below _ _ (Nat.le_refl _) _ _ _ _ HX2.out)
        clear Z0 HX0 HX1 HX2
        go_upto_region 28 with (first
          | (with_reducible refine wpList_load_rowIs rfl 33 (.tmp 8) rfl m rfl 33 64 fm HX.out _ Try.underlying33 rfl I28.out ?_)
          | (with_reducible refine wpList_store_mid rfl 33 (.tmp 87) (.tmp 82) rfl w.heap.size 2 (rowOf 64 fm) rfl rfl HT.out HI2.out HO.out ?_))
        have G0 : DRow (((ur.setCells w.heap.size 2 (rowOf 64 fm).toList).setCell ⟨w.heap.size, 1, none⟩ (.int .u32 n)).setCell ⟨w.heap.size, 66, none⟩ (.int .i64 ((came : Int) + 1))) w.heap.size (dcl true n fb (came + 1) twice q) := ((HZ0.out.set 1 _).set 66 _).congr (fun i hi => moved_cell top n came twice q mk fb fm HFM.out i hi)
        have G1 : DRow (((ur.setCells w.heap.size 2 (rowOf 64 fm).toList).setCell ⟨w.heap.size, 1, none⟩ (.int .u32 n)).setCell ⟨w.heap.size, 66, none⟩ (.int .i64 ((came : Int) + 1))) (w.heap.size + 1) Sn.zero.dc := (HZ1.out.setOther (a := ⟨w.heap.size, 1, none⟩) (by simp) _).setOther (a := ⟨w.heap.size, 66, none⟩) (by simp) _
        have G2 : Below w.heap.size w (((ur.setCells w.heap.size 2 (rowOf 64 fm).toList).setCell ⟨w.heap.size, 1, none⟩ (.int .u32 n)).setCell ⟨w.heap.size, 66, none⟩ (.int .i64 ((came : Int) + 1))) := (HZ2.out.setCell (p := ⟨w.heap.size, 1, none⟩) (Nat.le_refl _) _).setCell (p := ⟨w.heap.size, 66, none⟩) (Nat.le_refl _) _
        have GG0 := Lib.hid G0
        have GG1 := Lib.hid G1
        have GG2 := Lib.hid G2
        have HF := Lib.hid (dcl_one true n fb (came + 1) twice q)
        clear G0 G1 G2 HZ0 HZ1 HZ2 z1 z66 y1 y66 HX HT HI2 HO HM2 HFM c66
        generalize (((ur.setCells w.heap.size 2 (rowOf 64 fm).toList).setCell ⟨w.heap.size, 1, none⟩ (.int .u32 n)).setCell ⟨w.heap.size, 66, none⟩ (.int .i64 ((came : Int) + 1))) = xr at *
        go_wp2_with (first
          | (with_reducible refine wpList_load_rowIs rfl 35 (.tmp 2) rfl w.heap.size rfl 35 69 (dcl true n fb (came + 1) twice q) GG0.out _ Try.underlying35 rfl I30.out ?_)
          | (with_reducible refine wpList_store_rowIs rfl 35 (.tmp 4) (.tmp 90) rfl (w.heap.size + 1) rfl 69 (dcl true n fb (came + 1) twice q) rfl 35 Sn.zero.dc GG1.out I30.out HF.out ?_; intro W2 J1 J2 J3 J4))
        refine bodyPost_ret (v := .tuple #[.agg (rowOf 69 (dcl true n fb (came + 1) twice q)), .int .i64 0]) (results_row_tmp (p := 4) (u := 5) rfl _ W2 (w.heap.size + 1) 35 69 (dcl true n fb (came + 1) twice q) _ _ rfl rfl J1.out Try.underlying35 rfl I30.out) rfl ?_
        exact ⟨fb, by rw [← HQ2.out], Lib.hid (fun i _ => HFB.out i), GG2.out.trans (J3.out.mono (by omega))⟩
      · have hz : ((q : Int) + k) - 64 = ((q + (k - 64) : Nat) : Int) := by omega
        have HZ := Lib.hid hz
        clear hz
        go_upto_region 26 with fail
        have E0 : DRow (wr.setCell ⟨w.heap.size, 68, none⟩ (.int .i64 ((q : Int) + k - 64))) w.heap.size (dcl true top mk came twice (q + (k - 64))) := (D0.out.set 68 _).congr (fun i hi => dcl_lost _ _ _ _ _ _ _ _ _ (by rw [HZ.out]) hi)
        have E1 : DRow (wr.setCell ⟨w.heap.size, 68, none⟩ (.int .i64 ((q : Int) + k - 64))) (w.heap.size + 1) Sn.zero.dc := D1.out.setOther (a := ⟨w.heap.size, 68, none⟩) (by simp) _
        have E2 : Below w.heap.size w (wr.setCell ⟨w.heap.size, 68, none⟩ (.int .i64 ((q : Int) + k - 64))) := D2.out.setCell (p := ⟨w.heap.size, 68, none⟩) (Nat.le_refl _) _
        have E3 : (wr.setCell ⟨w.heap.size, 68, none⟩ (.int .i64 ((q : Int) + k - 64))).rowIs m 33 64 (gMark mk k 64) := D3.out.setOther (a := ⟨w.heap.size, 68, none⟩) (by show m ≠ w.heap.size; omega) _
        have HE0 := Lib.hid E0
        have HE1 := Lib.hid E1
        have HE2 := Lib.hid E2
        have HE3 := Lib.hid E3
        clear E0 E1 E2 E3 D0 D1 D2 D3 c68 f68
        generalize (wr.setCell ⟨w.heap.size, 68, none⟩ (.int .i64 ((q : Int) + k - 64))) = vr at *
        obtain ⟨q2, hq2⟩ : ∃ q2, q2 = q + (k - 64) := ⟨_, rfl⟩
        rw [← hq2] at HE0
        have HQ2 : Hid (q2 = lost + gLost mk k 64 + (k - 64)) := Lib.hid (by rw [hq2, HQ.out])
        clear HQ HZ hq2 hqb
        have cm : vr.cell? ⟨m, 0, none⟩ = some (gMark mk k 64 0) := HE3.out.cell (i := 0) (by omega)
        have fm := HE3.out.frozen 0
        go_upto_region 27 with fail
        have X0 : DRow (vr.setCell ⟨m, 0, none⟩ (.bool true)) w.heap.size (dcl true top mk came twice q2) := HE0.out.setOther (a := ⟨m, 0, none⟩) (by show w.heap.size ≠ m; omega) _
        have X1 : DRow (vr.setCell ⟨m, 0, none⟩ (.bool true)) (w.heap.size + 1) Sn.zero.dc := HE1.out.setOther (a := ⟨m, 0, none⟩) (by show w.heap.size + 1 ≠ m; omega) _
        have X2 : Below w.heap.size w (vr.setCell ⟨m, 0, none⟩ (.bool true)) := HE2.out.setCell (p := ⟨m, 0, none⟩) (by show w.heap.size ≤ m; omega) _
        have X3 : (vr.setCell ⟨m, 0, none⟩ (.bool true)).rowIs m 33 64 (fun i => if i = 0 then Value.bool true else gMark mk k 64 i) := HE3.out.set 0 (.bool true)
        have HX0 := Lib.hid X0
        have HX1 := Lib.hid X1
        have HX2 := Lib.hid X2
        have HX3 := Lib.hid X3
        clear X0 X1 X2 X3 HE0 HE1 HE2 HE3 cm fm
        generalize (vr.setCell ⟨m, 0, none⟩ (.bool true)) = ur at *
        obtain ⟨fb, hfb⟩ : ∃ fb : Nat → Bool, ∀ i, Value.bool (fb i) = if i = 0 then Value.bool true else gMark mk k 64 i := ⟨fun i => if i = 0 then true else (decide (k ≤ i) && decide (i - k < 64) && mk (i - k)), fun i => by by_cases h : i = 0 <;> simp [h, gMark]⟩
        have HFB := Lib.hid hfb
        have HM : Hid (∀ i, (if i = 0 then Value.bool true else gMark mk k 64 i).oneCell' = true) := Lib.hid (fun i => by rw [← hfb i]; rfl)
        have HX : Hid (ur.rowIs m 33 64 (fun i => if i = 0 then Value.bool true else gMark mk k 64 i)) := HX3
        obtain ⟨fm, hfm⟩ : ∃ fm : Nat → Value, fm = (fun i => if i = 0 then Value.bool true else gMark mk k 64 i) := ⟨_, rfl⟩
        have HM2 : Hid (∀ i, (fm i).oneCell' = true) := Lib.hid (fun i => by rw [hfm]; exact HM.out i)
        have HFM : Hid (∀ i, fm i = .bool (fb i)) := Lib.hid (fun i => by rw [hfb i, hfm])
        rw [← hfm] at HX
        clear hfm hfb HX3 HM
        have c66 : ur.cell? ⟨w.heap.size, 66, none⟩ = some (.int .i64 came) := HX0.out.cell (i := 66) (by omega)
        have HT : Hid (ur.there w.heap.size 2 (rowOf 64 fm).size) := Lib.hid (fun j hj => by
          rw [rowOf_size] at hj
          exact ⟨by rw [HX0.out.cell (i := 2 + j) (by omega)]; rfl, HX0.out.frozen _⟩)
        have HI2 : Hid ((Try.prog.info? 33).map (·.size) = some (rowOf 64 fm).size) := Lib.hid (by rw [rowOf_size]; exact info28)
        have HO : Hid ((rowOf 64 fm).all (·.oneCell') = true) := Lib.hid (rowOf_one HM2.out)
        have Z0 := rowIs_setCells (rowOf 64 fm).toList 2 ur _ HX0.out
        have z1 : (ur.setCells w.heap.size 2 (rowOf 64 fm).toList).cell? ⟨w.heap.size, 1, none⟩ = some (.int .u32 top) := Z0.cell (i := 1) (by omega)
        have z66 : ((ur.setCells w.heap.size 2 (rowOf 64 fm).toList)).cell? ⟨w.heap.size, 66, none⟩ = some (.int .i64 came) := by
          rw [Z0.cell (i := 66) (by omega), if_pos (by omega), List.getD_eq_getElem?_getD, List.getElem?_eq_none (by simp [rowOf])]
          rfl
        have y1 := Z0.frozen 1
        have y66 := Z0.frozen 66
        have HZ0 := Lib.hid Z0
        have HZ1 : Hid (DRow (ur.setCells w.heap.size 2 (rowOf 64 fm).toList) (w.heap.size + 1) Sn.zero.dc) := Lib.hid (HX1.out.of_block (setCells_other _ _ _ _ _ (by omega)))
        have HZ2 : Hid (Below w.heap.size w (ur.setCells w.heap.size 2 (rowOf 64 fm).toList)) := Lib.hid (setCells_below _ _ (Nat.le_refl _) _ _ _ _ HX2.out)
        clear Z0 HX0 HX1 HX2
        go_upto_region 28 with (first
          | (with_reducible refine wpList_load_rowIs rfl 33 (.tmp 8) rfl m rfl 33 64 fm HX.out _ Try.underlying33 rfl I28.out ?_)
          | (with_reducible refine wpList_store_mid rfl 33 (.tmp 87) (.tmp 82) rfl w.heap.size 2 (rowOf 64 fm) rfl rfl HT.out HI2.out HO.out ?_))
        have G0 : DRow (((ur.setCells w.heap.size 2 (rowOf 64 fm).toList).setCell ⟨w.heap.size, 1, none⟩ (.int .u32 n)).setCell ⟨w.heap.size, 66, none⟩ (.int .i64 ((came : Int) + 1))) w.heap.size (dcl true n fb (came + 1) twice q2) := ((HZ0.out.set 1 _).set 66 _).congr (fun i hi => moved_cell top n came twice q2 mk fb fm HFM.out i hi)
        have G1 : DRow (((ur.setCells w.heap.size 2 (rowOf 64 fm).toList).setCell ⟨w.heap.size, 1, none⟩ (.int .u32 n)).setCell ⟨w.heap.size, 66, none⟩ (.int .i64 ((came : Int) + 1))) (w.heap.size + 1) Sn.zero.dc := (HZ1.out.setOther (a := ⟨w.heap.size, 1, none⟩) (by simp) _).setOther (a := ⟨w.heap.size, 66, none⟩) (by simp) _
        have G2 : Below w.heap.size w (((ur.setCells w.heap.size 2 (rowOf 64 fm).toList).setCell ⟨w.heap.size, 1, none⟩ (.int .u32 n)).setCell ⟨w.heap.size, 66, none⟩ (.int .i64 ((came : Int) + 1))) := (HZ2.out.setCell (p := ⟨w.heap.size, 1, none⟩) (Nat.le_refl _) _).setCell (p := ⟨w.heap.size, 66, none⟩) (Nat.le_refl _) _
        have GG0 := Lib.hid G0
        have GG1 := Lib.hid G1
        have GG2 := Lib.hid G2
        have HF := Lib.hid (dcl_one true n fb (came + 1) twice q2)
        clear G0 G1 G2 HZ0 HZ1 HZ2 z1 z66 y1 y66 HX HT HI2 HO HM2 HFM c66
        generalize (((ur.setCells w.heap.size 2 (rowOf 64 fm).toList).setCell ⟨w.heap.size, 1, none⟩ (.int .u32 n)).setCell ⟨w.heap.size, 66, none⟩ (.int .i64 ((came : Int) + 1))) = xr at *
        go_wp2_with (first
          | (with_reducible refine wpList_load_rowIs rfl 35 (.tmp 2) rfl w.heap.size rfl 35 69 (dcl true n fb (came + 1) twice q2) GG0.out _ Try.underlying35 rfl I30.out ?_)
          | (with_reducible refine wpList_store_rowIs rfl 35 (.tmp 4) (.tmp 90) rfl (w.heap.size + 1) rfl 69 (dcl true n fb (came + 1) twice q2) rfl 35 Sn.zero.dc GG1.out I30.out HF.out ?_; intro W2 J1 J2 J3 J4))
        refine bodyPost_ret (v := .tuple #[.agg (rowOf 69 (dcl true n fb (came + 1) twice q2)), .int .i64 0]) (results_row_tmp (p := 4) (u := 5) rfl _ W2 (w.heap.size + 1) 35 69 (dcl true n fb (came + 1) twice q2) _ _ rfl rfl J1.out Try.underlying35 rfl I30.out) rfl ?_
        exact ⟨fb, by rw [← HQ2.out], Lib.hid (fun i _ => HFB.out i), GG2.out.trans (J3.out.mono (by omega))⟩
end Go.Proofs.Ytopnceniihgkpaa
