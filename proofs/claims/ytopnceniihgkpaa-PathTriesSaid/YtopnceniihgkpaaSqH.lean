/-
  Own text: the document's Take, walked: the ways without a loop.
-/
import Derived.Test.YtopnceniihgkpaaSqG
namespace Go.Proofs.Ytopnceniihgkpaa
open Go.RowKit

theorem mid_mark (s : Sn) (d : Nat) (hd0 : d < 64) (i : Nat) : (if i = 66 then Value.int .i64 ((s.came : Int) + 1) else if i = 2 + d then Value.bool true else s.dc i) = ({ s with bts := s.bts ||| (1#64 <<< d), came := s.came + 1 } : Sn).dc i := by
  by_cases h : i = 66
  · subst h; rfl
  · rw [if_neg h]
    by_cases h2 : i = 2 + d
    · rw [if_pos h2, h2]
      refine ((dcl_mark _ _ _ _ _ _ _ hd0).trans (congrArg Value.bool ?_)).symm
      simp [hd0]
    · rw [if_neg h2]
      simp only [Sn.dc, dcl, h, if_false]
      by_cases h3 : i < 66
      · by_cases h4 : 2 ≤ i
        · have e : (s.bts ||| (1#64 <<< d)).getLsbD (i - 2) = s.bts.getLsbD (i - 2) := by
            have g : i - 2 < d ∨ i - 2 - d ≠ 0 := by omega
            rcases g with g | g
            · simp [g]
            · simp [g]
          rw [e]
        · have h5 : i = 0 ∨ i = 1 := by omega
          rcases h5 with rfl | rfl <;> rfl
      · simp only [h3, if_false]
theorem dc_mark (s : Sn) (d : Nat) (h : d < 64) : s.dc (2 + d) = .bool (s.bts.getLsbD d) := dcl_mark _ _ _ _ _ _ _ h
theorem wpList_index28 {w : World} {ops : Array Oper} {rest : List Oper} {o : Oper} {a : Act} {Q : Exit → Act → World → Prop} (hgd : o.guard = none) (x y : Operand) (ho : o.op = .indexAddr 33 x y)
    (b off i : Nat) (hx : a.eval x = .pointer (some ⟨b, off, none⟩)) (hy : a.eval y = .int .i64 (i : Int)) (hi : i < 64)
    (h : wpList Try.prog ops Q rest (a.put o.dst (.pointer (some ⟨b, off + i, none⟩))) w) : wpList Try.prog ops Q (o :: rest) a w :=
  wpList_plain hgd fun _ hK => by
    unfold Oper.wp execOp
    have e : (Instr.indexAt 33 (.pointer (some ⟨b, off, none⟩)) (.int .i64 (i : Int))).run Try.prog w = .ok (.pointer (some ⟨b, off + i, none⟩)) w := by
      have h1 : Try.prog.underlying 33 = some (.array (Try.prog.arrayLen 33) (Try.prog.elem 33)) := by kernel_rfl
      rw [run_indexAt_array (h := h1)]
      have hl : Try.prog.arrayLen 33 = 64 := by kernel_rfl
      have hs : (sizeOf (Try.prog.elem 33)).run Try.prog w = .ok 1 w := by kernel_rfl
      rw [hl, if_pos ⟨by omega, by omega⟩, hs]
      simp only [Result.andThen_ok, Int.toNat_natCast, Nat.mul_one, Addr.add_mid]
    simp only [ho, hx, hy, Sem.run_bind, e, Result.andThen_ok, Sem.run_pure]
    exact hK _ _ h
theorem wpList_neg {w : World} {ops : Array Oper} {rest : List Oper} {o : Oper} {a : Act} {Q : Exit → Act → World → Prop} (hgd : o.guard = none) (ty : TypeId) (x : Operand) (ho : o.op = .unOp .neg ty x)
    (n m : Int) (hx : a.eval x = .int .i64 n) (hm : IntKind.i64.wrap (0 - n) = m)
    (h : wpList Try.prog ops Q rest (a.put o.dst (.int .i64 m)) w) : wpList Try.prog ops Q (o :: rest) a w :=
  wpList_plain hgd fun _ hK => by
    unfold Oper.wp execOp
    have e : Op.unary .neg (.int .i64 n) = (pure (.int .i64 m) : Sem Value) := by rw [← hm]; rfl
    simp only [ho, hx, e]
    exact hK _ _ h
set_option maxRecDepth 100000 in
theorem rtake_old (s : Sn) (n : Nat) (hs : s.any = true) (hn : n < 4294967296) (ht : s.top < 4294967296) (ho : beh n s.top ≤ -64) (w : World) :
    Calls Try.prog 27 #[.agg (rowOf 69 s.dc), .int .u32 n] w fun e w' => e = .returned (.tuple #[.agg (rowOf 69 s.dc), .int .i64 90]) ∧ Below w.heap.size w w' := by
  have CB := Lib.hid (srbehind_any n s.top hn ht)
  have HF : Hid (∀ i, (s.dc i).oneCell' = true) := Lib.hid (dcl_one _ _ _ _ _ _)
  generalize beh n s.top = by_ at *
  obtain ⟨f, hf⟩ : ∃ f, f = s.dc := ⟨_, rfl⟩
  have hc1 : f 1 = .int .u32 s.top := by rw [hf]; rfl
  have hc0 : f 0 = .bool true := by rw [hf, ← hs]; rfl
  rw [← hf] at HF ⊢
  clear hf
  have z := zero30
  have H0 : DRow ((w.alloc (.cells (rowOf 69 f) 35)).alloc (.cells (rowOf 69 Sn.zero.dc) 35)) w.heap.size f := (rowIs_new w 69 f 35).alloc _
  have H1 : DRow ((w.alloc (.cells (rowOf 69 f) 35)).alloc (.cells (rowOf 69 Sn.zero.dc) 35)) (w.heap.size + 1) Sn.zero.dc := by
    have := rowIs_new (w.alloc (.cells (rowOf 69 f) 35)) 69 Sn.zero.dc 35
    simpa using this
  have H2 : Below w.heap.size w ((w.alloc (.cells (rowOf 69 f) 35)).alloc (.cells (rowOf 69 Sn.zero.dc) 35)) := ((Below.refl _ _).alloc (Nat.le_refl _) _).alloc (by simp) _
  generalize rowOf 69 Sn.zero.dc = Z at *
  generalize hR : rowOf 69 f = R at *
  have HR := Lib.hid hR
  clear hR
  have HH0 := Lib.hid H0
  have HH1 := Lib.hid H1
  have HH2 := Lib.hid H2
  clear H0 H1 H2
  go_enter Try.func27, Try.ntmps27
  go_upto_region 1 with fail
  generalize ((w.alloc (.cells R 35)).alloc (.cells Z 35)) = W at *
  clear z
  have c0 : W.cell? ⟨w.heap.size, 0, none⟩ = some (.bool true) := by rw [HH0.out.cell (i := 0) (by omega), hc0]
  have c1 : W.cell? ⟨w.heap.size, 1, none⟩ = some (.int .u32 s.top) := by rw [HH0.out.cell (i := 1) (by omega), hc1]
  clear hc0 hc1
  have I30 := Lib.hid info30
  go_wp2_with (first
    | (go_at_call 43; refine (CB.out _).mono ?_; rintro e w1 ⟨rfl, rfl⟩)
    | (with_reducible refine wpList_load_rowIs rfl 35 (.tmp 2) rfl w.heap.size rfl 35 69 f HH0.out _ Try.underlying35 rfl I30.out ?_)
    | (with_reducible refine wpList_store_rowIs rfl 35 (.tmp 4) (.tmp 26) rfl (w.heap.size + 1) rfl 69 f rfl 35 Sn.zero.dc HH1.out I30.out HF.out ?_; intro W2 G1 G2 G3 G4))
  refine bodyPost_ret (v := .tuple #[.agg (rowOf 69 f), .int .i64 90]) (results_row_tmp (p := 4) (u := 5) rfl _ W2 (w.heap.size + 1) 35 69 f _ _ rfl rfl G1.out Try.underlying35 rfl I30.out) rfl ?_
  exact ⟨by rw [HR.out], HH2.out.trans (G3.out.mono (by omega))⟩
set_option maxRecDepth 100000 in
theorem rtake_twice (s : Sn) (n : Nat) (hs : s.any = true) (hn : n < 4294967296) (ht : s.top < 4294967296) (ho : -64 < beh n s.top) (hy : beh n s.top ≤ 0) (hb : s.bts.getLsbD (dist s.top n) = true) (hl : s.twice ≤ 1000000) (w : World) :
    Calls Try.prog 27 #[.agg (rowOf 69 s.dc), .int .u32 n] w fun e w' => e = .returned (.tuple #[.agg (rowOf 69 ({ s with twice := s.twice + 1 } : Sn).dc), .int .i64 171]) ∧ Below w.heap.size w w' := by
  have cb := srbehind_any n s.top hn ht
  have hd := dist_old hn ht hy
  have hd0 : dist s.top n < 64 := by omega
  have hneg : -(beh n s.top) = (dist s.top n : Int) := by omega
  have CB := Lib.hid cb
  have HF : Hid (∀ i, (({ s with twice := s.twice + 1 } : Sn).dc i).oneCell' = true) := Lib.hid (dcl_one _ _ _ _ _ _)
  have HE : Hid (∀ i, i < 69 → (if i = 67 then Value.int .i64 ((s.twice : Int) + 1) else s.dc i) = ({ s with twice := s.twice + 1 } : Sn).dc i) := Lib.hid (fun i _ => by
    by_cases h : i = 67
    · subst h; rfl
    · rw [if_neg h]; simp only [Sn.dc, dcl, h, if_false])
  clear cb hd
  obtain ⟨f, hf⟩ : ∃ f, f = ({ s with twice := s.twice + 1 } : Sn).dc := ⟨_, rfl⟩
  rw [← hf] at HF HE ⊢
  clear hf
  have z := zero30
  have H0 : DRow ((w.alloc (.cells (rowOf 69 s.dc) 35)).alloc (.cells (rowOf 69 Sn.zero.dc) 35)) w.heap.size s.dc := (rowIs_new w 69 s.dc 35).alloc _
  have H1 : DRow ((w.alloc (.cells (rowOf 69 s.dc) 35)).alloc (.cells (rowOf 69 Sn.zero.dc) 35)) (w.heap.size + 1) Sn.zero.dc := by
    have := rowIs_new (w.alloc (.cells (rowOf 69 s.dc) 35)) 69 Sn.zero.dc 35
    simpa using this
  have H2 : Below w.heap.size w ((w.alloc (.cells (rowOf 69 s.dc) 35)).alloc (.cells (rowOf 69 Sn.zero.dc) 35)) := ((Below.refl _ _).alloc (Nat.le_refl _) _).alloc (by simp) _
  generalize rowOf 69 Sn.zero.dc = Z at *
  generalize hR : rowOf 69 s.dc = R at *
  have HR := Lib.hid hR
  clear hR
  have HH0 := Lib.hid H0
  have HH1 := Lib.hid H1
  have HH2 := Lib.hid H2
  clear H0 H1 H2
  go_enter Try.func27, Try.ntmps27
  go_upto_region 1 with fail
  generalize ((w.alloc (.cells R 35)).alloc (.cells Z 35)) = W at *
  clear z
  have c0 : W.cell? ⟨w.heap.size, 0, none⟩ = some (.bool true) := by rw [HH0.out.cell (i := 0) (by omega), ← hs]; rfl
  have c1 : W.cell? ⟨w.heap.size, 1, none⟩ = some (.int .u32 s.top) := HH0.out.cell (i := 1) (by omega)
  have c67 : W.cell? ⟨w.heap.size, 67, none⟩ = some (.int .i64 s.twice) := HH0.out.cell (i := 67) (by omega)
  have f67 := HH0.out.frozen 67
  have cd : W.cell? ⟨w.heap.size, 2 + dist s.top n, none⟩ = some (.bool (s.bts.getLsbD (dist s.top n))) := by rw [HH0.out.cell (i := 2 + dist s.top n) (by omega), dc_mark s _ hd0]
  have fd := HH0.out.frozen (2 + dist s.top n)
  rw [hb] at cd
  generalize dist s.top n = d at *
  generalize beh n s.top = by_ at *
  have k0 : (0 : Int) ≤ d := by omega
  have k1 : (d : Int) < 64 := by omega
  have HW : Hid (IntKind.i64.wrap (0 - by_) = (d : Int)) := Lib.hid (by rw [IntKind.wrap_i64]; omega)
  go_upto_region 12 with (first
    | (go_at_call 43; refine (CB.out _).mono ?_; rintro e w1 ⟨rfl, rfl⟩)
    | (with_reducible refine wpList_neg rfl _ (.tmp 29) rfl by_ d rfl HW.out ?_)
    | (with_reducible refine wpList_index28 rfl (.tmp 31) (.tmp 30) rfl w.heap.size 2 d rfl rfl (by omega) ?_)
    | (with_reducible refine wpList_neg rfl _ (.tmp 39) rfl by_ d rfl HW.out ?_)
    | (with_reducible refine wpList_index28 rfl (.tmp 41) (.tmp 40) rfl w.heap.size 2 d rfl rfl (by omega) ?_))
  have X0 : DRow (W.setCell ⟨w.heap.size, 67, none⟩ (.int .i64 ((s.twice : Int) + 1))) w.heap.size f := (HH0.out.set 67 (.int .i64 ((s.twice : Int) + 1))).congr (HE.out)
  have X1 : DRow (W.setCell ⟨w.heap.size, 67, none⟩ (.int .i64 ((s.twice : Int) + 1))) (w.heap.size + 1) Sn.zero.dc := HH1.out.setOther (a := ⟨w.heap.size, 67, none⟩) (by simp) _
  have X2 : Below w.heap.size w (W.setCell ⟨w.heap.size, 67, none⟩ (.int .i64 ((s.twice : Int) + 1))) := HH2.out.setCell (p := ⟨w.heap.size, 67, none⟩) (Nat.le_refl _) _
  have HX0 := Lib.hid X0
  have HX1 := Lib.hid X1
  have HX2 := Lib.hid X2
  clear X0 X1 X2
  generalize (W.setCell ⟨w.heap.size, 67, none⟩ (.int .i64 ((s.twice : Int) + 1))) = W1 at *
  have I30 := Lib.hid info30
  go_wp2_with (first
    | (go_at_call 43; refine (CB.out _).mono ?_; rintro e w1 ⟨rfl, rfl⟩)
    | (with_reducible refine wpList_load_rowIs rfl 35 (.tmp 2) rfl w.heap.size rfl 35 69 f HX0.out _ Try.underlying35 rfl I30.out ?_)
    | (with_reducible refine wpList_store_rowIs rfl 35 (.tmp 4) (.tmp 38) rfl (w.heap.size + 1) rfl 69 f rfl 35 Sn.zero.dc HX1.out I30.out HF.out ?_; intro W2 G1 G2 G3 G4))
  refine bodyPost_ret (v := .tuple #[.agg (rowOf 69 f), .int .i64 171]) (results_row_tmp (p := 4) (u := 5) rfl _ W2 (w.heap.size + 1) 35 69 f _ _ rfl rfl G1.out Try.underlying35 rfl I30.out) rfl ?_
  exact ⟨rfl, HX2.out.trans (G3.out.mono (by omega))⟩
set_option maxRecDepth 100000 in
theorem rtake_mid (s : Sn) (n : Nat) (hs : s.any = true) (hn : n < 4294967296) (ht : s.top < 4294967296) (ho : -64 < beh n s.top) (hy : beh n s.top ≤ 0) (hb : s.bts.getLsbD (dist s.top n) = false) (hl : s.came ≤ 1000000) (w : World) :
    Calls Try.prog 27 #[.agg (rowOf 69 s.dc), .int .u32 n] w fun e w' => e = .returned (.tuple #[.agg (rowOf 69 ({ s with bts := s.bts ||| (1#64 <<< dist s.top n), came := s.came + 1 } : Sn).dc), .int .i64 0]) ∧ Below w.heap.size w w' := by
  have cb := srbehind_any n s.top hn ht
  have hd := dist_old hn ht hy
  have hd0 : dist s.top n < 64 := by omega
  have hneg : -(beh n s.top) = (dist s.top n : Int) := by omega
  have CB := Lib.hid cb
  have HF : Hid (∀ i, (({ s with bts := s.bts ||| (1#64 <<< dist s.top n), came := s.came + 1 } : Sn).dc i).oneCell' = true) := Lib.hid (dcl_one _ _ _ _ _ _)
  have HE : Hid (∀ i, i < 69 → (if i = 66 then Value.int .i64 ((s.came : Int) + 1) else if i = 2 + dist s.top n then Value.bool true else s.dc i) = ({ s with bts := s.bts ||| (1#64 <<< dist s.top n), came := s.came + 1 } : Sn).dc i) := Lib.hid (fun i _ => mid_mark s (dist s.top n) hd0 i)
  clear cb hd
  obtain ⟨f, hf⟩ : ∃ f, f = ({ s with bts := s.bts ||| (1#64 <<< dist s.top n), came := s.came + 1 } : Sn).dc := ⟨_, rfl⟩
  rw [← hf] at HF HE ⊢
  clear hf
  have z := zero30
  have H0 : DRow ((w.alloc (.cells (rowOf 69 s.dc) 35)).alloc (.cells (rowOf 69 Sn.zero.dc) 35)) w.heap.size s.dc := (rowIs_new w 69 s.dc 35).alloc _
  have H1 : DRow ((w.alloc (.cells (rowOf 69 s.dc) 35)).alloc (.cells (rowOf 69 Sn.zero.dc) 35)) (w.heap.size + 1) Sn.zero.dc := by
    have := rowIs_new (w.alloc (.cells (rowOf 69 s.dc) 35)) 69 Sn.zero.dc 35
    simpa using this
  have H2 : Below w.heap.size w ((w.alloc (.cells (rowOf 69 s.dc) 35)).alloc (.cells (rowOf 69 Sn.zero.dc) 35)) := ((Below.refl _ _).alloc (Nat.le_refl _) _).alloc (by simp) _
  generalize rowOf 69 Sn.zero.dc = Z at *
  generalize hR : rowOf 69 s.dc = R at *
  have HR := Lib.hid hR
  clear hR
  have HH0 := Lib.hid H0
  have HH1 := Lib.hid H1
  have HH2 := Lib.hid H2
  clear H0 H1 H2
  go_enter Try.func27, Try.ntmps27
  go_upto_region 1 with fail
  generalize ((w.alloc (.cells R 35)).alloc (.cells Z 35)) = W at *
  clear z
  have c0 : W.cell? ⟨w.heap.size, 0, none⟩ = some (.bool true) := by rw [HH0.out.cell (i := 0) (by omega), ← hs]; rfl
  have c1 : W.cell? ⟨w.heap.size, 1, none⟩ = some (.int .u32 s.top) := HH0.out.cell (i := 1) (by omega)
  have c66 : W.cell? ⟨w.heap.size, 66, none⟩ = some (.int .i64 s.came) := HH0.out.cell (i := 66) (by omega)
  have f66 := HH0.out.frozen 66
  have cd : W.cell? ⟨w.heap.size, 2 + dist s.top n, none⟩ = some (.bool (s.bts.getLsbD (dist s.top n))) := by rw [HH0.out.cell (i := 2 + dist s.top n) (by omega), dc_mark s _ hd0]
  have fd := HH0.out.frozen (2 + dist s.top n)
  rw [hb] at cd
  generalize dist s.top n = d at *
  generalize beh n s.top = by_ at *
  have k0 : (0 : Int) ≤ d := by omega
  have k1 : (d : Int) < 64 := by omega
  have HW : Hid (IntKind.i64.wrap (0 - by_) = (d : Int)) := Lib.hid (by rw [IntKind.wrap_i64]; omega)
  go_upto_region 14 with (first
    | (go_at_call 43; refine (CB.out _).mono ?_; rintro e w1 ⟨rfl, rfl⟩)
    | (with_reducible refine wpList_neg rfl _ (.tmp 29) rfl by_ d rfl HW.out ?_)
    | (with_reducible refine wpList_index28 rfl (.tmp 31) (.tmp 30) rfl w.heap.size 2 d rfl rfl (by omega) ?_)
    | (with_reducible refine wpList_neg rfl _ (.tmp 39) rfl by_ d rfl HW.out ?_)
    | (with_reducible refine wpList_index28 rfl (.tmp 41) (.tmp 40) rfl w.heap.size 2 d rfl rfl (by omega) ?_))
  have Y0 := HH0.out.set (2 + d) (.bool true)
  have Y1 : DRow (W.setCell ⟨w.heap.size, 2 + d, none⟩ (.bool true)) (w.heap.size + 1) Sn.zero.dc := HH1.out.setOther (a := ⟨w.heap.size, 2 + d, none⟩) (by simp) _
  have Y2 : Below w.heap.size w (W.setCell ⟨w.heap.size, 2 + d, none⟩ (.bool true)) := HH2.out.setCell (p := ⟨w.heap.size, 2 + d, none⟩) (Nat.le_refl _) _
  have HY0 := Lib.hid Y0
  have HY1 := Lib.hid Y1
  have HY2 := Lib.hid Y2
  clear Y0 Y1 Y2 c0 c1 c66 f66 cd fd HH0 HH1 HH2
  generalize (W.setCell ⟨w.heap.size, 2 + d, none⟩ (.bool true)) = V at *
  have c66 : V.cell? ⟨w.heap.size, 66, none⟩ = some (.int .i64 s.came) := by
    have := HY0.out.cell (i := 66) (by omega)
    rw [if_neg (by omega)] at this
    exact this
  have f66 := HY0.out.frozen 66
  go_upto_region 15 with fail
  have X0 : DRow (V.setCell ⟨w.heap.size, 66, none⟩ (.int .i64 ((s.came : Int) + 1))) w.heap.size f := (HY0.out.set 66 (.int .i64 ((s.came : Int) + 1))).congr (HE.out)
  have X1 : DRow (V.setCell ⟨w.heap.size, 66, none⟩ (.int .i64 ((s.came : Int) + 1))) (w.heap.size + 1) Sn.zero.dc := HY1.out.setOther (a := ⟨w.heap.size, 66, none⟩) (by simp) _
  have X2 : Below w.heap.size w (V.setCell ⟨w.heap.size, 66, none⟩ (.int .i64 ((s.came : Int) + 1))) := HY2.out.setCell (p := ⟨w.heap.size, 66, none⟩) (Nat.le_refl _) _
  have HX0 := Lib.hid X0
  have HX1 := Lib.hid X1
  have HX2 := Lib.hid X2
  clear X0 X1 X2
  generalize (V.setCell ⟨w.heap.size, 66, none⟩ (.int .i64 ((s.came : Int) + 1))) = W1 at *
  have I30 := Lib.hid info30
  go_wp2_with (first
    | (go_at_call 43; refine (CB.out _).mono ?_; rintro e w1 ⟨rfl, rfl⟩)
    | (with_reducible refine wpList_load_rowIs rfl 35 (.tmp 2) rfl w.heap.size rfl 35 69 f HX0.out _ Try.underlying35 rfl I30.out ?_)
    | (with_reducible refine wpList_store_rowIs rfl 35 (.tmp 4) (.tmp 47) rfl (w.heap.size + 1) rfl 69 f rfl 35 Sn.zero.dc HX1.out I30.out HF.out ?_; intro W2 G1 G2 G3 G4))
  refine bodyPost_ret (v := .tuple #[.agg (rowOf 69 f), .int .i64 0]) (results_row_tmp (p := 4) (u := 5) rfl _ W2 (w.heap.size + 1) 35 69 f _ _ rfl rfl G1.out Try.underlying35 rfl I30.out) rfl ?_
  exact ⟨rfl, HX2.out.trans (G3.out.mono (by omega))⟩
end Go.Proofs.Ytopnceniihgkpaa
