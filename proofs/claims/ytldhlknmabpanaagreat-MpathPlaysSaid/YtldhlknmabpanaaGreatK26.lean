/-
  Own text: the law's Same, walked.
  Own text: the document's Trip, walked.
    the document's Wait, Score, Need; the law's Same, walked.
  Own text: the law's Same, walked. (Written by gen_ptg.py.)
-/
import Derived.Test.YtldhlknmabpanaaGreatK24
import Derived.Test.YtldhlknmabpanaaGreatK06
import Derived.Test.YtldhlknmabpanaaGreatK05
import Derived.Test.YtldhlknmabpanaaGreatK25
import Derived.Deep.DeepCutAuto
namespace Go.Proofs.YtldhlknmabpanaaGreat
open Go.RowKit

/-- A region whose operations are written out, at a class of its own. -/
theorem wpIn_region_class {F : Fence} {n : Nat} {P : Program} {id : Nat} {Q : Exit → Act → World → Prop} {a : Act} {w : World} {l : List Oper} (C : World → Prop) (hC : C w.drew) (hro : F.round = none) (hm : P.follows .mixedOrders = true) (hB : Region.lexB .any l.toArray = true)
    (h : wpQuietIn F n P l.toArray C (fun a' => ∀ w', C w' → Q .normal a' w') l a) : (Code.region id l.toArray true).wpIn F n P Q a w :=
  wpIn_region_quiet (C := C) hro hm hB hC (by simpa using h)
/-- A guarded operation, whose guard is decided, that yields this value in every world of the class. -/
theorem wpQuietIn_readw {F : Fence} {n : Nat} {P : Program} {ops : Array Oper} {C : World → Prop} {Q : Act → Prop} {a : Act} {o : Oper} {rest : List Oper} (v : Value) (ha : o.askedIn F P a C) (hg : Region.wanted o (yielded ops a.tmps) = true) (hv : ∀ w, C w → o.quietAtIn F n P a C w v) (h : wpQuietIn F n P ops C Q rest (a.put o.dst v)) : wpQuietIn F n P ops C Q (o :: rest) a :=
  ⟨ha, by rw [if_pos hg]; exact ⟨v, hv, h⟩⟩
theorem quiet_load {F : Fence} {n : Nat} {C : World → Prop} {w : World} {a : Act} {o : Oper} {v : Value} (ty : TypeId) (x : Operand) (p : Value) (ho : o.op = .load ty x) (hx : a.eval x = p) (hl : (Instr.loadAt ty p).run Tryz.prog w = .ok v w) : o.quietAtIn F n Tryz.prog a C w v := by
  unfold Oper.quietAtIn execOp
  simp only [ho, hx, Sem.run_bind, hl, Result.andThen_ok, Sem.run_pure]
  exact ⟨rfl, rfl⟩
set_option maxRecDepth 100000 in
set_option maxHeartbeats 4000000 in
theorem same8_any (s : Sn) (w : World) :
    Calls Tryz.prog 59 #[.agg s.cells, .agg (rowOf 69 s.dc)] w fun e w' => e = .returned (.bool true) ∧ Below w.heap.size w w' := by
  have X0 : SBlk ((w.alloc (.cells s.cells 69)).alloc (.cells (rowOf 69 s.dc) 32)) w.heap.size s := by
    unfold SBlk
    rw [Below.heap_alloc _ _ _ (by simp)]
    exact Go.Deep.blk_alloc_new _ _
  have X1 : DRow ((w.alloc (.cells s.cells 69)).alloc (.cells (rowOf 69 s.dc) 32)) (w.heap.size + 1) s.dc := by
    have := rowIs_new (w.alloc (.cells s.cells 69)) 69 s.dc 32
    simpa using this
  have X2 : Below w.heap.size w ((w.alloc (.cells s.cells 69)).alloc (.cells (rowOf 69 s.dc) 32)) := ((Below.refl _ _).alloc (Nat.le_refl _) _).alloc (by simp) _
  have HX0 := Lib.hid X0
  have HX1 := Lib.hid X1
  have HX2 := Lib.hid X2
  clear X0 X1 X2
  generalize hS : s.cells = S at *
  generalize hR : rowOf 69 s.dc = R at *
  have HR := Lib.hid hR
  clear hR hS
  go_enter Tryz.func59, Tryz.ntmps59
  go_upto_region 1 with fail
  generalize ((w.alloc (.cells S 69)).alloc (.cells R 32)) = W at *
  have HC : Hid (∀ w', Below W.heap.size W w' → w'.cell? ⟨w.heap.size, 0, none⟩ = some (.bool s.any) ∧ w'.cell? ⟨w.heap.size, 1, none⟩ = some (.int .u32 (s.top : Int)) ∧ w'.cell? ⟨w.heap.size, 2, none⟩ = some (.int .u64 (s.bts.toNat : Int)) ∧ w'.cell? ⟨w.heap.size, 3, none⟩ = some (.int .i64 (s.came : Int)) ∧ w'.cell? ⟨w.heap.size, 4, none⟩ = some (.int .i64 (s.twice : Int)) ∧ w'.cell? ⟨w.heap.size, 5, none⟩ = some (.int .i64 (s.lost : Int))
      ∧ w'.cell? ⟨w.heap.size + 1, 0, none⟩ = some (.bool s.any) ∧ w'.cell? ⟨w.heap.size + 1, 1, none⟩ = some (.int .u32 (s.top : Int)) ∧ w'.cell? ⟨w.heap.size + 1, 66, none⟩ = some (.int .i64 (s.came : Int)) ∧ w'.cell? ⟨w.heap.size + 1, 67, none⟩ = some (.int .i64 (s.twice : Int)) ∧ w'.cell? ⟨w.heap.size + 1, 68, none⟩ = some (.int .i64 (s.lost : Int))) := Lib.hid (fun w' hb => by
    have a0 := HX0.out.below hb HX0.out.lt
    have a1 : DRow w' (w.heap.size + 1) s.dc := HX1.out.of_block (hb.block _ HX1.out.lt)
    exact ⟨a0.cell 0, a0.cell 1, a0.cell 2, a0.cell 3, a0.cell 4, a0.cell 5, a1.cell (i := 0) (by omega), a1.cell (i := 1) (by omega), a1.cell (i := 66) (by omega), a1.cell (i := 67) (by omega), a1.cell (i := 68) (by omega)⟩)
  have HL : Hid (∀ w', Below W.heap.size W w' → (Instr.loadAt 32 (.pointer (some ⟨w.heap.size + 1, 0, none⟩))).run Tryz.prog w' = .ok (.agg (rowOf 69 s.dc)) w') := Lib.hid (fun w' hb => by
    have a1 : DRow w' (w.heap.size + 1) s.dc := HX1.out.of_block (hb.block _ HX1.out.lt)
    have hl := run_loadVar_row w' (w.heap.size + 1) 32 32 (rowOf 69 s.dc) (0, 0) _ (rowIs_heap a1) Tryz.underlying32 rfl (by rw [rowOf_size]; exact info30)
    simp only [Instr.loadAt, Instr.sureAddr, Sem.run_bind, Sem.run_pure, Result.andThen_ok, hl])
  have HB : Hid (∀ w', Below W.heap.size W w' → Calls Tryz.prog 91 #[.agg (rowOf 69 s.dc)] w' fun e w'' => e = .returned (.int .u64 (s.bts.toNat : Int)) ∧ Below W.heap.size W w'') := Lib.hid (fun w' hb => (bits_any s w').mono fun e w'' h => ⟨h.1, hb.trans (h.2.mono hb.size)⟩)
  refine (wpIn_wide (n := 3)).1 ?_
  refine wpIn_region_class (fun w' => Below W.heap.size W w') (Below.refl _ _).drew rfl (by kernel_rfl) (by kernel_rfl) ?_
  refine wpQuietIn_step (fun _ _ _ _ => trivial) (fun K hK => ?_)
  go_simp
  refine ⟨_, fun _ _ => rfl, hK _ ?_⟩
  clear hK K
  refine wpQuietIn_readw (.bool s.any) (fun _ _ _ _ => trivial) rfl (fun w' hw => ?_) ?_
  · have c := HC.out w' hw
    obtain ⟨s0, s1, s2, s3, s4, s5, d0, d1, d66, d67, d68⟩ := c
    unfold Oper.quietAtIn
    go_simp
  simp only [Act.put, List.setIfInBounds_toArray, List.set_cons_zero, List.set_cons_succ]
  refine wpQuietIn_step (fun _ _ _ _ => trivial) (fun K hK => ?_)
  go_simp
  refine ⟨_, fun _ _ => rfl, hK _ ?_⟩
  clear hK K
  refine wpQuietIn_readw (.bool s.any) (fun _ _ _ _ => trivial) rfl (fun w' hw => ?_) ?_
  · have c := HC.out w' hw
    obtain ⟨s0, s1, s2, s3, s4, s5, d0, d1, d66, d67, d68⟩ := c
    unfold Oper.quietAtIn
    go_simp
  simp only [Act.put, List.setIfInBounds_toArray, List.set_cons_zero, List.set_cons_succ]
  refine wpQuietIn_step (fun _ _ _ _ => trivial) (fun K hK => ?_)
  go_simp
  refine ⟨_, fun _ _ => rfl, hK _ ?_⟩
  clear hK K
  refine wpQuietIn_step (fun _ _ _ _ => trivial) (fun K hK => ?_)
  go_simp
  refine ⟨_, fun _ _ => rfl, hK _ ?_⟩
  clear hK K
  refine wpQuietIn_step (fun _ _ _ _ => trivial) (fun K hK => ?_)
  go_simp
  refine ⟨_, fun _ _ => rfl, hK _ ?_⟩
  clear hK K
  refine wpQuietIn_readw (.int .u32 (s.top : Int)) (fun _ _ _ _ => trivial) rfl (fun w' hw => ?_) ?_
  · have c := HC.out w' hw
    obtain ⟨s0, s1, s2, s3, s4, s5, d0, d1, d66, d67, d68⟩ := c
    unfold Oper.quietAtIn
    go_simp
  simp only [Act.put, List.setIfInBounds_toArray, List.set_cons_zero, List.set_cons_succ]
  refine wpQuietIn_step (fun _ _ _ _ => trivial) (fun K hK => ?_)
  go_simp
  refine ⟨_, fun _ _ => rfl, hK _ ?_⟩
  clear hK K
  refine wpQuietIn_readw (.int .u32 (s.top : Int)) (fun _ _ _ _ => trivial) rfl (fun w' hw => ?_) ?_
  · have c := HC.out w' hw
    obtain ⟨s0, s1, s2, s3, s4, s5, d0, d1, d66, d67, d68⟩ := c
    unfold Oper.quietAtIn
    go_simp
  simp only [Act.put, List.setIfInBounds_toArray, List.set_cons_zero, List.set_cons_succ]
  refine wpQuietIn_step (fun _ _ _ _ => trivial) (fun K hK => ?_)
  go_simp
  refine ⟨_, fun _ _ => rfl, hK _ ?_⟩
  clear hK K
  refine wpQuietIn_step (fun _ _ _ _ => trivial) (fun K hK => ?_)
  go_simp
  refine ⟨_, fun _ _ => rfl, hK _ ?_⟩
  clear hK K
  refine wpQuietIn_step (fun _ _ _ _ => trivial) (fun K hK => ?_)
  go_simp
  refine ⟨_, fun _ _ => rfl, hK _ ?_⟩
  clear hK K
  refine wpQuietIn_step (fun _ _ _ _ => trivial) (fun K hK => ?_)
  go_simp
  refine ⟨_, fun _ _ => rfl, hK _ ?_⟩
  clear hK K
  refine wpQuietIn_readw (.int .u64 (s.bts.toNat : Int)) (fun _ _ _ _ => trivial) rfl (fun w' hw => ?_) ?_
  · have c := HC.out w' hw
    obtain ⟨s0, s1, s2, s3, s4, s5, d0, d1, d66, d67, d68⟩ := c
    unfold Oper.quietAtIn
    go_simp
  simp only [Act.put, List.setIfInBounds_toArray, List.set_cons_zero, List.set_cons_succ]
  refine wpQuietIn_readw (.agg (rowOf 69 s.dc)) (fun _ _ _ _ => trivial) rfl (fun w' hw => ?_) ?_
  · exact quiet_load 32 (.tmp 3) _ rfl rfl (HL.out w' hw)
  simp only [Act.put, List.setIfInBounds_toArray, List.set_cons_zero, List.set_cons_succ]
  refine wpQuietIn_step (fun _ _ _ _ => trivial) (fun K hK => ?_)
  go_simp
  refine ⟨.int .u64 (s.bts.toNat : Int), fun w' hw => callsIn_wide.2 (HB.out w' hw), hK _ ?_⟩
  clear hK K
  refine wpQuietIn_step (fun _ _ _ _ => trivial) (fun K hK => ?_)
  go_simp
  refine ⟨_, fun _ _ => rfl, hK _ ?_⟩
  clear hK K
  refine wpQuietIn_step (fun _ _ _ _ => trivial) (fun K hK => ?_)
  go_simp
  refine ⟨_, fun _ _ => rfl, hK _ ?_⟩
  clear hK K
  refine wpQuietIn_step (fun _ _ _ _ => trivial) (fun K hK => ?_)
  go_simp
  refine ⟨_, fun _ _ => rfl, hK _ ?_⟩
  clear hK K
  refine wpQuietIn_step (fun _ _ _ _ => trivial) (fun K hK => ?_)
  go_simp
  refine ⟨_, fun _ _ => rfl, hK _ ?_⟩
  clear hK K
  refine wpQuietIn_readw (.int .i64 (s.came : Int)) (fun _ _ _ _ => trivial) rfl (fun w' hw => ?_) ?_
  · have c := HC.out w' hw
    obtain ⟨s0, s1, s2, s3, s4, s5, d0, d1, d66, d67, d68⟩ := c
    unfold Oper.quietAtIn
    go_simp
  simp only [Act.put, List.setIfInBounds_toArray, List.set_cons_zero, List.set_cons_succ]
  refine wpQuietIn_step (fun _ _ _ _ => trivial) (fun K hK => ?_)
  go_simp
  refine ⟨_, fun _ _ => rfl, hK _ ?_⟩
  clear hK K
  refine wpQuietIn_readw (.int .i64 (s.came : Int)) (fun _ _ _ _ => trivial) rfl (fun w' hw => ?_) ?_
  · have c := HC.out w' hw
    obtain ⟨s0, s1, s2, s3, s4, s5, d0, d1, d66, d67, d68⟩ := c
    unfold Oper.quietAtIn
    go_simp
  simp only [Act.put, List.setIfInBounds_toArray, List.set_cons_zero, List.set_cons_succ]
  refine wpQuietIn_step (fun _ _ _ _ => trivial) (fun K hK => ?_)
  go_simp
  refine ⟨_, fun _ _ => rfl, hK _ ?_⟩
  clear hK K
  refine wpQuietIn_step (fun _ _ _ _ => trivial) (fun K hK => ?_)
  go_simp
  refine ⟨_, fun _ _ => rfl, hK _ ?_⟩
  clear hK K
  refine wpQuietIn_step (fun _ _ _ _ => trivial) (fun K hK => ?_)
  go_simp
  refine ⟨_, fun _ _ => rfl, hK _ ?_⟩
  clear hK K
  refine wpQuietIn_step (fun _ _ _ _ => trivial) (fun K hK => ?_)
  go_simp
  refine ⟨_, fun _ _ => rfl, hK _ ?_⟩
  clear hK K
  refine wpQuietIn_readw (.int .i64 (s.twice : Int)) (fun _ _ _ _ => trivial) rfl (fun w' hw => ?_) ?_
  · have c := HC.out w' hw
    obtain ⟨s0, s1, s2, s3, s4, s5, d0, d1, d66, d67, d68⟩ := c
    unfold Oper.quietAtIn
    go_simp
  simp only [Act.put, List.setIfInBounds_toArray, List.set_cons_zero, List.set_cons_succ]
  refine wpQuietIn_step (fun _ _ _ _ => trivial) (fun K hK => ?_)
  go_simp
  refine ⟨_, fun _ _ => rfl, hK _ ?_⟩
  clear hK K
  refine wpQuietIn_readw (.int .i64 (s.twice : Int)) (fun _ _ _ _ => trivial) rfl (fun w' hw => ?_) ?_
  · have c := HC.out w' hw
    obtain ⟨s0, s1, s2, s3, s4, s5, d0, d1, d66, d67, d68⟩ := c
    unfold Oper.quietAtIn
    go_simp
  simp only [Act.put, List.setIfInBounds_toArray, List.set_cons_zero, List.set_cons_succ]
  refine wpQuietIn_step (fun _ _ _ _ => trivial) (fun K hK => ?_)
  go_simp
  refine ⟨_, fun _ _ => rfl, hK _ ?_⟩
  clear hK K
  refine wpQuietIn_step (fun _ _ _ _ => trivial) (fun K hK => ?_)
  go_simp
  refine ⟨_, fun _ _ => rfl, hK _ ?_⟩
  clear hK K
  refine wpQuietIn_step (fun _ _ _ _ => trivial) (fun K hK => ?_)
  go_simp
  refine ⟨_, fun _ _ => rfl, hK _ ?_⟩
  clear hK K
  refine wpQuietIn_step (fun _ _ _ _ => trivial) (fun K hK => ?_)
  go_simp
  refine ⟨_, fun _ _ => rfl, hK _ ?_⟩
  clear hK K
  refine wpQuietIn_readw (.int .i64 (s.lost : Int)) (fun _ _ _ _ => trivial) rfl (fun w' hw => ?_) ?_
  · have c := HC.out w' hw
    obtain ⟨s0, s1, s2, s3, s4, s5, d0, d1, d66, d67, d68⟩ := c
    unfold Oper.quietAtIn
    go_simp
  simp only [Act.put, List.setIfInBounds_toArray, List.set_cons_zero, List.set_cons_succ]
  refine wpQuietIn_step (fun _ _ _ _ => trivial) (fun K hK => ?_)
  go_simp
  refine ⟨_, fun _ _ => rfl, hK _ ?_⟩
  clear hK K
  refine wpQuietIn_readw (.int .i64 (s.lost : Int)) (fun _ _ _ _ => trivial) rfl (fun w' hw => ?_) ?_
  · have c := HC.out w' hw
    obtain ⟨s0, s1, s2, s3, s4, s5, d0, d1, d66, d67, d68⟩ := c
    unfold Oper.quietAtIn
    go_simp
  simp only [Act.put, List.setIfInBounds_toArray, List.set_cons_zero, List.set_cons_succ]
  refine wpQuietIn_step (fun _ _ _ _ => trivial) (fun K hK => ?_)
  go_simp
  refine ⟨_, fun _ _ => rfl, hK _ ?_⟩
  clear hK K
  refine wpQuietIn_step (fun _ _ _ _ => trivial) (fun K hK => ?_)
  go_simp
  refine ⟨_, fun _ _ => rfl, hK _ ?_⟩
  clear hK K
  refine wpQuietIn_step (fun _ _ _ _ => trivial) (fun K hK => ?_)
  go_simp
  refine ⟨_, fun _ _ => rfl, hK _ ?_⟩
  clear hK K
  refine wpQuietIn_nil ?_
  rintro w' hw
  go_wp2
  go_ret
  exact ⟨rfl, HX2.out.trans (hw.mono HX2.out.size)⟩
end Go.Proofs.YtldhlknmabpanaaGreat
namespace Go.Proofs.YtldhlknmabpanaaGreat
open Go.RowKit

theorem trip8_is (t : Int) : (t < 0 → trip8 t = 0) ∧ (¬ t < 0 → 2000 < t → trip8 t = 16000) ∧ (¬ t < 0 → ¬ 2000 < t → trip8 t = 8 * t) := by
  unfold trip8
  refine ⟨fun h => by rw [if_pos h]; rfl, fun h k => by rw [if_neg h, if_pos k]; rfl, fun h k => by rw [if_neg h, if_neg k]⟩
set_option maxRecDepth 100000 in
set_option maxHeartbeats 2000000 in
theorem rtrip_any (t : Int) (i : Nat) (s : Sk) (hf : s.fit i) (hi : i ≤ 1000000000) (w : World) :
    Calls Tryz.prog 76 #[SV s, .int .i64 t] w fun e w' => e = .returned (SV (s.trip t)) ∧ Below w.heap.size w w' := by
  obtain ⟨W, hW⟩ : ∃ W, W = (w.alloc (.cells #[.int .i64 s.lo, .int .i64 s.rt, .int .i64 s.va, .int .i64 s.ma, .int .i64 s.tr] 28)).alloc (.cells #[.int .i64 0, .int .i64 0, .int .i64 0, .int .i64 0, .int .i64 0] 28) := ⟨_, rfl⟩
  obtain ⟨hb, hx⟩ := Blk13.two w s Sk.zero _ _ hW
  obtain ⟨hx0, hz0⟩ := hx W (Below.refl _ _)
  have r0 := hf.r0
  have r1 := hf.r1
  have v0 := hf.v0
  have v1 := hf.v1
  have t0 := hf.t0
  have t1 := hf.t1
  obtain ⟨g0, g1⟩ := trip8_lo t
  have HQ := Lib.hid (trip8_is t)
  have hT : s.trip t = if s.tr = 0 then ⟨s.lo, trip8 t, trip8 t / 2, s.ma, s.tr + 1⟩ else ⟨s.lo, toward s.rt (trip8 t) 8, toward s.va (absI (trip8 t - s.rt)) 4, s.ma, s.tr + 1⟩ := rfl
  rw [hT]
  generalize trip8 t = T at *
  obtain ⟨c0, c1, c2, c3, c4⟩ := hx0.cells
  have f1 := hx0.frozen 1
  have f2 := hx0.frozen 2
  have f4 := hx0.frozen 4
  by_cases h0 : s.tr = 0
  · rw [if_pos h0, h0, Int.zero_add]
    rw [h0] at c4
    have HX := Lib.hid (((hx0.set4 1).set1 T).set2 (T / 2))
    have HZ := Lib.hid (((hz0.other (p := ⟨w.heap.size, 4, none⟩) (show w.heap.size + 1 ≠ w.heap.size by omega) (.int .i64 1)).other (p := ⟨w.heap.size, 1, none⟩) (show w.heap.size + 1 ≠ w.heap.size by omega) (.int .i64 T)).other (p := ⟨w.heap.size, 2, none⟩) (show w.heap.size + 1 ≠ w.heap.size by omega) (.int .i64 (T / 2)))
    have HB := Lib.hid (((hb.setCell (p := ⟨w.heap.size, 4, none⟩) (Nat.le_refl _) (.int .i64 1)).setCell (p := ⟨w.heap.size, 1, none⟩) (Nat.le_refl _) (.int .i64 T)).setCell (p := ⟨w.heap.size, 2, none⟩) (Nat.le_refl _) (.int .i64 (T / 2)))
    dsimp only at HX
    have d0 : T.tdiv 2 = T / 2 := Int.tdiv_eq_ediv_of_nonneg (by omega)
    unfold SV
    clear hf hT hb hx hx0 hz0 v0 v1 t0 t1 r0 r1
    rw [h0] at hW
    generalize s.lo = lo at *
    generalize s.rt = rt at *
    generalize s.va = va at *
    generalize s.tr = tr at *
    generalize s.ma = ma at *
    subst h0
    go_enter Tryz.func76, Tryz.ntmps76
    go_upto_region 1 with fail
    rw [← hW]
    clear hW
    go_cut [5] (fun s wx => s = .int .i64 T ∧ Hid (wx = W))
    case first =>
      by_cases h1 : t < 0
      · go_wp2
        go_meet
        exact ⟨by rw [HQ.out.1 h1], Lib.hid rfl⟩
      · by_cases h2 : 2000 < t
        · go_wp2
          go_meet
          exact ⟨by rw [HQ.out.2.1 h1 h2], Lib.hid rfl⟩
        · go_wp2
          go_meet
          exact ⟨by rw [HQ.out.2.2 h1 h2], Lib.hid rfl⟩
    case rest =>
      obtain ⟨rfl, HWC⟩ := hcut
      obtain rfl := HWC.out
      go_upto_region 5 with fail
      clear c0 c1 c2 c3 c4 f1 f2 f4
      generalize ((wc.setCell ⟨w.heap.size, 4, none⟩ (.int .i64 1)).setCell ⟨w.heap.size, 1, none⟩ (.int .i64 T)).setCell ⟨w.heap.size, 2, none⟩ (.int .i64 (T / 2)) = w2 at *
      obtain ⟨d0, d1, d2, d3, d4⟩ := HX.out.cells
      obtain ⟨z0, z1, z2, z3, z4⟩ := HZ.out.cells
      have g0 := HZ.out.frozen 0
      have g1 := HZ.out.frozen 1
      have g2 := HZ.out.frozen 2
      have g3 := HZ.out.frozen 3
      have g4 := HZ.out.frozen 4
      unfold Sk.zero at z0 z1 z2 z3 z4
      dsimp only at d0 d1 d2 d3 d4 z0 z1 z2 z3 z4
      go_wp2
      refine bodyPost_ret (v := .agg #[.int .i64 lo, .int .i64 T, .int .i64 (T / 2), .int .i64 ma, .int .i64 1]) (by simp [results, Tryz.results76, go_sem, z0, z1, z2, z3, z4]) rfl ?_
      exact ⟨rfl, set5_13 HB.out (by omega) _ _ _ _ _⟩
  · rw [if_neg h0]
    have ha := absI_lo g0 g1 r0 r1
    have CV := Lib.hid (rtoward_any s.va (absI (T - s.rt)) 4 (by omega) (by omega) v0 (by omega) ha.1 (by omega))
    have CR := Lib.hid (rtoward_any s.rt T 8 (by omega) (by omega) r0 (by omega) g0 (by omega))
    have hA : absI (T - s.rt) = if T - s.rt < 0 then -(T - s.rt) else T - s.rt := rfl
    have hne : ¬ s.tr + 1 = 1 := by omega
    have HX := Lib.hid (((hx0.set4 (s.tr + 1)).set2 (toward s.va (absI (T - s.rt)) 4)).set1 (toward s.rt T 8))
    have HZ := Lib.hid (((hz0.other (p := ⟨w.heap.size, 4, none⟩) (show w.heap.size + 1 ≠ w.heap.size by omega) (.int .i64 (s.tr + 1))).other (p := ⟨w.heap.size, 2, none⟩) (show w.heap.size + 1 ≠ w.heap.size by omega) (.int .i64 (toward s.va (absI (T - s.rt)) 4))).other (p := ⟨w.heap.size, 1, none⟩) (show w.heap.size + 1 ≠ w.heap.size by omega) (.int .i64 (toward s.rt T 8)))
    have HB := Lib.hid (((hb.setCell (p := ⟨w.heap.size, 4, none⟩) (Nat.le_refl _) (.int .i64 (s.tr + 1))).setCell (p := ⟨w.heap.size, 2, none⟩) (Nat.le_refl _) (.int .i64 (toward s.va (absI (T - s.rt)) 4))).setCell (p := ⟨w.heap.size, 1, none⟩) (Nat.le_refl _) (.int .i64 (toward s.rt T 8)))
    dsimp only at HX
    unfold SV
    clear hf hT hb hx hx0 hz0 v0 v1 ha
    generalize toward s.va (absI (T - s.rt)) 4 = zv at *
    generalize toward s.rt T 8 = zr at *
    generalize absI (T - s.rt) = av at *
    generalize s.lo = lo at *
    generalize s.rt = rt at *
    generalize s.va = va at *
    generalize s.tr = tr at *
    generalize s.ma = ma at *
    go_enter Tryz.func76, Tryz.ntmps76
    go_upto_region 1 with fail
    rw [← hW]
    clear hW
    have HAV := Lib.hid hA
    clear hA
    go_cut [5] (fun s wx => s = .int .i64 T ∧ Hid (wx = W))
    case first =>
      by_cases h1 : t < 0
      · go_wp2
        go_meet
        exact ⟨by rw [HQ.out.1 h1], Lib.hid rfl⟩
      · by_cases h2 : 2000 < t
        · go_wp2
          go_meet
          exact ⟨by rw [HQ.out.2.1 h1 h2], Lib.hid rfl⟩
        · go_wp2
          go_meet
          exact ⟨by rw [HQ.out.2.2 h1 h2], Lib.hid rfl⟩
    case rest =>
      obtain ⟨rfl, HWC⟩ := hcut
      obtain rfl := HWC.out
      have hA := HAV.out
      by_cases hb : T - rt < 0
      all_goals
        first | rw [if_pos hb] at hA | rw [if_neg hb] at hA
        subst hA
        go_upto_region 11 with (first
          | (go_at_call 102; (with_reducible refine (CV.out _).mono ?_); rintro e w1 ⟨rfl, rfl⟩)
          | (go_at_call 102; (with_reducible refine (CR.out _).mono ?_); rintro e w1 ⟨rfl, rfl⟩)
          | fail)
        clear c0 c1 c2 c3 c4 f1 f2 f4
        generalize ((wc.setCell ⟨w.heap.size, 4, none⟩ (.int .i64 (tr + 1))).setCell ⟨w.heap.size, 2, none⟩ (.int .i64 zv)).setCell ⟨w.heap.size, 1, none⟩ (.int .i64 zr) = w2 at *
        obtain ⟨d0, d1, d2, d3, d4⟩ := HX.out.cells
        obtain ⟨z0, z1, z2, z3, z4⟩ := HZ.out.cells
        have g0 := HZ.out.frozen 0
        have g1 := HZ.out.frozen 1
        have g2 := HZ.out.frozen 2
        have g3 := HZ.out.frozen 3
        have g4 := HZ.out.frozen 4
        unfold Sk.zero at z0 z1 z2 z3 z4
        dsimp only at d0 d1 d2 d3 d4 z0 z1 z2 z3 z4
        go_wp2
        refine bodyPost_ret (v := .agg #[.int .i64 lo, .int .i64 zr, .int .i64 zv, .int .i64 ma, .int .i64 (tr + 1)]) (by simp [results, Tryz.results76, go_sem, z0, z1, z2, z3, z4]) rfl ?_
        exact ⟨rfl, set5_13 HB.out (by omega) _ _ _ _ _⟩
end Go.Proofs.YtldhlknmabpanaaGreat
namespace Go.Proofs.YtldhlknmabpanaaGreat
open Go.RowKit

set_option maxRecDepth 100000 in
theorem rscore13_any (s : Sk) (i : Nat) (hf : s.fit i) (w : World) :
    Calls Tryz.prog 136 #[SV s] w fun e w' => e = .returned (.int .i64 s.score) ∧ Below w.heap.size w w' := by
  obtain ⟨W, hW⟩ : ∃ W, W = w.alloc (.cells #[.int .i64 s.lo, .int .i64 s.rt, .int .i64 s.va, .int .i64 s.ma, .int .i64 s.tr] 28) := ⟨_, rfl⟩
  obtain ⟨hb, hx⟩ := Blk13.box w s _ hW
  obtain ⟨c0, c1, c2, c3, c4⟩ := (hx W (Below.refl _ _)).cells
  have HB := Lib.hid hb
  have l0 := hf.l0
  have l1 := hf.l1
  have r0 := hf.r0
  have r1 := hf.r1
  have sl := Sk.score_lo hf
  have hT : s.score = (65536 - s.lo) * 64 / (64 + s.rt) := rfl
  have d0 : ((65536 - s.lo) * 64).tdiv (64 + s.rt) = s.score := by rw [hT]; exact Int.tdiv_eq_ediv_of_nonneg (by omega)
  have d1 : ((65536 - s.lo) * 64) / (64 + s.rt) = s.score := rfl
  have hz : ¬ 64 + s.rt = 0 := by omega
  unfold SV
  clear hb hx hf hT
  generalize s.score = sc at *
  generalize s.rt = rt at *
  generalize s.va = va at *
  generalize s.tr = tr at *
  generalize s.ma = ma at *
  generalize s.lo = lo at *
  go_enter Tryz.func136, Tryz.ntmps136
  go_upto_region 1 with fail
  rw [← hW]
  clear hW
  go_wp2
  go_ret
  exact ⟨ret_int (by omega), HB.out⟩
set_option maxRecDepth 100000 in
set_option maxHeartbeats 1000000 in
theorem same13_any (s : Sk) (w : World) :
    Calls Tryz.prog 58 #[SV s, SV s] w fun e w' => e = .returned (.bool true) ∧ Below w.heap.size w w' := by
  obtain ⟨W, hW⟩ : ∃ W, W = (w.alloc (.cells #[.int .i64 s.lo, .int .i64 s.rt, .int .i64 s.va, .int .i64 s.ma, .int .i64 s.tr] 66)).alloc (.cells #[.int .i64 s.lo, .int .i64 s.rt, .int .i64 s.va, .int .i64 s.ma, .int .i64 s.tr] 28) := ⟨_, rfl⟩
  obtain ⟨hb, hx⟩ := Blk13.two w s s _ _ hW
  obtain ⟨hx0, hz0⟩ := hx W (Below.refl _ _)
  have HB := Lib.hid hb
  obtain ⟨c0, c1, c2, c3, c4⟩ := hx0.cells
  obtain ⟨d0, d1, d2, d3, d4⟩ := hz0.cells
  have k0 : (s.lo == s.lo) = true := by simp
  have k1 : (s.rt == s.rt) = true := by simp
  have k2 : (s.va == s.va) = true := by simp
  have k3 : (s.ma == s.ma) = true := by simp
  have k4 : (s.tr == s.tr) = true := by simp
  unfold SV
  clear hb hx hx0 hz0
  generalize s.lo = lo at *
  generalize s.rt = rt at *
  generalize s.va = va at *
  generalize s.ma = ma at *
  generalize s.tr = tr at *
  go_enter Tryz.func58, Tryz.ntmps58
  go_upto_region 1 with fail
  rw [← hW]
  clear hW
  go_wp2
  go_ret
  exact ⟨rfl, HB.out⟩
end Go.Proofs.YtldhlknmabpanaaGreat
namespace Go.Proofs.YtldhlknmabpanaaGreat
open Go.RowKit

theorem PLie.four0 {w : World} {b : Nat} {p : Pn} (h : PLie w b 0 p) : w.cell? ⟨b, 11, none⟩ = some (.int .i64 p.q) ∧ w.cell? ⟨b, 12, none⟩ = some (.int .i64 p.pr) ∧ w.cell? ⟨b, 13, none⟩ = some (.int .i64 p.ga) ∧ w.cell? ⟨b, 14, none⟩ = some (.int .u32 p.nx) := h.four
theorem PLie.five0 {w : World} {b : Nat} {p : Pn} (h : PLie w b 0 p) : w.cell? ⟨b, 0, none⟩ = some (.int .i64 p.st.lo) ∧ w.cell? ⟨b, 1, none⟩ = some (.int .i64 p.st.rt) ∧ w.cell? ⟨b, 2, none⟩ = some (.int .i64 p.st.va) ∧ w.cell? ⟨b, 3, none⟩ = some (.int .i64 p.st.ma) ∧ w.cell? ⟨b, 4, none⟩ = some (.int .i64 p.st.tr) := h.st.cells
theorem PLie.six0 {w : World} {b : Nat} {p : Pn} (h : PLie w b 0 p) : w.cell? ⟨b, 5, none⟩ = some (.bool p.sn.any) ∧ w.cell? ⟨b, 6, none⟩ = some (.int .u32 p.sn.top) ∧ w.cell? ⟨b, 7, none⟩ = some (.int .u64 p.sn.bts.toNat) ∧ w.cell? ⟨b, 8, none⟩ = some (.int .i64 p.sn.came) ∧ w.cell? ⟨b, 9, none⟩ = some (.int .i64 p.sn.twice) ∧ w.cell? ⟨b, 10, none⟩ = some (.int .i64 p.sn.lost) :=
  ⟨h.cell 5, h.cell 6, h.cell 7, h.cell 8, h.cell 9, h.cell 10⟩
theorem RB.load_seen {w : World} {b : Nat} {p : Pn} (h : RB w b p) : (Instr.loadAt 32 (.pointer (some ⟨b, 5, none⟩))).run Tryz.prog w = .ok (.agg (rowOf 69 p.sn.dc)) w :=
  run_loadAt_mid w b 5 _ ((List.range 69).map p.sn.dc) _ h.mid Tryz.underlying32 rfl (by rw [info30]; simp)
theorem RB.load {w : World} {b : Nat} {p : Pn} (h : RB w b p) : (Instr.loadAt 34 (.pointer (some ⟨b, 0, none⟩))).run Tryz.prog w = .ok (.agg (rowOf 78 p.dc)) w := by
  have hl := run_loadVar_row w b 34 34 (rowOf 78 p.dc) (0, 0) _ (rowIs_heap h) Tryz.underlying34 rfl (by rw [rowOf_size]; exact info37)
  simp only [Instr.loadAt, Instr.sureAddr, Sem.run_bind, Sem.run_pure, Result.andThen_ok, hl]
/-- Both in their boxes. -/
theorem two14 (w : World) (p : Pn) {W : World} (hW : W = (w.alloc (.cells p.cells 71)).alloc (.cells (rowOf 78 p.dc) 34)) :
    Below w.heap.size w W ∧ ∀ w', Below W.heap.size W w' → PLie w' w.heap.size 0 p ∧ RB w' (w.heap.size + 1) p := by
  subst hW
  refine ⟨((Below.refl _ _).alloc (Nat.le_refl _) _).alloc (by simp) _, fun w' hb => ⟨?_, ?_⟩⟩
  · have h : PLie ((w.alloc (.cells p.cells 71)).alloc (.cells (rowOf 78 p.dc) 34)) w.heap.size 0 p := Lies.new w p.cells _ ((Below.refl _ _).alloc (Nat.le_refl _) _)
    exact h.below hb h.lt
  · have h := RB.new (w.alloc (.cells p.cells 71)) p
    rw [show (w.alloc (.cells p.cells 71)).heap.size = w.heap.size + 1 by simp] at h
    exact h.below hb h.lt
set_option maxRecDepth 100000 in
set_option maxHeartbeats 4000000 in
theorem same14_any (p : Pn) (w : World) :
    Calls Tryz.prog 27 #[.agg p.cells, .agg (rowOf 78 p.dc)] w fun e w' => e = .returned (.bool true) ∧ Below w.heap.size w w' := by
  obtain ⟨W, hW⟩ : ∃ W, W = (w.alloc (.cells p.cells 71)).alloc (.cells (rowOf 78 p.dc) 34) := ⟨_, rfl⟩
  obtain ⟨hb, hx⟩ := two14 w p hW
  have HB := Lib.hid hb
  have HC := Lib.hid hx
  have CA : Hid (∀ w', Below W.heap.size W w' → Calls Tryz.prog 58 #[SV p.st, SV p.st] w' fun e w1 => e = .returned (.bool true) ∧ Below W.heap.size W w1) := Lib.hid (fun w' h => (same13_any p.st w').mono fun _ _ hh => ⟨hh.1, h.trans (hh.2.mono h.size)⟩)
  have CB : Hid (∀ w', Below W.heap.size W w' → Calls Tryz.prog 59 #[.agg p.sn.cells, .agg (rowOf 69 p.sn.dc)] w' fun e w1 => e = .returned (.bool true) ∧ Below W.heap.size W w1) := Lib.hid (fun w' h => (same8_any p.sn w').mono fun _ _ hh => ⟨hh.1, h.trans (hh.2.mono h.size)⟩)
  have CC : Hid (∀ w', Below W.heap.size W w' → Calls Tryz.prog 56 #[.pointer (some ⟨w.heap.size, 0, none⟩)] w' fun e w1 => e = .returned (.int .i64 p.state) ∧ Below W.heap.size W w1) := Lib.hid (fun w' h => (state_any w.heap.size 0 p w' (hx w' h).1).mono fun _ _ hh => ⟨hh.1, by rw [← hh.2]; exact h⟩)
  have CD : Hid (∀ w', Below W.heap.size W w' → Calls Tryz.prog 60 #[.agg (rowOf 78 p.dc)] w' fun e w1 => e = .returned (.int .i64 p.state) ∧ Below W.heap.size W w1) := Lib.hid (fun w' h => (rstate_any p w').mono fun _ _ hh => ⟨hh.1, h.trans (hh.2.mono h.size)⟩)
  simp only [SV_is] at CA
  generalize p.state = st at *
  have n1 : (p.q == p.q) = true := by simp
  have n2 : (p.pr == p.pr) = true := by simp
  have n3 : (p.ga == p.ga) = true := by simp
  have n4 : ((p.nx : Int) == (p.nx : Int)) = true := by simp
  have n5 : (st == st) = true := by simp
  unfold Pn.cells at hW ⊢
  clear hb hx
  obtain ⟨R, hR⟩ : ∃ R, R = rowOf 78 p.dc := ⟨_, rfl⟩
  have HR := Lib.hid hR
  rw [← hR] at hW ⊢
  clear hR
  go_enter Tryz.func27, Tryz.ntmps27
  go_upto_region 1 with fail
  rw [← hW]
  clear hW
  refine (wpIn_wide (n := 3)).1 ?_
  refine wpIn_class (fun w' => Below W.heap.size W w') (Below.refl _ _).drew rfl (by kernel_rfl) (by kernel_rfl) ?_
  (refine wpQuietIn_step (fun _ _ _ _ => trivial) (fun K hK => ?_); go_simp; refine ⟨_, fun _ _ => rfl, hK _ ?_⟩; clear hK K)
  refine wpQ_readw (.agg #[.int .i64 p.st.lo, .int .i64 p.st.rt, .int .i64 p.st.va, .int .i64 p.st.ma, .int .i64 p.st.tr]) (fun _ _ _ _ => trivial) rfl (fun w' hw => ?_) ?_
  · obtain ⟨c0, c1, c2, c3, c4⟩ := (HC.out w' hw).1.five0
    unfold Oper.quietAtIn
    go_simp
  simp only [Act.put, List.setIfInBounds_toArray, List.set_cons_zero, List.set_cons_succ]
  (refine wpQuietIn_step (fun _ _ _ _ => trivial) (fun K hK => ?_); go_simp; refine ⟨_, fun _ _ => rfl, hK _ ?_⟩; clear hK K)
  refine wpQ_readw (.agg #[.int .i64 p.st.lo, .int .i64 p.st.rt, .int .i64 p.st.va, .int .i64 p.st.ma, .int .i64 p.st.tr]) (fun _ _ _ _ => trivial) rfl (fun w' hw => ?_) ?_
  · obtain ⟨c0, c1, c2, c3, c4⟩ := (HC.out w' hw).2.five
    unfold Oper.quietAtIn
    go_simp
  simp only [Act.put, List.setIfInBounds_toArray, List.set_cons_zero, List.set_cons_succ]
  refine wpQuietIn_step (fun _ _ _ _ => trivial) (fun K hK => ?_)
  go_simp
  refine ⟨.bool true, fun w' hw => callsIn_wide.2 (CA.out w' hw), hK _ ?_⟩
  clear hK K
  iterate 2 (refine wpQuietIn_step (fun _ _ _ _ => trivial) (fun K hK => ?_); go_simp; refine ⟨_, fun _ _ => rfl, hK _ ?_⟩; clear hK K)
  refine wpQ_readw (.agg #[.bool p.sn.any, .int .u32 p.sn.top, .int .u64 p.sn.bts.toNat, .int .i64 p.sn.came, .int .i64 p.sn.twice, .int .i64 p.sn.lost]) (fun _ _ _ _ => trivial) rfl (fun w' hw => ?_) ?_
  · obtain ⟨c0, c1, c2, c3, c4, c5⟩ := (HC.out w' hw).1.six0
    unfold Oper.quietAtIn
    go_simp
  simp only [Act.put, List.setIfInBounds_toArray, List.set_cons_zero, List.set_cons_succ]
  (refine wpQuietIn_step (fun _ _ _ _ => trivial) (fun K hK => ?_); go_simp; refine ⟨_, fun _ _ => rfl, hK _ ?_⟩; clear hK K)
  refine wpQ_readw (.agg (rowOf 69 p.sn.dc)) (fun _ _ _ _ => trivial) rfl (fun w' hw => ?_) ?_
  · exact quiet_load 32 _ (.pointer (some ⟨w.heap.size + 1, 5, none⟩)) rfl rfl (HC.out w' hw).2.load_seen
  simp only [Act.put, List.setIfInBounds_toArray, List.set_cons_zero, List.set_cons_succ]
  refine wpQuietIn_step (fun _ _ _ _ => trivial) (fun K hK => ?_)
  go_simp
  refine ⟨.bool true, fun w' hw => callsIn_wide.2 (CB.out w' hw), hK _ ?_⟩
  clear hK K
  iterate 3 (refine wpQuietIn_step (fun _ _ _ _ => trivial) (fun K hK => ?_); go_simp; refine ⟨_, fun _ _ => rfl, hK _ ?_⟩; clear hK K)
  refine wpQ_readw (.int .i64 p.q) (fun _ _ _ _ => trivial) rfl (fun w' hw => ?_) ?_
  · obtain ⟨c0, c1, c2, c3⟩ := (HC.out w' hw).1.four0
    unfold Oper.quietAtIn
    go_simp
  simp only [Act.put, List.setIfInBounds_toArray, List.set_cons_zero, List.set_cons_succ]
  (refine wpQuietIn_step (fun _ _ _ _ => trivial) (fun K hK => ?_); go_simp; refine ⟨_, fun _ _ => rfl, hK _ ?_⟩; clear hK K)
  refine wpQ_readw (.int .i64 p.q) (fun _ _ _ _ => trivial) rfl (fun w' hw => ?_) ?_
  · obtain ⟨c0, c1, c2, c3⟩ := (HC.out w' hw).2.four
    unfold Oper.quietAtIn
    go_simp
  simp only [Act.put, List.setIfInBounds_toArray, List.set_cons_zero, List.set_cons_succ]
  iterate 3 (refine wpQuietIn_step (fun _ _ _ _ => trivial) (fun K hK => ?_); go_simp; refine ⟨_, fun _ _ => rfl, hK _ ?_⟩; clear hK K)
  (refine wpQuietIn_step (fun _ _ _ _ => trivial) (fun K hK => ?_); go_simp; refine ⟨_, fun _ _ => rfl, hK _ ?_⟩; clear hK K)
  refine wpQ_readw (.int .i64 p.pr) (fun _ _ _ _ => trivial) rfl (fun w' hw => ?_) ?_
  · obtain ⟨c0, c1, c2, c3⟩ := (HC.out w' hw).1.four0
    unfold Oper.quietAtIn
    go_simp
  simp only [Act.put, List.setIfInBounds_toArray, List.set_cons_zero, List.set_cons_succ]
  (refine wpQuietIn_step (fun _ _ _ _ => trivial) (fun K hK => ?_); go_simp; refine ⟨_, fun _ _ => rfl, hK _ ?_⟩; clear hK K)
  refine wpQ_readw (.int .i64 p.pr) (fun _ _ _ _ => trivial) rfl (fun w' hw => ?_) ?_
  · obtain ⟨c0, c1, c2, c3⟩ := (HC.out w' hw).2.four
    unfold Oper.quietAtIn
    go_simp
  simp only [Act.put, List.setIfInBounds_toArray, List.set_cons_zero, List.set_cons_succ]
  iterate 3 (refine wpQuietIn_step (fun _ _ _ _ => trivial) (fun K hK => ?_); go_simp; refine ⟨_, fun _ _ => rfl, hK _ ?_⟩; clear hK K)
  (refine wpQuietIn_step (fun _ _ _ _ => trivial) (fun K hK => ?_); go_simp; refine ⟨_, fun _ _ => rfl, hK _ ?_⟩; clear hK K)
  refine wpQ_readw (.int .i64 p.ga) (fun _ _ _ _ => trivial) rfl (fun w' hw => ?_) ?_
  · obtain ⟨c0, c1, c2, c3⟩ := (HC.out w' hw).1.four0
    unfold Oper.quietAtIn
    go_simp
  simp only [Act.put, List.setIfInBounds_toArray, List.set_cons_zero, List.set_cons_succ]
  (refine wpQuietIn_step (fun _ _ _ _ => trivial) (fun K hK => ?_); go_simp; refine ⟨_, fun _ _ => rfl, hK _ ?_⟩; clear hK K)
  refine wpQ_readw (.int .i64 p.ga) (fun _ _ _ _ => trivial) rfl (fun w' hw => ?_) ?_
  · obtain ⟨c0, c1, c2, c3⟩ := (HC.out w' hw).2.four
    unfold Oper.quietAtIn
    go_simp
  simp only [Act.put, List.setIfInBounds_toArray, List.set_cons_zero, List.set_cons_succ]
  iterate 3 (refine wpQuietIn_step (fun _ _ _ _ => trivial) (fun K hK => ?_); go_simp; refine ⟨_, fun _ _ => rfl, hK _ ?_⟩; clear hK K)
  (refine wpQuietIn_step (fun _ _ _ _ => trivial) (fun K hK => ?_); go_simp; refine ⟨_, fun _ _ => rfl, hK _ ?_⟩; clear hK K)
  refine wpQ_readw (.int .u32 p.nx) (fun _ _ _ _ => trivial) rfl (fun w' hw => ?_) ?_
  · obtain ⟨c0, c1, c2, c3⟩ := (HC.out w' hw).1.four0
    unfold Oper.quietAtIn
    go_simp
  simp only [Act.put, List.setIfInBounds_toArray, List.set_cons_zero, List.set_cons_succ]
  (refine wpQuietIn_step (fun _ _ _ _ => trivial) (fun K hK => ?_); go_simp; refine ⟨_, fun _ _ => rfl, hK _ ?_⟩; clear hK K)
  refine wpQ_readw (.int .u32 p.nx) (fun _ _ _ _ => trivial) rfl (fun w' hw => ?_) ?_
  · obtain ⟨c0, c1, c2, c3⟩ := (HC.out w' hw).2.four
    unfold Oper.quietAtIn
    go_simp
  simp only [Act.put, List.setIfInBounds_toArray, List.set_cons_zero, List.set_cons_succ]
  iterate 3 (refine wpQuietIn_step (fun _ _ _ _ => trivial) (fun K hK => ?_); go_simp; refine ⟨_, fun _ _ => rfl, hK _ ?_⟩; clear hK K)
  refine wpQuietIn_step (fun _ _ _ _ => trivial) (fun K hK => ?_)
  go_simp
  refine ⟨.int .i64 st, fun w' hw => callsIn_wide.2 (CC.out w' hw), hK _ ?_⟩
  clear hK K
  refine wpQ_readw (.agg (rowOf 78 p.dc)) (fun _ _ _ _ => trivial) rfl (fun w' hw => ?_) ?_
  · exact quiet_load 34 _ (.pointer (some ⟨w.heap.size + 1, 0, none⟩)) rfl rfl (HC.out w' hw).2.load
  simp only [Act.put, List.setIfInBounds_toArray, List.set_cons_zero, List.set_cons_succ]
  refine wpQuietIn_step (fun _ _ _ _ => trivial) (fun K hK => ?_)
  go_simp
  refine ⟨.int .i64 st, fun w' hw => callsIn_wide.2 (CD.out w' hw), hK _ ?_⟩
  clear hK K
  iterate 3 (refine wpQuietIn_step (fun _ _ _ _ => trivial) (fun K hK => ?_); go_simp; refine ⟨_, fun _ _ => rfl, hK _ ?_⟩; clear hK K)
  refine wpQuietIn_nil ?_
  rintro w' hw
  have HW := Lib.hid (HB.out.trans (hw.mono HB.out.size))
  clear hw
  go_wp2
  go_ret
  exact ⟨rfl, HW.out⟩
end Go.Proofs.YtldhlknmabpanaaGreat
