/-
  Own text: the law's Same, walked.
-/
import Derived.Test.YtopnceniihgkpaaSqJ
import Derived.Test.YtopnceniihgkpaaGrow
namespace Go.Proofs.Ytopnceniihgkpaa
open Go.RowKit

/-- A region whose operations are written out, at a class of its own. -/
theorem wpIn_region_class {F : Fence} {n : Nat} {P : Program} {id : Nat} {Q : Exit → Act → World → Prop} {a : Act} {w : World} {l : List Oper} (C : World → Prop) (hC : C w.drew) (hro : F.round = none) (hm : P.follows .mixedOrders = true) (hB : Region.lexB .any l.toArray = true)
    (h : wpQuietIn F n P l.toArray C (fun a' => ∀ w', C w' → Q .normal a' w') l a) : (Code.region id l.toArray true).wpIn F n P Q a w :=
  wpIn_region_quiet (C := C) hro hm hB hC (by simpa using h)
/-- A guarded operation, whose guard is decided, that yields this value in every world of the class. -/
theorem wpQuietIn_readw {F : Fence} {n : Nat} {P : Program} {ops : Array Oper} {C : World → Prop} {Q : Act → Prop} {a : Act} {o : Oper} {rest : List Oper} (v : Value) (ha : o.askedIn F P a C) (hg : Region.wanted o (yielded ops a.tmps) = true) (hv : ∀ w, C w → o.quietAtIn F n P a C w v) (h : wpQuietIn F n P ops C Q rest (a.put o.dst v)) : wpQuietIn F n P ops C Q (o :: rest) a :=
  ⟨ha, by rw [if_pos hg]; exact ⟨v, hv, h⟩⟩
theorem quiet_load {F : Fence} {n : Nat} {C : World → Prop} {w : World} {a : Act} {o : Oper} {v : Value} (ty : TypeId) (x : Operand) (p : Value) (ho : o.op = .load ty x) (hx : a.eval x = p) (hl : (Instr.loadAt ty p).run Try.prog w = .ok v w) : o.quietAtIn F n Try.prog a C w v := by
  unfold Oper.quietAtIn execOp
  simp only [ho, hx, Sem.run_bind, hl, Result.andThen_ok, Sem.run_pure]
  exact ⟨rfl, rfl⟩
set_option maxRecDepth 100000 in
set_option maxHeartbeats 4000000 in
theorem same8_any (s : Sn) (w : World) :
    Calls Try.prog 34 #[.agg s.cells, .agg (rowOf 69 s.dc)] w fun e w' => e = .returned (.bool true) ∧ Below w.heap.size w w' := by
  have X0 : SBlk ((w.alloc (.cells s.cells 29)).alloc (.cells (rowOf 69 s.dc) 35)) w.heap.size s := by
    unfold SBlk
    rw [Below.heap_alloc _ _ _ (by simp)]
    exact Go.Deep.blk_alloc_new _ _
  have X1 : DRow ((w.alloc (.cells s.cells 29)).alloc (.cells (rowOf 69 s.dc) 35)) (w.heap.size + 1) s.dc := by
    have := rowIs_new (w.alloc (.cells s.cells 29)) 69 s.dc 35
    simpa using this
  have X2 : Below w.heap.size w ((w.alloc (.cells s.cells 29)).alloc (.cells (rowOf 69 s.dc) 35)) := ((Below.refl _ _).alloc (Nat.le_refl _) _).alloc (by simp) _
  have HX0 := Lib.hid X0
  have HX1 := Lib.hid X1
  have HX2 := Lib.hid X2
  clear X0 X1 X2
  generalize hS : s.cells = S at *
  generalize hR : rowOf 69 s.dc = R at *
  have HR := Lib.hid hR
  clear hR hS
  go_enter Try.func34, Try.ntmps34
  go_upto_region 1 with fail
  generalize ((w.alloc (.cells S 29)).alloc (.cells R 35)) = W at *
  have HC : Hid (∀ w', Below W.heap.size W w' → w'.cell? ⟨w.heap.size, 0, none⟩ = some (.bool s.any) ∧ w'.cell? ⟨w.heap.size, 1, none⟩ = some (.int .u32 (s.top : Int)) ∧ w'.cell? ⟨w.heap.size, 2, none⟩ = some (.int .u64 (s.bts.toNat : Int)) ∧ w'.cell? ⟨w.heap.size, 3, none⟩ = some (.int .i64 (s.came : Int)) ∧ w'.cell? ⟨w.heap.size, 4, none⟩ = some (.int .i64 (s.twice : Int)) ∧ w'.cell? ⟨w.heap.size, 5, none⟩ = some (.int .i64 (s.lost : Int))
      ∧ w'.cell? ⟨w.heap.size + 1, 0, none⟩ = some (.bool s.any) ∧ w'.cell? ⟨w.heap.size + 1, 1, none⟩ = some (.int .u32 (s.top : Int)) ∧ w'.cell? ⟨w.heap.size + 1, 66, none⟩ = some (.int .i64 (s.came : Int)) ∧ w'.cell? ⟨w.heap.size + 1, 67, none⟩ = some (.int .i64 (s.twice : Int)) ∧ w'.cell? ⟨w.heap.size + 1, 68, none⟩ = some (.int .i64 (s.lost : Int))) := Lib.hid (fun w' hb => by
    have a0 := HX0.out.below hb HX0.out.lt
    have a1 : DRow w' (w.heap.size + 1) s.dc := HX1.out.of_block (hb.block _ HX1.out.lt)
    exact ⟨a0.cell 0, a0.cell 1, a0.cell 2, a0.cell 3, a0.cell 4, a0.cell 5, a1.cell (i := 0) (by omega), a1.cell (i := 1) (by omega), a1.cell (i := 66) (by omega), a1.cell (i := 67) (by omega), a1.cell (i := 68) (by omega)⟩)
  have HL : Hid (∀ w', Below W.heap.size W w' → (Instr.loadAt 35 (.pointer (some ⟨w.heap.size + 1, 0, none⟩))).run Try.prog w' = .ok (.agg (rowOf 69 s.dc)) w') := Lib.hid (fun w' hb => by
    have a1 : DRow w' (w.heap.size + 1) s.dc := HX1.out.of_block (hb.block _ HX1.out.lt)
    have hl := run_loadVar_row w' (w.heap.size + 1) 35 35 (rowOf 69 s.dc) (0, 0) _ (rowIs_heap a1) Try.underlying35 rfl (by rw [rowOf_size]; exact info30)
    simp only [Instr.loadAt, Instr.sureAddr, Sem.run_bind, Sem.run_pure, Result.andThen_ok, hl])
  have HB : Hid (∀ w', Below W.heap.size W w' → Calls Try.prog 47 #[.agg (rowOf 69 s.dc)] w' fun e w'' => e = .returned (.int .u64 (s.bts.toNat : Int)) ∧ Below W.heap.size W w'') := Lib.hid (fun w' hb => (bits_any s w').mono fun e w'' h => ⟨h.1, hb.trans (h.2.mono hb.size)⟩)
  refine (wpIn_wide (n := 3)).1 ?_
  refine wpIn_region_class (fun w' => Below W.heap.size W w') (Below.refl _ _).drew rfl (by kernel_rfl) (by kernel_rfl) ?_
  refine wpQuietIn_step (fun _ _ _ _ => trivial) (fun K hK => ?_)
  go_simp
  refine ⟨_, fun _ _ => rfl, hK _ ?_⟩
  clear hK K
  refine wpQuietIn_readw (.bool s.any) (fun _ _ _ _ => trivial) rfl (fun w' hw => ?_) ?_
  · have c := HC.out w' hw
    obtain ⟨s0, s1, s2, s3, s4, s5, d0, d1, d66, d67, d68⟩ := c
    unfold Oper.quietAtIn
    go_simp
  simp only [Act.put, List.setIfInBounds_toArray, List.set_cons_zero, List.set_cons_succ]
  refine wpQuietIn_step (fun _ _ _ _ => trivial) (fun K hK => ?_)
  go_simp
  refine ⟨_, fun _ _ => rfl, hK _ ?_⟩
  clear hK K
  refine wpQuietIn_readw (.bool s.any) (fun _ _ _ _ => trivial) rfl (fun w' hw => ?_) ?_
  · have c := HC.out w' hw
    obtain ⟨s0, s1, s2, s3, s4, s5, d0, d1, d66, d67, d68⟩ := c
    unfold Oper.quietAtIn
    go_simp
  simp only [Act.put, List.setIfInBounds_toArray, List.set_cons_zero, List.set_cons_succ]
  refine wpQuietIn_step (fun _ _ _ _ => trivial) (fun K hK => ?_)
  go_simp
  refine ⟨_, fun _ _ => rfl, hK _ ?_⟩
  clear hK K
  refine wpQuietIn_step (fun _ _ _ _ => trivial) (fun K hK => ?_)
  go_simp
  refine ⟨_, fun _ _ => rfl, hK _ ?_⟩
  clear hK K
  refine wpQuietIn_step (fun _ _ _ _ => trivial) (fun K hK => ?_)
  go_simp
  refine ⟨_, fun _ _ => rfl, hK _ ?_⟩
  clear hK K
  refine wpQuietIn_readw (.int .u32 (s.top : Int)) (fun _ _ _ _ => trivial) rfl (fun w' hw => ?_) ?_
  · have c := HC.out w' hw
    obtain ⟨s0, s1, s2, s3, s4, s5, d0, d1, d66, d67, d68⟩ := c
    unfold Oper.quietAtIn
    go_simp
  simp only [Act.put, List.setIfInBounds_toArray, List.set_cons_zero, List.set_cons_succ]
  refine wpQuietIn_step (fun _ _ _ _ => trivial) (fun K hK => ?_)
  go_simp
  refine ⟨_, fun _ _ => rfl, hK _ ?_⟩
  clear hK K
  refine wpQuietIn_readw (.int .u32 (s.top : Int)) (fun _ _ _ _ => trivial) rfl (fun w' hw => ?_) ?_
  · have c := HC.out w' hw
    obtain ⟨s0, s1, s2, s3, s4, s5, d0, d1, d66, d67, d68⟩ := c
    unfold Oper.quietAtIn
    go_simp
  simp only [Act.put, List.setIfInBounds_toArray, List.set_cons_zero, List.set_cons_succ]
  refine wpQuietIn_step (fun _ _ _ _ => trivial) (fun K hK => ?_)
  go_simp
  refine ⟨_, fun _ _ => rfl, hK _ ?_⟩
  clear hK K
  refine wpQuietIn_step (fun _ _ _ _ => trivial) (fun K hK => ?_)
  go_simp
  refine ⟨_, fun _ _ => rfl, hK _ ?_⟩
  clear hK K
  refine wpQuietIn_step (fun _ _ _ _ => trivial) (fun K hK => ?_)
  go_simp
  refine ⟨_, fun _ _ => rfl, hK _ ?_⟩
  clear hK K
  refine wpQuietIn_step (fun _ _ _ _ => trivial) (fun K hK => ?_)
  go_simp
  refine ⟨_, fun _ _ => rfl, hK _ ?_⟩
  clear hK K
  refine wpQuietIn_readw (.int .u64 (s.bts.toNat : Int)) (fun _ _ _ _ => trivial) rfl (fun w' hw => ?_) ?_
  · have c := HC.out w' hw
    obtain ⟨s0, s1, s2, s3, s4, s5, d0, d1, d66, d67, d68⟩ := c
    unfold Oper.quietAtIn
    go_simp
  simp only [Act.put, List.setIfInBounds_toArray, List.set_cons_zero, List.set_cons_succ]
  refine wpQuietIn_readw (.agg (rowOf 69 s.dc)) (fun _ _ _ _ => trivial) rfl (fun w' hw => ?_) ?_
  · exact quiet_load 35 (.tmp 3) _ rfl rfl (HL.out w' hw)
  simp only [Act.put, List.setIfInBounds_toArray, List.set_cons_zero, List.set_cons_succ]
  refine wpQuietIn_step (fun _ _ _ _ => trivial) (fun K hK => ?_)
  go_simp
  refine ⟨.int .u64 (s.bts.toNat : Int), fun w' hw => callsIn_wide.2 (HB.out w' hw), hK _ ?_⟩
  clear hK K
  refine wpQuietIn_step (fun _ _ _ _ => trivial) (fun K hK => ?_)
  go_simp
  refine ⟨_, fun _ _ => rfl, hK _ ?_⟩
  clear hK K
  refine wpQuietIn_step (fun _ _ _ _ => trivial) (fun K hK => ?_)
  go_simp
  refine ⟨_, fun _ _ => rfl, hK _ ?_⟩
  clear hK K
  refine wpQuietIn_step (fun _ _ _ _ => trivial) (fun K hK => ?_)
  go_simp
  refine ⟨_, fun _ _ => rfl, hK _ ?_⟩
  clear hK K
  refine wpQuietIn_step (fun _ _ _ _ => trivial) (fun K hK => ?_)
  go_simp
  refine ⟨_, fun _ _ => rfl, hK _ ?_⟩
  clear hK K
  refine wpQuietIn_readw (.int .i64 (s.came : Int)) (fun _ _ _ _ => trivial) rfl (fun w' hw => ?_) ?_
  · have c := HC.out w' hw
    obtain ⟨s0, s1, s2, s3, s4, s5, d0, d1, d66, d67, d68⟩ := c
    unfold Oper.quietAtIn
    go_simp
  simp only [Act.put, List.setIfInBounds_toArray, List.set_cons_zero, List.set_cons_succ]
  refine wpQuietIn_step (fun _ _ _ _ => trivial) (fun K hK => ?_)
  go_simp
  refine ⟨_, fun _ _ => rfl, hK _ ?_⟩
  clear hK K
  refine wpQuietIn_readw (.int .i64 (s.came : Int)) (fun _ _ _ _ => trivial) rfl (fun w' hw => ?_) ?_
  · have c := HC.out w' hw
    obtain ⟨s0, s1, s2, s3, s4, s5, d0, d1, d66, d67, d68⟩ := c
    unfold Oper.quietAtIn
    go_simp
  simp only [Act.put, List.setIfInBounds_toArray, List.set_cons_zero, List.set_cons_succ]
  refine wpQuietIn_step (fun _ _ _ _ => trivial) (fun K hK => ?_)
  go_simp
  refine ⟨_, fun _ _ => rfl, hK _ ?_⟩
  clear hK K
  refine wpQuietIn_step (fun _ _ _ _ => trivial) (fun K hK => ?_)
  go_simp
  refine ⟨_, fun _ _ => rfl, hK _ ?_⟩
  clear hK K
  refine wpQuietIn_step (fun _ _ _ _ => trivial) (fun K hK => ?_)
  go_simp
  refine ⟨_, fun _ _ => rfl, hK _ ?_⟩
  clear hK K
  refine wpQuietIn_step (fun _ _ _ _ => trivial) (fun K hK => ?_)
  go_simp
  refine ⟨_, fun _ _ => rfl, hK _ ?_⟩
  clear hK K
  refine wpQuietIn_readw (.int .i64 (s.twice : Int)) (fun _ _ _ _ => trivial) rfl (fun w' hw => ?_) ?_
  · have c := HC.out w' hw
    obtain ⟨s0, s1, s2, s3, s4, s5, d0, d1, d66, d67, d68⟩ := c
    unfold Oper.quietAtIn
    go_simp
  simp only [Act.put, List.setIfInBounds_toArray, List.set_cons_zero, List.set_cons_succ]
  refine wpQuietIn_step (fun _ _ _ _ => trivial) (fun K hK => ?_)
  go_simp
  refine ⟨_, fun _ _ => rfl, hK _ ?_⟩
  clear hK K
  refine wpQuietIn_readw (.int .i64 (s.twice : Int)) (fun _ _ _ _ => trivial) rfl (fun w' hw => ?_) ?_
  · have c := HC.out w' hw
    obtain ⟨s0, s1, s2, s3, s4, s5, d0, d1, d66, d67, d68⟩ := c
    unfold Oper.quietAtIn
    go_simp
  simp only [Act.put, List.setIfInBounds_toArray, List.set_cons_zero, List.set_cons_succ]
  refine wpQuietIn_step (fun _ _ _ _ => trivial) (fun K hK => ?_)
  go_simp
  refine ⟨_, fun _ _ => rfl, hK _ ?_⟩
  clear hK K
  refine wpQuietIn_step (fun _ _ _ _ => trivial) (fun K hK => ?_)
  go_simp
  refine ⟨_, fun _ _ => rfl, hK _ ?_⟩
  clear hK K
  refine wpQuietIn_step (fun _ _ _ _ => trivial) (fun K hK => ?_)
  go_simp
  refine ⟨_, fun _ _ => rfl, hK _ ?_⟩
  clear hK K
  refine wpQuietIn_step (fun _ _ _ _ => trivial) (fun K hK => ?_)
  go_simp
  refine ⟨_, fun _ _ => rfl, hK _ ?_⟩
  clear hK K
  refine wpQuietIn_readw (.int .i64 (s.lost : Int)) (fun _ _ _ _ => trivial) rfl (fun w' hw => ?_) ?_
  · have c := HC.out w' hw
    obtain ⟨s0, s1, s2, s3, s4, s5, d0, d1, d66, d67, d68⟩ := c
    unfold Oper.quietAtIn
    go_simp
  simp only [Act.put, List.setIfInBounds_toArray, List.set_cons_zero, List.set_cons_succ]
  refine wpQuietIn_step (fun _ _ _ _ => trivial) (fun K hK => ?_)
  go_simp
  refine ⟨_, fun _ _ => rfl, hK _ ?_⟩
  clear hK K
  refine wpQuietIn_readw (.int .i64 (s.lost : Int)) (fun _ _ _ _ => trivial) rfl (fun w' hw => ?_) ?_
  · have c := HC.out w' hw
    obtain ⟨s0, s1, s2, s3, s4, s5, d0, d1, d66, d67, d68⟩ := c
    unfold Oper.quietAtIn
    go_simp
  simp only [Act.put, List.setIfInBounds_toArray, List.set_cons_zero, List.set_cons_succ]
  refine wpQuietIn_step (fun _ _ _ _ => trivial) (fun K hK => ?_)
  go_simp
  refine ⟨_, fun _ _ => rfl, hK _ ?_⟩
  clear hK K
  refine wpQuietIn_step (fun _ _ _ _ => trivial) (fun K hK => ?_)
  go_simp
  refine ⟨_, fun _ _ => rfl, hK _ ?_⟩
  clear hK K
  refine wpQuietIn_step (fun _ _ _ _ => trivial) (fun K hK => ?_)
  go_simp
  refine ⟨_, fun _ _ => rfl, hK _ ?_⟩
  clear hK K
  refine wpQuietIn_nil ?_
  rintro w' hw
  go_wp2
  go_ret
  exact ⟨rfl, HX2.out.trans (hw.mono HX2.out.size)⟩
end Go.Proofs.Ytopnceniihgkpaa
