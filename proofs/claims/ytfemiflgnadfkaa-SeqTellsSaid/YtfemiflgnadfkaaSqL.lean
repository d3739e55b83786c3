/-
  Own text: numbers that come, one behind the other, by both, walked.
-/
import Derived.Test.YtfemiflgnadfkaaSqK
import Derived.OrdersHeld
import Derived.Deep.RegionHeld3
namespace Go.Proofs.Ytfemiflgnadfkaa
open Go.RowKit

theorem cell_lt8 {W : World} {b o : Nat} {v : Value} (h : W.cell? ⟨b, o, none⟩ = some v) : b < W.heap.size := by
  rcases Nat.lt_or_ge b W.heap.size with g | g
  · exact g
  · simp [World.cell?, Array.getElem?_eq_none g] at h
theorem SBlk.six {w : World} {b : Nat} {s : Sn} (h : SBlk w b s) : w.cell? ⟨b, 0, none⟩ = some (.bool s.any) ∧ w.cell? ⟨b, 1, none⟩ = some (.int .u32 s.top) ∧ w.cell? ⟨b, 2, none⟩ = some (.int .u64 s.bts.toNat) ∧ w.cell? ⟨b, 3, none⟩ = some (.int .i64 s.came) ∧ w.cell? ⟨b, 4, none⟩ = some (.int .i64 s.twice) ∧ w.cell? ⟨b, 5, none⟩ = some (.int .i64 s.lost) :=
  ⟨h.cell 0, h.cell 1, h.cell 2, h.cell 3, h.cell 4, h.cell 5⟩
/-- A slice of words of 32 bits, as far as a walk asks. -/
def U32s (w : World) (a : Option Addr) (len : Nat) : Prop := len ≤ 9223372036854775807 ∧ ∀ i, i < len → ∃ (b off n : Nat), a = some ⟨b, off, none⟩ ∧ b < w.heap.size ∧ w.cell? ⟨b, off + i, none⟩ = some (.int .u32 (n : Int)) ∧ n < 4294967296
theorem IsRow.u32s {w : World} {a : Option Addr} {len cap : Nat} {zs : List Int} (h : IsRow .u32 w a len cap zs) : U32s w a len := by
  have hb := h.bound
  refine ⟨by omega, fun i hi => ?_⟩
  rcases h.at_ with h0 | ⟨_, b, off, rfl, g⟩
  · omega
  · have hw := u32_lo (g.wf i hi)
    have hc := g.cell i hi
    refine ⟨b, off, (zs.getD i 0).toNat, rfl, cell_lt8 hc, ?_, by omega⟩
    rw [hc, Int.toNat_of_nonneg hw.1]
theorem U32s.below {w w' : World} {a : Option Addr} {len : Nat} (h : U32s w a len) {B : Nat} (hb : Below B w w') (hB : w.heap.size ≤ B) : U32s w' a len :=
  ⟨h.1, fun i hi => by
    obtain ⟨b, off, n, e, hl, hc, hn⟩ := h.2 i hi
    exact ⟨b, off, n, e, Nat.lt_of_lt_of_le hl hb.size, (hb.cell (p := ⟨b, off + i, none⟩) (by show b < B; omega)).trans hc, hn⟩⟩
theorem yields_load {ops : Array Oper} {S : World → Prop} {o : Oper} {a : Act} {v : Value} (ty : TypeId) (x : Operand) (p : Value) (hw : Region.wanted o (yielded ops a.tmps) = true) (ho : o.op = .load ty x) (hx : a.eval x = p)
    (hS : ∀ w, S w → (Instr.loadAt ty p).run Try.prog w = .ok v w) : YieldsIf Try.prog ops S o v a :=
  .inl ⟨hw, fun w hs => by
    unfold execOp
    simp only [ho, hx, Sem.run_bind, hS w hs, Result.andThen_ok, Sem.run_pure]⟩
theorem drow_load {w : World} {b : Nat} {f : Nat → Value} (h : DRow w b f) : (Instr.loadAt 30 (.pointer (some ⟨b, 0, none⟩))).run Try.prog w = .ok (.agg (rowOf 69 f)) w := by
  have hl := run_loadVar_row w b 30 30 (rowOf 69 f) (0, 0) _ (rowIs_heap h) Try.underlying30 rfl (by rw [rowOf_size]; exact info30)
  simp only [Instr.loadAt, Instr.sureAddr, Sem.run_bind, Sem.run_pure, Result.andThen_ok, hl]
theorem wpList_load_rowIsW {w : World} {ops : Array Oper} {rest : List Oper} {o : Oper} {a : Act} {Q : Exit → Act → World → Prop} (ty : TypeId) (x : Operand) (ho : o.op = .load ty x)
    (g : Nat) (hx : a.eval x = .pointer (some ⟨g, 0, none⟩)) (t : TypeId) (n : Nat) (f : Nat → Value) (hg : w.rowIs g t n f) (d : TypeDesc) (hu : Try.prog.underlying ty = some d)
    (hd : d.isRow = true) (hi : (Try.prog.info? ty).map (·.size) = some n) (hw : Region.wanted o (yielded ops a.tmps) = true)
    (h : wpList Try.prog ops Q rest (a.put o.dst (.agg (rowOf n f))) w) : wpList Try.prog ops Q (o :: rest) a w :=
  wpList_step fun K hK => by
    rw [if_pos hw]
    exact wp_load_row ty x ho g hx t (rowOf n f) (0, 0) d (rowIs_heap hg) hu (by cases d <;> first | rfl | exact hd) (by rw [rowOf_size]; exact hi) (hK _ _ h)
theorem info27 : (Try.prog.info? 27).map (·.size) = some 6 := by kernel_rfl
theorem Sn.cells_one (s : Sn) : s.cells.all (·.oneCell') = true := by simp [Sn.cells, Value.oneCell']
theorem sblk_load {w : World} {b : Nat} {s : Sn} (h : SBlk w b s) : (Instr.loadAt 27 (.pointer (some ⟨b, 0, none⟩))).run Try.prog w = .ok (.agg s.cells) w := by
  have hl := run_loadVar_row w b 27 27 s.cells (0, 0) _ h Try.underlying27 rfl info27
  simp only [Instr.loadAt, Instr.sureAddr, Sem.run_bind, Sem.run_pure, Result.andThen_ok, hl]
theorem step_store_sblk {w : World} {ops : Array Oper} {o : Oper} {a : Act} {K : Act → World → Prop} {Q : Exit → Act → World → Prop} {E : Prop} (hgd : o.guard = none) (x y : Operand) (ho : o.op = .store 27 x y)
    (g : Nat) (hx : a.eval x = .pointer (some ⟨g, 0, none⟩)) (s s0 : Sn) (hy : a.eval y = .agg s.cells) (hg : SBlk w g s0)
    (h : ∀ w', Hid (SBlk w' g s) → Hid (∀ c, c ≠ g → w'.heap[c]? = w.heap[c]?) → Hid (Below g w w') → w'.heap.size = w.heap.size → K (a.put o.dst undef) w') :
    if Region.wanted o (yielded ops a.tmps) = true then Oper.wp Try.prog o a w K Q else E := by
  have hw : Region.wanted o (yielded ops a.tmps) = true := by simp [Region.wanted, hgd]
  rw [if_pos hw]
  refine wp_store_row 27 x y ho g s.cells hx hy 27 s0.cells hg info27 rfl s.cells_one ?_
  refine h _ (Lib.hid ?_) (Lib.hid ?_) (Lib.hid (below_setRow (Below.refl _ _) (Nat.le_refl _) _)) (size_setRow _ _ _)
  · unfold SBlk at *
    simp [World.setRow, Array.getElem?_modify, hg]
  · intro c hc
    simp only [World.setRow, Array.getElem?_modify]
    rw [if_neg (fun e => hc e.symm)]
theorem results_three {fn : Func} {p q u : Tmp} {t1 t2 : TypeId} (h : fn.results = #[.cell p t1, .cell q t2, .tmp u]) (tmps : Array Value) (w : World) (b c : Nat) (v1 v2 v : Value)
    (hp : tmps.getD p undef = .pointer (some ⟨b, 0, none⟩)) (hq : tmps.getD q undef = .pointer (some ⟨c, 0, none⟩)) (hv : tmps.getD u undef = v)
    (h1 : (loadVar t1 ⟨b, 0, none⟩).run Try.prog w = .ok v1 w) (h2 : (loadVar t2 ⟨c, 0, none⟩).run Try.prog w = .ok v2 w) :
    (results fn tmps).run Try.prog w = .ok (.tuple #[v1, v2, v]) w := by
  have hp' : tmps[p]?.getD undef = .pointer (some ⟨b, 0, none⟩) := by simpa using hp
  have hq' : tmps[q]?.getD undef = .pointer (some ⟨c, 0, none⟩) := by simpa using hq
  have hv' : tmps[u]?.getD undef = v := by simpa using hv
  simp [results, h, hp', hq', hv', asAddr, h1, h2]
theorem step_store_rowIs {w : World} {ops : Array Oper} {o : Oper} {a : Act} {K : Act → World → Prop} {Q : Exit → Act → World → Prop} {E : Prop} (hgd : o.guard = none) (ty : TypeId) (x y : Operand) (ho : o.op = .store ty x y)
    (g : Nat) (hx : a.eval x = .pointer (some ⟨g, 0, none⟩)) (n : Nat) (f : Nat → Value) (hy : a.eval y = .agg (rowOf n f)) (t : TypeId) (f0 : Nat → Value) (hg : w.rowIs g t n f0)
    (hi : (Try.prog.info? ty).map (·.size) = some n) (h1 : ∀ i, (f i).oneCell' = true)
    (h : ∀ w', Hid (w'.rowIs g t n f) → Hid (∀ c, c ≠ g → w'.heap[c]? = w.heap[c]?) → Hid (Below g w w') → w'.heap.size = w.heap.size → K (a.put o.dst undef) w') :
    if Region.wanted o (yielded ops a.tmps) = true then Oper.wp Try.prog o a w K Q else E := by
  have hw : Region.wanted o (yielded ops a.tmps) = true := by simp [Region.wanted, hgd]
  rw [if_pos hw]
  refine wp_store_row ty x y ho g (rowOf n f) hx hy t (rowOf n f0) (rowIs_heap hg) (by rw [rowOf_size]; exact hi) (by rw [rowOf_size, rowOf_size]) (rowOf_one h1) ?_
  refine h _ (Lib.hid ?_) (Lib.hid ?_) (Lib.hid (below_setRow (Below.refl _ _) (Nat.le_refl _) _)) (size_setRow _ _ _)
  · refine ⟨rowOf n f, ?_, rowOf_size n f, fun i hi => rowOf_get n f i hi⟩
    simp [World.setRow, Array.getElem?_modify, rowIs_heap hg]
  · intro c hc
    simp only [World.setRow, Array.getElem?_modify]
    rw [if_neg (fun e => hc e.symm)]
/-- An operation that yields one value in each world of the class is taken first: its place is written out. -/
theorem take_at {P : Program} {ops : Array Oper} {md : Region.Mode} {Q : Exit → Act → World → Prop} {S : World → Prop} {i : Nat} {oi : Oper} {v : Value} {fuel : Nat} {listed : Array Bool} {a : Act} {w : World} (d : Option Tmp) (hi : ops[i]? = some oi) (hd : oi.dst = d)
    (hs : Region.noSelect ops = true) (hf : Region.free md ops listed i = true) (hr : (Region.ready md ops listed).contains i = true)
    (hQ : ∀ c a w, Q (.panic c) (a.put oi.dst v) w → Q (.panic c) a w) (hy : YieldsIf P ops S oi v a) (hS : S w)
    (h : wpAnyH P md ops Q S fuel (listed.setIfInBounds i true) (a.put d v) w) : wpAnyH P md ops Q S (fuel + 1) listed a w := by
  subst hd
  exact wpAnyH_take hi hs hf hr hQ hy hS h
set_option maxRecDepth 100000 in
theorem played_any (a : Option Addr) (len cap : Nat) (w : World) (hu : U32s w a len) :
    Calls Try.prog 7 #[.slice a len cap] w fun e w' => ∃ s : Sn, e = .returned (.tuple #[.agg s.cells, .agg (rowOf 69 s.dc), .bool true]) ∧ s.fit 200 ∧ Below w.heap.size w w' := by
  have z := zero30
  have hlen := hu.1
  have HU := Lib.hid hu
  clear hu
  obtain ⟨Z, hz⟩ : ∃ Z, Z = rowOf 69 Sn.zero.dc := ⟨_, rfl⟩
  rw [← hz] at z
  have HZ : Hid (∀ w' : World, DRow (w'.alloc (.cells Z 30)) w'.heap.size Sn.zero.dc) := Lib.hid (fun w' => by rw [hz]; exact rowIs_new w' 69 _ _)
  clear hz
  have HS : Hid (∀ w' : World, SBlk (w'.alloc (.cells #[Value.bool false, Value.int .u32 0, Value.int .u64 0, Value.int .i64 0, Value.int .i64 0, Value.int .i64 0] 27)) w'.heap.size Sn.zero) := Lib.hid (fun w' => Go.Deep.blk_alloc_new w' _)
  go_enter Try.func7, Try.ntmps7
  go_upto_region 3 with fail
  have h1 : (w.alloc (.cells #[Value.bool false, Value.int .u32 0, Value.int .u64 0, Value.int .i64 0, Value.int .i64 0, Value.int .i64 0] 27)).heap.size = w.heap.size + 1 := by simp
  have h2 : ((w.alloc (.cells #[Value.bool false, Value.int .u32 0, Value.int .u64 0, Value.int .i64 0, Value.int .i64 0, Value.int .i64 0] 27)).alloc (.cells Z 30)).heap.size = w.heap.size + 1 + 1 := by simp
  have h3 : (((w.alloc (.cells #[Value.bool false, Value.int .u32 0, Value.int .u64 0, Value.int .i64 0, Value.int .i64 0, Value.int .i64 0] 27)).alloc (.cells Z 30)).alloc (.cells #[Value.bool false, Value.int .u32 0, Value.int .u64 0, Value.int .i64 0, Value.int .i64 0, Value.int .i64 0] 27)).heap.size = w.heap.size + 1 + 1 + 1 := by simp
  have X3 : DRow ((((w.alloc (.cells #[Value.bool false, Value.int .u32 0, Value.int .u64 0, Value.int .i64 0, Value.int .i64 0, Value.int .i64 0] 27)).alloc (.cells Z 30)).alloc (.cells #[Value.bool false, Value.int .u32 0, Value.int .u64 0, Value.int .i64 0, Value.int .i64 0, Value.int .i64 0] 27)).alloc (.cells Z 30)) (w.heap.size + 1 + 1 + 1) Sn.zero.dc := by rw [← h3]; exact HZ.out _
  have X2 : SBlk ((((w.alloc (.cells #[Value.bool false, Value.int .u32 0, Value.int .u64 0, Value.int .i64 0, Value.int .i64 0, Value.int .i64 0] 27)).alloc (.cells Z 30)).alloc (.cells #[Value.bool false, Value.int .u32 0, Value.int .u64 0, Value.int .i64 0, Value.int .i64 0, Value.int .i64 0] 27)).alloc (.cells Z 30)) (w.heap.size + 1 + 1) Sn.zero := by
    have := HS.out ((w.alloc (.cells #[Value.bool false, Value.int .u32 0, Value.int .u64 0, Value.int .i64 0, Value.int .i64 0, Value.int .i64 0] 27)).alloc (.cells Z 30))
    rw [h2] at this
    exact this.keep (Below.heap_alloc _ _ _ (by omega))
  have X1 : DRow ((((w.alloc (.cells #[Value.bool false, Value.int .u32 0, Value.int .u64 0, Value.int .i64 0, Value.int .i64 0, Value.int .i64 0] 27)).alloc (.cells Z 30)).alloc (.cells #[Value.bool false, Value.int .u32 0, Value.int .u64 0, Value.int .i64 0, Value.int .i64 0, Value.int .i64 0] 27)).alloc (.cells Z 30)) (w.heap.size + 1) Sn.zero.dc := by
    have := HZ.out (w.alloc (.cells #[Value.bool false, Value.int .u32 0, Value.int .u64 0, Value.int .i64 0, Value.int .i64 0, Value.int .i64 0] 27))
    rw [h1] at this
    exact (this.alloc _).alloc _
  have X0 : SBlk ((((w.alloc (.cells #[Value.bool false, Value.int .u32 0, Value.int .u64 0, Value.int .i64 0, Value.int .i64 0, Value.int .i64 0] 27)).alloc (.cells Z 30)).alloc (.cells #[Value.bool false, Value.int .u32 0, Value.int .u64 0, Value.int .i64 0, Value.int .i64 0, Value.int .i64 0] 27)).alloc (.cells Z 30)) w.heap.size Sn.zero :=
    (((HS.out w).keep (Below.heap_alloc _ _ _ (by omega))).keep (Below.heap_alloc _ _ _ (by omega))).keep (Below.heap_alloc _ _ _ (by omega))
  have XB : Below w.heap.size w ((((w.alloc (.cells #[Value.bool false, Value.int .u32 0, Value.int .u64 0, Value.int .i64 0, Value.int .i64 0, Value.int .i64 0] 27)).alloc (.cells Z 30)).alloc (.cells #[Value.bool false, Value.int .u32 0, Value.int .u64 0, Value.int .i64 0, Value.int .i64 0, Value.int .i64 0] 27)).alloc (.cells Z 30)) := ((((Below.refl _ _).alloc (Nat.le_refl _) _).alloc (by omega) _).alloc (by omega) _).alloc (by omega) _
  have HX0 := Lib.hid X0
  have HX1 := Lib.hid X1
  have HX2 := Lib.hid X2
  have HX3 := Lib.hid X3
  have HXB := Lib.hid XB
  clear X0 X1 X2 X3 XB h1 h2 h3 HS
  generalize ((((w.alloc (.cells #[Value.bool false, Value.int .u32 0, Value.int .u64 0, Value.int .i64 0, Value.int .i64 0, Value.int .i64 0] 27)).alloc (.cells Z 30)).alloc (.cells #[Value.bool false, Value.int .u32 0, Value.int .u64 0, Value.int .i64 0, Value.int .i64 0, Value.int .i64 0] 27)).alloc (.cells Z 30)) = W at *
  go_wp2
  go_loopw [7, 8, 9] (fun iv _ _ wr => ∃ (j : Nat) (s : Sn), j ≤ len ∧ j ≤ 200 ∧ iv = .int .i64 j ∧ Hid (s.fit j) ∧ Hid (SBlk wr (w.heap.size + 1 + 1) s) ∧ Hid (DRow wr (w.heap.size + 1 + 1 + 1) s.dc) ∧ Hid (SBlk wr w.heap.size Sn.zero) ∧ Hid (DRow wr (w.heap.size + 1) Sn.zero.dc) ∧ Hid (Below w.heap.size w wr)) (fun iv _ _ _ => len - (intOf iv).toNat)
  case atStart => exact ⟨0, Sn.zero, by omega, by omega, rfl, Lib.hid ⟨by decide, by decide, by decide, by decide, fun _ => rfl⟩, HX2, HX3, HX0, HX1, HXB⟩
  case round =>
    clear HX0 HX1 HX2 HX3 HXB
    obtain ⟨j, s, hj, hj2, rfl, HF, D2, D3, D0, D1, DB⟩ := hrel
    by_cases hlt : j < len ∧ j < 200
    · obtain ⟨h1, h2⟩ := hlt
      obtain ⟨b, off, n, rfl, hb, hc, hn⟩ := HU.out.2 j h1
      have g1 : (j : Int) < len := by omega
      have g2 : (j : Int) < 200 := by omega
      have k0 : (0 : Int) ≤ j := by omega
      have cj : wr.cell? ⟨b, off + j, none⟩ = some (.int .u32 (n : Int)) := (DB.out.cell (p := ⟨b, off + j, none⟩) hb).trans hc
      clear hc
      have HN := Lib.hid hn
      clear hn
      go_upto_region 6 with fail
      have hcut : True := trivial
      obtain ⟨s2, hs2⟩ : ∃ s2, s2 = (s.take n).1 := ⟨_, rfl⟩
      obtain ⟨cd, hcd⟩ : ∃ cd, cd = (s.take n).2 := ⟨_, rfl⟩
      have CT : Hid (∀ w', Calls Try.prog 13 #[.agg (rowOf 69 s.dc), .int .u32 n] w' fun e w'' => e = .returned (.tuple #[.agg (rowOf 69 s2.dc), .int .i64 cd]) ∧ Below w'.heap.size w' w'') := Lib.hid (fun w' => by rw [hs2, hcd]; exact rtake_any s n j HN.out HF.out (by omega) w')
      have HS2 := Lib.hid hs2
      have HCD := Lib.hid hcd
      clear hs2 hcd
      have HL : Hid (∀ w', Below wr.heap.size wr w' → (Instr.loadAt 30 (.pointer (some ⟨w.heap.size + 1 + 1 + 1, 0, none⟩))).run Try.prog w' = .ok (.agg (rowOf 69 s.dc)) w') := Lib.hid (fun w' h => drow_load (D3.out.of_block (h.block _ D3.out.lt)))
      have HC : Hid (∀ w', Below wr.heap.size wr w' → w'.cell? ⟨b, off + j, none⟩ = some (.int .u32 (n : Int))) := Lib.hid (fun w' h => (h.cell (p := ⟨b, off + j, none⟩) (cell_lt8 cj)).trans cj)
      have I30 := Lib.hid info30
      have HF2 : Hid (∀ i, (s2.dc i).oneCell' = true) := Lib.hid (dcl_one _ _ _ _ _ _)
      refine Code.wp_mono (Q := fun e a' w' => e = .normal ∧ ∃ g, a' = { tmps := #[.slice (some ⟨b, off, none⟩) len cap, undef, .pointer (some ⟨w.heap.size, 0, none⟩), .pointer (some ⟨w.heap.size + 1, 0, none⟩), u4, .pointer (some ⟨w.heap.size + 1 + 1, 0, none⟩), .pointer (some ⟨w.heap.size + 1 + 1 + 1, 0, none⟩), .int .i64 j, .pointer (some ⟨g, 0, none⟩), .int .i64 cd, .int .i64 j, .slice (some ⟨b, off, none⟩) len cap, .int .i64 len, .bool true, .bool true, .int .i64 j, .bool true, .bool true, u18, u19, .tuple #[.agg (rowOf 69 s2.dc), .int .i64 cd], .agg (rowOf 69 s.dc), .slice (some ⟨b, off, none⟩) len cap, .int .i64 j, .pointer (some ⟨b, off + j, none⟩), .int .u32 n, .tuple #[.agg (rowOf 69 s2.dc), .int .i64 cd], .agg (rowOf 69 s2.dc), .int .i64 cd, u29, u30, u31, u32, u33, u34, u35, u36, u37, u38, u39, u40, u41, u42, u43, u44, undef, undef], defers := [] } ∧ Hid (DRow w' g s2.dc) ∧ Hid (wr.heap.size ≤ g) ∧ Hid (Below wr.heap.size wr w')) ?post ?reg
      case reg =>
        refine wp_region_noPanic ?_
        refine wp_region_held_drew (S := fun w' => Below wr.heap.size wr w') (by kernel_rfl) (Below.refl _ _).drew (fun hHeld => ?_)
        refine take_at (i := 0) (v := .agg (rowOf 69 s.dc)) (some 21) rfl rfl (by kernel_rfl) (by kernel_rfl) (by kernel_rfl) (fun _ _ _ h => h) (yields_load 30 (.tmp 6) (.pointer (some ⟨w.heap.size + 1 + 1 + 1, 0, none⟩)) rfl rfl rfl HL.out) hHeld ?_
        try simp only [Act.put, List.setIfInBounds_toArray, List.set_cons_zero, List.set_cons_succ]
        refine take_at (i := 1) (v := .slice (some ⟨b, off, none⟩) len cap) (some 22) rfl rfl (by kernel_rfl) (by kernel_rfl) (by kernel_rfl) (fun _ _ _ h => h) (Or.inl ⟨rfl, fun _ _ => rfl⟩) hHeld ?_
        try simp only [Act.put, List.setIfInBounds_toArray, List.set_cons_zero, List.set_cons_succ]
        refine take_at (i := 2) (v := .int .i64 j) (some 23) rfl rfl (by kernel_rfl) (by kernel_rfl) (by kernel_rfl) (fun _ _ _ h => h) (Or.inl ⟨rfl, fun _ _ => rfl⟩) hHeld ?_
        try simp only [Act.put, List.setIfInBounds_toArray, List.set_cons_zero, List.set_cons_succ]
        refine take_at (i := 3) (v := .pointer (some ⟨b, off + j, none⟩)) (some 24) rfl rfl (by kernel_rfl) (by kernel_rfl) (by kernel_rfl) (fun _ _ _ h => h) (Or.inl ⟨rfl, fun w' _ => by go_simp⟩) hHeld ?_
        try simp only [Act.put, List.setIfInBounds_toArray, List.set_cons_zero, List.set_cons_succ]
        refine take_at (i := 4) (v := .int .u32 n) (some 25) rfl rfl (by kernel_rfl) (by kernel_rfl) (by kernel_rfl) (fun _ _ _ h => h) (Or.inl ⟨rfl, fun w' hw => by have c := HC.out w' hw; go_simp⟩) hHeld ?_
        try simp only [Act.put, List.setIfInBounds_toArray, List.set_cons_zero, List.set_cons_succ]
        refine wpAnyH_ready (rs := [5, 9]) (by kernel_rfl) (by simp) ?_
        refine AllReadyH.cons (o := { dst := some 26, op := Op.call { callee := Callee.value (Operand.func 13), args := #[Operand.tmp 21, Operand.tmp 25], argTypes := #[30, 24] }, type := 42, pos := "law.go:27", after := #[{ on := 0, ground := Ground.data }, { on := 4, ground := Ground.data }], guard := none }) rfl (fun K hK => ?_) (AllReadyH.cons (o := { dst := some 8, op := Op.alloc 30, type := 0, pos := "law.go:27", after := #[], guard := none }) rfl (fun K hK => ?_) AllReadyH.nil)
        · go_simp
          go_at_call 13
          refine (CT.out _).mono ?_
          rintro e w2 ⟨rfl, hb2⟩
          go_wp2_with fail
          have HB2 : Below wr.heap.size wr w2 := ((Below.refl wr.heap.size wr).drew).trans (hb2.mono ((Below.refl wr.heap.size wr).drew).size)
          refine hK.out _ _ HB2 (fun hHeld => ?_)
          clear hK K
          try simp only [Act.put, List.setIfInBounds_toArray, List.set_cons_zero, List.set_cons_succ]
          refine take_at (i := 6) (v := .tuple #[.agg (rowOf 69 s2.dc), .int .i64 cd]) (some 20) rfl rfl (by kernel_rfl) (by kernel_rfl) (by kernel_rfl) (fun _ _ _ h => h) (Or.inl ⟨rfl, fun _ _ => rfl⟩) hHeld ?_
          try simp only [Act.put, List.setIfInBounds_toArray, List.set_cons_zero, List.set_cons_succ]
          refine take_at (i := 7) (v := .agg (rowOf 69 s2.dc)) (some 27) rfl rfl (by kernel_rfl) (by kernel_rfl) (by kernel_rfl) (fun _ _ _ h => h) (Or.inl ⟨rfl, fun _ _ => rfl⟩) hHeld ?_
          try simp only [Act.put, List.setIfInBounds_toArray, List.set_cons_zero, List.set_cons_succ]
          refine take_at (i := 8) (v := .int .i64 cd) (some 28) rfl rfl (by kernel_rfl) (by kernel_rfl) (by kernel_rfl) (fun _ _ _ h => h) (Or.inl ⟨rfl, fun _ _ => rfl⟩) hHeld ?_
          try simp only [Act.put, List.setIfInBounds_toArray, List.set_cons_zero, List.set_cons_succ]
          refine wpAnyH_ready (rs := [9]) (by kernel_rfl) (by simp) ?_
          refine AllReadyH.cons (o := { dst := some 8, op := Op.alloc 30, type := 0, pos := "law.go:27", after := #[], guard := none }) rfl (fun K hK => ?_) AllReadyH.nil
          go_simp
          refine hK.out _ _ (HB2.alloc HB2.size _) (fun hHeld => ?_)
          clear hK K
          try simp only [Act.put, List.setIfInBounds_toArray, List.set_cons_zero, List.set_cons_succ]
          refine wpAnyH_ready (rs := [10]) (by kernel_rfl) (by simp) ?_
          refine AllReadyH.cons (o := { dst := none, op := Op.store 30 (Operand.tmp 8) (Operand.tmp 27), type := 0, pos := "law.go:27", after := #[{ on := 9, ground := Ground.data }, { on := 7, ground := Ground.data }, { on := 5, ground := Ground.chain }, { on := 0, ground := Ground.phase }, { on := 1, ground := Ground.phase }, { on := 2, ground := Ground.phase }, { on := 3, ground := Ground.phase }, { on := 4, ground := Ground.phase }, { on := 5, ground := Ground.phase }, { on := 6, ground := Ground.phase }, { on := 7, ground := Ground.phase }, { on := 8, ground := Ground.textOnly Departure.lateStores }, { on := 9, ground := Ground.phase }], guard := none }) rfl (fun K hK => ?_) AllReadyH.nil
          refine step_store_rowIs rfl 30 (.tmp 8) (.tmp 27) rfl w2.heap.size rfl 69 s2.dc rfl 30 Sn.zero.dc (HZ.out w2) I30.out HF2.out ?_
          intro w3 G1 G2 G3 G4
          have HB3 : Below wr.heap.size wr w3 := (HB2.alloc HB2.size _).trans (G3.out.mono (HB2.size))
          refine hK.out _ _ HB3 (fun hHeld => ?_)
          clear hK K
          try simp only [Act.put]
          refine take_at (i := 11) (v := .int .i64 cd) (some 9) rfl rfl (by kernel_rfl) (by kernel_rfl) (by kernel_rfl) (fun _ _ _ h => h) (Or.inl ⟨rfl, fun _ _ => rfl⟩) hHeld ?_
          try simp only [Act.put, List.setIfInBounds_toArray, List.set_cons_zero, List.set_cons_succ]
          refine wpAnyH_done (by kernel_rfl) ?_ _
          exact NoPanic.normal ⟨rfl, _, rfl, G1, Lib.hid (HB2.size), Lib.hid HB3⟩
        · have HBd : Below wr.heap.size wr wr.drew := (Below.refl wr.heap.size wr).drew
          go_simp
          refine hK.out _ _ (HBd.alloc HBd.size _) (fun hHeld => ?_)
          clear hK K
          try simp only [Act.put, List.setIfInBounds_toArray, List.set_cons_zero, List.set_cons_succ]
          refine wpAnyH_ready (rs := [5]) (by kernel_rfl) (by simp) ?_
          refine AllReadyH.cons (o := { dst := some 26, op := Op.call { callee := Callee.value (Operand.func 13), args := #[Operand.tmp 21, Operand.tmp 25], argTypes := #[30, 24] }, type := 42, pos := "law.go:27", after := #[{ on := 0, ground := Ground.data }, { on := 4, ground := Ground.data }], guard := none }) rfl (fun K hK => ?_) AllReadyH.nil
          go_simp
          go_at_call 13
          refine (CT.out _).mono ?_
          rintro e w2 ⟨rfl, hb2⟩
          go_wp2_with fail
          have HB2 : Below wr.heap.size wr w2 := (HBd.alloc HBd.size (.cells Z 30)).trans (hb2.mono (HBd.alloc HBd.size (.cells Z 30)).size)
          refine hK.out _ _ HB2 (fun hHeld => ?_)
          clear hK K
          try simp only [Act.put, List.setIfInBounds_toArray, List.set_cons_zero, List.set_cons_succ]
          refine take_at (i := 6) (v := .tuple #[.agg (rowOf 69 s2.dc), .int .i64 cd]) (some 20) rfl rfl (by kernel_rfl) (by kernel_rfl) (by kernel_rfl) (fun _ _ _ h => h) (Or.inl ⟨rfl, fun _ _ => rfl⟩) hHeld ?_
          try simp only [Act.put, List.setIfInBounds_toArray, List.set_cons_zero, List.set_cons_succ]
          refine take_at (i := 7) (v := .agg (rowOf 69 s2.dc)) (some 27) rfl rfl (by kernel_rfl) (by kernel_rfl) (by kernel_rfl) (fun _ _ _ h => h) (Or.inl ⟨rfl, fun _ _ => rfl⟩) hHeld ?_
          try simp only [Act.put, List.setIfInBounds_toArray, List.set_cons_zero, List.set_cons_succ]
          refine take_at (i := 8) (v := .int .i64 cd) (some 28) rfl rfl (by kernel_rfl) (by kernel_rfl) (by kernel_rfl) (fun _ _ _ h => h) (Or.inl ⟨rfl, fun _ _ => rfl⟩) hHeld ?_
          try simp only [Act.put, List.setIfInBounds_toArray, List.set_cons_zero, List.set_cons_succ]
          have HG : DRow w2 wr.heap.size Sn.zero.dc := (HZ.out wr.drew).of_block (hb2.block _ (HZ.out wr.drew).lt)
          refine wpAnyH_ready (rs := [10]) (by kernel_rfl) (by simp) ?_
          refine AllReadyH.cons (o := { dst := none, op := Op.store 30 (Operand.tmp 8) (Operand.tmp 27), type := 0, pos := "law.go:27", after := #[{ on := 9, ground := Ground.data }, { on := 7, ground := Ground.data }, { on := 5, ground := Ground.chain }, { on := 0, ground := Ground.phase }, { on := 1, ground := Ground.phase }, { on := 2, ground := Ground.phase }, { on := 3, ground := Ground.phase }, { on := 4, ground := Ground.phase }, { on := 5, ground := Ground.phase }, { on := 6, ground := Ground.phase }, { on := 7, ground := Ground.phase }, { on := 8, ground := Ground.textOnly Departure.lateStores }, { on := 9, ground := Ground.phase }], guard := none }) rfl (fun K hK => ?_) AllReadyH.nil
          refine step_store_rowIs rfl 30 (.tmp 8) (.tmp 27) rfl wr.heap.size rfl 69 s2.dc rfl 30 Sn.zero.dc HG I30.out HF2.out ?_
          intro w3 G1 G2 G3 G4
          have HB3 : Below wr.heap.size wr w3 := (HB2).trans (G3.out.mono (Nat.le_refl _))
          refine hK.out _ _ HB3 (fun hHeld => ?_)
          clear hK K
          try simp only [Act.put]
          refine take_at (i := 11) (v := .int .i64 cd) (some 9) rfl rfl (by kernel_rfl) (by kernel_rfl) (by kernel_rfl) (fun _ _ _ h => h) (Or.inl ⟨rfl, fun _ _ => rfl⟩) hHeld ?_
          try simp only [Act.put, List.setIfInBounds_toArray, List.set_cons_zero, List.set_cons_succ]
          refine wpAnyH_done (by kernel_rfl) ?_ _
          exact NoPanic.normal ⟨rfl, _, rfl, G1, Lib.hid (Nat.le_refl _), Lib.hid HB3⟩
      case post =>
        rintro e a' W2 ⟨rfl, g, rfl, HG, HGL, HB2⟩
        dsimp only
        have hp3 := D3.out.lt
        have hgl := HGL.out
        have E2 := Lib.hid (D2.out.below HB2.out D2.out.lt)
        have E3 : Hid (DRow W2 (w.heap.size + 1 + 1 + 1) s.dc) := Lib.hid (D3.out.of_block (HB2.out.block _ D3.out.lt))
        have E0 := Lib.hid (D0.out.below HB2.out D0.out.lt)
        have E1 : Hid (DRow W2 (w.heap.size + 1) Sn.zero.dc) := Lib.hid (D1.out.of_block (HB2.out.block _ D1.out.lt))
        have EB := Lib.hid (DB.out.trans (HB2.out.mono DB.out.size))
        have cj2 := HC.out W2 HB2.out
        have CK : Hid (∀ w', SBlk w' (w.heap.size + 1 + 1) s → Calls Try.prog 12 #[.pointer (some ⟨w.heap.size + 1 + 1, 0, none⟩), .int .u32 n] w' fun e w'' => e = .returned (.int .i64 cd) ∧ Hid (SBlk w'' (w.heap.size + 1 + 1) s2) ∧ Hid (Only (w.heap.size + 1 + 1) w' w'')) := Lib.hid (fun w' h => by rw [HS2.out, HCD.out]; exact take_any _ s n j HN.out HF.out (by omega) w' h)
        have HFT : Hid (s2.fit (j + 1)) := Lib.hid (by rw [HS2.out]; exact Sn.take_fit HN.out HF.out)
        have HG3 : Hid (∀ w3, Only (w.heap.size + 1 + 1) W2 w3 → DRow w3 g s2.dc ∧ DRow w3 (w.heap.size + 1 + 1 + 1) s.dc ∧ SBlk w3 w.heap.size Sn.zero ∧ DRow w3 (w.heap.size + 1) Sn.zero.dc ∧ Below w.heap.size w w3) := Lib.hid (fun w3 ho => ⟨HG.out.of_block (ho.blk _ (by omega)), E3.out.of_block (ho.blk _ (by omega)), E0.out.keep (ho.blk _ (by omega)), E1.out.of_block (ho.blk _ (by omega)), ho.bel _ _ (by omega) EB.out⟩)
        clear D0 D1 D2 D3 DB HC HL CT cj hp3
        go_upto_region 9 with (first
          | (go_at_call 12; (refine (CK.out _ E2.out).mono ?_); rintro e W3 ⟨rfl, HS3, HO3⟩; obtain ⟨q0, q1, q2, q3, q4, q5⟩ := HS3.out.six; have HW3 := Lib.hid (HG3.out _ HO3.out))
          | (refine wpList_load_rowIsW 30 (.tmp 8) rfl g rfl 30 69 s2.dc HW3.out.1 _ Try.underlying30 rfl I30.out (by rfl) ?_)
          | (go_at_call 14; (refine (same8_any s2 _).mono ?_); rintro e W4 ⟨rfl, hb4⟩; have HB4 := Lib.hid hb4; clear hb4)
          | fail)
        have hg4 := HW3.out.1.lt
        have F0 : Hid (DRow W4 g s2.dc) := Lib.hid (HW3.out.1.of_block (HB4.out.block _ HW3.out.1.lt))
        have F1 : Hid (DRow W4 (w.heap.size + 1 + 1 + 1) s.dc) := Lib.hid (HW3.out.2.1.of_block (HB4.out.block _ HW3.out.2.1.lt))
        have F2 : Hid (SBlk W4 (w.heap.size + 1 + 1) s2) := Lib.hid (HS3.out.below HB4.out HS3.out.lt)
        have F3 : Hid (SBlk W4 w.heap.size Sn.zero) := Lib.hid (HW3.out.2.2.1.below HB4.out HW3.out.2.2.1.lt)
        have F4 : Hid (DRow W4 (w.heap.size + 1) Sn.zero.dc) := Lib.hid (HW3.out.2.2.2.1.of_block (HB4.out.block _ HW3.out.2.2.2.1.lt))
        have F5 : Hid (Below w.heap.size w W4) := Lib.hid (HW3.out.2.2.2.2.trans (HB4.out.mono HW3.out.2.2.2.2.size))
        clear q0 q1 q2 q3 q4 q5 hg4 hgl cj2 HW3 HS3 HO3 HB4 E0 E1 E2 E3 EB HG HGL HG3 HB2 CK
        go_wp2_with (first
          | (with_reducible refine wpList_load_rowIs rfl 30 (.tmp 8) rfl g rfl 30 69 s2.dc F0.out _ Try.underlying30 rfl I30.out ?_)
          | (with_reducible refine wpList_store_rowIs rfl 30 (.tmp 6) (.tmp 44) rfl (w.heap.size + 1 + 1 + 1) rfl 69 s2.dc rfl 30 s.dc F1.out I30.out HF2.out ?_; intro W5 J1 J2 J3 J4)
          | fail)
        go_roundw
        case rel =>
          exact ⟨j + 1, s2, by omega, by omega, by go_num, HFT, Lib.hid (F2.out.keep (J2.out _ (by omega))), J1, Lib.hid (F3.out.keep (J2.out _ (by omega))), Lib.hid (F4.out.of_block (J2.out _ (by omega))), Lib.hid (F5.out.trans (J3.out.mono (by omega)))⟩
        case measure => simp [intOf]; omega

    · have g1 : ¬ ((j : Int) < len ∧ (j : Int) < 200) := by omega
      by_cases g2 : (j : Int) < len
      · have g3 : ¬ (j : Int) < 200 := by omega
        go_upto_region 10 with fail
        refine wp_region_held_drew (S := fun w' => SBlk w' (w.heap.size + 1 + 1) s ∧ DRow w' (w.heap.size + 1 + 1 + 1) s.dc) (by kernel_rfl) ⟨D2.out.drew, D3.out.drew⟩ (fun hHeld => ?_)
        refine take_at (i := 0) (v := .agg s.cells) (some 45) rfl rfl (by kernel_rfl) (by kernel_rfl) (by kernel_rfl) (fun _ _ _ h => h) (yields_load 27 (.tmp 5) (.pointer (some ⟨w.heap.size + 1 + 1, 0, none⟩)) rfl rfl rfl (fun w' hw => sblk_load hw.1)) hHeld ?_
        try simp only [Act.put, List.setIfInBounds_toArray]
        refine take_at (i := 1) (v := .agg (rowOf 69 s.dc)) (some 46) rfl rfl (by kernel_rfl) (by kernel_rfl) (by kernel_rfl) (fun _ _ _ h => h) (yields_load 30 (.tmp 6) (.pointer (some ⟨w.heap.size + 1 + 1 + 1, 0, none⟩)) rfl rfl rfl (fun w' hw => drow_load hw.2)) hHeld ?_
        try simp only [Act.put, List.setIfInBounds_toArray, List.set_cons_zero, List.set_cons_succ]
        refine wpAnyH_ready (rs := [2]) (by kernel_rfl) (by simp) ?_
        refine AllReadyH.cons rfl (fun K hK => ?_) AllReadyH.nil
        refine step_store_sblk rfl (.tmp 2) (.tmp 45) rfl w.heap.size rfl s Sn.zero rfl D0.out.drew ?_
        intro w5 J1 J2 J3 J4
        refine hK.out _ _ ⟨D2.out.drew.keep (J2.out _ (by omega)), D3.out.drew.of_block (J2.out _ (by omega))⟩ (fun hHeld => ?_)
        clear hK K
        try simp only [Act.put]
        have M1 : DRow w5 (w.heap.size + 1) Sn.zero.dc := D1.out.drew.of_block (J2.out _ (by omega))
        have MB : Below w.heap.size w w5 := DB.out.drew.trans J3.out
        refine wpAnyH_ready (rs := [3]) (by kernel_rfl) (by simp) ?_
        refine AllReadyH.cons rfl (fun K hK => ?_) AllReadyH.nil
        refine step_store_rowIs rfl 30 (.tmp 3) (.tmp 46) rfl (w.heap.size + 1) rfl 69 s.dc rfl 30 Sn.zero.dc M1 info30 (dcl_one _ _ _ _ _ _) ?_
        intro w6 N1 N2 N3 N4
        refine hK.out _ _ ⟨hHeld.1.keep (N2.out _ (by omega)), hHeld.2.of_block (N2.out _ (by omega))⟩ (fun hHeld => ?_)
        clear hK K
        try simp only [Act.put]
        have P1 := Lib.hid (J1.out.keep (N2.out _ (by omega)))
        have PB := Lib.hid (MB.trans (N3.out.mono (by omega)))
        refine take_at (i := 4) (v := .bool true) (some 4) rfl rfl (by kernel_rfl) (by kernel_rfl) (by kernel_rfl) (fun _ _ _ h => h) (Or.inl ⟨rfl, fun _ _ => rfl⟩) hHeld ?_
        try simp only [Act.put, List.setIfInBounds_toArray]
        refine wpAnyH_done (by kernel_rfl) ?_ _
        clear hHeld
        go_wp2
        refine bodyPost_ret (v := .tuple #[.agg s.cells, .agg (rowOf 69 s.dc), .bool true]) (results_three (p := 2) (q := 3) (u := 4) rfl _ w6 w.heap.size (w.heap.size + 1) _ _ _ rfl rfl rfl (run_loadVar_row w6 w.heap.size 27 27 s.cells (0, 0) _ P1.out Try.underlying27 rfl info27) (run_loadVar_row w6 (w.heap.size + 1) 30 30 (rowOf 69 s.dc) (0, 0) _ (rowIs_heap N1.out) Try.underlying30 rfl (by rw [rowOf_size]; exact info30))) rfl ?_
        exact ⟨s, rfl, ⟨HF.out.top, by have := HF.out.came; omega, by have := HF.out.twice; omega, by have := HF.out.lost; omega, HF.out.no⟩, PB.out⟩
      · go_upto_region 10 with fail
        refine wp_region_held_drew (S := fun w' => SBlk w' (w.heap.size + 1 + 1) s ∧ DRow w' (w.heap.size + 1 + 1 + 1) s.dc) (by kernel_rfl) ⟨D2.out.drew, D3.out.drew⟩ (fun hHeld => ?_)
        refine take_at (i := 0) (v := .agg s.cells) (some 45) rfl rfl (by kernel_rfl) (by kernel_rfl) (by kernel_rfl) (fun _ _ _ h => h) (yields_load 27 (.tmp 5) (.pointer (some ⟨w.heap.size + 1 + 1, 0, none⟩)) rfl rfl rfl (fun w' hw => sblk_load hw.1)) hHeld ?_
        try simp only [Act.put, List.setIfInBounds_toArray]
        refine take_at (i := 1) (v := .agg (rowOf 69 s.dc)) (some 46) rfl rfl (by kernel_rfl) (by kernel_rfl) (by kernel_rfl) (fun _ _ _ h => h) (yields_load 30 (.tmp 6) (.pointer (some ⟨w.heap.size + 1 + 1 + 1, 0, none⟩)) rfl rfl rfl (fun w' hw => drow_load hw.2)) hHeld ?_
        try simp only [Act.put, List.setIfInBounds_toArray, List.set_cons_zero, List.set_cons_succ]
        refine wpAnyH_ready (rs := [2]) (by kernel_rfl) (by simp) ?_
        refine AllReadyH.cons rfl (fun K hK => ?_) AllReadyH.nil
        refine step_store_sblk rfl (.tmp 2) (.tmp 45) rfl w.heap.size rfl s Sn.zero rfl D0.out.drew ?_
        intro w5 J1 J2 J3 J4
        refine hK.out _ _ ⟨D2.out.drew.keep (J2.out _ (by omega)), D3.out.drew.of_block (J2.out _ (by omega))⟩ (fun hHeld => ?_)
        clear hK K
        try simp only [Act.put]
        have M1 : DRow w5 (w.heap.size + 1) Sn.zero.dc := D1.out.drew.of_block (J2.out _ (by omega))
        have MB : Below w.heap.size w w5 := DB.out.drew.trans J3.out
        refine wpAnyH_ready (rs := [3]) (by kernel_rfl) (by simp) ?_
        refine AllReadyH.cons rfl (fun K hK => ?_) AllReadyH.nil
        refine step_store_rowIs rfl 30 (.tmp 3) (.tmp 46) rfl (w.heap.size + 1) rfl 69 s.dc rfl 30 Sn.zero.dc M1 info30 (dcl_one _ _ _ _ _ _) ?_
        intro w6 N1 N2 N3 N4
        refine hK.out _ _ ⟨hHeld.1.keep (N2.out _ (by omega)), hHeld.2.of_block (N2.out _ (by omega))⟩ (fun hHeld => ?_)
        clear hK K
        try simp only [Act.put]
        have P1 := Lib.hid (J1.out.keep (N2.out _ (by omega)))
        have PB := Lib.hid (MB.trans (N3.out.mono (by omega)))
        refine take_at (i := 4) (v := .bool true) (some 4) rfl rfl (by kernel_rfl) (by kernel_rfl) (by kernel_rfl) (fun _ _ _ h => h) (Or.inl ⟨rfl, fun _ _ => rfl⟩) hHeld ?_
        try simp only [Act.put, List.setIfInBounds_toArray]
        refine wpAnyH_done (by kernel_rfl) ?_ _
        clear hHeld
        go_wp2
        refine bodyPost_ret (v := .tuple #[.agg s.cells, .agg (rowOf 69 s.dc), .bool true]) (results_three (p := 2) (q := 3) (u := 4) rfl _ w6 w.heap.size (w.heap.size + 1) _ _ _ rfl rfl rfl (run_loadVar_row w6 w.heap.size 27 27 s.cells (0, 0) _ P1.out Try.underlying27 rfl info27) (run_loadVar_row w6 (w.heap.size + 1) 30 30 (rowOf 69 s.dc) (0, 0) _ (rowIs_heap N1.out) Try.underlying30 rfl (by rw [rowOf_size]; exact info30))) rfl ?_
        exact ⟨s, rfl, ⟨HF.out.top, by have := HF.out.came; omega, by have := HF.out.twice; omega, by have := HF.out.lost; omega, HF.out.no⟩, PB.out⟩
end Go.Proofs.Ytfemiflgnadfkaa
