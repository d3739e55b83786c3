/-
  Own text: what the document says of what came, in its block of 69 cells.
    the document's Take, walked.
    the document's Take, walked: the ways without a loop.
    the document's Take, walked: the way with a loop.
    the document's Take, whole; its Bits, walked.
-/
import Derived.Test.YtldhlknmabpanaaGreatK02
import Derived.Deep.WholeRow
import Derived.Deep.MidRow
import Derived.Laws.ResultCell
namespace Go.Proofs.YtldhlknmabpanaaGreat
open Go.RowKit

/-- The first n cells of a content. -/
def rowOf (n : Nat) (f : Nat → Value) : Array Value := ((List.range n).map f).toArray
theorem rowOf_size (n : Nat) (f : Nat → Value) : (rowOf n f).size = n := by simp [rowOf]
theorem rowOf_get (n : Nat) (f : Nat → Value) (i : Nat) (h : i < n) : (rowOf n f)[i]? = some (f i) := by simp [rowOf, h]
theorem rowOf_congr {n : Nat} {f g : Nat → Value} (h : ∀ i, i < n → f i = g i) : rowOf n f = rowOf n g := by
  unfold rowOf
  congr 1
  apply List.map_congr_left
  intro i hi
  exact h i (List.mem_range.1 hi)
theorem rowIs_heap {w : World} {b : Nat} {t : TypeId} {n : Nat} {f : Nat → Value} (h : w.rowIs b t n f) : w.heap[b]? = some (.cells (rowOf n f) t (0, 0)) := by
  obtain ⟨c, hb, hn, hc⟩ := h
  rw [hb]
  have : c = rowOf n f := by
    apply Array.ext_getElem?
    intro i
    rcases Nat.lt_or_ge i n with g | g
    · rw [hc i g, rowOf_get n f i g]
    · rw [Array.getElem?_eq_none (by omega), Array.getElem?_eq_none (by rw [rowOf_size]; omega)]
  rw [this]
theorem rowIs_new (w : World) (n : Nat) (f : Nat → Value) (t : TypeId) : (w.alloc (.cells (rowOf n f) t)).rowIs w.heap.size t n f := by
  have h := World.rowIs_alloc w (rowOf n f) t f (fun i hi => rowOf_get n f i (by rw [rowOf_size] at hi; exact hi))
  rwa [rowOf_size] at h
theorem rowOf_one {n : Nat} {f : Nat → Value} (h : ∀ i, (f i).oneCell' = true) : (rowOf n f).all (·.oneCell') = true :=
  all_oneCell_toArray (fun v hv => by
    obtain ⟨i, _, rfl⟩ := List.mem_map.1 hv
    exact h i)
/-- A whole row out of its block. -/
theorem wpList_load_rowIs {w : World} {ops : Array Oper} {rest : List Oper} {o : Oper} {a : Act} {Q : Exit → Act → World → Prop} (hgd : o.guard = none) (ty : TypeId) (x : Operand) (ho : o.op = .load ty x)
    (g : Nat) (hx : a.eval x = .pointer (some ⟨g, 0, none⟩)) (t : TypeId) (n : Nat) (f : Nat → Value) (hg : w.rowIs g t n f) (d : TypeDesc) (hu : Tryz.prog.underlying ty = some d)
    (hd : d.isRow = true) (hi : (Tryz.prog.info? ty).map (·.size) = some n)
    (h : wpList Tryz.prog ops Q rest (a.put o.dst (.agg (rowOf n f))) w) : wpList Tryz.prog ops Q (o :: rest) a w :=
  wpList_load_row hgd ty x ho g hx t (rowOf n f) (0, 0) d (rowIs_heap hg) hu (by cases d <;> first | rfl | exact hd) (by rw [rowOf_size]; exact hi) h
/-- A whole row into its block. -/
theorem wpList_store_rowIs {w : World} {ops : Array Oper} {rest : List Oper} {o : Oper} {a : Act} {Q : Exit → Act → World → Prop} (hgd : o.guard = none) (ty : TypeId) (x y : Operand) (ho : o.op = .store ty x y)
    (g : Nat) (hx : a.eval x = .pointer (some ⟨g, 0, none⟩)) (n : Nat) (f : Nat → Value) (hy : a.eval y = .agg (rowOf n f)) (t : TypeId) (f0 : Nat → Value) (hg : w.rowIs g t n f0)
    (hi : (Tryz.prog.info? ty).map (·.size) = some n) (h1 : ∀ i, (f i).oneCell' = true)
    (h : ∀ w', Hid (w'.rowIs g t n f) → Hid (∀ c, c ≠ g → w'.heap[c]? = w.heap[c]?) → Hid (Below g w w') → w'.heap.size = w.heap.size → wpList Tryz.prog ops Q rest (a.put o.dst undef) w') :
    wpList Tryz.prog ops Q (o :: rest) a w := by
  refine wpList_store_row hgd ty x y ho g (rowOf n f) hx hy t (rowOf n f0) (rowIs_heap hg) (by rw [rowOf_size]; exact hi) (by rw [rowOf_size, rowOf_size]) (rowOf_one h1) ?_
  refine h _ (Lib.hid ?_) (Lib.hid ?_) (Lib.hid (below_setRow (Below.refl _ _) (Nat.le_refl _) _)) (size_setRow _ _ _)
  · refine ⟨rowOf n f, ?_, rowOf_size n f, fun i hi => rowOf_get n f i hi⟩
    simp [World.setRow, Array.getElem?_modify, rowIs_heap hg]
  · intro c hc
    simp only [World.setRow, Array.getElem?_modify]
    rw [if_neg (fun e => hc e.symm)]
theorem rowIs_setCells {b : Nat} {t : TypeId} {n : Nat} : ∀ (vs : List Value) (o : Nat) (w : World) (f : Nat → Value), w.rowIs b t n f → (w.setCells b o vs).rowIs b t n (fun j => if o ≤ j then vs.getD (j - o) (f j) else f j)
  | [], o, w, f, h => h.congr (fun i _ => by simp)
  | v :: r, o, w, f, h => by
    rw [World.setCells]
    refine (rowIs_setCells r (o + 1) _ _ (h.set o v)).congr (fun j _ => ?_)
    by_cases h1 : o + 1 ≤ j
    · have h2 : ¬ j = o := by omega
      have h3 : o ≤ j := by omega
      have e1 : (v :: r).getD (j - o) (f j) = r.getD (j - (o + 1)) (f j) := by
        rw [show j - o = (j - (o + 1)) + 1 by omega]
        rfl
      simp only [h1, h2, h3, if_true, if_false, e1]
    · by_cases h2 : j = o
      · subst h2; simp; exact fun h => absurd h h1
      · have h3 : ¬ o ≤ j := by omega
        simp only [h1, h2, h3, if_false]
theorem setCells_other (b : Nat) : ∀ (vs : List Value) (o : Nat) (w : World) (c : Nat), c ≠ b → (w.setCells b o vs).heap[c]? = w.heap[c]?
  | [], _, _, _, _ => rfl
  | v :: r, o, w, c, h => by
    rw [World.setCells, setCells_other b r (o + 1) _ c h]
    simp only [World.setCell, Array.getElem?_modify]
    rw [if_neg (fun e => h e.symm)]
theorem setCells_below (b B : Nat) (hB : B ≤ b) : ∀ (vs : List Value) (o : Nat) (w w0 : World), Below B w0 w → Below B w0 (w.setCells b o vs)
  | [], _, _, _, h => h
  | v :: r, o, w, w0, h => by
    rw [World.setCells]
    exact setCells_below b B hB r (o + 1) _ _ (h.setCell (p := ⟨b, o, none⟩) hB _)
theorem rowOf_set (n : Nat) (f : Nat → Value) (i : Nat) (v : Value) : (rowOf n f).setIfInBounds i v = rowOf n (fun j => if j = i then v else f j) := by
  apply Array.ext_getElem?
  intro j
  rw [Array.getElem?_setIfInBounds, rowOf_size]
  rcases Nat.lt_or_ge j n with g | g
  · rw [rowOf_get _ _ j g, rowOf_get _ _ j g]
    by_cases h : i = j
    · subst h; simp [g]
    · have h2 : ¬ j = i := fun e => h e.symm
      simp [h, h2]
  · rw [Array.getElem?_eq_none (by rw [rowOf_size]; omega), Array.getElem?_eq_none (by rw [rowOf_size]; omega)]
    by_cases h : i = j
    · subst h; rw [if_pos rfl, if_neg (by omega)]
    · rw [if_neg h]
/-- What a call answers whose first result lies in a block. -/
theorem results_row_tmp {fn : Func} {p u : Tmp} {ty : TypeId} (h : fn.results = #[.cell p ty, .tmp u]) (tmps : Array Value) (w : World) (g : Nat) (t : TypeId) (n : Nat) (f : Nat → Value) (v : Value) (d : TypeDesc)
    (hp : tmps.getD p undef = .pointer (some ⟨g, 0, none⟩)) (hv : tmps.getD u undef = v) (hg : w.rowIs g t n f) (hu : Tryz.prog.underlying ty = some d) (hd : d.isRow = true) (hi : (Tryz.prog.info? ty).map (·.size) = some n) :
    (results fn tmps).run Tryz.prog w = .ok (.tuple #[.agg (rowOf n f), v]) w := by
  have hl := run_loadVar_row w g t ty (rowOf n f) (0, 0) d (rowIs_heap hg) hu (by cases d <;> first | rfl | exact hd) (by rw [rowOf_size]; exact hi)
  rw [results_cell_tmp h, hp, hv]
  simp only [asAddr, Sem.run_pure, Result.andThen_ok, hl]
/-- The cells of what the document says. -/
def dcl (any : Bool) (top : Nat) (m : Nat → Bool) (came twice lost : Nat) (i : Nat) : Value :=
  if i = 0 then .bool any else if i = 1 then .int .u32 top else if i < 66 then .bool (m (i - 2)) else if i = 66 then .int .i64 came else if i = 67 then .int .i64 twice else .int .i64 lost
def Sn.dc (s : Sn) : Nat → Value := dcl s.any s.top s.bts.getLsbD s.came s.twice s.lost
theorem dcl_one (any : Bool) (top : Nat) (m : Nat → Bool) (came twice lost : Nat) (i : Nat) : (dcl any top m came twice lost i).oneCell' = true := by
  unfold dcl
  repeat' split
  all_goals rfl
theorem dcl_mark (any : Bool) (top : Nat) (m : Nat → Bool) (came twice lost i : Nat) (h : i < 64) : dcl any top m came twice lost (2 + i) = .bool (m i) := by
  unfold dcl
  rw [if_neg (by omega), if_neg (by omega), if_pos (by omega), show 2 + i - 2 = i by omega]
theorem dcl_congr {any : Bool} {top : Nat} {m m' : Nat → Bool} {came twice lost : Nat} (h : ∀ i, i < 64 → m i = m' i) (i : Nat) : dcl any top m came twice lost i = dcl any top m' came twice lost i := by
  unfold dcl
  repeat' split
  all_goals first | rfl | rw [h _ (by omega)]
theorem info30 : (Tryz.prog.info? 32).map (·.size) = some 69 := by kernel_rfl
theorem info28 : (Tryz.prog.info? 30).map (·.size) = some 64 := by kernel_rfl
theorem zero30 (w : World) : (zeroValue 32).run Tryz.prog w = .ok (.agg (rowOf 69 Sn.zero.dc)) w := by kernel_rfl
theorem zero28 (w : World) : (zeroValue 30).run Tryz.prog w = .ok (.agg (rowOf 64 fun _ => .bool false)) w := by kernel_rfl
/-- Its block. -/
abbrev DRow (w : World) (b : Nat) (f : Nat → Value) : Prop := w.rowIs b 32 69 f
end Go.Proofs.YtldhlknmabpanaaGreat
namespace Go.Proofs.YtldhlknmabpanaaGreat
open Go.RowKit

/-- What the document's Take answers. -/
def RTook (s : Sn) (n : Nat) (w : World) (e : Ending) (w' : World) : Prop :=
  e = .returned (.tuple #[.agg (rowOf 69 (s.take n).1.dc), .int .i64 (s.take n).2]) ∧ Below w.heap.size w w'
set_option maxRecDepth 100000 in
theorem rtake_first (s : Sn) (n : Nat) (hs : s.any = false) (w : World) :
    Calls Tryz.prog 73 #[.agg (rowOf 69 s.dc), .int .u32 n] w fun e w' => e = .returned (.tuple #[.agg (rowOf 69 (dcl true n (1#64).getLsbD 1 0 0)), .int .i64 0]) ∧ Below w.heap.size w w' := by
  have HE : Hid (∀ i, i < 69 → (if i = 2 then Value.bool true else if i = 66 then Value.int .i64 1 else if i = 1 then Value.int .u32 n else if i = 0 then Value.bool true else Sn.zero.dc i) = dcl true n (1#64).getLsbD 1 0 0 i) := Lib.hid (fun i hi => by
    rcases (by omega : i = 0 ∨ i = 1 ∨ (2 ≤ i ∧ i < 66) ∨ i = 66 ∨ i = 67 ∨ i = 68) with rfl | rfl | h | rfl | rfl | rfl
    · rfl
    · rfl
    · by_cases h2 : i = 2
      · subst h2; rfl
      · have a0 : ¬ i = 0 := by omega
        have a1 : ¬ i = 1 := by omega
        have a66 : ¬ i = 66 := by omega
        have a2 : i - 2 ≠ 0 := by omega
        simp only [Sn.dc, dcl, Sn.zero, h2, a0, a1, a66, h.2, if_true, if_false]
        simp [BitVec.getLsbD_one, a2]
    · rfl
    · rfl
    · rfl)
  have HF := Lib.hid (dcl_one true n (1#64).getLsbD 1 0 0)
  generalize dcl true n (1#64).getLsbD 1 0 0 = f at *
  have z := zero30
  have HR := Lib.hid (rowIs_new w 69 s.dc 32)
  have r0 : (rowOf 69 s.dc)[0]? = some (.bool false) := by rw [rowOf_get _ _ _ (by omega), ← hs]; rfl
  have z0 : (rowOf 69 Sn.zero.dc)[0]? = some (.bool false) := rowOf_get _ _ _ (by omega)
  have z1 : (rowOf 69 Sn.zero.dc)[1]? = some (.int .u32 0) := rowOf_get _ _ _ (by omega)
  have z2 : (rowOf 69 Sn.zero.dc)[2]? = some (.bool false) := rowOf_get _ _ _ (by omega)
  have z66 : (rowOf 69 Sn.zero.dc)[66]? = some (.int .i64 0) := rowOf_get _ _ _ (by omega)
  generalize rowOf 69 s.dc = R at *
  obtain ⟨Z, hz⟩ : ∃ Z, Z = rowOf 69 Sn.zero.dc := ⟨_, rfl⟩
  rw [← hz] at z z0 z1 z2 z66
  have HZ := Lib.hid hz
  clear hz HR
  go_enter Tryz.func73, Tryz.ntmps73
  go_upto_region 5 with fail
  have hY : (((Z.setIfInBounds 0 (Value.bool true)).setIfInBounds 1 (Value.int IntKind.u32 n)).setIfInBounds 66 (Value.int IntKind.i64 1)).setIfInBounds 2 (Value.bool true) = rowOf 69 f := by
    rw [HZ.out, rowOf_set, rowOf_set, rowOf_set, rowOf_set]
    exact rowOf_congr HE.out
  rw [hY]
  have h1 : DRow (((w.alloc (.cells R 32)).alloc (.cells Z 32)).alloc (.cells (rowOf 69 f) 32)) (w.heap.size + 1 + 1) f := by
    have := rowIs_new ((w.alloc (.cells R 32)).alloc (.cells Z 32)) 69 f 32
    simpa using this
  have h2 : DRow (((w.alloc (.cells R 32)).alloc (.cells Z 32)).alloc (.cells (rowOf 69 f) 32)) (w.heap.size + 1) Sn.zero.dc := by
    rw [HZ.out]
    have := (rowIs_new (w.alloc (.cells R 32)) 69 Sn.zero.dc 32).alloc (.cells (rowOf 69 f) 32)
    simpa using this
  have h3 : Below w.heap.size w (((w.alloc (.cells R 32)).alloc (.cells Z 32)).alloc (.cells (rowOf 69 f) 32)) :=
    (((Below.refl _ _).alloc (Nat.le_refl _) _).alloc (by simp) _).alloc (by simp; omega) _
  have H1 := Lib.hid h1
  have H2 := Lib.hid h2
  have H3 := Lib.hid h3
  clear h1 h2 h3 hY
  generalize ((w.alloc (.cells R 32)).alloc (.cells Z 32)).alloc (.cells (rowOf 69 f) 32) = W at *
  have I30 := Lib.hid info30
  go_wp2_with (first
    | (with_reducible refine wpList_load_rowIs rfl 32 (.tmp 6) rfl (w.heap.size + 1 + 1) rfl 32 69 f H1.out _ Tryz.underlying32 rfl I30.out ?_)
    | (with_reducible refine wpList_store_rowIs rfl 32 (.tmp 4) (.tmp 19) rfl (w.heap.size + 1) rfl 69 f rfl 32 Sn.zero.dc H2.out I30.out HF.out ?_; intro W2 G1 G2 G3 G4))
  refine bodyPost_ret (v := .tuple #[.agg (rowOf 69 f), .int .i64 0]) (results_row_tmp (p := 4) (u := 5) rfl _ W2 (w.heap.size + 1) 32 69 f _ _ rfl rfl G1.out Tryz.underlying32 rfl I30.out) rfl ?_
  exact ⟨rfl, H3.out.trans (G3.out.mono (by omega))⟩
end Go.Proofs.YtldhlknmabpanaaGreat
namespace Go.Proofs.YtldhlknmabpanaaGreat
open Go.RowKit

theorem mid_mark (s : Sn) (d : Nat) (hd0 : d < 64) (i : Nat) : (if i = 66 then Value.int .i64 ((s.came : Int) + 1) else if i = 2 + d then Value.bool true else s.dc i) = ({ s with bts := s.bts ||| (1#64 <<< d), came := s.came + 1 } : Sn).dc i := by
  by_cases h : i = 66
  · subst h; rfl
  · rw [if_neg h]
    by_cases h2 : i = 2 + d
    · rw [if_pos h2, h2]
      refine ((dcl_mark _ _ _ _ _ _ _ hd0).trans (congrArg Value.bool ?_)).symm
      simp [hd0]
    · rw [if_neg h2]
      simp only [Sn.dc, dcl, h, if_false]
      by_cases h3 : i < 66
      · by_cases h4 : 2 ≤ i
        · have e : (s.bts ||| (1#64 <<< d)).getLsbD (i - 2) = s.bts.getLsbD (i - 2) := by
            have g : i - 2 < d ∨ i - 2 - d ≠ 0 := by omega
            rcases g with g | g
            · simp [g]
            · simp [g]
          rw [e]
        · have h5 : i = 0 ∨ i = 1 := by omega
          rcases h5 with rfl | rfl <;> rfl
      · simp only [h3, if_false]
theorem dc_mark (s : Sn) (d : Nat) (h : d < 64) : s.dc (2 + d) = .bool (s.bts.getLsbD d) := dcl_mark _ _ _ _ _ _ _ h
theorem wpList_index28 {w : World} {ops : Array Oper} {rest : List Oper} {o : Oper} {a : Act} {Q : Exit → Act → World → Prop} (hgd : o.guard = none) (x y : Operand) (ho : o.op = .indexAddr 30 x y)
    (b off i : Nat) (hx : a.eval x = .pointer (some ⟨b, off, none⟩)) (hy : a.eval y = .int .i64 (i : Int)) (hi : i < 64)
    (h : wpList Tryz.prog ops Q rest (a.put o.dst (.pointer (some ⟨b, off + i, none⟩))) w) : wpList Tryz.prog ops Q (o :: rest) a w :=
  wpList_plain hgd fun _ hK => by
    unfold Oper.wp execOp
    have e : (Instr.indexAt 30 (.pointer (some ⟨b, off, none⟩)) (.int .i64 (i : Int))).run Tryz.prog w = .ok (.pointer (some ⟨b, off + i, none⟩)) w := by
      have h1 : Tryz.prog.underlying 30 = some (.array (Tryz.prog.arrayLen 30) (Tryz.prog.elem 30)) := by kernel_rfl
      rw [run_indexAt_array (h := h1)]
      have hl : Tryz.prog.arrayLen 30 = 64 := by kernel_rfl
      have hs : (sizeOf (Tryz.prog.elem 30)).run Tryz.prog w = .ok 1 w := by kernel_rfl
      rw [hl, if_pos ⟨by omega, by omega⟩, hs]
      simp only [Result.andThen_ok, Int.toNat_natCast, Nat.mul_one, Addr.add_mid]
    simp only [ho, hx, hy, Sem.run_bind, e, Result.andThen_ok, Sem.run_pure]
    exact hK _ _ h
theorem wpList_neg {w : World} {ops : Array Oper} {rest : List Oper} {o : Oper} {a : Act} {Q : Exit → Act → World → Prop} (hgd : o.guard = none) (ty : TypeId) (x : Operand) (ho : o.op = .unOp .neg ty x)
    (n m : Int) (hx : a.eval x = .int .i64 n) (hm : IntKind.i64.wrap (0 - n) = m)
    (h : wpList Tryz.prog ops Q rest (a.put o.dst (.int .i64 m)) w) : wpList Tryz.prog ops Q (o :: rest) a w :=
  wpList_plain hgd fun _ hK => by
    unfold Oper.wp execOp
    have e : Op.unary .neg (.int .i64 n) = (pure (.int .i64 m) : Sem Value) := by rw [← hm]; rfl
    simp only [ho, hx, e]
    exact hK _ _ h
set_option maxRecDepth 100000 in
theorem rtake_old (s : Sn) (n : Nat) (hs : s.any = true) (hn : n < 4294967296) (ht : s.top < 4294967296) (ho : beh n s.top ≤ -64) (w : World) :
    Calls Tryz.prog 73 #[.agg (rowOf 69 s.dc), .int .u32 n] w fun e w' => e = .returned (.tuple #[.agg (rowOf 69 s.dc), .int .i64 90]) ∧ Below w.heap.size w w' := by
  have CB := Lib.hid (srbehind_any n s.top hn ht)
  have HF : Hid (∀ i, (s.dc i).oneCell' = true) := Lib.hid (dcl_one _ _ _ _ _ _)
  generalize beh n s.top = by_ at *
  obtain ⟨f, hf⟩ : ∃ f, f = s.dc := ⟨_, rfl⟩
  have hc1 : f 1 = .int .u32 s.top := by rw [hf]; rfl
  have hc0 : f 0 = .bool true := by rw [hf, ← hs]; rfl
  rw [← hf] at HF ⊢
  clear hf
  have z := zero30
  have H0 : DRow ((w.alloc (.cells (rowOf 69 f) 32)).alloc (.cells (rowOf 69 Sn.zero.dc) 32)) w.heap.size f := (rowIs_new w 69 f 32).alloc _
  have H1 : DRow ((w.alloc (.cells (rowOf 69 f) 32)).alloc (.cells (rowOf 69 Sn.zero.dc) 32)) (w.heap.size + 1) Sn.zero.dc := by
    have := rowIs_new (w.alloc (.cells (rowOf 69 f) 32)) 69 Sn.zero.dc 32
    simpa using this
  have H2 : Below w.heap.size w ((w.alloc (.cells (rowOf 69 f) 32)).alloc (.cells (rowOf 69 Sn.zero.dc) 32)) := ((Below.refl _ _).alloc (Nat.le_refl _) _).alloc (by simp) _
  generalize rowOf 69 Sn.zero.dc = Z at *
  generalize hR : rowOf 69 f = R at *
  have HR := Lib.hid hR
  clear hR
  have HH0 := Lib.hid H0
  have HH1 := Lib.hid H1
  have HH2 := Lib.hid H2
  clear H0 H1 H2
  go_enter Tryz.func73, Tryz.ntmps73
  go_upto_region 1 with fail
  generalize ((w.alloc (.cells R 32)).alloc (.cells Z 32)) = W at *
  clear z
  have c0 : W.cell? ⟨w.heap.size, 0, none⟩ = some (.bool true) := by rw [HH0.out.cell (i := 0) (by omega), hc0]
  have c1 : W.cell? ⟨w.heap.size, 1, none⟩ = some (.int .u32 s.top) := by rw [HH0.out.cell (i := 1) (by omega), hc1]
  clear hc0 hc1
  have I30 := Lib.hid info30
  go_wp2_with (first
    | (go_at_call 101; refine (CB.out _).mono ?_; rintro e w1 ⟨rfl, rfl⟩)
    | (with_reducible refine wpList_load_rowIs rfl 32 (.tmp 2) rfl w.heap.size rfl 32 69 f HH0.out _ Tryz.underlying32 rfl I30.out ?_)
    | (with_reducible refine wpList_store_rowIs rfl 32 (.tmp 4) (.tmp 26) rfl (w.heap.size + 1) rfl 69 f rfl 32 Sn.zero.dc HH1.out I30.out HF.out ?_; intro W2 G1 G2 G3 G4))
  refine bodyPost_ret (v := .tuple #[.agg (rowOf 69 f), .int .i64 90]) (results_row_tmp (p := 4) (u := 5) rfl _ W2 (w.heap.size + 1) 32 69 f _ _ rfl rfl G1.out Tryz.underlying32 rfl I30.out) rfl ?_
  exact ⟨by rw [HR.out], HH2.out.trans (G3.out.mono (by omega))⟩
set_option maxRecDepth 100000 in
theorem rtake_twice (s : Sn) (n : Nat) (hs : s.any = true) (hn : n < 4294967296) (ht : s.top < 4294967296) (ho : -64 < beh n s.top) (hy : beh n s.top ≤ 0) (hb : s.bts.getLsbD (dist s.top n) = true) (hl : s.twice ≤ 1000000) (w : World) :
    Calls Tryz.prog 73 #[.agg (rowOf 69 s.dc), .int .u32 n] w fun e w' => e = .returned (.tuple #[.agg (rowOf 69 ({ s with twice := s.twice + 1 } : Sn).dc), .int .i64 171]) ∧ Below w.heap.size w w' := by
  have cb := srbehind_any n s.top hn ht
  have hd := dist_old hn ht hy
  have hd0 : dist s.top n < 64 := by omega
  have hneg : -(beh n s.top) = (dist s.top n : Int) := by omega
  have CB := Lib.hid cb
  have HF : Hid (∀ i, (({ s with twice := s.twice + 1 } : Sn).dc i).oneCell' = true) := Lib.hid (dcl_one _ _ _ _ _ _)
  have HE : Hid (∀ i, i < 69 → (if i = 67 then Value.int .i64 ((s.twice : Int) + 1) else s.dc i) = ({ s with twice := s.twice + 1 } : Sn).dc i) := Lib.hid (fun i _ => by
    by_cases h : i = 67
    · subst h; rfl
    · rw [if_neg h]; simp only [Sn.dc, dcl, h, if_false])
  clear cb hd
  obtain ⟨f, hf⟩ : ∃ f, f = ({ s with twice := s.twice + 1 } : Sn).dc := ⟨_, rfl⟩
  rw [← hf] at HF HE ⊢
  clear hf
  have z := zero30
  have H0 : DRow ((w.alloc (.cells (rowOf 69 s.dc) 32)).alloc (.cells (rowOf 69 Sn.zero.dc) 32)) w.heap.size s.dc := (rowIs_new w 69 s.dc 32).alloc _
  have H1 : DRow ((w.alloc (.cells (rowOf 69 s.dc) 32)).alloc (.cells (rowOf 69 Sn.zero.dc) 32)) (w.heap.size + 1) Sn.zero.dc := by
    have := rowIs_new (w.alloc (.cells (rowOf 69 s.dc) 32)) 69 Sn.zero.dc 32
    simpa using this
  have H2 : Below w.heap.size w ((w.alloc (.cells (rowOf 69 s.dc) 32)).alloc (.cells (rowOf 69 Sn.zero.dc) 32)) := ((Below.refl _ _).alloc (Nat.le_refl _) _).alloc (by simp) _
  generalize rowOf 69 Sn.zero.dc = Z at *
  generalize hR : rowOf 69 s.dc = R at *
  have HR := Lib.hid hR
  clear hR
  have HH0 := Lib.hid H0
  have HH1 := Lib.hid H1
  have HH2 := Lib.hid H2
  clear H0 H1 H2
  go_enter Tryz.func73, Tryz.ntmps73
  go_upto_region 1 with fail
  generalize ((w.alloc (.cells R 32)).alloc (.cells Z 32)) = W at *
  clear z
  have c0 : W.cell? ⟨w.heap.size, 0, none⟩ = some (.bool true) := by rw [HH0.out.cell (i := 0) (by omega), ← hs]; rfl
  have c1 : W.cell? ⟨w.heap.size, 1, none⟩ = some (.int .u32 s.top) := HH0.out.cell (i := 1) (by omega)
  have c67 : W.cell? ⟨w.heap.size, 67, none⟩ = some (.int .i64 s.twice) := HH0.out.cell (i := 67) (by omega)
  have f67 := HH0.out.frozen 67
  have cd : W.cell? ⟨w.heap.size, 2 + dist s.top n, none⟩ = some (.bool (s.bts.getLsbD (dist s.top n))) := by rw [HH0.out.cell (i := 2 + dist s.top n) (by omega), dc_mark s _ hd0]
  have fd := HH0.out.frozen (2 + dist s.top n)
  rw [hb] at cd
  generalize dist s.top n = d at *
  generalize beh n s.top = by_ at *
  have k0 : (0 : Int) ≤ d := by omega
  have k1 : (d : Int) < 64 := by omega
  have HW : Hid (IntKind.i64.wrap (0 - by_) = (d : Int)) := Lib.hid (by rw [IntKind.wrap_i64]; omega)
  go_upto_region 12 with (first
    | (go_at_call 101; refine (CB.out _).mono ?_; rintro e w1 ⟨rfl, rfl⟩)
    | (with_reducible refine wpList_neg rfl _ (.tmp 29) rfl by_ d rfl HW.out ?_)
    | (with_reducible refine wpList_index28 rfl (.tmp 31) (.tmp 30) rfl w.heap.size 2 d rfl rfl (by omega) ?_)
    | (with_reducible refine wpList_neg rfl _ (.tmp 39) rfl by_ d rfl HW.out ?_)
    | (with_reducible refine wpList_index28 rfl (.tmp 41) (.tmp 40) rfl w.heap.size 2 d rfl rfl (by omega) ?_))
  have X0 : DRow (W.setCell ⟨w.heap.size, 67, none⟩ (.int .i64 ((s.twice : Int) + 1))) w.heap.size f := (HH0.out.set 67 (.int .i64 ((s.twice : Int) + 1))).congr (HE.out)
  have X1 : DRow (W.setCell ⟨w.heap.size, 67, none⟩ (.int .i64 ((s.twice : Int) + 1))) (w.heap.size + 1) Sn.zero.dc := HH1.out.setOther (a := ⟨w.heap.size, 67, none⟩) (by simp) _
  have X2 : Below w.heap.size w (W.setCell ⟨w.heap.size, 67, none⟩ (.int .i64 ((s.twice : Int) + 1))) := HH2.out.setCell (p := ⟨w.heap.size, 67, none⟩) (Nat.le_refl _) _
  have HX0 := Lib.hid X0
  have HX1 := Lib.hid X1
  have HX2 := Lib.hid X2
  clear X0 X1 X2
  generalize (W.setCell ⟨w.heap.size, 67, none⟩ (.int .i64 ((s.twice : Int) + 1))) = W1 at *
  have I30 := Lib.hid info30
  go_wp2_with (first
    | (go_at_call 101; refine (CB.out _).mono ?_; rintro e w1 ⟨rfl, rfl⟩)
    | (with_reducible refine wpList_load_rowIs rfl 32 (.tmp 2) rfl w.heap.size rfl 32 69 f HX0.out _ Tryz.underlying32 rfl I30.out ?_)
    | (with_reducible refine wpList_store_rowIs rfl 32 (.tmp 4) (.tmp 38) rfl (w.heap.size + 1) rfl 69 f rfl 32 Sn.zero.dc HX1.out I30.out HF.out ?_; intro W2 G1 G2 G3 G4))
  refine bodyPost_ret (v := .tuple #[.agg (rowOf 69 f), .int .i64 171]) (results_row_tmp (p := 4) (u := 5) rfl _ W2 (w.heap.size + 1) 32 69 f _ _ rfl rfl G1.out Tryz.underlying32 rfl I30.out) rfl ?_
  exact ⟨rfl, HX2.out.trans (G3.out.mono (by omega))⟩
set_option maxRecDepth 100000 in
theorem rtake_mid (s : Sn) (n : Nat) (hs : s.any = true) (hn : n < 4294967296) (ht : s.top < 4294967296) (ho : -64 < beh n s.top) (hy : beh n s.top ≤ 0) (hb : s.bts.getLsbD (dist s.top n) = false) (hl : s.came ≤ 1000000) (w : World) :
    Calls Tryz.prog 73 #[.agg (rowOf 69 s.dc), .int .u32 n] w fun e w' => e = .returned (.tuple #[.agg (rowOf 69 ({ s with bts := s.bts ||| (1#64 <<< dist s.top n), came := s.came + 1 } : Sn).dc), .int .i64 0]) ∧ Below w.heap.size w w' := by
  have cb := srbehind_any n s.top hn ht
  have hd := dist_old hn ht hy
  have hd0 : dist s.top n < 64 := by omega
  have hneg : -(beh n s.top) = (dist s.top n : Int) := by omega
  have CB := Lib.hid cb
  have HF : Hid (∀ i, (({ s with bts := s.bts ||| (1#64 <<< dist s.top n), came := s.came + 1 } : Sn).dc i).oneCell' = true) := Lib.hid (dcl_one _ _ _ _ _ _)
  have HE : Hid (∀ i, i < 69 → (if i = 66 then Value.int .i64 ((s.came : Int) + 1) else if i = 2 + dist s.top n then Value.bool true else s.dc i) = ({ s with bts := s.bts ||| (1#64 <<< dist s.top n), came := s.came + 1 } : Sn).dc i) := Lib.hid (fun i _ => mid_mark s (dist s.top n) hd0 i)
  clear cb hd
  obtain ⟨f, hf⟩ : ∃ f, f = ({ s with bts := s.bts ||| (1#64 <<< dist s.top n), came := s.came + 1 } : Sn).dc := ⟨_, rfl⟩
  rw [← hf] at HF HE ⊢
  clear hf
  have z := zero30
  have H0 : DRow ((w.alloc (.cells (rowOf 69 s.dc) 32)).alloc (.cells (rowOf 69 Sn.zero.dc) 32)) w.heap.size s.dc := (rowIs_new w 69 s.dc 32).alloc _
  have H1 : DRow ((w.alloc (.cells (rowOf 69 s.dc) 32)).alloc (.cells (rowOf 69 Sn.zero.dc) 32)) (w.heap.size + 1) Sn.zero.dc := by
    have := rowIs_new (w.alloc (.cells (rowOf 69 s.dc) 32)) 69 Sn.zero.dc 32
    simpa using this
  have H2 : Below w.heap.size w ((w.alloc (.cells (rowOf 69 s.dc) 32)).alloc (.cells (rowOf 69 Sn.zero.dc) 32)) := ((Below.refl _ _).alloc (Nat.le_refl _) _).alloc (by simp) _
  generalize rowOf 69 Sn.zero.dc = Z at *
  generalize hR : rowOf 69 s.dc = R at *
  have HR := Lib.hid hR
  clear hR
  have HH0 := Lib.hid H0
  have HH1 := Lib.hid H1
  have HH2 := Lib.hid H2
  clear H0 H1 H2
  go_enter Tryz.func73, Tryz.ntmps73
  go_upto_region 1 with fail
  generalize ((w.alloc (.cells R 32)).alloc (.cells Z 32)) = W at *
  clear z
  have c0 : W.cell? ⟨w.heap.size, 0, none⟩ = some (.bool true) := by rw [HH0.out.cell (i := 0) (by omega), ← hs]; rfl
  have c1 : W.cell? ⟨w.heap.size, 1, none⟩ = some (.int .u32 s.top) := HH0.out.cell (i := 1) (by omega)
  have c66 : W.cell? ⟨w.heap.size, 66, none⟩ = some (.int .i64 s.came) := HH0.out.cell (i := 66) (by omega)
  have f66 := HH0.out.frozen 66
  have cd : W.cell? ⟨w.heap.size, 2 + dist s.top n, none⟩ = some (.bool (s.bts.getLsbD (dist s.top n))) := by rw [HH0.out.cell (i := 2 + dist s.top n) (by omega), dc_mark s _ hd0]
  have fd := HH0.out.frozen (2 + dist s.top n)
  rw [hb] at cd
  generalize dist s.top n = d at *
  generalize beh n s.top = by_ at *
  have k0 : (0 : Int) ≤ d := by omega
  have k1 : (d : Int) < 64 := by omega
  have HW : Hid (IntKind.i64.wrap (0 - by_) = (d : Int)) := Lib.hid (by rw [IntKind.wrap_i64]; omega)
  go_upto_region 14 with (first
    | (go_at_call 101; refine (CB.out _).mono ?_; rintro e w1 ⟨rfl, rfl⟩)
    | (with_reducible refine wpList_neg rfl _ (.tmp 29) rfl by_ d rfl HW.out ?_)
    | (with_reducible refine wpList_index28 rfl (.tmp 31) (.tmp 30) rfl w.heap.size 2 d rfl rfl (by omega) ?_)
    | (with_reducible refine wpList_neg rfl _ (.tmp 39) rfl by_ d rfl HW.out ?_)
    | (with_reducible refine wpList_index28 rfl (.tmp 41) (.tmp 40) rfl w.heap.size 2 d rfl rfl (by omega) ?_))
  have Y0 := HH0.out.set (2 + d) (.bool true)
  have Y1 : DRow (W.setCell ⟨w.heap.size, 2 + d, none⟩ (.bool true)) (w.heap.size + 1) Sn.zero.dc := HH1.out.setOther (a := ⟨w.heap.size, 2 + d, none⟩) (by simp) _
  have Y2 : Below w.heap.size w (W.setCell ⟨w.heap.size, 2 + d, none⟩ (.bool true)) := HH2.out.setCell (p := ⟨w.heap.size, 2 + d, none⟩) (Nat.le_refl _) _
  have HY0 := Lib.hid Y0
  have HY1 := Lib.hid Y1
  have HY2 := Lib.hid Y2
  clear Y0 Y1 Y2 c0 c1 c66 f66 cd fd HH0 HH1 HH2
  generalize (W.setCell ⟨w.heap.size, 2 + d, none⟩ (.bool true)) = V at *
  have c66 : V.cell? ⟨w.heap.size, 66, none⟩ = some (.int .i64 s.came) := by
    have := HY0.out.cell (i := 66) (by omega)
    rw [if_neg (by omega)] at this
    exact this
  have f66 := HY0.out.frozen 66
  go_upto_region 15 with fail
  have X0 : DRow (V.setCell ⟨w.heap.size, 66, none⟩ (.int .i64 ((s.came : Int) + 1))) w.heap.size f := (HY0.out.set 66 (.int .i64 ((s.came : Int) + 1))).congr (HE.out)
  have X1 : DRow (V.setCell ⟨w.heap.size, 66, none⟩ (.int .i64 ((s.came : Int) + 1))) (w.heap.size + 1) Sn.zero.dc := HY1.out.setOther (a := ⟨w.heap.size, 66, none⟩) (by simp) _
  have X2 : Below w.heap.size w (V.setCell ⟨w.heap.size, 66, none⟩ (.int .i64 ((s.came : Int) + 1))) := HY2.out.setCell (p := ⟨w.heap.size, 66, none⟩) (Nat.le_refl _) _
  have HX0 := Lib.hid X0
  have HX1 := Lib.hid X1
  have HX2 := Lib.hid X2
  clear X0 X1 X2
  generalize (V.setCell ⟨w.heap.size, 66, none⟩ (.int .i64 ((s.came : Int) + 1))) = W1 at *
  have I30 := Lib.hid info30
  go_wp2_with (first
    | (go_at_call 101; refine (CB.out _).mono ?_; rintro e w1 ⟨rfl, rfl⟩)
    | (with_reducible refine wpList_load_rowIs rfl 32 (.tmp 2) rfl w.heap.size rfl 32 69 f HX0.out _ Tryz.underlying32 rfl I30.out ?_)
    | (with_reducible refine wpList_store_rowIs rfl 32 (.tmp 4) (.tmp 47) rfl (w.heap.size + 1) rfl 69 f rfl 32 Sn.zero.dc HX1.out I30.out HF.out ?_; intro W2 G1 G2 G3 G4))
  refine bodyPost_ret (v := .tuple #[.agg (rowOf 69 f), .int .i64 0]) (results_row_tmp (p := 4) (u := 5) rfl _ W2 (w.heap.size + 1) 32 69 f _ _ rfl rfl G1.out Tryz.underlying32 rfl I30.out) rfl ?_
  exact ⟨rfl, HX2.out.trans (G3.out.mono (by omega))⟩
end Go.Proofs.YtldhlknmabpanaaGreat
namespace Go.Proofs.YtldhlknmabpanaaGreat
open Go.RowKit

theorem wpList_index28i {w : World} {ops : Array Oper} {rest : List Oper} {o : Oper} {a : Act} {Q : Exit → Act → World → Prop} (hgd : o.guard = none) (x y : Operand) (ho : o.op = .indexAddr 30 x y)
    (b off i p : Nat) (I : Int) (hx : a.eval x = .pointer (some ⟨b, off, none⟩)) (hy : a.eval y = .int .i64 I) (hI : I = (i : Int)) (hi : i < 64) (hp : off + i = p)
    (h : wpList Tryz.prog ops Q rest (a.put o.dst (.pointer (some ⟨b, p, none⟩))) w) : wpList Tryz.prog ops Q (o :: rest) a w := by
  subst hI hp
  exact wpList_index28 hgd x y ho b off i hx hy hi h
/-- The marks that have been moved, behind so many rounds. -/
def gMark (m : Nat → Bool) (k j i : Nat) : Value := .bool (decide (k ≤ i) && decide (i - k < j) && m (i - k))
/-- How many have gone out, behind so many rounds. -/
def gLost (m : Nat → Bool) (k j : Nat) : Nat := cnt (fun i => decide (64 ≤ i + k) && !m i) j
theorem gLost_le (m : Nat → Bool) (k j : Nat) : gLost m k j ≤ j := cnt_le _ _
theorem gMark_in (m : Nat → Bool) (k j i : Nat) : (if i = j + k then Value.bool (m j) else gMark m k j i) = gMark m k (j + 1) i := by
  unfold gMark
  by_cases h : i = j + k
  · subst h
    rw [if_pos rfl, show j + k - k = j by omega]
    simp
  · rw [if_neg h]
    by_cases h1 : k ≤ i
    · have : (i - k < j) = (i - k < j + 1) := by apply propext; omega
      simp only [this]
    · simp [h1]
theorem gMark_out (m : Nat → Bool) (k j i : Nat) (h : 64 ≤ j + k) (hi : i < 64) : gMark m k j i = gMark m k (j + 1) i := by
  rw [← gMark_in, if_neg (by omega)]
theorem gLost_in (m : Nat → Bool) (k j : Nat) (h : ¬ 64 ≤ j + k) : gLost m k (j + 1) = gLost m k j := by
  show gLost m k j + _ = _
  simp [h]
theorem gLost_not (m : Nat → Bool) (k j : Nat) (h : m j = true) : gLost m k (j + 1) = gLost m k j := by
  show gLost m k j + _ = _
  simp [h]
theorem gLost_out (m : Nat → Bool) (k j : Nat) (h : 64 ≤ j + k) (hm : m j = false) : gLost m k (j + 1) = gLost m k j + 1 := by
  show gLost m k j + _ = _
  simp [h, hm]
theorem dcl_lost (any : Bool) (top : Nat) (m : Nat → Bool) (came twice a b i : Nat) (v : Value) (hv : v = .int .i64 b) (hi : i < 69) : (if i = 68 then v else dcl any top m came twice a i) = dcl any top m came twice b i := by
  subst hv
  by_cases h : i = 68
  · subst h; rfl
  · rw [if_neg h]
    unfold dcl
    rcases (by omega : i < 66 ∨ i = 66 ∨ i = 67) with h1 | rfl | rfl
    · simp only [h1, if_true]
    · rfl
    · rfl
theorem rowOf_getD (n : Nat) (f : Nat → Value) (i : Nat) (d : Value) : (rowOf n f).toList.getD i d = if i < n then f i else d := by
  rw [List.getD_eq_getElem?_getD, Array.getElem?_toList]
  by_cases h : i < n
  · rw [rowOf_get n f i h, if_pos h]
    rfl
  · rw [Array.getElem?_eq_none (by rw [rowOf_size]; omega), if_neg h]
    rfl
theorem moved_cell (top n came twice q : Nat) (mk fb : Nat → Bool) (fm : Nat → Value) (hf : ∀ i, fm i = .bool (fb i)) (i : Nat) (hi : i < 69) :
    (if i = 66 then Value.int .i64 ((came : Int) + 1) else if i = 1 then Value.int .u32 n else if 2 ≤ i then (rowOf 64 fm).toList.getD (i - 2) (dcl true top mk came twice q i) else dcl true top mk came twice q i) = dcl true n fb (came + 1) twice q i := by
  rw [rowOf_getD]
  rcases (by omega : i = 0 ∨ i = 1 ∨ (2 ≤ i ∧ i < 66) ∨ i = 66 ∨ i = 67 ∨ i = 68) with rfl | rfl | h | rfl | rfl | rfl
  · rfl
  · rfl
  · have a0 : ¬ i = 0 := by omega
    have a1 : ¬ i = 1 := by omega
    have a66 : ¬ i = 66 := by omega
    have a2 : i - 2 < 64 := by omega
    simp only [dcl, a0, a1, a66, a2, h.1, h.2, if_true, if_false, hf]
  · rfl
  · rfl
  · rfl
set_option maxRecDepth 100000 in
theorem rtake_loop (top : Nat) (mk : Nat → Bool) (came twice lost n k : Nat) (hn : n < 4294967296) (ht : top < 4294967296) (ho : beh n top = k) (hk : 0 < k) (hk2 : k < 2147483648) (hl : came ≤ 1000000) (hl2 : lost ≤ 4294967296 * 1000000) (w : World) :
    Calls Tryz.prog 73 #[.agg (rowOf 69 (dcl true top mk came twice lost)), .int .u32 n] w fun e w' => ∃ f : Nat → Bool, e = .returned (.tuple #[.agg (rowOf 69 (dcl true n f (came + 1) twice (lost + gLost mk k 64 + (k - 64)))), .int .i64 0]) ∧ Hid (∀ i, i < 64 → Value.bool (f i) = if i = 0 then Value.bool true else gMark mk k 64 i) ∧ Below w.heap.size w w' := by
  have cb := srbehind_any n top hn ht
  rw [ho] at cb
  have CB := Lib.hid cb
  clear cb ho hn
  have zz := zero28
  have z := zero30
  have H0 : DRow ((w.alloc (.cells (rowOf 69 (dcl true top mk came twice lost)) 32)).alloc (.cells (rowOf 69 Sn.zero.dc) 32)) w.heap.size (dcl true top mk came twice lost) := (rowIs_new w 69 (dcl true top mk came twice lost) 32).alloc _
  have H1 : DRow ((w.alloc (.cells (rowOf 69 (dcl true top mk came twice lost)) 32)).alloc (.cells (rowOf 69 Sn.zero.dc) 32)) (w.heap.size + 1) Sn.zero.dc := by
    have := rowIs_new (w.alloc (.cells (rowOf 69 (dcl true top mk came twice lost)) 32)) 69 Sn.zero.dc 32
    simpa using this
  have H2 : Below w.heap.size w ((w.alloc (.cells (rowOf 69 (dcl true top mk came twice lost)) 32)).alloc (.cells (rowOf 69 Sn.zero.dc) 32)) := ((Below.refl _ _).alloc (Nat.le_refl _) _).alloc (by simp) _
  generalize rowOf 69 Sn.zero.dc = Z at *
  generalize hR : rowOf 69 (dcl true top mk came twice lost) = R at *
  have HR := Lib.hid hR
  clear hR
  have HH0 := Lib.hid H0
  have HH1 := Lib.hid H1
  have HH2 := Lib.hid H2
  clear H0 H1 H2
  go_enter Tryz.func73, Tryz.ntmps73
  go_upto_region 1 with fail
  generalize ((w.alloc (.cells R 32)).alloc (.cells Z 32)) = W at *
  clear z
  have c0 : W.cell? ⟨w.heap.size, 0, none⟩ = some (.bool true) := by rw [HH0.out.cell (i := 0) (by omega)]; rfl
  have c1 : W.cell? ⟨w.heap.size, 1, none⟩ = some (.int .u32 top) := HH0.out.cell (i := 1) (by omega)
  have hk3 : ¬ k = 0 := by omega
  go_upto_region 18 with (go_at_call 101; refine (CB.out _).mono ?_; rintro e w1 ⟨rfl, rfl⟩)
  have A0 : DRow (W.alloc (.cells (rowOf 64 fun _ => .bool false) 30)) w.heap.size (dcl true top mk came twice (lost + gLost mk k 0)) := HH0.out.alloc _
  have A1 : DRow (W.alloc (.cells (rowOf 64 fun _ => .bool false) 30)) (w.heap.size + 1) Sn.zero.dc := HH1.out.alloc _
  have A2 : Below w.heap.size w (W.alloc (.cells (rowOf 64 fun _ => .bool false) 30)) := HH2.out.alloc HH2.out.size _
  have A3 : (W.alloc (.cells (rowOf 64 fun _ => .bool false) 30)).rowIs W.heap.size 30 64 (gMark mk k 0) := (rowIs_new W 64 (fun _ => .bool false) 30).congr (fun i _ => by simp [gMark])
  have hm1 : w.heap.size + 1 < W.heap.size := HH1.out.lt
  obtain ⟨m, hm⟩ : ∃ m, m = W.heap.size := ⟨_, rfl⟩
  rw [← hm] at hm1 A3 ⊢
  have B0 := Lib.hid A0
  have B1 := Lib.hid A1
  have B2 := Lib.hid A2
  have B3 := Lib.hid A3
  clear A0 A1 A2 A3 hm c0 c1 zz HH0 HH1 HH2
  generalize (W.alloc (.cells (rowOf 64 fun _ => .bool false) 30)) = V at *
  go_loopw [9] (fun iv wr => ∃ j : Nat, j ≤ 64 ∧ iv = .int .i64 j ∧ Hid (DRow wr w.heap.size (dcl true top mk came twice (lost + gLost mk k j))) ∧ Hid (DRow wr (w.heap.size + 1) Sn.zero.dc) ∧ Hid (Below w.heap.size w wr) ∧ Hid (wr.rowIs m 30 64 (gMark mk k j))) (fun iv _ => 64 - (intOf iv).toNat)
  case atStart => exact ⟨0, by omega, rfl, B0, B1, B2, B3⟩
  case round =>
    clear B0 B1 B2 B3
    obtain ⟨j, hj, rfl, D0, D1, D2, D3⟩ := hrel
    have k0 : (0 : Int) ≤ j := by omega
    have hjb : IntKind.i64.wrap ((j : Int) + k) = (j : Int) + k := by rw [IntKind.wrap_i64]; omega
    by_cases hlt : j < 64
    · have k1 : (j : Int) < 64 := by omega
      have cj : wr.cell? ⟨w.heap.size, 2 + j, none⟩ = some (.bool (mk j)) := by rw [D0.out.cell (i := 2 + j) (by omega)]; exact congrArg some (dcl_mark _ _ _ _ _ _ _ hlt)
      by_cases hin : j + k < 64
      · have hin2 : (j : Int) + k < 64 := by omega
        have cm : wr.cell? ⟨m, j + k, none⟩ = some (gMark mk k j (j + k)) := D3.out.cell (i := j + k) hin
        have fm := D3.out.frozen (j + k)
        obtain ⟨v, hv⟩ : ∃ v, v = mk j := ⟨_, rfl⟩
        rw [← hv] at cj
        have HV := Lib.hid hv
        have HI := Lib.hid hin
        have HL := Lib.hid hlt
        clear hv
        go_wp2_with (first
          | (with_reducible refine wpList_index28i rfl (.tmp 60) (.tmp 59) rfl w.heap.size 2 j (2 + j) (j : Int) rfl rfl rfl HL.out rfl ?_)
          | (with_reducible refine wpList_index28i rfl (.tmp 8) (.tmp 58) rfl m 0 (j + k) (j + k) ((j : Int) + k) rfl rfl (by simp) HI.out (by simp) ?_))
        go_roundw
        case rel =>
          refine ⟨j + 1, by omega, by go_num, Lib.hid ?_, Lib.hid ?_, Lib.hid ?_, Lib.hid ?_⟩
          · rw [gLost_in mk k j (by have := HI.out; omega)]
            exact D0.out.setOther (a := ⟨m, j + k, none⟩) (by show _ ≠ m; omega) _
          · exact D1.out.setOther (a := ⟨m, j + k, none⟩) (by show _ ≠ m; omega) _
          · exact D2.out.setCell (p := ⟨m, j + k, none⟩) (by show _ ≤ m; omega) _
          · rw [HV.out]
            exact (D3.out.set (j + k) _).congr (fun i _ => gMark_in mk k j i)
        case measure => simp [intOf]; omega
      · have hin2 : ¬ (j : Int) + k < 64 := by omega
        have HI : Hid (64 ≤ j + k) := Lib.hid (by omega)
        have HL := Lib.hid hlt
        cases hb : mk j
        · rw [hb] at cj
          have HB := Lib.hid hb
          have c68 : wr.cell? ⟨w.heap.size, 68, none⟩ = some (.int .i64 ((lost + gLost mk k j : Nat) : Int)) := D0.out.cell (i := 68) (by omega)
          have f68 := D0.out.frozen 68
          have hg := gLost_le mk k j
          obtain ⟨q, hq⟩ : ∃ q, q = lost + gLost mk k j := ⟨_, rfl⟩
          rw [← hq] at c68
          have hqb : q ≤ 4294967296 * 1000001 := by omega
          have HQ := Lib.hid hq
          clear hb hq hg
          go_wp2_with (with_reducible refine wpList_index28i rfl (.tmp 65) (.tmp 64) rfl w.heap.size 2 j (2 + j) (j : Int) rfl rfl rfl HL.out rfl ?_)
          go_roundw
          case rel =>
            refine ⟨j + 1, by omega, by go_num, Lib.hid ?_, Lib.hid ?_, Lib.hid ?_, Lib.hid ?_⟩
            · refine (D0.out.set 68 _).congr (fun i hi => dcl_lost _ _ _ _ _ _ _ _ _ ?_ hi)
              rw [gLost_out mk k j HI.out HB.out, ← Nat.add_assoc, ← HQ.out]
              simp
            · exact D1.out.setOther (a := ⟨w.heap.size, 68, none⟩) (by simp) _
            · exact D2.out.setCell (p := ⟨w.heap.size, 68, none⟩) (Nat.le_refl _) _
            · exact (D3.out.setOther (a := ⟨w.heap.size, 68, none⟩) (by show m ≠ w.heap.size; omega) _).congr (fun i hi => gMark_out mk k j i HI.out hi)
          case measure => simp [intOf]; omega
        · rw [hb] at cj
          have HB := Lib.hid hb
          clear hb
          go_wp2_with (with_reducible refine wpList_index28i rfl (.tmp 65) (.tmp 64) rfl w.heap.size 2 j (2 + j) (j : Int) rfl rfl rfl HL.out rfl ?_)
          go_roundw
          case rel =>
            refine ⟨j + 1, by omega, by go_num, Lib.hid ?_, D1, D2, Lib.hid ?_⟩
            · rw [gLost_not mk k j HB.out]
              exact D0.out
            · exact D3.out.congr (fun i hi => gMark_out mk k j i HI.out hi)
          case measure => simp [intOf]; omega
    · obtain rfl : j = 64 := by omega
      clear k0 hjb hlt hj
      have HK := Lib.hid hk
      obtain ⟨q, hq⟩ : ∃ q, q = lost + gLost mk k 64 := ⟨_, rfl⟩
      have hg := gLost_le mk k 64
      have hqb : q ≤ 4294967296 * 1000001 := by omega
      rw [← hq] at D0
      have HQ := Lib.hid hq
      clear hg hq
      have c68 : wr.cell? ⟨w.heap.size, 68, none⟩ = some (.int .i64 (q : Int)) := D0.out.cell (i := 68) (by omega)
      have f68 := D0.out.frozen 68
      have I30 := Lib.hid info30
      have I28 := Lib.hid info28
      by_cases h64 : k ≤ 64
      · have HQ2 : Hid (q = lost + gLost mk k 64 + (k - 64)) := Lib.hid (by have := HQ.out; omega)
        clear c68 f68 HQ
        have cm : wr.cell? ⟨m, 0, none⟩ = some (gMark mk k 64 0) := D3.out.cell (i := 0) (by omega)
        have fm := D3.out.frozen 0
        go_upto_region 27 with fail
        have X0 : DRow (wr.setCell ⟨m, 0, none⟩ (.bool true)) w.heap.size (dcl true top mk came twice q) := D0.out.setOther (a := ⟨m, 0, none⟩) (by show w.heap.size ≠ m; omega) _
        have X1 : DRow (wr.setCell ⟨m, 0, none⟩ (.bool true)) (w.heap.size + 1) Sn.zero.dc := D1.out.setOther (a := ⟨m, 0, none⟩) (by show w.heap.size + 1 ≠ m; omega) _
        have X2 : Below w.heap.size w (wr.setCell ⟨m, 0, none⟩ (.bool true)) := D2.out.setCell (p := ⟨m, 0, none⟩) (by show w.heap.size ≤ m; omega) _
        have X3 : (wr.setCell ⟨m, 0, none⟩ (.bool true)).rowIs m 30 64 (fun i => if i = 0 then Value.bool true else gMark mk k 64 i) := D3.out.set 0 (.bool true)
        have HX0 := Lib.hid X0
        have HX1 := Lib.hid X1
        have HX2 := Lib.hid X2
        have HX3 := Lib.hid X3
        clear X0 X1 X2 X3 D0 D1 D2 D3 cm fm
        generalize (wr.setCell ⟨m, 0, none⟩ (.bool true)) = ur at *
        obtain ⟨fb, hfb⟩ : ∃ fb : Nat → Bool, ∀ i, Value.bool (fb i) = if i = 0 then Value.bool true else gMark mk k 64 i := ⟨fun i => if i = 0 then true else (decide (k ≤ i) && decide (i - k < 64) && mk (i - k)), fun i => by by_cases h : i = 0 <;> simp [h, gMark]⟩
        have HFB := Lib.hid hfb
        have HM : Hid (∀ i, (if i = 0 then Value.bool true else gMark mk k 64 i).oneCell' = true) := Lib.hid (fun i => by rw [← hfb i]; rfl)
        have HX : Hid (ur.rowIs m 30 64 (fun i => if i = 0 then Value.bool true else gMark mk k 64 i)) := HX3
        obtain ⟨fm, hfm⟩ : ∃ fm : Nat → Value, fm = (fun i => if i = 0 then Value.bool true else gMark mk k 64 i) := ⟨_, rfl⟩
        have HM2 : Hid (∀ i, (fm i).oneCell' = true) := Lib.hid (fun i => by rw [hfm]; exact HM.out i)
        have HFM : Hid (∀ i, fm i = .bool (fb i)) := Lib.hid (fun i => by rw [hfb i, hfm])
        rw [← hfm] at HX
        clear hfm hfb HX3 HM
        have c66 : ur.cell? ⟨w.heap.size, 66, none⟩ = some (.int .i64 came) := HX0.out.cell (i := 66) (by omega)
        have HT : Hid (ur.there w.heap.size 2 (rowOf 64 fm).size) := Lib.hid (fun j hj => by
          rw [rowOf_size] at hj
          exact ⟨by rw [HX0.out.cell (i := 2 + j) (by omega)]; rfl, HX0.out.frozen _⟩)
        have HI2 : Hid ((Tryz.prog.info? 30).map (·.size) = some (rowOf 64 fm).size) := Lib.hid (by rw [rowOf_size]; exact info28)
        have HO : Hid ((rowOf 64 fm).all (·.oneCell') = true) := Lib.hid (rowOf_one HM2.out)
        have Z0 := rowIs_setCells (rowOf 64 fm).toList 2 ur _ HX0.out
        have z1 : (ur.setCells w.heap.size 2 (rowOf 64 fm).toList).cell? ⟨w.heap.size, 1, none⟩ = some (.int .u32 top) := Z0.cell (i := 1) (by omega)
        have z66 : ((ur.setCells w.heap.size 2 (rowOf 64 fm).toList)).cell? ⟨w.heap.size, 66, none⟩ = some (.int .i64 came) := by
          rw [Z0.cell (i := 66) (by omega), if_pos (by omega), List.getD_eq_getElem?_getD, List.getElem?_eq_none (by simp [rowOf])]
          rfl
        have y1 := Z0.frozen 1
        have y66 := Z0.frozen 66
        have HZ0 := Lib.hid Z0
        have HZ1 : Hid (DRow (ur.setCells w.heap.size 2 (rowOf 64 fm).toList) (w.heap.size + 1) Sn.zero.dc) := Lib.hid (HX1.out.of_block (setCells_other _ _ _ _ _ (by omega)))
        have HZ2 : Hid (Below w.heap.size w (ur.setCells w.heap.size 2 (rowOf 64 fm).toList)) := Lib.hid (setCells_below _ _ (Nat.le_refl _) _ _ _ _ HX2.out)
        clear Z0 HX0 HX1 HX2
        go_upto_region 28 with (first
          | (with_reducible refine wpList_load_rowIs rfl 30 (.tmp 8) rfl m rfl 30 64 fm HX.out _ Tryz.underlying30 rfl I28.out ?_)
          | (with_reducible refine wpList_store_mid rfl 30 (.tmp 87) (.tmp 82) rfl w.heap.size 2 (rowOf 64 fm) rfl rfl HT.out HI2.out HO.out ?_))
        have G0 : DRow (((ur.setCells w.heap.size 2 (rowOf 64 fm).toList).setCell ⟨w.heap.size, 1, none⟩ (.int .u32 n)).setCell ⟨w.heap.size, 66, none⟩ (.int .i64 ((came : Int) + 1))) w.heap.size (dcl true n fb (came + 1) twice q) := ((HZ0.out.set 1 _).set 66 _).congr (fun i hi => moved_cell top n came twice q mk fb fm HFM.out i hi)
        have G1 : DRow (((ur.setCells w.heap.size 2 (rowOf 64 fm).toList).setCell ⟨w.heap.size, 1, none⟩ (.int .u32 n)).setCell ⟨w.heap.size, 66, none⟩ (.int .i64 ((came : Int) + 1))) (w.heap.size + 1) Sn.zero.dc := (HZ1.out.setOther (a := ⟨w.heap.size, 1, none⟩) (by simp) _).setOther (a := ⟨w.heap.size, 66, none⟩) (by simp) _
        have G2 : Below w.heap.size w (((ur.setCells w.heap.size 2 (rowOf 64 fm).toList).setCell ⟨w.heap.size, 1, none⟩ (.int .u32 n)).setCell ⟨w.heap.size, 66, none⟩ (.int .i64 ((came : Int) + 1))) := (HZ2.out.setCell (p := ⟨w.heap.size, 1, none⟩) (Nat.le_refl _) _).setCell (p := ⟨w.heap.size, 66, none⟩) (Nat.le_refl _) _
        have GG0 := Lib.hid G0
        have GG1 := Lib.hid G1
        have GG2 := Lib.hid G2
        have HF := Lib.hid (dcl_one true n fb (came + 1) twice q)
        clear G0 G1 G2 HZ0 HZ1 HZ2 z1 z66 y1 y66 HX HT HI2 HO HM2 HFM c66
        generalize (((ur.setCells w.heap.size 2 (rowOf 64 fm).toList).setCell ⟨w.heap.size, 1, none⟩ (.int .u32 n)).setCell ⟨w.heap.size, 66, none⟩ (.int .i64 ((came : Int) + 1))) = xr at *
        go_wp2_with (first
          | (with_reducible refine wpList_load_rowIs rfl 32 (.tmp 2) rfl w.heap.size rfl 32 69 (dcl true n fb (came + 1) twice q) GG0.out _ Tryz.underlying32 rfl I30.out ?_)
          | (with_reducible refine wpList_store_rowIs rfl 32 (.tmp 4) (.tmp 90) rfl (w.heap.size + 1) rfl 69 (dcl true n fb (came + 1) twice q) rfl 32 Sn.zero.dc GG1.out I30.out HF.out ?_; intro W2 J1 J2 J3 J4))
        refine bodyPost_ret (v := .tuple #[.agg (rowOf 69 (dcl true n fb (came + 1) twice q)), .int .i64 0]) (results_row_tmp (p := 4) (u := 5) rfl _ W2 (w.heap.size + 1) 32 69 (dcl true n fb (came + 1) twice q) _ _ rfl rfl J1.out Tryz.underlying32 rfl I30.out) rfl ?_
        exact ⟨fb, by rw [← HQ2.out], Lib.hid (fun i _ => HFB.out i), GG2.out.trans (J3.out.mono (by omega))⟩
      · have hz : ((q : Int) + k) - 64 = ((q + (k - 64) : Nat) : Int) := by omega
        have HZ := Lib.hid hz
        clear hz
        go_upto_region 26 with fail
        have E0 : DRow (wr.setCell ⟨w.heap.size, 68, none⟩ (.int .i64 ((q : Int) + k - 64))) w.heap.size (dcl true top mk came twice (q + (k - 64))) := (D0.out.set 68 _).congr (fun i hi => dcl_lost _ _ _ _ _ _ _ _ _ (by rw [HZ.out]) hi)
        have E1 : DRow (wr.setCell ⟨w.heap.size, 68, none⟩ (.int .i64 ((q : Int) + k - 64))) (w.heap.size + 1) Sn.zero.dc := D1.out.setOther (a := ⟨w.heap.size, 68, none⟩) (by simp) _
        have E2 : Below w.heap.size w (wr.setCell ⟨w.heap.size, 68, none⟩ (.int .i64 ((q : Int) + k - 64))) := D2.out.setCell (p := ⟨w.heap.size, 68, none⟩) (Nat.le_refl _) _
        have E3 : (wr.setCell ⟨w.heap.size, 68, none⟩ (.int .i64 ((q : Int) + k - 64))).rowIs m 30 64 (gMark mk k 64) := D3.out.setOther (a := ⟨w.heap.size, 68, none⟩) (by show m ≠ w.heap.size; omega) _
        have HE0 := Lib.hid E0
        have HE1 := Lib.hid E1
        have HE2 := Lib.hid E2
        have HE3 := Lib.hid E3
        clear E0 E1 E2 E3 D0 D1 D2 D3 c68 f68
        generalize (wr.setCell ⟨w.heap.size, 68, none⟩ (.int .i64 ((q : Int) + k - 64))) = vr at *
        obtain ⟨q2, hq2⟩ : ∃ q2, q2 = q + (k - 64) := ⟨_, rfl⟩
        rw [← hq2] at HE0
        have HQ2 : Hid (q2 = lost + gLost mk k 64 + (k - 64)) := Lib.hid (by rw [hq2, HQ.out])
        clear HQ HZ hq2 hqb
        have cm : vr.cell? ⟨m, 0, none⟩ = some (gMark mk k 64 0) := HE3.out.cell (i := 0) (by omega)
        have fm := HE3.out.frozen 0
        go_upto_region 27 with fail
        have X0 : DRow (vr.setCell ⟨m, 0, none⟩ (.bool true)) w.heap.size (dcl true top mk came twice q2) := HE0.out.setOther (a := ⟨m, 0, none⟩) (by show w.heap.size ≠ m; omega) _
        have X1 : DRow (vr.setCell ⟨m, 0, none⟩ (.bool true)) (w.heap.size + 1) Sn.zero.dc := HE1.out.setOther (a := ⟨m, 0, none⟩) (by show w.heap.size + 1 ≠ m; omega) _
        have X2 : Below w.heap.size w (vr.setCell ⟨m, 0, none⟩ (.bool true)) := HE2.out.setCell (p := ⟨m, 0, none⟩) (by show w.heap.size ≤ m; omega) _
        have X3 : (vr.setCell ⟨m, 0, none⟩ (.bool true)).rowIs m 30 64 (fun i => if i = 0 then Value.bool true else gMark mk k 64 i) := HE3.out.set 0 (.bool true)
        have HX0 := Lib.hid X0
        have HX1 := Lib.hid X1
        have HX2 := Lib.hid X2
        have HX3 := Lib.hid X3
        clear X0 X1 X2 X3 HE0 HE1 HE2 HE3 cm fm
        generalize (vr.setCell ⟨m, 0, none⟩ (.bool true)) = ur at *
        obtain ⟨fb, hfb⟩ : ∃ fb : Nat → Bool, ∀ i, Value.bool (fb i) = if i = 0 then Value.bool true else gMark mk k 64 i := ⟨fun i => if i = 0 then true else (decide (k ≤ i) && decide (i - k < 64) && mk (i - k)), fun i => by by_cases h : i = 0 <;> simp [h, gMark]⟩
        have HFB := Lib.hid hfb
        have HM : Hid (∀ i, (if i = 0 then Value.bool true else gMark mk k 64 i).oneCell' = true) := Lib.hid (fun i => by rw [← hfb i]; rfl)
        have HX : Hid (ur.rowIs m 30 64 (fun i => if i = 0 then Value.bool true else gMark mk k 64 i)) := HX3
        obtain ⟨fm, hfm⟩ : ∃ fm : Nat → Value, fm = (fun i => if i = 0 then Value.bool true else gMark mk k 64 i) := ⟨_, rfl⟩
        have HM2 : Hid (∀ i, (fm i).oneCell' = true) := Lib.hid (fun i => by rw [hfm]; exact HM.out i)
        have HFM : Hid (∀ i, fm i = .bool (fb i)) := Lib.hid (fun i => by rw [hfb i, hfm])
        rw [← hfm] at HX
        clear hfm hfb HX3 HM
        have c66 : ur.cell? ⟨w.heap.size, 66, none⟩ = some (.int .i64 came) := HX0.out.cell (i := 66) (by omega)
        have HT : Hid (ur.there w.heap.size 2 (rowOf 64 fm).size) := Lib.hid (fun j hj => by
          rw [rowOf_size] at hj
          exact ⟨by rw [HX0.out.cell (i := 2 + j) (by omega)]; rfl, HX0.out.frozen _⟩)
        have HI2 : Hid ((Tryz.prog.info? 30).map (·.size) = some (rowOf 64 fm).size) := Lib.hid (by rw [rowOf_size]; exact info28)
        have HO : Hid ((rowOf 64 fm).all (·.oneCell') = true) := Lib.hid (rowOf_one HM2.out)
        have Z0 := rowIs_setCells (rowOf 64 fm).toList 2 ur _ HX0.out
        have z1 : (ur.setCells w.heap.size 2 (rowOf 64 fm).toList).cell? ⟨w.heap.size, 1, none⟩ = some (.int .u32 top) := Z0.cell (i := 1) (by omega)
        have z66 : ((ur.setCells w.heap.size 2 (rowOf 64 fm).toList)).cell? ⟨w.heap.size, 66, none⟩ = some (.int .i64 came) := by
          rw [Z0.cell (i := 66) (by omega), if_pos (by omega), List.getD_eq_getElem?_getD, List.getElem?_eq_none (by simp [rowOf])]
          rfl
        have y1 := Z0.frozen 1
        have y66 := Z0.frozen 66
        have HZ0 := Lib.hid Z0
        have HZ1 : Hid (DRow (ur.setCells w.heap.size 2 (rowOf 64 fm).toList) (w.heap.size + 1) Sn.zero.dc) := Lib.hid (HX1.out.of_block (setCells_other _ _ _ _ _ (by omega)))
        have HZ2 : Hid (Below w.heap.size w (ur.setCells w.heap.size 2 (rowOf 64 fm).toList)) := Lib.hid (setCells_below _ _ (Nat.le_refl _) _ _ _ _ HX2.out)
        clear Z0 HX0 HX1 HX2
        go_upto_region 28 with (first
          | (with_reducible refine wpList_load_rowIs rfl 30 (.tmp 8) rfl m rfl 30 64 fm HX.out _ Tryz.underlying30 rfl I28.out ?_)
          | (with_reducible refine wpList_store_mid rfl 30 (.tmp 87) (.tmp 82) rfl w.heap.size 2 (rowOf 64 fm) rfl rfl HT.out HI2.out HO.out ?_))
        have G0 : DRow (((ur.setCells w.heap.size 2 (rowOf 64 fm).toList).setCell ⟨w.heap.size, 1, none⟩ (.int .u32 n)).setCell ⟨w.heap.size, 66, none⟩ (.int .i64 ((came : Int) + 1))) w.heap.size (dcl true n fb (came + 1) twice q2) := ((HZ0.out.set 1 _).set 66 _).congr (fun i hi => moved_cell top n came twice q2 mk fb fm HFM.out i hi)
        have G1 : DRow (((ur.setCells w.heap.size 2 (rowOf 64 fm).toList).setCell ⟨w.heap.size, 1, none⟩ (.int .u32 n)).setCell ⟨w.heap.size, 66, none⟩ (.int .i64 ((came : Int) + 1))) (w.heap.size + 1) Sn.zero.dc := (HZ1.out.setOther (a := ⟨w.heap.size, 1, none⟩) (by simp) _).setOther (a := ⟨w.heap.size, 66, none⟩) (by simp) _
        have G2 : Below w.heap.size w (((ur.setCells w.heap.size 2 (rowOf 64 fm).toList).setCell ⟨w.heap.size, 1, none⟩ (.int .u32 n)).setCell ⟨w.heap.size, 66, none⟩ (.int .i64 ((came : Int) + 1))) := (HZ2.out.setCell (p := ⟨w.heap.size, 1, none⟩) (Nat.le_refl _) _).setCell (p := ⟨w.heap.size, 66, none⟩) (Nat.le_refl _) _
        have GG0 := Lib.hid G0
        have GG1 := Lib.hid G1
        have GG2 := Lib.hid G2
        have HF := Lib.hid (dcl_one true n fb (came + 1) twice q2)
        clear G0 G1 G2 HZ0 HZ1 HZ2 z1 z66 y1 y66 HX HT HI2 HO HM2 HFM c66
        generalize (((ur.setCells w.heap.size 2 (rowOf 64 fm).toList).setCell ⟨w.heap.size, 1, none⟩ (.int .u32 n)).setCell ⟨w.heap.size, 66, none⟩ (.int .i64 ((came : Int) + 1))) = xr at *
        go_wp2_with (first
          | (with_reducible refine wpList_load_rowIs rfl 32 (.tmp 2) rfl w.heap.size rfl 32 69 (dcl true n fb (came + 1) twice q2) GG0.out _ Tryz.underlying32 rfl I30.out ?_)
          | (with_reducible refine wpList_store_rowIs rfl 32 (.tmp 4) (.tmp 90) rfl (w.heap.size + 1) rfl 69 (dcl true n fb (came + 1) twice q2) rfl 32 Sn.zero.dc GG1.out I30.out HF.out ?_; intro W2 J1 J2 J3 J4))
        refine bodyPost_ret (v := .tuple #[.agg (rowOf 69 (dcl true n fb (came + 1) twice q2)), .int .i64 0]) (results_row_tmp (p := 4) (u := 5) rfl _ W2 (w.heap.size + 1) 32 69 (dcl true n fb (came + 1) twice q2) _ _ rfl rfl J1.out Tryz.underlying32 rfl I30.out) rfl ?_
        exact ⟨fb, by rw [← HQ2.out], Lib.hid (fun i _ => HFB.out i), GG2.out.trans (J3.out.mono (by omega))⟩
end Go.Proofs.YtldhlknmabpanaaGreat
namespace Go.Proofs.YtldhlknmabpanaaGreat
open Go.RowKit

theorem rtake_any (s : Sn) (n k : Nat) (hn : n < 4294967296) (hf : s.fit k) (hk : k ≤ 1000000) (w : World) :
    Calls Tryz.prog 73 #[.agg (rowOf 69 s.dc), .int .u32 n] w fun e w' => e = .returned (.tuple #[.agg (rowOf 69 (s.take n).1.dc), .int .i64 (s.take n).2]) ∧ Below w.heap.size w w' := by
  have ht := hf.top
  have h1 := hf.came
  have h2 := hf.twice
  have h3 := hf.lost
  cases hs : s.any
  · have e : s.take n = (⟨true, n, 1#64, 1, 0, 0⟩, 0) := by unfold Sn.take; rw [hs]; rfl
    rw [e]
    exact rtake_first s n hs w
  · by_cases ho : beh n s.top ≤ -64
    · have e : s.take n = (s, 90) := by unfold Sn.take; simp [hs, ho]
      rw [e]
      exact rtake_old s n hs hn ht ho w
    · by_cases hy : 0 < beh n s.top
      · have e : s.take n = ({ s.moved n (beh n s.top).toNat with bts := (s.bts <<< (beh n s.top).toNat) ||| 1#64, came := s.came + 1 }, 0) := by unfold Sn.take; simp [hs, ho, hy]
        rw [e]
        have hb := beh_lo hn ht
        obtain ⟨j, hj⟩ : ∃ j : Nat, beh n s.top = j := ⟨(beh n s.top).toNat, by omega⟩
        have hd : s.dc = dcl true s.top s.bts.getLsbD s.came s.twice s.lost := by unfold Sn.dc; rw [hs]
        rw [hd]
        refine (rtake_loop s.top s.bts.getLsbD s.came s.twice s.lost n j hn ht hj (by omega) (by omega) (by omega) (by omega) w).mono ?_
        rintro e w' ⟨f, rfl, HF, hb⟩
        refine ⟨?_, hb⟩
        rw [hj, Int.toNat_natCast]
        congr 4
        refine congrArg Value.agg (rowOf_congr (fun i _ => ?_))
        have hm : ∀ i, i < 64 → f i = ((s.bts <<< j) ||| 1#64).getLsbD i := by
          intro i hi
          have h0 := HF.out i hi
          by_cases hz : i = 0
          · subst hz
            rw [if_pos rfl] at h0
            have h4 : f 0 = true := by injection h0
            rw [h4]
            simp
          · rw [if_neg hz] at h0
            unfold gMark at h0
            have h4 : f i = (decide (j ≤ i) && decide (i - j < 64) && s.bts.getLsbD (i - j)) := by injection h0
            rw [h4, BitVec.getLsbD_or, BitVec.getLsbD_shiftLeft]
            have h5 : (1#64).getLsbD i = false := by simp [BitVec.getLsbD_one, hz]
            have h6 : i - j < 64 := by omega
            rw [h5]
            by_cases h7 : j ≤ i
            · have h8 : ¬ i < j := by omega
              simp [hi, h6, h7, h8]
            · have h8 : i < j := by omega
              simp [h7, h8]
        show dcl true n f (s.came + 1) s.twice (s.lost + gLost s.bts.getLsbD j 64 + (j - 64)) i = dcl s.any n ((s.bts <<< j) ||| 1#64).getLsbD (s.came + 1) s.twice (s.lost + outs s.bts j + (j - 64)) i
        rw [hs]
        exact dcl_congr hm i
      · cases hb : s.bts.getLsbD (dist s.top n)
        · have e : s.take n = ({ s with bts := s.bts ||| (1#64 <<< dist s.top n), came := s.came + 1 }, 0) := by unfold Sn.take; simp [hs, ho, hy, hb]
          rw [e]
          exact rtake_mid s n hs hn ht (by omega) (by omega) hb (by omega) w
        · have e : s.take n = ({ s with twice := s.twice + 1 }, 171) := by unfold Sn.take; simp [hs, ho, hy, hb]
          rw [e]
          exact rtake_twice s n hs hn ht (by omega) (by omega) hb (by omega) w
theorem div_bit (x p : Nat) : x / 2 ^ p = x / 2 ^ (p + 1) * 2 + if x.testBit p then 1 else 0 := by
  have h : x / 2 ^ (p + 1) = x / 2 ^ p / 2 := by rw [Nat.pow_succ, Nat.div_div_eq_div_mul]
  rw [h, Nat.testBit_eq_decide_div_mod_eq]
  by_cases g : x / 2 ^ p % 2 = 1
  · simp only [g, decide_true, if_true]; omega
  · simp only [g, decide_false]; simp; omega
theorem bits_any (s : Sn) (w : World) :
    Calls Tryz.prog 91 #[.agg (rowOf 69 s.dc)] w fun e w' => e = .returned (.int .u64 s.bts.toNat) ∧ Below w.heap.size w w' := by
  have H0 := Lib.hid (rowIs_new w 69 s.dc 32)
  have H1 := Lib.hid ((Below.refl w.heap.size w).alloc (Nat.le_refl _) (.cells (rowOf 69 s.dc) 32))
  have hx := s.bts.isLt
  have ht : ∀ q, s.bts.toNat.testBit q = s.bts.getLsbD q := fun q => BitVec.testBit_toNat _
  obtain ⟨x, hxx⟩ : ∃ x, x = s.bts.toNat := ⟨_, rfl⟩
  rw [← hxx] at hx ht ⊢
  clear hxx
  have HT := Lib.hid ht
  clear ht
  have HX : Hid (x < 18446744073709551616) := Lib.hid (by simpa using hx)
  clear hx
  have HE : Hid (x / 2 ^ 64 = 0) := Lib.hid (Nat.div_eq_of_lt (by have := HX.out; omega))
  generalize hR : rowOf 69 s.dc = R at *
  go_enter Tryz.func91, Tryz.ntmps91
  go_upto_region 1 with fail
  generalize w.alloc (.cells R 32) = W at *
  go_wp2
  go_loop [3, 4] (fun v i => ∃ p : Nat, p ≤ 64 ∧ i = .int .i64 ((p : Int) - 1) ∧ v = .int .u64 ((x / 2 ^ p : Nat) : Int)) (fun _ i => (intOf i + 1).toNat)
  case atStart => exact ⟨64, by omega, rfl, by rw [HE.out]; rfl⟩
  case round =>
    obtain ⟨p, hp, rfl, rfl⟩ := hrel
    cases p with
    | zero =>
      have e : x / 2 ^ 0 = x := by simp
      rw [e]
      go_wp2
      go_ret
      exact ⟨rfl, H1.out⟩
    | succ q =>
      have e1 : ((q + 1 : Nat) : Int) - 1 = (q : Int) := by omega
      rw [e1]
      have hd := div_bit x q
      rw [HT.out q] at hd
      have hq : q < 64 := by omega
      have cq : W.cell? ⟨w.heap.size, 2 + q, none⟩ = some (.bool (s.bts.getLsbD q)) := by rw [H0.out.cell (i := 2 + q) (by omega), dc_mark s q hq]
      have hb : x / 2 ^ q < 18446744073709551616 := Nat.lt_of_le_of_lt (Nat.div_le_self _ _) HX.out
      obtain ⟨v, hv⟩ : ∃ v, v = x / 2 ^ (q + 1) := ⟨_, rfl⟩
      obtain ⟨u, hu⟩ : ∃ u, u = x / 2 ^ q := ⟨_, rfl⟩
      rw [← hv, ← hu] at hd
      rw [← hu] at hb
      rw [← hv]
      have HU := Lib.hid hu
      have k0 : (0 : Int) ≤ q := by omega
      have HQ := Lib.hid hq
      clear hv hu
      cases hc : s.bts.getLsbD q
      · rw [hc] at hd cq
        have hd2 : u = v * 2 := by simpa using hd
        clear hd hc
        go_wp2_with (with_reducible refine wpList_index28i rfl (.tmp 12) (.tmp 11) rfl w.heap.size 2 q (2 + q) (q : Int) rfl rfl rfl HQ.out rfl ?_)
        go_round
        case rel => exact ⟨q, by omega, by go_num, by rw [← HU.out, hd2]; simp⟩
        case measure => simp [intOf]
      · rw [hc] at hd cq
        have hd2 : u = v * 2 + 1 := by simpa using hd
        clear hd hc
        go_wp2_with (with_reducible refine wpList_index28i rfl (.tmp 12) (.tmp 11) rfl w.heap.size 2 q (2 + q) (q : Int) rfl rfl rfl HQ.out rfl ?_)
        go_round
        case rel => exact ⟨q, by omega, by go_num, by rw [← HU.out, hd2]; simp⟩
        case measure => simp [intOf]
end Go.Proofs.YtldhlknmabpanaaGreat
