/-
  Own text: a whole struct loaded and stored, wherever it lies within a block; results in two cells and a slot.
  Own text: which of two ways goes ahead: cmp.Compare, cmp.Or, rank, walked.
    layer 14 in plain numbers: what goes ahead; sorting by putting in, and by choosing: both come to the same.
  Own text: numbers in a slice of the call's own; what is appended to them, one at a time, or so many noughts.
  Own text: a datagram in plain numbers.
-/
import Derived.Test.YtldhlknmabpanaaGreatK03
import Derived.Test.YtldhlknmabpanaaGreatK06
import Derived.Test.YtldhlknmabpanaaGreatK05
import Derived.Test.YtldhlknmabpanaaGreatK01
import Derived.OrdersHeld
import Derived.Deep.RegionHeld3
import Derived.BigQuiet
import Derived.Laws.AppendOwn
import Derived.Laws.AppendOwnNone
import Derived.StillTailTactics
namespace Go.Proofs.YtldhlknmabpanaaGreat
open Go.RowKit

theorem setCells_otherL (b : Nat) : ∀ (vs : List Value) (o : Nat) (w : World) (c : Nat), c ≠ b → (w.setCells b o vs).heap[c]? = w.heap[c]?
  | [], _, _, _, _ => rfl
  | v :: r, o, w, c, h => by
    rw [World.setCells, setCells_otherL b r (o + 1) _ c h]
    simp only [World.setCell, Array.getElem?_modify]
    rw [if_neg (fun e => h e.symm)]
theorem quiet_loadAt {F : Fence} {n : Nat} {C : World → Prop} {w : World} {a : Act} {o : Oper} {v : Value} (ty : TypeId) (x : Operand) (p : Value) (ho : o.op = .load ty x) (hx : a.eval x = p) (hl : (Instr.loadAt ty p).run Tryz.prog w = .ok v w) : o.quietAtIn F n Tryz.prog a C w v := by
  unfold Oper.quietAtIn execOp
  simp only [ho, hx, Sem.run_bind, hl, Result.andThen_ok, Sem.run_pure]
  exact ⟨rfl, rfl⟩
theorem setCells_block (b : Nat) : ∀ (vs : List Value) (o : Nat) (w : World) (C : Array Value) (t : TypeId) (fr : Nat × Nat), w.heap[b]? = some (.cells C t fr) →
    ∃ C', (w.setCells b o vs).heap[b]? = some (.cells C' t fr) ∧ C'.size = C.size ∧ ∀ j, j < C.size → C'[j]? = if o ≤ j ∧ j < o + vs.length then vs[j - o]? else C[j]?
  | [], o, w, C, t, fr, h => ⟨C, h, rfl, fun j _ => by rw [if_neg (by simp)]⟩
  | v :: r, o, w, C, t, fr, h => by
    have h1 : (w.setCell ⟨b, o, none⟩ v).heap[b]? = some (.cells (C.setIfInBounds o v) t fr) := by simp [World.setCell, Array.getElem?_modify, h]
    obtain ⟨C', e, hs, hc⟩ := setCells_block b r (o + 1) _ _ t fr h1
    refine ⟨C', by rw [World.setCells]; exact e, by rw [hs]; simp, fun j hj => ?_⟩
    rw [hc j (by simpa using hj)]
    by_cases h2 : o + 1 ≤ j ∧ j < o + 1 + r.length
    · rw [if_pos h2, if_pos (by simp; omega), show j - o = (j - (o + 1)) + 1 by omega]
      rfl
    · rw [if_neg h2]
      by_cases h3 : j = o
      · subst h3
        rw [if_pos (by simp), Nat.sub_self, Array.getElem?_setIfInBounds, if_pos rfl, if_pos hj]
        rfl
      · rw [if_neg (by simp; omega), Array.getElem?_setIfInBounds, if_neg (fun e => h3 e.symm)]
theorem setCells_streams (b : Nat) : ∀ (vs : List Value) (o : Nat) (w : World), (w.setCells b o vs).os = w.os ∧ (w.setCells b o vs).tape = w.tape ∧ (w.setCells b o vs).output = w.output ∧ (w.setCells b o vs).heap.size = w.heap.size
  | [], _, _ => ⟨rfl, rfl, rfl, rfl⟩
  | v :: r, o, w => by
    obtain ⟨h1, h2, h3, h4⟩ := setCells_streams b r (o + 1) (w.setCell ⟨b, o, none⟩ v)
    rw [World.setCells]
    exact ⟨h1, h2, h3, by rw [h4]; simp [World.setCell]⟩
theorem Lies.setCells {w : World} {b o : Nat} {cs : Array Value} (h : Lies w b o cs) (ds : Array Value) (hs : ds.size = cs.size) : Lies (w.setCells b o ds.toList) b o ds := by
  obtain ⟨C, t, h, hsz, _⟩ := h
  obtain ⟨C', e, h1, h2⟩ := setCells_block b ds.toList o w C t (0, 0) h
  refine ⟨C', t, e, by omega, fun j hj => ?_⟩
  rw [h2 (o + j) (by omega), if_pos (by simp; omega), Nat.add_sub_cancel_left]
  simp
theorem Prt.setCells (w : World) (b o : Nat) (ds : Array Value) : Prt b o ds.size w (w.setCells b o ds.toList) := by
  obtain ⟨h1, h2, h3, h4⟩ := setCells_streams b ds.toList o w
  refine ⟨h1, h2, h3, by omega, fun k _ hk => setCells_otherL b _ _ _ _ hk, fun C t h => ?_⟩
  obtain ⟨C', e, hs, hc⟩ := setCells_block b ds.toList o w C t (0, 0) h
  refine ⟨C', e, hs, fun j hj => ?_⟩
  by_cases hl : j < C.size
  · rw [hc j hl, if_neg (by simp; omega)]
  · rw [Array.getElem?_eq_none (by omega), Array.getElem?_eq_none (by omega)]
/-- A store of a whole struct, wherever it lies. -/
theorem step_store_lies {w : World} {ops : Array Oper} {op : Oper} {a : Act} {K : Act → World → Prop} {Q : Exit → Act → World → Prop} {E : Prop} (hgd : op.guard = none) (ty : TypeId) (x y : Operand) (ho : op.op = .store ty x y)
    (g o : Nat) (hx : a.eval x = .pointer (some ⟨g, o, none⟩)) (cs : Array Value) (hy : a.eval y = .agg cs) (cs0 : Array Value) (hg : Lies w g o cs0) (hs : cs.size = cs0.size)
    (hi : (Tryz.prog.info? ty).map (·.size) = some cs.size) (h1 : cs.all (·.oneCell') = true)
    (h : ∀ w', Hid (Lies w' g o cs) → Hid (Prt g o cs.size w w') → w'.heap.size = w.heap.size → K (a.put op.dst undef) w') :
    if Region.wanted op (yielded ops a.tmps) = true then Oper.wp Tryz.prog op a w K Q else E := by
  have hw : Region.wanted op (yielded ops a.tmps) = true := by simp [Region.wanted, hgd]
  rw [if_pos hw]
  refine wp_store_mid ty x y ho g o cs hx hy (by rw [hs]; exact hg.there) hi h1 ?_
  exact h _ (Lib.hid (hg.setCells cs hs)) (Lib.hid (Prt.setCells w g o cs)) (setCells_streams g cs.toList o w).2.2.2
theorem wpList_store_lies {w : World} {ops : Array Oper} {rest : List Oper} {op : Oper} {a : Act} {Q : Exit → Act → World → Prop} (hgd : op.guard = none) (ty : TypeId) (x y : Operand) (ho : op.op = .store ty x y)
    (g o : Nat) (hx : a.eval x = .pointer (some ⟨g, o, none⟩)) (cs : Array Value) (hy : a.eval y = .agg cs) (cs0 : Array Value) (hg : Lies w g o cs0) (hs : cs.size = cs0.size)
    (hi : (Tryz.prog.info? ty).map (·.size) = some cs.size) (h1 : cs.all (·.oneCell') = true)
    (h : ∀ w', Hid (Lies w' g o cs) → Hid (Prt g o cs.size w w') → w'.heap.size = w.heap.size → wpList Tryz.prog ops Q rest (a.put op.dst undef) w') : wpList Tryz.prog ops Q (op :: rest) a w :=
  wpList_store_mid hgd ty x y ho g o cs hx hy (by rw [hs]; exact hg.there) hi h1 (h _ (Lib.hid (hg.setCells cs hs)) (Lib.hid (Prt.setCells w g o cs)) (setCells_streams g cs.toList o w).2.2.2)
/-- A load of a whole struct, wherever it lies. -/
theorem Lies.loadVar {w : World} {b o : Nat} {cs : Array Value} (h : Lies w b o cs) (ty : TypeId) (d : TypeDesc) (hu : Tryz.prog.underlying ty = some d) (hd : d.isRow = true) (hi : (Tryz.prog.info? ty).map (·.size) = some cs.size) :
    (loadVar ty ⟨b, o, none⟩).run Tryz.prog w = .ok (.agg cs) w := by
  have := run_loadVar_mid w b o ty cs.toList d h.range hu hd (by rw [hi]; simp)
  simpa using this
theorem Lies.loadAt {w : World} {b o : Nat} {cs : Array Value} (h : Lies w b o cs) (ty : TypeId) (d : TypeDesc) (hu : Tryz.prog.underlying ty = some d) (hd : d.isRow = true) (hi : (Tryz.prog.info? ty).map (·.size) = some cs.size) :
    (Instr.loadAt ty (.pointer (some ⟨b, o, none⟩))).run Tryz.prog w = .ok (.agg cs) w := by
  simp only [Instr.loadAt, Instr.sureAddr, Sem.run_bind, Sem.run_pure, Result.andThen_ok, h.loadVar ty d hu hd hi]
theorem wpList_load_lies {w : World} {ops : Array Oper} {rest : List Oper} {op : Oper} {a : Act} {Q : Exit → Act → World → Prop} (hgd : op.guard = none) (ty : TypeId) (x : Operand) (ho : op.op = .load ty x)
    (g o : Nat) (hx : a.eval x = .pointer (some ⟨g, o, none⟩)) (cs : Array Value) (hg : Lies w g o cs) (d : TypeDesc) (hu : Tryz.prog.underlying ty = some d) (hd : d.isRow = true) (hi : (Tryz.prog.info? ty).map (·.size) = some cs.size)
    (h : wpList Tryz.prog ops Q rest (a.put op.dst (.agg cs)) w) : wpList Tryz.prog ops Q (op :: rest) a w := by
  refine wpList_load_mid hgd ty x ho g o hx cs.toList d hg.range hu hd (by rw [hi]; simp) ?_
  simpa using h
theorem yields_loadAt {ops : Array Oper} {S : World → Prop} {o : Oper} {a : Act} {v : Value} (ty : TypeId) (x : Operand) (p : Value) (hw : Region.wanted o (yielded ops a.tmps) = true) (ho : o.op = .load ty x) (hx : a.eval x = p)
    (hS : ∀ w, S w → (Instr.loadAt ty p).run Tryz.prog w = .ok v w) : YieldsIf Tryz.prog ops S o v a :=
  .inl ⟨hw, fun w hs => by
    unfold execOp
    simp only [ho, hx, Sem.run_bind, hS w hs, Result.andThen_ok, Sem.run_pure]⟩
/-- An operation that yields one value in each world of the class is taken first: its place is written out. -/
theorem taken_at {P : Program} {ops : Array Oper} {md : Region.Mode} {Q : Exit → Act → World → Prop} {S : World → Prop} {i : Nat} {oi : Oper} {v : Value} {fuel : Nat} {listed : Array Bool} {a : Act} {w : World} (d : Option Tmp) (hi : ops[i]? = some oi) (hd : oi.dst = d)
    (hs : Region.noSelect ops = true) (hf : Region.free md ops listed i = true) (hr : (Region.ready md ops listed).contains i = true)
    (hQ : ∀ c a w, Q (.panic c) (a.put oi.dst v) w → Q (.panic c) a w) (hy : YieldsIf P ops S oi v a) (hS : S w)
    (h : wpAnyH P md ops Q S fuel (listed.setIfInBounds i true) (a.put d v) w) : wpAnyH P md ops Q S (fuel + 1) listed a w := by
  subst hd
  exact wpAnyH_take hi hs hf hr hQ hy hS h
end Go.Proofs.YtldhlknmabpanaaGreat
namespace Go.Proofs.YtldhlknmabpanaaGreat
open Go.RowKit

/-- Which of two ways goes ahead: below 0 the first one. -/
def Pn.rk (a b : Pn) : Int := orI (cmpI a.state b.state) (cmpI b.st.score a.st.score)
set_option maxRecDepth 100000 in
set_option maxHeartbeats 4000000 in
theorem rank_any (ba oa bb ob i j : Nat) (pa pb : Pn) (fa : pa.st.fit i) (fb : pb.st.fit j) (w : World) (ha : PLie w ba oa pa) (hb : PLie w bb ob pb) :
    Calls Tryz.prog 89 #[.pointer (some ⟨ba, oa, none⟩), .pointer (some ⟨bb, ob, none⟩)] w fun e w' => e = .returned (.int .i64 (pa.rk pb)) ∧ Below w.heap.size w w' := by
  have HA : Hid (∀ w', Below w.heap.size w w' → PLie w' ba oa pa) := Lib.hid (fun w' h => ha.below h ha.lt)
  have HB : Hid (∀ w', Below w.heap.size w w' → PLie w' bb ob pb) := Lib.hid (fun w' h => hb.below h hb.lt)
  have CA : Hid (∀ w', Below w.heap.size w w' → Calls Tryz.prog 56 #[.pointer (some ⟨ba, oa, none⟩)] w' fun e w1 => e = .returned (.int .i64 pa.state) ∧ Below w.heap.size w w1) := Lib.hid (fun w' h => (state_any ba oa pa w' (HA.out w' h)).mono fun _ _ hh => ⟨hh.1, by rw [← hh.2]; exact h⟩)
  have CB : Hid (∀ w', Below w.heap.size w w' → Calls Tryz.prog 56 #[.pointer (some ⟨bb, ob, none⟩)] w' fun e w1 => e = .returned (.int .i64 pb.state) ∧ Below w.heap.size w w1) := Lib.hid (fun w' h => (state_any bb ob pb w' (HB.out w' h)).mono fun _ _ hh => ⟨hh.1, by rw [← hh.2]; exact h⟩)
  have CC : Hid (∀ w', Below w.heap.size w w' → Calls Tryz.prog 83 #[.int .i64 pa.state, .int .i64 pb.state] w' fun e w1 => e = .returned (.int .i64 (cmpI pa.state pb.state)) ∧ Below w.heap.size w w1) := Lib.hid (fun w' h => (cmpI_any _ _ w').mono fun _ _ hh => ⟨hh.1, by rw [hh.2]; exact h⟩)
  have CD : Hid (∀ w', Below w.heap.size w w' → Calls Tryz.prog 113 #[SV pb.st] w' fun e w1 => e = .returned (.int .i64 pb.st.score) ∧ Below w.heap.size w w1) := Lib.hid (fun w' h => (score13_any pb.st j fb w').mono fun _ _ hh => ⟨hh.1, h.trans (hh.2.mono h.size)⟩)
  have CE : Hid (∀ w', Below w.heap.size w w' → Calls Tryz.prog 113 #[SV pa.st] w' fun e w1 => e = .returned (.int .i64 pa.st.score) ∧ Below w.heap.size w w1) := Lib.hid (fun w' h => (score13_any pa.st i fa w').mono fun _ _ hh => ⟨hh.1, h.trans (hh.2.mono h.size)⟩)
  have CF : Hid (∀ w', Below w.heap.size w w' → Calls Tryz.prog 83 #[.int .i64 pb.st.score, .int .i64 pa.st.score] w' fun e w1 => e = .returned (.int .i64 (cmpI pb.st.score pa.st.score)) ∧ Below w.heap.size w w1) := Lib.hid (fun w' h => (cmpI_any _ _ w').mono fun _ _ hh => ⟨hh.1, by rw [hh.2]; exact h⟩)
  have hR : pa.rk pb = orI (cmpI pa.state pb.state) (cmpI pb.st.score pa.st.score) := rfl
  rw [hR]
  unfold SV at CD CE
  clear hR fa fb ha hb
  generalize cmpI pa.state pb.state = c1 at *
  generalize cmpI pb.st.score pa.st.score = c2 at *
  generalize pa.state = sa at *
  generalize pb.state = sb at *
  generalize pa.st.score = ra at *
  generalize pb.st.score = rb at *
  go_enter Tryz.func89, Tryz.ntmps89
  go_upto_region 1 with fail
  refine (wpIn_wide (n := 3)).1 ?_
  refine wpIn_grow_tail (fun w' => Below w.heap.size w w') (Below.refl _ _).drew 16 (by kernel_rfl) (by kernel_rfl) (by kernel_rfl) ?_
  simp only [List.take_succ_cons, List.take_zero, List.drop_succ_cons, List.drop_zero]
  (refine wpQuietIn_step (fun _ _ _ _ => trivial) (fun K hK => ?_); go_simp; refine ⟨_, fun _ _ => rfl, hK _ ?_⟩; clear hK K)
  refine wpQuietIn_step (fun _ _ _ _ => trivial) (fun K hK => ?_)
  go_simp
  refine ⟨.int .i64 sa, fun w' hw => callsIn_wide.2 (CA.out w' hw), hK _ ?_⟩
  clear hK K
  (refine wpQuietIn_step (fun _ _ _ _ => trivial) (fun K hK => ?_); go_simp; refine ⟨_, fun _ _ => rfl, hK _ ?_⟩; clear hK K)
  refine wpQuietIn_step (fun _ _ _ _ => trivial) (fun K hK => ?_)
  go_simp
  refine ⟨.int .i64 sb, fun w' hw => callsIn_wide.2 (CB.out w' hw), hK _ ?_⟩
  clear hK K
  refine wpQuietIn_step (fun _ _ _ _ => trivial) (fun K hK => ?_)
  go_simp
  refine ⟨.int .i64 c1, fun w' hw => callsIn_wide.2 (CC.out w' hw), hK _ ?_⟩
  clear hK K
  iterate 3 (refine wpQuietIn_step (fun _ _ _ _ => trivial) (fun K hK => ?_); go_simp; refine ⟨_, fun _ _ => rfl, hK _ ?_⟩; clear hK K)
  refine wpQ_readw (.agg #[.int .i64 pb.st.lo, .int .i64 pb.st.rt, .int .i64 pb.st.va, .int .i64 pb.st.ma, .int .i64 pb.st.tr]) (fun _ _ _ _ => trivial) rfl (fun w' hw => ?_) ?_
  · obtain ⟨x0, x1, x2, x3, x4⟩ := (HB.out w' hw).st.cells
    unfold Oper.quietAtIn
    go_simp
  simp only [Act.put, List.setIfInBounds_toArray, List.set_cons_zero, List.set_cons_succ]
  refine wpQuietIn_step (fun _ _ _ _ => trivial) (fun K hK => ?_)
  go_simp
  refine ⟨.int .i64 rb, fun w' hw => callsIn_wide.2 (CD.out w' hw), hK _ ?_⟩
  clear hK K
  iterate 3 (refine wpQuietIn_step (fun _ _ _ _ => trivial) (fun K hK => ?_); go_simp; refine ⟨_, fun _ _ => rfl, hK _ ?_⟩; clear hK K)
  refine wpQ_readw (.agg #[.int .i64 pa.st.lo, .int .i64 pa.st.rt, .int .i64 pa.st.va, .int .i64 pa.st.ma, .int .i64 pa.st.tr]) (fun _ _ _ _ => trivial) rfl (fun w' hw => ?_) ?_
  · obtain ⟨x0, x1, x2, x3, x4⟩ := (HA.out w' hw).st.cells
    unfold Oper.quietAtIn
    go_simp
  simp only [Act.put, List.setIfInBounds_toArray, List.set_cons_zero, List.set_cons_succ]
  refine wpQuietIn_step (fun _ _ _ _ => trivial) (fun K hK => ?_)
  go_simp
  refine ⟨.int .i64 ra, fun w' hw => callsIn_wide.2 (CE.out w' hw), hK _ ?_⟩
  clear hK K
  refine wpQuietIn_step (fun _ _ _ _ => trivial) (fun K hK => ?_)
  go_simp
  refine ⟨.int .i64 c2, fun w' hw => callsIn_wide.2 (CF.out w' hw), hK _ ?_⟩
  clear hK K
  refine wpQuietIn_nil ?_
  rintro w' hw
  have HN : Hid (Lies (w'.alloc (.cells #[.int .i64 c1, .int .i64 c2] 3)) w'.heap.size 0 #[.int .i64 c1, .int .i64 c2]) := Lib.hid (Lies.new w' _ _ (Below.refl _ _))
  have CO := Lib.hid (or2_any c1 c2 w'.heap.size _ (HN.out.cell 0 (by decide : 0 < 2)) (HN.out.cell 1 (by decide : 1 < 2)))
  have HBX := Lib.hid (hw.alloc hw.size (.cells #[.int .i64 c1, .int .i64 c2] 3))
  clear hw HN
  gi_wp2
  refine ⟨trivial, callsIn_wide.2 ((CO.out).mono ?_)⟩
  rintro e w2 ⟨rfl, rfl⟩
  gi_wp2
  go_wp2
  go_ret
  exact ⟨rfl, HBX.out⟩
end Go.Proofs.YtldhlknmabpanaaGreat
namespace Go.Proofs.YtldhlknmabpanaaGreat

/-- i goes ahead of j: by s upward, by c downward, by number. -/
def Lt (s c : Nat → Int) (i j : Nat) : Prop := s i < s j ∨ (s i = s j ∧ (c j < c i ∨ (c i = c j ∧ i < j)))
theorem Lt.irrefl {s c : Nat → Int} {i : Nat} (h : Lt s c i i) : False := by unfold Lt at h; omega
theorem Lt.trans {s c : Nat → Int} {i j k : Nat} (h : Lt s c i j) (g : Lt s c j k) : Lt s c i k := by unfold Lt at *; omega
theorem Lt.asymm {s c : Nat → Int} {i j : Nat} (h : Lt s c i j) (g : Lt s c j i) : False := (h.trans g).irrefl
/-- Strictly ahead, whatever the numbers. -/
def Ahd (s c : Nat → Int) (i j : Nat) : Prop := s i < s j ∨ (s i = s j ∧ c j < c i)
theorem Lt.of_ahd {s c : Nat → Int} {i j : Nat} (h : Ahd s c i j) : Lt s c i j := by unfold Lt Ahd at *; omega
theorem Lt.of_not {s c : Nat → Int} {i j : Nat} (h : ¬ Ahd s c i j) (hj : j < i) : Lt s c j i := by unfold Lt Ahd at *; omega
theorem rk_ahd (P : Nat → Pn) (i j : Nat) : (P i).rk (P j) < 0 ↔ Ahd (fun k => (P k).state) (fun k => (P k).st.score) i j := by
  unfold Pn.rk Ahd orI cmpI
  dsimp only
  generalize (P i).state = a
  generalize (P j).state = b
  generalize (P i).st.score = c
  generalize (P j).st.score = d
  by_cases h1 : a < b
  · simp [h1]
  · by_cases h2 : b < a
    · have h3 : ¬ a = b := by omega
      simp [h1, h2, h3]
    · have h3 : a = b := by omega
      subst h3
      by_cases h4 : d < c
      · simp [h4]
      · by_cases h5 : c < d <;> simp [h4, h5]
/-- All below n, each once, in order. -/
structure Srt (s c : Nat → Int) (n : Nat) (D : Nat → Nat) : Prop where
  into : ∀ a, a < n → D a < n
  ord : ∀ a b, a < b → b < n → Lt s c (D a) (D b)
  onto : ∀ v, v < n → ∃ a, a < n ∧ D a = v
theorem Srt.inj {s c : Nat → Int} {n : Nat} {D : Nat → Nat} (h : Srt s c n D) {a b : Nat} (ha : a < n) (hb : b < n) (e : D a = D b) : a = b := by
  rcases Nat.lt_trichotomy a b with g | g | g
  · have := h.ord a b g hb
    rw [e] at this
    exact this.irrefl.elim
  · exact g
  · have := h.ord b a g ha
    rw [e] at this
    exact this.irrefl.elim
/-- There is but one order. -/
theorem Srt.only {s c : Nat → Int} {n : Nat} {D E : Nat → Nat} (h : Srt s c n D) (g : Srt s c n E) : ∀ k, k < n → D k = E k := by
  intro k
  induction k using Nat.strongRecOn with
  | ind k ih =>
    intro hk
    obtain ⟨m, hm, em⟩ := g.onto (D k) (h.into k hk)
    obtain ⟨m', hm', em'⟩ := h.onto (E k) (g.into k hk)
    have h1 : k ≤ m := by
      refine Classical.byContradiction fun hn => ?_
      have h2 := ih m (by omega) hm
      rw [em] at h2
      have := h.inj hm hk h2
      omega
    have h1' : k ≤ m' := by
      refine Classical.byContradiction fun hn => ?_
      have h2 := ih m' (by omega) hm'
      rw [em'] at h2
      have := g.inj hk hm' h2
      omega
    by_cases e : m = k
    · rw [← em, e]
    · have e' : ¬ m' = k := fun e' => e (by
        rw [e'] at em'
        rw [em'] at em
        exact g.inj hm hk em)
      have l1 := g.ord k m (by omega) hm
      rw [em] at l1
      have l2 := h.ord k m' (by omega) hm'
      rw [em'] at l2
      exact (l1.asymm l2).elim
theorem Srt.one (s c : Nat → Int) : Srt s c 1 (fun a => a) := ⟨fun a h => h, fun a b h g => by omega, fun v h => ⟨v, h, rfl⟩⟩
theorem Srt.congr {s c : Nat → Int} {n : Nat} {D E : Nat → Nat} (h : Srt s c n D) (e : ∀ a, a < n → D a = E a) : Srt s c n E :=
  ⟨fun a ha => by rw [← e a ha]; exact h.into a ha, fun a b ha hb => by rw [← e a (by omega), ← e b hb]; exact h.ord a b ha hb, fun v hv => by
    obtain ⟨a, ha, ea⟩ := h.onto v hv
    exact ⟨a, ha, by rw [← e a ha]; exact ea⟩⟩
/-- Number i is on its way down: it stands at j. -/
structure Way (s c : Nat → Int) (i j : Nat) (D : Nat → Nat) : Prop where
  le : j ≤ i
  at_ : D j = i
  low : ∀ a, a ≤ i → a ≠ j → D a < i
  rest : ∀ a b, a < b → b ≤ i → a ≠ j → b ≠ j → Lt s c (D a) (D b)
  past : ∀ b, j < b → b ≤ i → Lt s c i (D b)
  onto : ∀ v, v ≤ i → ∃ a, a ≤ i ∧ D a = v
  tail : ∀ a, i < a → D a = a
theorem Way.start {s c : Nat → Int} {i : Nat} {D : Nat → Nat} (h : Srt s c i D) (ht : ∀ a, i ≤ a → D a = a) : Way s c i i D :=
  ⟨Nat.le_refl _, ht i (Nat.le_refl _), fun a h1 h2 => h.into a (by omega), fun a b h1 h2 h3 h4 => h.ord a b h1 (by omega), fun b h1 h2 => by omega, fun v hv => by
    by_cases e : v = i
    · exact ⟨i, Nat.le_refl _, by rw [ht i (Nat.le_refl _), e]⟩
    · obtain ⟨a, ha, ea⟩ := h.onto v (by omega)
      exact ⟨a, by omega, ea⟩, fun a ha => ht a (by omega)⟩
/-- Two neighbours change places. -/
def swp (D : Nat → Nat) (j : Nat) : Nat → Nat := fun a => if a = j then D (j - 1) else if a = j - 1 then D j else D a
theorem Way.step {s c : Nat → Int} {i j : Nat} {D : Nat → Nat} (h : Way s c i j D) (hj : 0 < j) (hr : Ahd s c (D j) (D (j - 1))) : Way s c i (j - 1) (swp D j) := by
  have le := h.le
  have ej : swp D j j = D (j - 1) := by unfold swp; rw [if_pos rfl]
  have ep : swp D j (j - 1) = i := by unfold swp; rw [if_neg (by omega), if_pos rfl, h.at_]
  have eo : ∀ a, a ≠ j → a ≠ j - 1 → swp D j a = D a := fun a h1 h2 => by unfold swp; rw [if_neg h1, if_neg h2]
  rw [h.at_] at hr
  refine ⟨by omega, ep, fun a h1 h2 => ?_, fun a b h1 h2 h3 h4 => ?_, fun b h1 h2 => ?_, fun v hv => ?_, fun a ha => ?_⟩
  · by_cases e : a = j
    · rw [e, ej]
      exact h.low (j - 1) (by omega) (by omega)
    · rw [eo a e h2]
      exact h.low a h1 e
  · by_cases e : a = j
    · rw [e, ej, eo b (by omega) h4]
      exact h.rest (j - 1) b (by omega) h2 (by omega) (by omega)
    · by_cases e2 : b = j
      · rw [e2, ej, eo a e h3]
        exact h.rest a (j - 1) (by omega) (by omega) e (by omega)
      · rw [eo a e h3, eo b e2 h4]
        exact h.rest a b h1 h2 e e2
  · by_cases e : b = j
    · rw [e, ej]
      exact Lt.of_ahd hr
    · rw [eo b e (by omega)]
      exact h.past b (by omega) h2
  · obtain ⟨a, ha, ea⟩ := h.onto v hv
    by_cases e : a = j
    · exact ⟨j - 1, by omega, by rw [ep, ← ea, e, h.at_]⟩
    · by_cases e2 : a = j - 1
      · exact ⟨j, by omega, by rw [ej, ← ea, e2]⟩
      · exact ⟨a, ha, by rw [eo a e e2]; exact ea⟩
  · rw [eo a (by omega) (by omega)]
    exact h.tail a ha
/-- It has come to its place. -/
theorem Way.done {s c : Nat → Int} {i j : Nat} {D : Nat → Nat} (h : Way s c i j D) (hr : j = 0 ∨ ¬ Ahd s c (D j) (D (j - 1))) : Srt s c (i + 1) D := by
  have le := h.le
  refine ⟨fun a ha => ?_, fun a b h1 h2 => ?_, fun v hv => ?_⟩
  · by_cases e : a = j
    · rw [e, h.at_]; omega
    · have := h.low a (by omega) e; omega
  · by_cases e : a = j
    · rw [e, h.at_]
      exact h.past b (by omega) (by omega)
    · by_cases e2 : b = j
      · rw [e2, h.at_]
        have hj : 0 < j := by omega
        have hr2 := hr.resolve_left (by omega)
        rw [h.at_] at hr2
        have l1 := Lt.of_not hr2 (h.low (j - 1) (by omega) (by omega))
        by_cases e3 : a = j - 1
        · rw [e3]; exact l1
        · exact (h.rest a (j - 1) (by omega) (by omega) e (by omega)).trans l1
      · exact h.rest a b h1 (by omega) e e2
  · obtain ⟨a, ha, ea⟩ := h.onto v (by omega)
    exact ⟨a, by omega, ea⟩
/-- So many were chosen: the best ones, in order. -/
structure Chosen (s c : Nat → Int) (n k : Nat) (O : Nat → Nat) (u : Nat → Bool) : Prop where
  into : ∀ a, a < k → O a < n
  ord : ∀ a b, a < b → b < k → Lt s c (O a) (O b)
  used : ∀ i, i < n → (u i = true ↔ ∃ a, a < k ∧ O a = i)
  ahead : ∀ a i, a < k → i < n → u i = false → Lt s c (O a) i
  count : cnt u n = k
theorem cnt_all {p : Nat → Bool} : ∀ {n : Nat}, cnt p n = n → ∀ i, i < n → p i = true
  | 0, _, i, hi => by omega
  | n + 1, h, i, hi => by
    unfold cnt at h
    have h1 := cnt_le p n
    by_cases e : i = n
    · subst e
      cases hp : p i
      · rw [hp] at h
        simp at h
        omega
      · rfl
    · refine cnt_all (n := n) ?_ i (by omega)
      split at h <;> omega
theorem cnt_full {p : Nat → Bool} : ∀ {n : Nat}, (∀ i, i < n → p i = true) → cnt p n = n
  | 0, _ => rfl
  | n + 1, h => by
    unfold cnt
    rw [cnt_full (fun i hi => h i (by omega)), h n (by omega)]
    rfl
theorem cnt_put {p : Nat → Bool} {b : Nat} (hb : p b = false) : ∀ {n : Nat}, b < n → cnt (fun i => if i = b then true else p i) n = cnt p n + 1
  | 0, h => by omega
  | n + 1, h => by
    unfold cnt
    by_cases e : b = n
    · subst e
      rw [if_pos rfl, hb, cnt_congr (p := fun i => if i = b then true else p i) (q := p) (fun i hi => if_neg (by omega))]
      rfl
    · simp only [if_neg (show ¬ n = b from fun e2 => e e2.symm)]
      rw [cnt_put hb (by omega)]
      omega
/-- One is left, as long as not all were chosen. -/
theorem Chosen.left {s c : Nat → Int} {n k : Nat} {O : Nat → Nat} {u : Nat → Bool} (h : Chosen s c n k O u) (hk : k < n) : ∃ i, i < n ∧ u i = false := by
  refine Classical.byContradiction fun hn => ?_
  have := cnt_full (p := u) (n := n) (fun i hi => by
    cases hu : u i
    · exact absurd ⟨i, hi, hu⟩ hn
    · rfl)
  have := h.count
  omega
/-- The best one that is left, among the first m. -/
def Best (s c : Nat → Int) (u : Nat → Bool) (m : Nat) (b : Int) : Prop :=
  (b = -1 ∧ ∀ i, i < m → u i = true) ∨ ∃ j : Nat, b = j ∧ j < m ∧ u j = false ∧ ∀ i, i < m → u i = false → i ≠ j → Lt s c j i
theorem Best.start (s c : Nat → Int) (u : Nat → Bool) : Best s c u 0 (-1) := .inl ⟨rfl, fun i hi => by omega⟩
theorem Best.skip {s c : Nat → Int} {u : Nat → Bool} {m : Nat} {b : Int} (h : Best s c u m b) (hu : u m = true) : Best s c u (m + 1) b := by
  rcases h with ⟨h1, h2⟩ | ⟨j, h1, h2, h3, h4⟩
  · refine .inl ⟨h1, fun i hi => ?_⟩
    by_cases e : i = m
    · rw [e]; exact hu
    · exact h2 i (by omega)
  · refine .inr ⟨j, h1, by omega, h3, fun i hi hf hn => ?_⟩
    by_cases e : i = m
    · rw [e, hu] at hf; cases hf
    · exact h4 i (by omega) hf hn
theorem Best.first {s c : Nat → Int} {u : Nat → Bool} {m : Nat} {b : Int} (h : Best s c u m b) (hb : b < 0) (hu : u m = false) : Best s c u (m + 1) m := by
  rcases h with ⟨h1, h2⟩ | ⟨j, h1, h2, h3, h4⟩
  · refine .inr ⟨m, rfl, by omega, hu, fun i hi hf hn => ?_⟩
    rw [h2 i (by omega)] at hf; cases hf
  · omega
theorem Best.better {s c : Nat → Int} {u : Nat → Bool} {m j : Nat} (h : Best s c u m j) (hu : u m = false) (hr : Ahd s c m j) : Best s c u (m + 1) m := by
  rcases h with ⟨h1, h2⟩ | ⟨j', h1, h2, h3, h4⟩
  · omega
  · obtain rfl : j = j' := by omega
    refine .inr ⟨m, rfl, by omega, hu, fun i hi hf hn => ?_⟩
    by_cases e : i = j
    · rw [e]; exact Lt.of_ahd hr
    · exact (Lt.of_ahd hr).trans (h4 i (by omega) hf e)
theorem Best.worse {s c : Nat → Int} {u : Nat → Bool} {m j : Nat} (h : Best s c u m j) (hr : ¬ Ahd s c m j) : Best s c u (m + 1) j := by
  rcases h with ⟨h1, h2⟩ | ⟨j', h1, h2, h3, h4⟩
  · omega
  · obtain rfl : j = j' := by omega
    refine .inr ⟨j, rfl, by omega, h3, fun i hi hf hn => ?_⟩
    by_cases e : i = m
    · rw [e]; exact Lt.of_not hr h2
    · exact h4 i (by omega) hf hn
theorem Best.is {s c : Nat → Int} {n k : Nat} {O : Nat → Nat} {u : Nat → Bool} {b : Int} (h : Chosen s c n k O u) (hk : k < n) (hb : Best s c u n b) : ∃ j : Nat, b = j ∧ j < n ∧ u j = false ∧ ∀ i, i < n → u i = false → i ≠ j → Lt s c j i := by
  rcases hb with ⟨h1, h2⟩ | h1
  · obtain ⟨i, hi, hu⟩ := h.left hk
    rw [h2 i hi] at hu; cases hu
  · exact h1
theorem Chosen.start (s c : Nat → Int) (n : Nat) (O : Nat → Nat) : Chosen s c n 0 O (fun _ => false) :=
  ⟨fun a h => by omega, fun a b h g => by omega, fun i _ => ⟨fun h => (by cases h), fun ⟨a, h, _⟩ => (by omega)⟩, fun a i h => by omega, cnt_none (fun _ _ => rfl)⟩
theorem Chosen.put {s c : Nat → Int} {n k : Nat} {O : Nat → Nat} {u : Nat → Bool} (h : Chosen s c n k O u) {j : Nat} (hj : j < n) (hu : u j = false) (hb : ∀ i, i < n → u i = false → i ≠ j → Lt s c j i) :
    Chosen s c n (k + 1) (fun a => if a = k then j else O a) (fun i => if i = j then true else u i) := by
  refine ⟨fun a ha => ?_, fun a b h1 h2 => ?_, fun i hi => ?_, fun a i ha hi hf => ?_, ?_⟩
  · split
    · exact hj
    · exact h.into a (by omega)
  · rw [if_neg (show ¬ a = k by omega)]
    split
    · exact h.ahead a j (by omega) hj hu
    · exact h.ord a b h1 (by omega)
  · by_cases e : i = j
    · rw [if_pos e]
      exact ⟨fun _ => ⟨k, by omega, by rw [if_pos rfl, e]⟩, fun _ => rfl⟩
    · rw [if_neg e, h.used i hi]
      constructor
      · rintro ⟨a, ha, ea⟩
        exact ⟨a, by omega, by rw [if_neg (by omega)]; exact ea⟩
      · rintro ⟨a, ha, ea⟩
        by_cases e2 : a = k
        · rw [if_pos e2] at ea
          exact absurd ea.symm e
        · rw [if_neg e2] at ea
          exact ⟨a, by omega, ea⟩
  · by_cases e : i = j
    · rw [if_pos e] at hf; cases hf
    · rw [if_neg e] at hf
      split
      · exact hb i hi hf e
      · exact h.ahead a i (by omega) hi hf
  · rw [cnt_put hu hj, h.count]
theorem Chosen.all {s c : Nat → Int} {n : Nat} {O : Nat → Nat} {u : Nat → Bool} (h : Chosen s c n n O u) : Srt s c n O :=
  ⟨h.into, h.ord, fun v hv => (h.used v hv).1 (cnt_all h.count v hv)⟩
end Go.Proofs.YtldhlknmabpanaaGreat
namespace Go.Proofs.YtldhlknmabpanaaGreat
open Go.RowKit

theorem below_grown {B : Nat} {w0 w w' : World} {row : Option Nat} (h : Below B w0 w) (hg : w.grownBy w' row) (hB : B ≤ w.heap.size) (hr : ∀ k, row = some k → B ≤ k) : Below B w0 w' :=
  h.trans ⟨hg.os, hg.tape, hg.output, hg.size, fun k hk => hg.block k (by omega) (fun e => by have := hr k e.symm; omega)⟩
theorem grown_trans {A B C : World} {row : Option Nat} (h : A.grownBy B row) (k : B.grownBy C row) : A.grownBy C row :=
  ⟨k.os.trans h.os, k.tape.trans h.tape, k.output.trans h.output, Nat.le_trans h.size k.size, fun i hi hr => (k.block i (Nat.lt_of_lt_of_le hi h.size) hr).trans (h.block i hi hr)⟩
theorem add_place (b off k : Nat) : (⟨b, off, none⟩ : Addr).add k = ⟨b, off + k, none⟩ := by unfold Addr.add; split <;> simp_all
theorem info_i64 : (Tryz.prog.info? 3).map (fun i => (i.zero, i.size, i.bytes)) = some (some (.int .i64 0), 1, 8) := by kernel_rfl
/-- Numbers in a slice of the call's own. -/
def OwnI (w : World) (base : Nat) (v : Value) (n : Nat) (l : List Int) : Prop := w.ownsRow base 3 1 v n (l.map (Value.int .i64))
theorem OwnI.none (w : World) (base : Nat) : OwnI w base (.slice none 0 0) 0 [] := ⟨rfl, .inl ⟨rfl, rfl⟩⟩
theorem OwnI.length {w : World} {base : Nat} {v : Value} {n : Nat} {l : List Int} (h : OwnI w base v n l) : l.length = n := by
  have := h.1; simpa using this
theorem OwnI.slice {w : World} {base : Nat} {v : Value} {n : Nat} {l : List Int} (h : OwnI w base v n l) : ∃ A C, v = .slice A n C ∧ n ≤ C ∧ C ≤ maxLen := by
  rcases h.2 with ⟨rfl, rfl⟩ | ⟨g, cap, cur, rfl, _, _, h1, h2, _⟩
  · exact ⟨_, _, rfl, Nat.le_refl _, Nat.zero_le _⟩
  · exact ⟨_, _, rfl, h1, h2⟩
theorem OwnI.keep {w w' : World} {base : Nat} {v : Value} {n : Nat} {l : List Int} (h : OwnI w base v n l) (hk : ∀ g, v.ownBlock = some g → w'.heap[g]? = w.heap[g]?) : OwnI w' base v n l := by
  refine ⟨h.1, h.2.imp id ?_⟩
  rintro ⟨g, cap, cur, e, h1, hg, h2⟩
  exact ⟨g, cap, cur, e, h1, (hk g (by rw [e]; rfl)).trans hg, h2⟩
theorem OwnI.lt {w : World} {base : Nat} {v : Value} {n : Nat} {l : List Int} (h : OwnI w base v n l) : ∀ g, v.ownBlock = some g → base ≤ g ∧ g < w.heap.size := World.ownsRow.lt h
theorem OwnI.below {w w' : World} {base B : Nat} {v : Value} {n : Nat} {l : List Int} (h : OwnI w base v n l) (hb : Below B w w') (hB : w.heap.size ≤ B) : OwnI w' base v n l :=
  h.keep (fun g hg => hb.block g (Nat.lt_of_lt_of_le (h.lt g hg).2 hB))
theorem OwnI.low {w : World} {base b : Nat} {v : Value} {n : Nat} {l : List Int} (h : OwnI w base v n l) (hb : b ≤ base) : OwnI w b v n l := by
  refine ⟨h.1, h.2.imp id ?_⟩
  rintro ⟨g, cap, cur, e, h1, h2⟩
  exact ⟨g, cap, cur, e, by omega, h2⟩
/-- Where an element is: its block is no struct's. -/
theorem OwnI.at_ {w : World} {base : Nat} {A : Option Addr} {n C : Nat} {l : List Int} (h : OwnI w base (.slice A n C) n l) (i : Nat) (hi : i < n) :
    ∃ g, A = some ⟨g, 0, Option.none⟩ ∧ base ≤ g ∧ g < w.heap.size ∧ w.cell? ⟨g, i, Option.none⟩ = some (.int .i64 (l.getD i 0)) ∧ w.frozen? ⟨g, i, Option.none⟩ = false ∧ n ≤ C ∧ C ≤ maxLen ∧ (∃ cur : Array Value, w.heap[g]? = some (.cells cur 3 (0, 0))) := by
  have hl := h.length
  have hs := h.2
  rcases hs with ⟨e, h0⟩ | ⟨g, cap, cur, e, h1, hg, h3, h4, _⟩
  · omega
  · simp only [Value.slice.injEq, true_and] at e
    obtain ⟨rfl, rfl⟩ := e
    refine ⟨g, rfl, h1, (Array.getElem?_eq_some_iff.1 hg).1, ?_, World.ownsRow.frozenAt h i, h3, h4, cur, hg⟩
    rw [World.ownsRow.cellAt h i (by omega), List.getElem?_map, List.getD_eq_getElem?_getD, List.getElem?_eq_getElem (by omega)]
    rfl
theorem OwnI.cell {w : World} {base g : Nat} {n C : Nat} {l : List Int} (h : OwnI w base (.slice (some ⟨g, 0, Option.none⟩) n C) n l) (i : Nat) (hi : i < n) : w.cell? ⟨g, i, Option.none⟩ = some (.int .i64 (l.getD i 0)) := by
  obtain ⟨g', e, _, _, h, _⟩ := h.at_ i hi
  simp only [Option.some.injEq, Addr.mk.injEq, and_true] at e
  rw [e]; exact h
theorem OwnI.set {w : World} {base g : Nat} {n C : Nat} {l : List Int} (h : OwnI w base (.slice (some ⟨g, 0, Option.none⟩) n C) n l) (i : Nat) (z : Int) : OwnI (w.setCell ⟨g, i, Option.none⟩ (.int .i64 z)) base (.slice (some ⟨g, 0, Option.none⟩) n C) n (l.set i z) := by
  have := (World.ownsRow.stored h i (.int .i64 z)).1
  unfold OwnI
  rw [List.map_set]
  exact this
theorem wp_append_int {w : World} {o : Oper} {a : Act} {K : Act → World → Prop} {Q : Exit → Act → World → Prop} (s x : Operand)
    (ho : o.op = .call { callee := .builtin .append, args := #[s, x], argTypes := #[82, 82] })
    (base : Nat) (dp : Option Addr) (n dC : Nat) (hs : a.eval s = .slice dp n dC) (l : List Int) (hown : OwnI w base (.slice dp n dC) n l)
    (g : Nat) (hx : a.eval x = .slice (some ⟨g, 0, none⟩) 1 1) (z : Int) (hy : w.cell? ⟨g, 0, none⟩ = some (.int .i64 z)) (hb : n + 1 ≤ 100000) (hbase : base ≤ w.heap.size)
    (h : ∀ A C w', Hid (OwnI w' base (.slice A (n + 1) C) (n + 1) (l ++ [z])) → Hid (Below base w w') → K (a.put o.dst (.slice A (n + 1) C)) w') :
    o.wp Tryz.prog a w K Q := by
  obtain ⟨i, hi, hzz⟩ := Option.map_eq_some_iff.1 info_i64
  simp only [Prod.mk.injEq] at hzz
  obtain ⟨hz, hsz, hby⟩ := hzz
  refine wp_append_own w s x 82 ho base 3 i (.int .i64 0) 1 8 Tryz.underlying82 hi hz hsz hby rfl (by omega) _ n _ hs hown ⟨g, 0, none⟩ 1 1 [.int .i64 z] hx rfl ?_ ?_ (by unfold maxLen; omega) (by omega) hbase ?_
  · intro j u hu
    cases j with
    | zero => simp at hu; subst hu; rw [add_place]; exact hy
    | succ j => simp at hu
  · intro u hu
    simp at hu
    subst hu
    rfl
  · intro v' w' h1 h2 _
    have h3 : OwnI w' base v' (n + 1) (l ++ [z]) := by unfold OwnI; rw [List.map_append]; exact h1
    have h4 : ∃ A C, v' = .slice A (n + 1) C := by
      rcases h3.2 with ⟨rfl, h0⟩ | ⟨g, cap, cur, rfl, _⟩
      · omega
      · exact ⟨_, _, rfl⟩
    obtain ⟨A, C, rfl⟩ := h4
    exact h A C w' (Lib.hid h3) (Lib.hid (below_grown (Below.refl base w) h2 hbase (fun k hk => (hown.lt k hk).1)))
theorem wpList_append_int {w : World} {ops : Array Oper} {rest : List Oper} {o : Oper} {a : Act} {Q : Exit → Act → World → Prop} (hgd : o.guard = none) (s x : Operand)
    (ho : o.op = .call { callee := .builtin .append, args := #[s, x], argTypes := #[82, 82] })
    (base : Nat) (dp : Option Addr) (n dC : Nat) (hs : a.eval s = .slice dp n dC) (l : List Int) (hown : OwnI w base (.slice dp n dC) n l)
    (g : Nat) (hx : a.eval x = .slice (some ⟨g, 0, none⟩) 1 1) (z : Int) (hy : w.cell? ⟨g, 0, none⟩ = some (.int .i64 z)) (hb : n + 1 ≤ 100000) (hbase : base ≤ w.heap.size)
    (h : ∀ A C w', Hid (OwnI w' base (.slice A (n + 1) C) (n + 1) (l ++ [z])) → Hid (Below base w w') → wpList Tryz.prog ops Q rest (a.put o.dst (.slice A (n + 1) C)) w') :
    wpList Tryz.prog ops Q (o :: rest) a w :=
  wpList_plain hgd fun _ hK => wp_append_int s x ho base dp n dC hs l hown g hx z hy hb hbase (fun A C w' h1 h2 => hK _ _ (h A C w' h1 h2))
end Go.Proofs.YtldhlknmabpanaaGreat
namespace Go.Proofs.YtldhlknmabpanaaGreat
open Go.RowKit

/-- A datagram in plain numbers. -/
structure Dg where
  kind : Int
  ses : Int
  seq : Int
  path : Int
  tick : Int
  A : Int
  B : Int
  K : Int
  M : Int
  ix : Int
  da : Option Addr
  dl : Nat
  dc : Nat
/-- As a value. -/
abbrev Dg.val (d : Dg) : Value := .agg #[.int .i64 d.kind, .int .u32 d.ses, .int .u32 d.seq, .int .i64 d.path, .int .u32 d.tick, .int .u32 d.A, .int .u32 d.B, .int .i64 d.K, .int .i64 d.M, .int .i64 d.ix, .slice d.da d.dl d.dc]
/-- The numbers fit their kinds. -/
structure Dg.fit (d : Dg) : Prop where
  kind : -9223372036854775808 ≤ d.kind ∧ d.kind ≤ 9223372036854775807
  path : -9223372036854775808 ≤ d.path ∧ d.path ≤ 9223372036854775807
  K : -9223372036854775808 ≤ d.K ∧ d.K ≤ 9223372036854775807
  M : -9223372036854775808 ≤ d.M ∧ d.M ≤ 9223372036854775807
  ix : -9223372036854775808 ≤ d.ix ∧ d.ix ≤ 9223372036854775807
  ses : 0 ≤ d.ses ∧ d.ses ≤ 4294967295
  seq : 0 ≤ d.seq ∧ d.seq ≤ 4294967295
  tick : 0 ≤ d.tick ∧ d.tick ≤ 4294967295
  A : 0 ≤ d.A ∧ d.A ≤ 4294967295
  B : 0 ≤ d.B ∧ d.B ≤ 4294967295
  le : d.dl ≤ d.dc
  max : d.dc ≤ 9223372036854775807
end Go.Proofs.YtldhlknmabpanaaGreat
