/-
  Own text: the document's Same on datagrams; Size, the document's Encode ahead; walked.
  Own text: layer 17 (group): a shard of two bytes; bytes.Clone of one; a group's datagrams, walked.
  Own text: a struct's cells that lie within a block, at any offset; what a call on them may turn.
  Own text: a whole struct loaded and stored, wherever it lies within a block; results in two cells and a slot.
  Own text: layer 17 (group): Inputs, walked.
  Own text: layer 18 (reasm): shards of a group in memory; what a call may turn.
-/
import Derived.Test.YtjcbcdjfhcnhcaaK01
import Derived.Test.YtjcbcdjfhcnhcaaK15
import Derived.Test.YtjcbcdjfhcnhcaaK11
import Derived.Test.YtjcbcdjfhcnhcaaK14
import Derived.Test.YtjcbcdjfhcnhcaaK13
import Derived.Test.YtjcbcdjfhcnhcaaK12
import Derived.Lib.SliceRun
import Derived.Below
import Derived.Deep.MidRow
import Derived.OrdersHeld
import Derived.Deep.RegionHeld3
namespace Go.Proofs.Ytjcbcdjfhcnhcaa
open Go.RowKit

end Go.Proofs.Ytjcbcdjfhcnhcaa
namespace Go.Proofs.Ytjcbcdjfhcnhcaa
open Go.RowKit

/-- A shard of two bytes, and where it lies. -/
def Rw (w : World) (g off : Nat) (f : Nat → Nat) : Prop :=
  (∃ cur : Array Value, w.heap[g]? = some (.cells cur 5 (0, 0))) ∧ w.cell? ⟨g, off, none⟩ = some (.int .u8 (f 0 : Nat)) ∧ w.cell? ⟨g, off + 1, none⟩ = some (.int .u8 (f 1 : Nat)) ∧ f 0 ≤ 255 ∧ f 1 ≤ 255
theorem Rw.lt {w : World} {g off : Nat} {f : Nat → Nat} (h : Rw w g off f) : g < w.heap.size := by
  obtain ⟨⟨cur, h⟩, _⟩ := h
  exact (Array.getElem?_eq_some_iff.1 h).1
theorem Rw.keep {w w' : World} {g off : Nat} {f : Nat → Nat} (h : Rw w g off f) (e : w'.heap[g]? = w.heap[g]?) : Rw w' g off f := by
  obtain ⟨⟨cur, h0⟩, h1, h2, h3⟩ := h
  refine ⟨⟨cur, e.trans h0⟩, ?_, ?_, h3⟩
  · unfold World.cell? at *
    simp only [e]
    exact h1
  · unfold World.cell? at *
    simp only [e]
    exact h2
theorem Rw.below {w w' : World} {g off B : Nat} {f : Nat → Nat} (h : Rw w g off f) (hb : Below B w w') (hB : w.heap.size ≤ B) : Rw w' g off f := h.keep (hb.block g (Nat.lt_of_lt_of_le h.lt hB))
/-- Its bytes. -/
def two (f : Nat → Nat) : List Int := [(f 0 : Nat), (f 1 : Nat)]
theorem Rw.bytes {w : World} {g off : Nat} {f : Nat → Nat} (h : Rw w g off f) : Bytes w (some ⟨g, off, none⟩) 2 (two f) := by
  obtain ⟨_, h1, h2, h3, h4⟩ := id h
  refine ⟨rfl, by omega, fun i hi => ?_, .inr ⟨by omega, g, off, rfl, h.lt, fun i hi => ?_⟩⟩
  · rcases (show i = 0 ∨ i = 1 by omega) with rfl | rfl <;> simp [two] <;> omega
  · rcases (show i = 0 ∨ i = 1 by omega) with rfl | rfl
    · exact h1
    · exact h2
theorem Rw.dat {w : World} {g off N : Nat} {d : List Int} {f : Nat → Nat} (h : Dat w g N d) (hN : off + 2 ≤ N) (hc : ∀ c, c < 2 → co d (off + c) = f c) : Rw w g off f := by
  obtain ⟨cur, hm, _⟩ := h.mem
  have h0 := h.cell off (by omega)
  have h1 := h.cell (off + 1) (by omega)
  have e0 := hc 0 (by omega)
  have e1 := hc 1 (by omega)
  rw [Nat.add_zero] at e0
  rw [e0] at h0
  rw [e1] at h1
  have b0 := h.by_.lt off
  have b1 := h.by_.lt (off + 1)
  exact ⟨⟨_, hm⟩, h0, h1, by omega, by omega⟩
set_option maxRecDepth 100000 in
/-- A copy of a shard. -/
theorem bclone2_any (g off c : Nat) (f : Nat → Nat) (w : World) (h : Rw w g off f) (hc : 2 ≤ c) :
    Calls Try.prog 37 #[.slice (some ⟨g, off, none⟩) 2 c] w fun e w' => ∃ g' c', e = .returned (.slice (some ⟨g', 0, none⟩) 2 c') ∧ Hid (2 ≤ c' ∧ c' ≤ maxLen ∧ w.heap.size ≤ g' ∧ Rw w' g' 0 f ∧ Below w.heap.size w w') := by
  have hf := h.2.2.2
  have HL := Lib.hid h.bytes
  have q : ∀ (w : World) (a : Option Addr) (n c n' c' : Nat), (binOp .eql 42 (.slice a n c) (.slice none n' c')).run Try.prog w = .ok (.bool a.isNone) w := fun w a n c n' c' => Lib.run_eql_slice_nil w _ _ a n c n' c' Try.underlying42
  have HW := Lib.hid (Own8.lit w w.heap.size (Nat.le_refl _))
  have HB0 : Hid (Below w.heap.size w (w.alloc (.cells #[] 5))) := Lib.hid ((Below.refl _ w).alloc (Nat.le_refl _) _)
  have HY : Hid (Bytes (w.alloc (.cells #[] 5)) (some ⟨g, off, none⟩) 2 (two f)) := Lib.hid (HL.out.below HB0.out (Nat.le_refl _))
  have HC : Hid (2 ≤ c) := Lib.hid hc
  have HN : Hid ((some ⟨g, off, none⟩ : Option Addr) = none → c = 0) := Lib.hid (fun e => nomatch e)
  have H6 : Hid (0 + 2 ≤ 1000000) := Lib.hid (by omega)
  have H7 : Hid (w.heap.size ≤ (w.alloc (.cells #[] 5)).heap.size) := Lib.hid (by simp)
  have H8 : Hid (2 = 0 + 2) := Lib.hid (by omega)
  clear h hc
  go_enter Try.func37, Try.ntmps37
  go_wp2_with ((with_reducible refine wpList_append_bytes (w := w.alloc _) rfl (.tmp 5) (.tmp 6) rfl w.heap.size _ _ _ rfl [] HW.out _ _ _ rfl (two f) HY.out HN.out H6.out w.heap.size w HB0.out (Nat.le_refl _) H7.out 2 H8.out (two f) rfl ?_); intro A C w1 hown hb; have HO := hown; have HB := Lib.hid hb; clear hown hb)
  go_ret
  obtain ⟨hlen, ⟨_, h0⟩ | ⟨g', cap, cur, e, hg, hh, h1, h2, h3, h4⟩⟩ := HO.out
  · omega
  simp only [Value.slice.injEq] at e
  obtain ⟨rfl, _, rfl⟩ := e
  refine ⟨g', _, rfl, Lib.hid ⟨h1, h2, hg, ⟨⟨cur, hh⟩, ?_, ?_, hf⟩, HB.out⟩⟩
  · exact World.ownsRow.cellAt HO.out 0 (by simp)
  · exact World.ownsRow.cellAt HO.out 1 (by simp)
/-- A datagram of a group: its numbers, its bytes at g. -/
def dgv (no fst k m i : Int) (a : Option Addr) (c : Nat) : Dg := ⟨if i < k then 2 else 3, 0, 0, 0, 0, no, fst, k, m, i, a, 2, c⟩
end Go.Proofs.Ytjcbcdjfhcnhcaa
namespace Go.Proofs.Ytjcbcdjfhcnhcaa
open Go.RowKit

/-- These cells lie in block b from offset o on, and may be written. -/
def Lies (w : World) (b o : Nat) (cs : Array Value) : Prop :=
  ∃ C t, w.heap[b]? = some (.cells C t (0, 0)) ∧ o + cs.size ≤ C.size ∧ ∀ j, j < cs.size → C[o + j]? = cs[j]?
section
variable {w : World} {b o : Nat} {cs : Array Value}
theorem Lies.lt (h : Lies w b o cs) : b < w.heap.size := by
  obtain ⟨C, t, h, _, _⟩ := h
  exact (Array.getElem?_eq_some_iff.1 h).1
theorem Lies.cell (h : Lies w b o cs) (i : Nat) (hi : i < cs.size) : w.cell? ⟨b, o + i, none⟩ = cs[i]? := by
  obtain ⟨C, t, h, _, hc⟩ := h
  rw [← hc i hi]
  simp [World.cell?, h]
theorem Lies.frozen (h : Lies w b o cs) (i : Nat) : w.frozen? ⟨b, i, none⟩ = false := by
  obtain ⟨C, t, h, _, _⟩ := h
  simp [World.frozen?, h]
theorem Lies.keep {w' : World} (h : Lies w b o cs) (e : w'.heap[b]? = w.heap[b]?) : Lies w' b o cs := by
  obtain ⟨C, t, h, hs, hc⟩ := h
  exact ⟨C, t, e.trans h, hs, hc⟩
theorem Lies.below {w' : World} {B : Nat} (h : Lies w b o cs) (hb : Below B w w') (hB : b < B) : Lies w' b o cs := h.keep (hb.block b hB)
theorem Lies.drew (h : Lies w b o cs) : Lies w.drew b o cs := h
theorem Lies.drewN (h : Lies w b o cs) (n : Nat) : Lies (w.drewN n) b o cs := h.keep rfl
/-- One of them is written. -/
theorem Lies.set (h : Lies w b o cs) (i : Nat) (v : Value) : Lies (w.setCell ⟨b, o + i, none⟩ v) b o (cs.setIfInBounds i v) := by
  obtain ⟨C, t, h, hs, hc⟩ := h
  refine ⟨C.setIfInBounds (o + i) v, t, by simp [World.setCell, Array.getElem?_modify, h], by simpa using hs, fun j hj => ?_⟩
  rw [Array.size_setIfInBounds] at hj
  rw [Array.getElem?_setIfInBounds, Array.getElem?_setIfInBounds]
  by_cases e : i = j
  · subst e
    rw [if_pos rfl, if_pos rfl, if_pos (by omega), if_pos hj]
  · rw [if_neg (by omega), if_neg e, hc j hj]
theorem Lies.set0 (h : Lies w b o cs) (v : Value) : Lies (w.setCell ⟨b, o, none⟩ v) b o (cs.setIfInBounds 0 v) := h.set 0 v
theorem Lies.other (h : Lies w b o cs) {p : Addr} (hp : b ≠ p.block) (v : Value) : Lies (w.setCell p v) b o cs := h.keep (Below.heap_setCell w p v b hp)
theorem Lies.range (h : Lies w b o cs) : w.rangeAt b o cs.toList := fun j v hv => by
  have hj : j < cs.size := by simpa using (List.getElem?_eq_some_iff.1 hv).1
  rw [h.cell j hj, ← hv]
  simp
theorem Lies.there (h : Lies w b o cs) : w.there b o cs.size := fun j hj => ⟨by rw [h.cell j hj]; simp [hj], h.frozen _⟩
theorem Lies.eq {ds : Array Value} (h : Lies w b o cs) (e : cs = ds) : Lies w b o ds := e ▸ h
/-- A block that is new. -/
theorem Lies.new (w : World) (cs : Array Value) (t : TypeId) {w' : World} (h : Below (w.alloc (.cells cs t)).heap.size (w.alloc (.cells cs t)) w') : Lies w' w.heap.size 0 cs :=
  ⟨cs, t, by
    rw [h.block _ (by simp)]
    show (w.heap.push _)[w.heap.size]? = _
    simp, by omega, fun j _ => by rw [Nat.zero_add]⟩
end
/-- What a call on such cells may turn: these cells, and what is new. -/
structure Prt (b o n : Nat) (w w' : World) : Prop where
  os : w'.os = w.os
  tape : w'.tape = w.tape
  output : w'.output = w.output
  size : w.heap.size ≤ w'.heap.size
  block : ∀ k, k < w.heap.size → k ≠ b → w'.heap[k]? = w.heap[k]?
  part : ∀ C t, w.heap[b]? = some (.cells C t (0, 0)) → ∃ C', w'.heap[b]? = some (.cells C' t (0, 0)) ∧ C'.size = C.size ∧ ∀ j, (j < o ∨ o + n ≤ j) → C'[j]? = C[j]?
section
variable {b o n : Nat} {w w' w'' : World}
theorem Prt.refl (b o n : Nat) (w : World) : Prt b o n w w := ⟨rfl, rfl, rfl, Nat.le_refl _, fun _ _ _ => rfl, fun C _ h => ⟨C, h, rfl, fun _ _ => rfl⟩⟩
theorem Prt.trans (h : Prt b o n w w') (k : Prt b o n w' w'') : Prt b o n w w'' :=
  ⟨k.os.trans h.os, k.tape.trans h.tape, k.output.trans h.output, Nat.le_trans h.size k.size, fun i hi h1 => (k.block i (Nat.lt_of_lt_of_le hi h.size) h1).trans (h.block i hi h1), fun C t e => by
    obtain ⟨C', e', s', c'⟩ := h.part C t e
    obtain ⟨C'', e'', s'', c''⟩ := k.part C' t e'
    exact ⟨C'', e'', s''.trans s', fun j hj => (c'' j hj).trans (c' j hj)⟩⟩
/-- A wider part. -/
theorem Prt.wide (h : Prt b o n w w') {o' n' : Nat} (h1 : o' ≤ o) (h2 : o + n ≤ o' + n') : Prt b o' n' w w' :=
  ⟨h.os, h.tape, h.output, h.size, h.block, fun C t e => by
    obtain ⟨C', e', s', c'⟩ := h.part C t e
    exact ⟨C', e', s', fun j hj => c' j (by omega)⟩⟩
theorem Prt.drew (h : Prt b o n w w') : Prt b o n w w'.drew := ⟨h.os, h.tape, h.output, h.size, h.block, h.part⟩
theorem Prt.drewN (h : Prt b o n w w') (k : Nat) : Prt b o n w (w'.drewN k) := ⟨h.os, h.tape, h.output, h.size, h.block, h.part⟩
theorem Prt.set (h : Prt b o n w w') (i : Nat) (hi : i < n) (v : Value) : Prt b o n w (w'.setCell ⟨b, o + i, none⟩ v) :=
  h.trans ⟨rfl, rfl, rfl, by simp [World.setCell], fun k _ h1 => Below.heap_setCell _ _ _ k h1, fun C t e => by
    refine ⟨C.setIfInBounds (o + i) v, by simp [World.setCell, Array.getElem?_modify, e], by simp, fun j hj => ?_⟩
    rw [Array.getElem?_setIfInBounds, if_neg (by omega)]⟩
theorem Prt.set0 (h : Prt b o n w w') (hn : 0 < n) (v : Value) : Prt b o n w (w'.setCell ⟨b, o, none⟩ v) := h.set 0 hn v
/-- What is new may be whatever. -/
theorem Prt.below (h : Prt b o n w w') (hb : b < w'.heap.size) (k : Below w'.heap.size w' w'') : Prt b o n w w'' :=
  h.trans ⟨k.os, k.tape, k.output, k.size, fun i hi _ => k.block i hi, fun C _ e => ⟨C, (k.block b hb).trans e, rfl, fun _ _ => rfl⟩⟩
theorem Prt.bel (h : Prt b o n w w') {B : Nat} {w0 : World} (h0 : Below B w0 w) (hB : B ≤ w.heap.size) (hb : B ≤ b) : Below B w0 w' :=
  h0.trans ⟨h.os, h.tape, h.output, h.size, fun k hk => h.block k (by omega) (by omega)⟩
/-- What lies beside it is as it was. -/
theorem Lies.beside {o' : Nat} {cs : Array Value} (h : Lies w b o' cs) (hp : Prt b o n w w') (ha : o' + cs.size ≤ o ∨ o + n ≤ o') : Lies w' b o' cs := by
  obtain ⟨C, t, hb, hsz, hcc⟩ := h
  obtain ⟨C', e', s', c'⟩ := hp.part C t hb
  exact ⟨C', t, e', by omega, fun j hj => by rw [c' (o' + j) (by omega), hcc j hj]⟩
theorem Lies.apart {b' o' : Nat} {cs : Array Value} (h : Lies w b' o' cs) (hp : Prt b o n w w') (ha : b' ≠ b) : Lies w' b' o' cs := h.keep (hp.block b' h.lt ha)
end
end Go.Proofs.Ytjcbcdjfhcnhcaa
namespace Go.Proofs.Ytjcbcdjfhcnhcaa
open Go.RowKit

theorem setCells_otherL (b : Nat) : ∀ (vs : List Value) (o : Nat) (w : World) (c : Nat), c ≠ b → (w.setCells b o vs).heap[c]? = w.heap[c]?
  | [], _, _, _, _ => rfl
  | v :: r, o, w, c, h => by
    rw [World.setCells, setCells_otherL b r (o + 1) _ c h]
    simp only [World.setCell, Array.getElem?_modify]
    rw [if_neg (fun e => h e.symm)]
theorem setCells_block (b : Nat) : ∀ (vs : List Value) (o : Nat) (w : World) (C : Array Value) (t : TypeId) (fr : Nat × Nat), w.heap[b]? = some (.cells C t fr) →
    ∃ C', (w.setCells b o vs).heap[b]? = some (.cells C' t fr) ∧ C'.size = C.size ∧ ∀ j, j < C.size → C'[j]? = if o ≤ j ∧ j < o + vs.length then vs[j - o]? else C[j]?
  | [], o, w, C, t, fr, h => ⟨C, h, rfl, fun j _ => by rw [if_neg (by simp)]⟩
  | v :: r, o, w, C, t, fr, h => by
    have h1 : (w.setCell ⟨b, o, none⟩ v).heap[b]? = some (.cells (C.setIfInBounds o v) t fr) := by simp [World.setCell, Array.getElem?_modify, h]
    obtain ⟨C', e, hs, hc⟩ := setCells_block b r (o + 1) _ _ t fr h1
    refine ⟨C', by rw [World.setCells]; exact e, by rw [hs]; simp, fun j hj => ?_⟩
    rw [hc j (by simpa using hj)]
    by_cases h2 : o + 1 ≤ j ∧ j < o + 1 + r.length
    · rw [if_pos h2, if_pos (by simp; omega), show j - o = (j - (o + 1)) + 1 by omega]
      rfl
    · rw [if_neg h2]
      by_cases h3 : j = o
      · subst h3
        rw [if_pos (by simp), Nat.sub_self, Array.getElem?_setIfInBounds, if_pos rfl, if_pos hj]
        rfl
      · rw [if_neg (by simp; omega), Array.getElem?_setIfInBounds, if_neg (fun e => h3 e.symm)]
theorem setCells_streams (b : Nat) : ∀ (vs : List Value) (o : Nat) (w : World), (w.setCells b o vs).os = w.os ∧ (w.setCells b o vs).tape = w.tape ∧ (w.setCells b o vs).output = w.output ∧ (w.setCells b o vs).heap.size = w.heap.size
  | [], _, _ => ⟨rfl, rfl, rfl, rfl⟩
  | v :: r, o, w => by
    obtain ⟨h1, h2, h3, h4⟩ := setCells_streams b r (o + 1) (w.setCell ⟨b, o, none⟩ v)
    rw [World.setCells]
    exact ⟨h1, h2, h3, by rw [h4]; simp [World.setCell]⟩
theorem Lies.setCells {w : World} {b o : Nat} {cs : Array Value} (h : Lies w b o cs) (ds : Array Value) (hs : ds.size = cs.size) : Lies (w.setCells b o ds.toList) b o ds := by
  obtain ⟨C, t, h, hsz, _⟩ := h
  obtain ⟨C', e, h1, h2⟩ := setCells_block b ds.toList o w C t (0, 0) h
  refine ⟨C', t, e, by omega, fun j hj => ?_⟩
  rw [h2 (o + j) (by omega), if_pos (by simp; omega), Nat.add_sub_cancel_left]
  simp
theorem Prt.setCells (w : World) (b o : Nat) (ds : Array Value) : Prt b o ds.size w (w.setCells b o ds.toList) := by
  obtain ⟨h1, h2, h3, h4⟩ := setCells_streams b ds.toList o w
  refine ⟨h1, h2, h3, by omega, fun k _ hk => setCells_otherL b _ _ _ _ hk, fun C t h => ?_⟩
  obtain ⟨C', e, hs, hc⟩ := setCells_block b ds.toList o w C t (0, 0) h
  refine ⟨C', e, hs, fun j hj => ?_⟩
  by_cases hl : j < C.size
  · rw [hc j hl, if_neg (by simp; omega)]
  · rw [Array.getElem?_eq_none (by omega), Array.getElem?_eq_none (by omega)]
/-- A store of a whole struct, wherever it lies. -/
theorem step_store_lies {w : World} {ops : Array Oper} {op : Oper} {a : Act} {K : Act → World → Prop} {Q : Exit → Act → World → Prop} {E : Prop} (hgd : op.guard = none) (ty : TypeId) (x y : Operand) (ho : op.op = .store ty x y)
    (g o : Nat) (hx : a.eval x = .pointer (some ⟨g, o, none⟩)) (cs : Array Value) (hy : a.eval y = .agg cs) (cs0 : Array Value) (hg : Lies w g o cs0) (hs : cs.size = cs0.size)
    (hi : (Try.prog.info? ty).map (·.size) = some cs.size) (h1 : cs.all (·.oneCell') = true)
    (h : ∀ w', Hid (Lies w' g o cs) → Hid (Prt g o cs.size w w') → w'.heap.size = w.heap.size → K (a.put op.dst undef) w') :
    if Region.wanted op (yielded ops a.tmps) = true then Oper.wp Try.prog op a w K Q else E := by
  have hw : Region.wanted op (yielded ops a.tmps) = true := by simp [Region.wanted, hgd]
  rw [if_pos hw]
  refine wp_store_mid ty x y ho g o cs hx hy (by rw [hs]; exact hg.there) hi h1 ?_
  exact h _ (Lib.hid (hg.setCells cs hs)) (Lib.hid (Prt.setCells w g o cs)) (setCells_streams g cs.toList o w).2.2.2
theorem wpList_store_lies {w : World} {ops : Array Oper} {rest : List Oper} {op : Oper} {a : Act} {Q : Exit → Act → World → Prop} (hgd : op.guard = none) (ty : TypeId) (x y : Operand) (ho : op.op = .store ty x y)
    (g o : Nat) (hx : a.eval x = .pointer (some ⟨g, o, none⟩)) (cs : Array Value) (hy : a.eval y = .agg cs) (cs0 : Array Value) (hg : Lies w g o cs0) (hs : cs.size = cs0.size)
    (hi : (Try.prog.info? ty).map (·.size) = some cs.size) (h1 : cs.all (·.oneCell') = true)
    (h : ∀ w', Hid (Lies w' g o cs) → Hid (Prt g o cs.size w w') → w'.heap.size = w.heap.size → wpList Try.prog ops Q rest (a.put op.dst undef) w') : wpList Try.prog ops Q (op :: rest) a w :=
  wpList_store_mid hgd ty x y ho g o cs hx hy (by rw [hs]; exact hg.there) hi h1 (h _ (Lib.hid (hg.setCells cs hs)) (Lib.hid (Prt.setCells w g o cs)) (setCells_streams g cs.toList o w).2.2.2)
theorem wpList_load_lies {w : World} {ops : Array Oper} {rest : List Oper} {op : Oper} {a : Act} {Q : Exit → Act → World → Prop} (hgd : op.guard = none) (ty : TypeId) (x : Operand) (ho : op.op = .load ty x)
    (g o : Nat) (hx : a.eval x = .pointer (some ⟨g, o, none⟩)) (cs : Array Value) (hg : Lies w g o cs) (d : TypeDesc) (hu : Try.prog.underlying ty = some d) (hd : d.isRow = true) (hi : (Try.prog.info? ty).map (·.size) = some cs.size)
    (h : wpList Try.prog ops Q rest (a.put op.dst (.agg cs)) w) : wpList Try.prog ops Q (op :: rest) a w := by
  refine wpList_load_mid hgd ty x ho g o hx cs.toList d hg.range hu hd (by rw [hi]; simp) ?_
  simpa using h
/-- An operation that yields one value in each world of the class is taken first: its place is written out. -/
theorem taken_at {P : Program} {ops : Array Oper} {md : Region.Mode} {Q : Exit → Act → World → Prop} {S : World → Prop} {i : Nat} {oi : Oper} {v : Value} {fuel : Nat} {listed : Array Bool} {a : Act} {w : World} (d : Option Tmp) (hi : ops[i]? = some oi) (hd : oi.dst = d)
    (hs : Region.noSelect ops = true) (hf : Region.free md ops listed i = true) (hr : (Region.ready md ops listed).contains i = true)
    (hQ : ∀ c a w, Q (.panic c) (a.put oi.dst v) w → Q (.panic c) a w) (hy : YieldsIf P ops S oi v a) (hS : S w)
    (h : wpAnyH P md ops Q S fuel (listed.setIfInBounds i true) (a.put d v) w) : wpAnyH P md ops Q S (fuel + 1) listed a w := by
  subst hd
  exact wpAnyH_take hi hs hf hr hQ hy hS h
end Go.Proofs.Ytjcbcdjfhcnhcaa
namespace Go.Proofs.Ytjcbcdjfhcnhcaa
open Go.RowKit

/-- The inputs, as far as they are read. -/
def inV (F : Nat → Int) (k j : Nat) : Value := if j < k then .int .u16 (F j) else .int .u16 0
theorem in_zero (w : World) (F : Nat → Int) (n : Nat) : (w.alloc (.cells (madeCells #[.int .u16 0] n) 79)).rowIs w.heap.size 79 n (inV F 0) :=
  (World.rowIs_made w (.int .u16 0) n 79).congr (fun i _ => by unfold inV; rw [if_neg (by omega)])
theorem in_step {w : World} {g n k : Nat} {F : Nat → Int} {z : Int} (hz : z = F k) (H : w.rowIs g 79 n (inV F k)) : (w.setCell ⟨g, k, none⟩ (.int .u16 z)).rowIs g 79 n (inV F (k + 1)) :=
  (H.set k _).congr (fun i _ => by
    unfold inV
    by_cases e : i = k
    · rw [if_pos e, if_pos (by omega), e, hz]
    · rw [if_neg e]
      by_cases g : i < k
      · rw [if_pos g, if_pos (by omega)]
      · rw [if_neg g, if_neg (by omega)])
/-- What Inputs answers, of shards of two bytes each. -/
def TakenTo (n : Nat) (F : Nat → Int) (w : World) (e : Ending) (w' : World) : Prop :=
  ∃ g, e = .returned (.tuple #[.slice (some ⟨g, 0, none⟩) n n, .bool true]) ∧ Hid (w.heap.size ≤ g) ∧ Hid (w'.rowIs g 79 n (fun i => .int .u16 (F i))) ∧ Hid (Below w.heap.size w w')
/-- Of others, one of which at least is longer or shorter. -/
def NoneTo (w : World) (e : Ending) (w' : World) : Prop := e = .returned (.tuple #[.slice none 0 0, .bool false]) ∧ Hid (Below w.heap.size w w')
set_option maxRecDepth 100000 in
set_option maxHeartbeats 1000000 in
theorem inputs_any (n cap : Nat) (a : Option Addr) (A : Nat → Option Addr) (L C : Nat → Nat) (X : Nat → List Int) (w : World) (hc : ColsIn w a n cap A L C X) (hn : n ≤ 1000) (F : Nat → Int) (hF : ∀ i, i < n → L i = 2 → F i = wordOf (X i)) :
    Calls Try.prog 80 #[.slice a n cap] w fun e w' => ((∀ i, i < n → L i = 2) ∧ TakenTo n F w e w') ∨ ((∃ i, i < n ∧ L i ≠ 2) ∧ NoneTo w e w') := by
  have hmk := fun w => run_make_row' (P := Try.prog) 24 79 (.int .u16 0) 2 Try.underlying24 info_in rfl .i64 .i64 n (by omega) (by omega) w
  have HC0 := Lib.hid (in_zero w F n)
  have HB0 : Hid (Below w.heap.size w (w.alloc (.cells (madeCells #[.int .u16 0] n) 79))) := Lib.hid (below_put w _)
  have HX : Hid (∀ w' : World, Below w.heap.size w w' → ColsIn w' a n cap A L C X) := Lib.hid (fun w' hb => hc.below hb (Nat.le_refl w.heap.size))
  have HFF := Lib.hid hF
  clear hF hc
  go_enter Try.func80, Try.ntmps80
  go_wp2
  clear hmk
  generalize w.alloc (.cells (madeCells #[.int .u16 0] n) 79) = w1 at *
  have HH : Hid (w.heap.size ≤ w.heap.size) := Lib.hid (Nat.le_refl _)
  obtain ⟨g, hg⟩ : ∃ g, g = w.heap.size := ⟨_, rfl⟩
  rw [← hg] at HC0 HB0 HX
  have HGG := Lib.hid hg
  rw [← hg]
  clear hg HH
  go_loopw [5, 6, 12] (fun _ _ i wr => ∃ k : Nat, k ≤ n ∧ i = .int .i64 k ∧ Hid (wr.rowIs g 79 n (inV F k)) ∧ Hid (∀ j, j < k → L j = 2) ∧ Hid (Below g w wr)) (fun _ _ i _ => n - (intOf i).toNat)
  case atStart => exact ⟨0, by omega, rfl, HC0, Lib.hid (fun j hj => absurd hj (by omega)), HB0⟩
  case round =>
    clear HC0 HB0
    obtain ⟨k, hk, rfl, HO, HL, HB⟩ := hrel
    obtain ⟨wo, ho⟩ : ∃ wo, wo = wr := ⟨_, rfl⟩
    subst ho
    by_cases hlt : k < n
    · have j0 : (0 : Int) ≤ k := by omega
      have j1 : (k : Int) < n := by omega
      obtain ⟨⟨b1, o1, rfl, _, c1⟩, s1⟩ := (HX.out _ HB.out).2.2.2 k hlt
      have HS := Lib.hid s1
      by_cases h2 : L k = 2
      · have c0 := HO.out.cell hlt
        have f0 := HO.out.frozen k
        unfold inV at c0
        rw [if_neg (by omega)] at c0
        have hle2 := Nat.le_trans s1.cap s1.top
        have hcap := s1.cap
        have htop := s1.top
        rw [h2] at c1 hle2 hcap
        have hbt : Bytes wo (A k) 2 (X k) := by have := s1.bytes; rw [h2] at this; exact this
        have HGT := Lib.hid (get7_any (A k) 2 (C k) (X k) wo hbt (by omega) (by omega) hcap htop)
        have hwv : 0 ≤ wordOf (X k) ∧ wordOf (X k) ≤ 65535 := by
          have hs := hbt.size
          have h0 := hbt.byte 0 (by omega)
          have h1 := hbt.byte 1 (by omega)
          obtain ⟨x, y, hxy⟩ : ∃ x y, X k = [x, y] := by
            match hX : X k with
            | [] => rw [hX] at hs; simp at hs
            | [x] => rw [hX] at hs; simp at hs
            | [x, y] => exact ⟨x, y, rfl⟩
            | _ :: _ :: _ :: _ => rw [hX] at hs; simp at hs
          rw [hxy] at h0 h1 ⊢
          simp at h0 h1
          simp [wordOf]
          omega
        have hwr : IntKind.u16.wrap (wordOf (X k)) = wordOf (X k) := by rw [IntKind.wrap_u16]; omega
        have HFK := Lib.hid (HFF.out k hlt h2)
        have HL2 : Hid (∀ j, j < k + 1 → L j = 2) := Lib.hid (fun j hj => if e : j = k then e ▸ h2 else HL.out j (by omega))
        have HLT := Lib.hid hlt
        generalize wordOf (X k) = v at *
        clear hbt s1 HX HFF HS h2 HL hlt
        go_wp2_with (first
          | (go_at_call 96; (with_reducible refine HGT.out.mono ?_); rintro e w2 ⟨rfl, rfl⟩)
          | fail)
        go_roundw
        case rel => exact ⟨k + 1, by have := HLT.out; omega, by go_num, Lib.hid (in_step HFK.out.symm HO.out), HL2, Lib.hid (HB.out.setCell (p := ⟨g, k, none⟩) (Nat.le_refl _) _)⟩
        case measure => have := HLT.out; simp [intOf]; omega
      · have h3 : ((L k : Nat) : Int) ≠ 2 := by omega
        have hle2 := Nat.le_trans s1.cap s1.top
        have HNL : Hid (∃ i, i < n ∧ L i ≠ 2) := Lib.hid ⟨k, hlt, h2⟩
        clear s1 h2 HFF HX HS
        go_wp2
        go_ret2
        exact .inr ⟨HNL.out, rfl, by rw [← HGG.out]; exact HB⟩
    · obtain rfl : k = n := by omega
      go_wp2
      go_ret2
      exact .inl ⟨HL.out, g, rfl, Lib.hid (by rw [HGG.out]; exact Nat.le_refl _), Lib.hid (HO.out.congr (fun i hi => by unfold inV; rw [if_pos hi])), by rw [← HGG.out]; exact HB⟩
end Go.Proofs.Ytjcbcdjfhcnhcaa
namespace Go.Proofs.Ytjcbcdjfhcnhcaa
open Go.RowKit

/-- What a call may turn: those cells of block b of which P holds, a row, and what is new. -/
structure PrtR (b : Nat) (R : Option Nat) (P : Nat → Prop) (w w' : World) : Prop where
  os : w'.os = w.os
  tape : w'.tape = w.tape
  output : w'.output = w.output
  size : w.heap.size ≤ w'.heap.size
  block : ∀ k, k < w.heap.size → k ≠ b → some k ≠ R → w'.heap[k]? = w.heap[k]?
  part : ∀ C t, w.heap[b]? = some (.cells C t (0, 0)) → ∃ C', w'.heap[b]? = some (.cells C' t (0, 0)) ∧ C'.size = C.size ∧ ∀ j, ¬ P j → C'[j]? = C[j]?
section
variable {b : Nat} {P : Nat → Prop} {R : Option Nat} {w w' w'' : World}
theorem PrtR.refl (b : Nat) (R : Option Nat) (P : Nat → Prop) (w : World) : PrtR b R P w w := ⟨rfl, rfl, rfl, Nat.le_refl _, fun _ _ _ _ => rfl, fun C _ h => ⟨C, h, rfl, fun _ _ => rfl⟩⟩
theorem PrtR.trans (h : PrtR b R P w w') (k : PrtR b R P w' w'') : PrtR b R P w w'' :=
  ⟨k.os.trans h.os, k.tape.trans h.tape, k.output.trans h.output, Nat.le_trans h.size k.size, fun i h1 h2 h3 => (k.block i (Nat.lt_of_lt_of_le h1 h.size) h2 h3).trans (h.block i h1 h2 h3), fun C t hC => by
    obtain ⟨C1, e1, s1, g1⟩ := h.part C t hC
    obtain ⟨C2, e2, s2, g2⟩ := k.part C1 t e1
    exact ⟨C2, e2, s2.trans s1, fun j hj => (g2 j hj).trans (g1 j hj)⟩⟩
theorem PrtR.wide (h : PrtR b R P w w') {P' : Nat → Prop} (hP : ∀ j, P j → P' j) : PrtR b R P' w w' :=
  ⟨h.os, h.tape, h.output, h.size, h.block, fun C t hC => by
    obtain ⟨C1, e1, s1, g1⟩ := h.part C t hC
    exact ⟨C1, e1, s1, fun j hj => g1 j (fun h => hj (hP j h))⟩⟩
theorem PrtR.below (h : PrtR b R P w w') (hb : b < w'.heap.size) (k : Below w'.heap.size w' w'') : PrtR b R P w w'' :=
  ⟨k.os.trans h.os, k.tape.trans h.tape, k.output.trans h.output, Nat.le_trans h.size k.size, fun i h1 h2 h3 => (k.block i (Nat.lt_of_lt_of_le h1 h.size)).trans (h.block i h1 h2 h3), fun C t hC => by
    obtain ⟨C1, e1, s1, g1⟩ := h.part C t hC
    exact ⟨C1, (k.block b hb).trans e1, s1, g1⟩⟩
theorem PrtR.of_below (hb : b < w.heap.size) (k : Below w.heap.size w w') : PrtR b R P w w' := (PrtR.refl b R P w).below hb k
theorem PrtR.set (h : PrtR b R P w w') (i : Nat) (hi : P i) (v : Value) : PrtR b R P w (w'.setCell ⟨b, i, none⟩ v) := by
  have hk : ∀ k, k ≠ b → (w'.setCell ⟨b, i, none⟩ v).heap[k]? = w'.heap[k]? := fun k hk => by
    simp only [World.setCell, Array.getElem?_modify]
    rw [if_neg (fun e => hk e.symm)]
  refine ⟨h.os, h.tape, h.output, by simp [World.setCell]; exact h.size, fun k a1 a2 a3 => (hk k a2).trans (h.block k a1 a2 a3), fun C t hC => ?_⟩
  obtain ⟨C1, e1, s1, g1⟩ := h.part C t hC
  refine ⟨C1.setIfInBounds i v, blk_set e1 i v, by rw [Array.size_setIfInBounds]; exact s1, fun j hj => ?_⟩
  rw [Array.getElem?_setIfInBounds_ne (fun e : i = j => hj (by rw [← e]; exact hi))]
  exact g1 j hj
theorem PrtR.grown (h : PrtR b R P w w') (hb : b < w'.heap.size) (row : Option Nat) (hr : ∀ k, row = some k → R = some k ∨ w.heap.size ≤ k) (hr2 : row ≠ some b) (hg : w'.grownBy w'' row) : PrtR b R P w w'' :=
  ⟨hg.os.trans h.os, hg.tape.trans h.tape, hg.output.trans h.output, Nat.le_trans h.size hg.size, fun i h1 h2 h3 => (hg.block i (Nat.lt_of_lt_of_le h1 h.size) (fun e => by
      rcases hr i e.symm with h5 | h5
      · exact h3 h5.symm
      · omega)).trans (h.block i h1 h2 h3), fun C t hC => by
    obtain ⟨C1, e1, s1, g1⟩ := h.part C t hC
    exact ⟨C1, (hg.block b hb (fun e => hr2 e.symm)).trans e1, s1, g1⟩⟩
end
theorem row_keep {w w' : World} {base s n : Nat} {e : TypeId} {v : Value} {l : List Value} (h : w.ownsRow base e s v n l) (hk : ∀ g, v.ownBlock = some g → w'.heap[g]? = w.heap[g]?) : w'.ownsRow base e s v n l := by
  refine ⟨h.1, ?_⟩
  rcases h.2 with h0 | ⟨g, cap, cur, e1, h1, h2, h3⟩
  · exact .inl h0
  · exact .inr ⟨g, cap, cur, e1, h1, by rw [hk g (by rw [e1]; rfl)]; exact h2, h3⟩
theorem row_type {w : World} {base s n : Nat} {e : TypeId} {v : Value} {l : List Value} (h : w.ownsRow base e s v n l) {g : Nat} (hg : v.ownBlock = some g) : base ≤ g ∧ g < w.heap.size ∧ ∃ cur, w.heap[g]? = some (.cells cur e (0, 0)) := by
  rcases h.2 with ⟨rfl, _⟩ | ⟨g', cap, cur, rfl, h1, h2, _⟩
  · cases hg
  · cases hg
    exact ⟨h1, (Array.getElem?_eq_some_iff.1 h2).1, cur, h2⟩
/-- The bytes of a shard. -/
def f2 (s : Sd) (c : Nat) : Nat := if c = 0 then s.b0 else s.b1
/-- Shards in a row of the call's own; their bytes lie in blocks of which F holds. -/
def ShO (w : World) (base : Nat) (F : Nat → Prop) (v : Value) (s : List Sd) : Prop :=
  ∃ (A : Nat → Option Addr) (C : Nat → Nat), OwnH w base v s.length (shV (ixL s) A (fun _ => 2) C s.length) ∧
    ∀ i, i < s.length → ∃ g off, A i = some ⟨g, off, none⟩ ∧ F g ∧ 2 ≤ C i ∧ C i ≤ maxLen ∧ Rw w g off (f2 (s.getD i Sd.zero))
section
variable {w w' : World} {base : Nat} {F : Nat → Prop} {v : Value} {s : List Sd}
theorem ShO.nil (w : World) (base : Nat) (F : Nat → Prop) : ShO w base F (.slice none 0 0) [] := ⟨fun _ => none, fun _ => 0, OwnH.none w base, fun i hi => absurd hi (by simp)⟩
theorem ShO.keep (h : ShO w base F v s) (h1 : ∀ g, v.ownBlock = some g → w'.heap[g]? = w.heap[g]?) (h2 : ∀ g cur, F g → w.heap[g]? = some (.cells cur 5 (0, 0)) → w'.heap[g]? = w.heap[g]?) : ShO w' base F v s := by
  obtain ⟨A, C, ho, hd⟩ := h
  refine ⟨A, C, row_keep ho h1, fun i hi => ?_⟩
  obtain ⟨g, off, e, hF, c1, c2, hr⟩ := hd i hi
  obtain ⟨cur, hc⟩ := hr.1
  exact ⟨g, off, e, hF, c1, c2, hr.keep (h2 g cur hF hc)⟩
theorem ShO.below {B : Nat} (h : ShO w base F v s) (hb : Below B w w') (hB : w.heap.size ≤ B) : ShO w' base F v s :=
  h.keep (fun g hg => hb.block g (by obtain ⟨A, C, ho, _⟩ := h; have := (row_type ho hg).2.1; omega)) (fun g cur _ hc => hb.block g (by have := (Array.getElem?_eq_some_iff.1 hc).1; omega))
theorem ShO.slice (h : ShO w base F v s) : ∃ A C, v = .slice A s.length C ∧ s.length ≤ C ∧ C ≤ maxLen ∧ (A = none → C = 0) := by
  obtain ⟨A, C, ho, _⟩ := h
  exact ho.slice
theorem ShO.typ (h : ShO w base F v s) {g : Nat} (hg : v.ownBlock = some g) : base ≤ g ∧ g < w.heap.size ∧ ∃ cur, w.heap[g]? = some (.cells cur 111 (0, 0)) := by
  obtain ⟨A, C, ho, _⟩ := h
  exact row_type ho hg
theorem ShO.imp {F' : Nat → Prop} (h : ShO w base F v s) (hF : ∀ g, g < w.heap.size → F g → F' g) : ShO w base F' v s := by
  obtain ⟨A, C, ho, hd⟩ := h
  refine ⟨A, C, ho, fun i hi => ?_⟩
  obtain ⟨g, off, e, h1, c1, c2, hr⟩ := hd i hi
  exact ⟨g, off, e, hF g hr.lt h1, c1, c2, hr⟩
/-- They read as shards. -/
theorem ShO.shards {A0 : Option Addr} {n C0 : Nat} (h : ShO w base F (.slice A0 n C0) s) (hn : s.length = n) (hb : ∀ x ∈ s, x.ix ≤ 1000) : ∃ A C, ShardsIn w A0 n C0 (ixL s) A (fun _ => 2) C (byL s) := by
  obtain ⟨A, C, ho, hd⟩ := h
  subst hn
  refine ⟨A, C, OwnH.shards (ixL s) A (fun _ => 2) C (byL s) ho (fun i hi => ?_) (fun i hi => ?_)⟩
  · have : (s.getD i Sd.zero).ix ≤ 1000 := by
      rw [List.getD_eq_getElem?_getD, List.getElem?_eq_getElem hi]
      exact hb _ (List.getElem_mem hi)
    unfold ixL
    omega
  · obtain ⟨g, off, e, _, c1, c2, hr⟩ := hd i hi
    rw [e]
    exact ⟨hr.bytes, c1, by unfold maxLen at c2; omega, fun h => nomatch h⟩
end
theorem shV_snoc (s : List Sd) (x : Sd) (A : Nat → Option Addr) (C : Nat → Nat) (a : Option Addr) (c : Nat) :
    shV (ixL (s ++ [x])) (fun i => if i = s.length then a else A i) (fun _ => 2) (fun i => if i = s.length then c else C i) (s ++ [x]).length = shV (ixL s) A (fun _ => 2) C s.length ++ [.int .i64 (x.ix : Nat), .slice a 2 c] := by
  rw [List.length_append, List.length_singleton, shV]
  congr 1
  · refine shV_congr _ fun i hi => ⟨?_, ?_, rfl, ?_⟩
    · unfold ixL
      rw [List.getD_eq_getElem?_getD, List.getD_eq_getElem?_getD, List.getElem?_append_left hi]
    · rw [if_neg (by omega)]
    · rw [if_neg (by omega)]
  · unfold ixL
    rw [if_pos rfl, if_pos rfl, List.getD_eq_getElem?_getD]
    simp
/-- One more shard. -/
theorem wp_append_sho {w : World} {o : Oper} {a : Act} {K : Act → World → Prop} {Q : Exit → Act → World → Prop} (s x : Operand)
    (ho : o.op = .call { callee := .builtin .append, args := #[s, x], argTypes := #[100, 100] })
    (base : Nat) (F : Nat → Prop) (v : Value) (l : List Sd) (hs : a.eval s = v) (hown : ShO w base F v l)
    (g : Nat) (hx : a.eval x = .slice (some ⟨g, 0, none⟩) 1 1) (z : Sd) (gd off c : Nat) (hF : F gd) (hc1 : 2 ≤ c) (hc2 : c ≤ maxLen) (hr : Rw w gd off (f2 z)) (hy : w.heap[g]? = some (.cells #[.int .i64 (z.ix : Nat), .slice (some ⟨gd, off, none⟩) 2 c] 111 (0, 0))) (hb : l.length + 1 ≤ 100000) (hbase : base ≤ w.heap.size)
    (N : Nat) (hN : N = l.length + 1)
    (h : ∀ A' C' w', Hid (ShO w' base F (.slice A' N C') (l ++ [z])) → Hid (w.grownBy w' v.ownBlock) → Hid ((Value.slice A' N C').ownBlock = v.ownBlock ∨ (Value.slice A' N C').ownBlock = some w.heap.size) → K (a.put o.dst (.slice A' N C')) w') :
    o.wp Try.prog a w K Q := by
  obtain ⟨i, hi, hzz⟩ := Option.map_eq_some_iff.1 info_shard
  simp only [Prod.mk.injEq] at hzz
  obtain ⟨hz, hsz, hby⟩ := hzz
  obtain ⟨A, C, hrow, hd⟩ := hown
  obtain ⟨v', w', hrun, h1, h2, _, h4⟩ := run_append_own_at (P := Try.prog) w base 100 o.type 111 i (.agg #[.int .i64 0, .slice none 0 0]) 2 32 Try.underlying100 hi hz hsz hby rfl (by omega) v l.length _ hrow ⟨g, 0, none⟩ 1 1 [.int .i64 (z.ix : Nat), .slice (some ⟨gd, off, none⟩) 2 c] rfl (fun j u hu => by
    rw [onto_any]
    match j with
    | 0 => simp at hu; subst hu; simp only [World.cell?, hy]; rfl
    | 1 => simp at hu; subst hu; simp only [World.cell?, hy]; rfl
    | j + 2 => simp at hu) (fun u hu => by
    simp at hu
    rcases hu with rfl | rfl <;> rfl) (by unfold maxLen; omega) (by omega) hbase
  unfold Oper.wp execOp
  simp only [ho, resolve, invoke, builtin, Sem.run_bind, Sem.run_pure, Result.andThen_ok, List.map_toArray, List.map_cons, List.map_nil, hs, hx, hrun]
  obtain ⟨A', C', rfl⟩ : ∃ A C, v' = .slice A N C := by
    rcases h1.2 with ⟨rfl, h0⟩ | ⟨q, cap, cur, rfl, _⟩
    · omega
    · exact ⟨_, _, by rw [hN]⟩
  refine h A' C' w' (Lib.hid ⟨fun i => if i = l.length then some ⟨gd, off, none⟩ else A i, fun i => if i = l.length then c else C i, ?_, fun i hi => ?_⟩) (Lib.hid h2) (Lib.hid h4)
  · rw [shV_snoc, List.length_append, List.length_singleton]
    exact h1
  · have hk : ∀ (g' : Nat) (cur : Array Value), w.heap[g']? = some (.cells cur 5 (0, 0)) → w'.heap[g']? = w.heap[g']? := fun g' cur hc => h2.block g' (Array.getElem?_eq_some_iff.1 hc).1 (fun e => by
      obtain ⟨_, _, cur', hc'⟩ := row_type hrow e.symm
      rw [hc] at hc'
      simp at hc')
    by_cases e : i = l.length
    · subst e
      obtain ⟨cur, hc⟩ := hr.1
      refine ⟨gd, off, if_pos rfl, hF, by dsimp only; rw [if_pos rfl]; exact hc1, by dsimp only; rw [if_pos rfl]; exact hc2, ?_⟩
      rw [List.getD_eq_getElem?_getD]
      simp only [List.getElem?_concat_length, Option.getD_some]
      exact hr.keep (hk gd cur hc)
    · rw [List.length_append, List.length_singleton] at hi
      obtain ⟨g', off', e1, hF', c1, c2, hr'⟩ := hd i (by omega)
      obtain ⟨cur, hc⟩ := hr'.1
      refine ⟨g', off', by dsimp only; rw [if_neg e]; exact e1, hF', by dsimp only; rw [if_neg e]; exact c1, by dsimp only; rw [if_neg e]; exact c2, ?_⟩
      rw [List.getD_eq_getElem?_getD, List.getElem?_append_left (by omega), ← List.getD_eq_getElem?_getD]
      exact hr'.keep (hk g' cur hc)
theorem step_append_sho {w : World} {ops : Array Oper} {o : Oper} {a : Act} {K : Act → World → Prop} {Q : Exit → Act → World → Prop} {E : Prop} (hgd : o.guard = none) (s x : Operand)
    (ho : o.op = .call { callee := .builtin .append, args := #[s, x], argTypes := #[100, 100] })
    (base : Nat) (F : Nat → Prop) (v : Value) (l : List Sd) (hs : a.eval s = v) (hown : ShO w base F v l)
    (g : Nat) (hx : a.eval x = .slice (some ⟨g, 0, none⟩) 1 1) (z : Sd) (gd off c : Nat) (hF : F gd) (hc1 : 2 ≤ c) (hc2 : c ≤ maxLen) (hr : Rw w gd off (f2 z)) (hy : w.heap[g]? = some (.cells #[.int .i64 (z.ix : Nat), .slice (some ⟨gd, off, none⟩) 2 c] 111 (0, 0))) (hb : l.length + 1 ≤ 100000) (hbase : base ≤ w.heap.size)
    (N : Nat) (hN : N = l.length + 1)
    (h : ∀ A' C' w', Hid (ShO w' base F (.slice A' N C') (l ++ [z])) → Hid (w.grownBy w' v.ownBlock) → Hid ((Value.slice A' N C').ownBlock = v.ownBlock ∨ (Value.slice A' N C').ownBlock = some w.heap.size) → K (a.put o.dst (.slice A' N C')) w') :
    if Region.wanted o (yielded ops a.tmps) = true then Oper.wp Try.prog o a w K Q else E := by
  have hw : Region.wanted o (yielded ops a.tmps) = true := by simp [Region.wanted, hgd]
  rw [if_pos hw]
  exact wp_append_sho s x ho base F v l hs hown g hx z gd off c hF hc1 hc2 hr hy hb hbase N hN h
end Go.Proofs.Ytjcbcdjfhcnhcaa
