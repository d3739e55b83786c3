/-
  Own text: a block of bytes of the call's own, of which one knows the front part; what is copied and mixed into it.
-/
import Derived.Test.YtipaolkgafhliaaCo
import Derived.Test.YtipaolkgafhliaaMatB
namespace Go.Proofs.Ytipaolkgafhliaa
open Go.RowKit

theorem grown_refl (w : World) (row : Option Nat) : w.grownBy w row := ⟨rfl, rfl, rfl, Nat.le_refl _, fun _ _ _ => rfl⟩
theorem grown_trans {A B C : World} {row : Option Nat} (h : A.grownBy B row) (k : B.grownBy C row) : A.grownBy C row :=
  ⟨k.os.trans h.os, k.tape.trans h.tape, k.output.trans h.output, Nat.le_trans h.size k.size, fun i hi hr => (k.block i (Nat.lt_of_lt_of_le hi h.size) hr).trans (h.block i hi hr)⟩
theorem grown_below {A B : World} (h : Below A.heap.size A B) (row : Option Nat) : A.grownBy B row := ⟨h.os, h.tape, h.output, h.size, fun i hi _ => h.block i hi⟩
theorem grown_set (W : World) (b o : Nat) (v : Value) : W.grownBy (W.setCell ⟨b, o, none⟩ v) (some b) :=
  ⟨rfl, rfl, rfl, by simp, fun k _ hk => Below.heap_setCell _ _ _ k (fun e => hk (by rw [e]))⟩
theorem grown_drew {A B : World} {row : Option Nat} (h : A.grownBy B row) (n : Nat) : A.grownBy (B.drewN n) row := ⟨h.os, h.tape, h.output, h.size, h.block⟩
theorem grown_from_drew {A B : World} {row : Option Nat} (h : A.drew.grownBy B row) : A.grownBy B row := ⟨h.os, h.tape, h.output, h.size, h.block⟩
theorem below_grows {A B : World} {g base : Nat} (h : A.grownBy B (some g)) (h1 : base ≤ g) (h2 : base ≤ A.heap.size) : Below base A B :=
  below_grown (Below.refl base A) h h2 (fun k e => by cases e; exact h1)
/-- A part of a list. -/
def seg (l : List Int) (o m : Nat) : List Int := (l.drop o).take m
theorem seg_length (l : List Int) (o m : Nat) (h : o + m ≤ l.length) : (seg l o m).length = m := by unfold seg; rw [List.length_take, List.length_drop]; omega
theorem seg_by {l : List Int} (h : By l) (o m : Nat) : By (seg l o m) := fun z hz => h z (List.mem_of_mem_drop (List.mem_of_mem_take hz))
theorem seg_get (l : List Int) (o m i : Nat) (h : i < m) : (seg l o m).getD i 0 = l.getD (o + i) 0 := by
  unfold seg; simp [List.getD_eq_getElem?_getD, h, List.getElem?_drop]
theorem seg_co (l : List Int) (o m i : Nat) (h : i < m) : co (seg l o m) i = co l (o + i) := by unfold co; rw [seg_get l o m i h]
/-- A block whose first n places read as a list of bytes. -/
structure Dat (w : World) (g n : Nat) (l : List Int) : Prop where
  by_ : By l
  size : l.length = n
  mem : ∃ cur : List Value, w.heap[g]? = some (.cells cur.toArray 5 (0, 0)) ∧ n ≤ cur.length ∧ cur.take n = l.map (Value.int .u8)
theorem Row8.dat {w : World} {g : Nat} {l : List Int} (h : Row8 w g 5 l) (hl : By l) : Dat w g l.length l :=
  ⟨hl, rfl, _, h, by simp, List.take_of_length_le (by simp)⟩
theorem Dat.lt {w : World} {g n : Nat} {l : List Int} (h : Dat w g n l) : g < w.heap.size := by
  obtain ⟨cur, hg, _⟩ := h.mem
  exact (Array.getElem?_eq_some_iff.1 hg).1
theorem Dat.keep {w w' : World} {g n : Nat} {l : List Int} (h : Dat w g n l) (e : w'.heap[g]? = w.heap[g]?) : Dat w' g n l := by
  obtain ⟨cur, hg, h1⟩ := h.mem
  exact ⟨h.by_, h.size, cur, e.trans hg, h1⟩
theorem Dat.below {w w' : World} {g n B : Nat} {l : List Int} (h : Dat w g n l) (hb : Below B w w') (hB : g < B) : Dat w' g n l := h.keep (hb.block g hB)
theorem Dat.grown {w w' : World} {g n : Nat} {row : Option Nat} {l : List Int} (h : Dat w g n l) (hb : w.grownBy w' row) (hr : some g ≠ row) : Dat w' g n l := h.keep (hb.block g h.lt hr)
theorem Dat.cell {w : World} {g n : Nat} {l : List Int} (h : Dat w g n l) (i : Nat) (hi : i < n) : w.cell? ⟨g, i, none⟩ = some (.int .u8 (co l i : Int)) := by
  obtain ⟨cur, hg, hn, hc⟩ := h.mem
  have hs := h.size
  have e : cur[i]? = some (.int .u8 (l.getD i 0)) := by
    have : (cur.take n)[i]? = cur[i]? := by rw [List.getElem?_take, if_pos hi]
    rw [← this, hc, List.getElem?_map, List.getD_eq_getElem?_getD, List.getElem?_eq_getElem (by omega)]
    rfl
  simp only [World.cell?, hg]
  rw [h.by_.get] at e
  simpa using e
theorem Dat.frozen {w : World} {g n : Nat} {l : List Int} (h : Dat w g n l) (i : Nat) : w.frozen? ⟨g, i, none⟩ = false := by
  obtain ⟨cur, hg, _⟩ := h.mem
  simp [World.frozen?, hg]
theorem Dat.bytes {w : World} {g n : Nat} {l : List Int} (h : Dat w g n l) (o m : Nat) (ho : o + m ≤ n) (hm : m ≤ 9223372036854775807) : Bytes w (some ⟨g, o, none⟩) m (seg l o m) := by
  have hs := h.size
  refine ⟨seg_length l o m (by omega), hm, fun i _ => (seg_by h.by_ o m).at_ i, ?_⟩
  by_cases h0 : m = 0
  · exact .inl h0
  · exact .inr ⟨by omega, g, o, rfl, h.lt, fun i hi => by rw [seg_get l o m i hi, h.by_.get]; exact h.cell _ (by omega)⟩
theorem Dat.set {w : World} {g n : Nat} {l : List Int} (h : Dat w g n l) (i v : Nat) (hv : v < 256) : Dat (w.setCell ⟨g, i, none⟩ (.int .u8 (v : Int))) g n (l.set i (v : Int)) := by
  obtain ⟨cur, hg, hn, hc⟩ := h.mem
  refine ⟨fun z hz => ?_, by rw [List.length_set]; exact h.size, cur.set i (.int .u8 (v : Int)), ?_, by simpa using hn, ?_⟩
  · rcases List.mem_or_eq_of_mem_set hz with g | g
    · exact h.by_ z g
    · rw [g]; omega
  · simp [World.setCell, Array.getElem?_modify, hg]
  · rw [List.map_set, ← hc, List.take_set]
theorem co_set (l : List Int) (i v j : Nat) (h : i < l.length) : co (l.set i (v : Int)) j = if j = i then v else co l j := by
  unfold co
  by_cases g : j < l.length
  · rw [set_get l i j _ g]; split <;> simp
  · rw [if_neg (by omega), List.getD_eq_getElem?_getD, List.getD_eq_getElem?_getD, List.getElem?_eq_none (by simp; omega), List.getElem?_eq_none (by omega)]
theorem map_splice (l : List Int) (o : Nat) (x : List Int) : (splice l o x).map (Value.int .u8) = splice (l.map (Value.int .u8)) o (x.map (Value.int .u8)) := splice_map.symm
theorem splice_take {α : Type} (L : List α) (o : Nat) (x : List α) (n : Nat) (h : o + x.length ≤ n) : (splice L o x).take n = splice (L.take n) o x := by
  unfold splice
  have e1 : (L.take n).take o = L.take o := by rw [List.take_take]; congr 1; omega
  rw [e1]
  by_cases hL : n ≤ L.length
  · rw [List.take_append, List.take_append, List.take_of_length_le (show (L.take o).length ≤ n by rw [List.length_take]; omega), List.take_of_length_le (show x.length ≤ n - (L.take o).length by rw [List.length_take]; omega), List.drop_take]
    congr 3
    rw [List.length_take]; omega
  · rw [List.take_of_length_le (show L.length ≤ n by omega), List.take_of_length_le]
    simp only [List.length_append, List.length_take, List.length_drop]
    omega
theorem splice_co (l : List Int) (o : Nat) (x : List Int) (i : Nat) (h : o + x.length ≤ l.length) : co (splice l o x) i = if o ≤ i ∧ i < o + x.length then co x (i - o) else co l i := by
  unfold co splice
  simp only [List.getD_eq_getElem?_getD]
  have ht : (l.take o).length = o := by rw [List.length_take]; omega
  by_cases h1 : i < o
  · rw [if_neg (by omega), List.getElem?_append_left (by omega), List.getElem?_take, if_pos h1]
  · rw [List.getElem?_append_right (by omega), ht]
    by_cases h2 : i < o + x.length
    · rw [if_pos (by omega), List.getElem?_append_left (by omega)]
    · rw [if_neg (by omega), List.getElem?_append_right (by omega), List.getElem?_drop]
      congr 3
      omega
/-- A copy of bytes into such a block. -/
theorem wpList_copy_dat {w : World} {ops : Array Oper} {rest : List Oper} {o : Oper} {a : Act} {Q : Exit → Act → World → Prop} (hgd : o.guard = none) (d s : Operand)
    (ho : o.op = .call { callee := .builtin .copy, args := #[d, s], argTypes := #[22, 22] })
    (dp sp : Option Addr) (dLen dCap sLen sCap : Nat) (hd : a.eval d = .slice dp dLen dCap) (hs : a.eval s = .slice sp sLen sCap)
    (g off n : Nat) (Z : List Int) (hg : Dat w g n Z) (l : List Int) (hl : Bytes w sp sLen l) (hk : sLen = dLen) (hpos : 0 < sLen → dp = some ⟨g, off, none⟩) (hfit : off + sLen ≤ n)
    (h : ∀ w', Dat w' g n (splice Z off l) → w.grownBy w' (some g) → wpList Try.prog ops Q rest (a.put o.dst (goInt sLen)) w') :
    wpList Try.prog ops Q (o :: rest) a w := by
  have sl := hl.size
  have hZ := hg.size
  subst hk
  have hby : By (splice Z off l) := fun z hz => by
    unfold splice at hz
    rcases List.mem_append.1 hz with g1 | g1
    · exact hg.by_ z (List.mem_of_mem_take g1)
    · rcases List.mem_append.1 g1 with g2 | g2
      · exact hl.range z g2
      · exact hg.by_ z (List.mem_of_mem_drop g2)
  by_cases h0 : sLen = 0
  · obtain rfl : l = [] := List.eq_nil_of_length_eq_zero (by omega)
    refine wpList_copy_nothing hgd d s _ _ ho 5 Try.underlying22 (by kernel_rfl) dp sp sLen dCap sLen sCap hd hs (by rw [h0]; rfl) ?_
    have := h w (by simpa [splice] using hg) (grown_refl w _)
    rw [h0] at this
    exact this
  · obtain ⟨cur, hc, hn, ht⟩ := hg.mem
    obtain rfl := hpos (by omega)
    rcases hl.cell with h1 | ⟨_, b, p, rfl, _, hcs⟩
    · exact absurd h1 h0
    have ecs : (l.map (Value.int .u8)).length = sLen := by rw [List.length_map, sl]
    refine wpList_copy_own hgd d s _ _ ho 5 Try.underlying22 (by kernel_rfl) g off sLen dCap ⟨b, p, none⟩ sLen sCap hd hs cur.toArray 5 hc (l.map (Value.int .u8)) (by rw [ecs]; exact (Nat.min_self _).symm) (fun j v hv => ?_) (by rw [ecs]; simp; omega) (fun v hv => ?_) ?_
    · have hj : j < sLen := by
        rcases Nat.lt_or_ge j sLen with g | g
        · exact g
        · rw [List.getElem?_eq_none (by rw [ecs]; exact g)] at hv; simp at hv
      rw [add_any, hcs j hj, ← hv, List.getElem?_map, List.getD_eq_getElem?_getD, List.getElem?_eq_getElem (by omega)]
      rfl
    · obtain ⟨z, _, rfl⟩ := List.mem_map.1 hv
      rfl
    · rw [ecs]
      refine h _ ⟨hby, by rw [length_splice _ _ _ (by omega)]; exact hZ, splice cur off (l.map (Value.int .u8)), ?_, ?_, ?_⟩ ⟨rfl, rfl, rfl, by simp [World.setRow], fun k _ hk => setRow_other w g k _ (fun e => hk (by rw [e]))⟩
      · rw [setRow_heap w g _ _ 5 (0, 0) hc]
        unfold splice
        rw [ecs]
      · rw [length_splice _ _ _ (by rw [ecs]; omega)]; exact hn
      · rw [splice_take _ _ _ _ (by rw [ecs]; omega), ht, map_splice]
end Go.Proofs.Ytipaolkgafhliaa
