/-
  Own text: layer 17 (group): what closes, and the inputs of a group's shards.
-/
import Derived.Test.YtphddcbkjikgfaaGrQ
import Derived.Test.YtphddcbkjikgfaaGrN
namespace Go.Proofs.Ytphddcbkjikgfaa
open Go.RowKit

theorem Bd.tick_cases (S : Bd) (l : Int) : ((S.tick l).2.2 = false ∧ (S.tick l).1.z = S.z ∧ (S.tick l).1.frames = S.frames) ∨ ((S.tick l).2.2 = true ∧ (S.tick l).1.z = [] ∧ (S.tick l).1.frames = S.frames ∧ (S.tick l).2.1.z = S.z ∧ (S.tick l).2.1.fst = ((S.frames - S.z.length : Nat) : Int) ∧ 1 ≤ S.z.length) := by
  unfold Bd.tick
  split
  · exact .inl ⟨rfl, rfl, rfl⟩
  · split
    · exact .inl ⟨rfl, rfl, rfl⟩
    · exact .inr ⟨rfl, rfl, rfl, rfl, rfl, by omega⟩
theorem Bd.add_cases (S : Bd) (i l : Int) : ((S.add i l).2.2 = false ∧ (S.add i l).1.z = S.z ++ [i] ∧ (S.add i l).1.frames = S.frames + 1) ∨ ((S.add i l).2.2 = true ∧ (S.add i l).1.z = [] ∧ (S.add i l).1.frames = S.frames + 1 ∧ (S.add i l).2.1.z = S.z ++ [i] ∧ (S.add i l).2.1.fst = ((S.frames + 1 - (S.z ++ [i]).length : Nat) : Int) ∧ 1 ≤ (S.z ++ [i]).length) := by
  unfold Bd.add
  split
  · exact .inl ⟨rfl, rfl, rfl⟩
  · exact .inr ⟨rfl, rfl, rfl, rfl, rfl, by simp⟩
theorem Bd.tick_size (S : Bd) (l : Int) : (S.tick l).1.size = S.size := by
  unfold Bd.tick
  split
  · rfl
  · split <;> rfl
theorem Bd.add_size (S : Bd) (i l : Int) : (S.add i l).1.size = S.size := by
  unfold Bd.add
  split <;> rfl
theorem shs_inputs {w : World} {base n C : Nat} {A : Option Addr} {z : List Int} (h : Shs w base (.slice A n C) n (G17 z z.length)) (hz : z.length ≤ n) (hk : z.length ≤ 16) (hv : ∀ y ∈ z, 0 ≤ y ∧ y ≤ 65535) (B : Nat) (hB : B ≤ w.heap.size) :
    Calls Try.prog 17 #[.slice A z.length C] w fun e w' => ∃ g, e = .returned (.tuple #[.slice (some ⟨g, 0, none⟩) z.length z.length, .bool true]) ∧ Hid (w.heap.size ≤ g) ∧ Hid (OwnU w' B (.slice (some ⟨g, 0, none⟩) z.length z.length) z.length z) ∧ Hid (Below w.heap.size w w') := by
  obtain ⟨D, X, hX, hE⟩ := h.cols
  have hc := hX.front hz
  have hw : ∀ i, i < z.length → z.getD i 0 = wordOf (X i) := fun i hi => by
    have hb := (hc.2.2.2 i hi).2.bytes
    have he : X i = be 2 (z.getD i 0) := list_co hb.range (be_range 2 _) (hb.size.trans (be_length 2 _).symm) (fun c hc2 => by
      rw [hb.size] at hc2
      rw [hE i (by omega) c hc2, G17_data z (by omega) hi])
    have hm : z.getD i 0 ∈ z := by
      rw [List.getD_eq_getElem?_getD, List.getElem?_eq_getElem hi]
      exact List.getElem_mem _
    rw [he, word_two _ (hv _ hm).1 (hv _ hm).2]
  refine (inputs_any z.length C A D _ _ X w hc (by omega) (fun i => z.getD i 0) (fun i hi _ => hw i hi)).mono ?_
  rintro e w' (⟨_, g, he, hg, hr, hb⟩ | ⟨⟨i, _, h2⟩, _⟩)
  · refine ⟨g, he, hg, Lib.hid ?_, hb⟩
    have ho := rowIs_owns (base := B) hr.out (Nat.le_trans hB hg.out) (by unfold maxLen; omega)
    have hl : (List.range z.length).map (fun i => Value.int .u16 (z.getD i 0)) = z.map (Value.int .u16) := by
      apply List.ext_getElem?
      intro i
      by_cases hi : i < z.length
      · rw [List.getElem?_map, List.getElem?_range hi, List.getElem?_map, List.getElem?_eq_getElem hi]
        show some (Value.int .u16 (z.getD i 0)) = some (Value.int .u16 z[i])
        rw [List.getD_eq_getElem?_getD, List.getElem?_eq_getElem hi]
        rfl
      · rw [List.getElem?_eq_none (by simp; omega), List.getElem?_eq_none (by simp; omega)]
    rw [hl] at ho
    exact ho
  · exact absurd rfl h2
/-- No block bears both. -/
def Apart2 (v v' : Value) : Prop := ∀ q, v.ownBlock = some q → v'.ownBlock = some q → False
/-- Between two rounds of GroupAll, in a call that began at w: the builder, what came, what was told. -/
structure Al17 (w : World) (b c t : Nat) (A : Option Addr) (C : Nat) (S : Bd) (A1 : Option Addr) (n1 C1 : Nat) (l1 : List Int) (A2 : Option Addr) (n2 C2 : Nat) (l2 : List Int) (D0 : Array Value) (W : World) : Prop where
  sz : W.heap[w.heap.size]? = some (.cells D0 58 (0, 0))
  code : BSt W w.heap.size b c t A C S
  came : OwnU W w.heap.size (.slice A1 n1 C1) n1 l1
  told : OwnU W w.heap.size (.slice A2 n2 C2) n2 l2
  a1 : Apart2 (.slice A S.z.length C) (.slice A1 n1 C1)
  a2 : Apart2 (.slice A S.z.length C) (.slice A2 n2 C2)
  a3 : Apart2 (.slice A1 n1 C1) (.slice A2 n2 C2)
  bel : Below w.heap.size w W
theorem Al17.below {w : World} {b c t : Nat} {A : Option Addr} {C : Nat} {S : Bd} {A1 : Option Addr} {n1 C1 : Nat} {l1 : List Int} {A2 : Option Addr} {n2 C2 : Nat} {l2 : List Int} {D0 : Array Value} {W W' : World} (h : Al17 w b c t A C S A1 n1 C1 l1 A2 n2 C2 l2 D0 W) (hb : Below W.heap.size W W') : Al17 w b c t A C S A1 n1 C1 l1 A2 n2 C2 l2 D0 W' :=
  ⟨(hb.block _ (Array.getElem?_eq_some_iff.1 h.sz).1).trans h.sz, h.code.below hb (Nat.le_refl _), h.came.below hb (Nat.le_refl _), h.told.below hb (Nat.le_refl _), h.a1, h.a2, h.a3, h.bel.trans (hb.mono h.bel.size)⟩
/-- A block of another type is written. -/
theorem Al17.other {w : World} {b c t : Nat} {A : Option Addr} {C : Nat} {S : Bd} {A1 : Option Addr} {n1 C1 : Nat} {l1 : List Int} {A2 : Option Addr} {n2 C2 : Nat} {l2 : List Int} {D0 : Array Value} {W W' : World} (h : Al17 w b c t A C S A1 n1 C1 l1 A2 n2 C2 l2 D0 W) {p : Nat} {D : Array Value} (hp : W.heap[p]? = some (.cells D 28 (0, 0))) (e : ∀ q, q ≠ p → W'.heap[q]? = W.heap[q]?) (hb : Below w.heap.size w W') : Al17 w b c t A C S A1 n1 C1 l1 A2 n2 C2 l2 D0 W' :=
  ⟨(e _ (two_types h.sz hp (by decide))).trans h.sz, h.code.keep (h.code.far hp (by decide) (by decide) (by decide) (by decide)) e, h.came.keep (fun q hq => by
    obtain ⟨cur, hc⟩ := own_type h.came hq
    exact e q (two_types hc hp (by decide))), h.told.keep (fun q hq => by
    obtain ⟨cur, hc⟩ := own_type h.told hq
    exact e q (two_types hc hp (by decide))), h.a1, h.a2, h.a3, hb⟩
/-- A list of inputs is as it was behind a call at the builder. -/
theorem own_call {W W' : World} {B b c t : Nat} {A : Option Addr} {C : Nat} {S : Bd} (hB : BSt W B b c t A C S) (hF : FrG b c (.slice A S.z.length C) W W') {base n : Nat} {v : Value} {l : List Int} (ho : OwnU W base v n l) (ha : Apart2 (.slice A S.z.length C) v) : OwnU W' base v n l :=
  ho.keep (fun q hq => by
    obtain ⟨cur, hc⟩ := own_type ho hq
    have hb := hB.blk
    have hcc := hB.ctl
    unfold B8 at hb
    unfold Blk16 at hcc
    exact hF.block q (ho.lt q hq).2 (two_types hc hb (by decide)) (two_types hc hcc (by decide)) (fun e => ha q e.symm hq))
theorem Al17.call {w : World} {b c t : Nat} {A : Option Addr} {C : Nat} {S S' : Bd} {A1 : Option Addr} {n1 C1 : Nat} {l1 : List Int} {A2 : Option Addr} {n2 C2 : Nat} {l2 : List Int} {D0 : Array Value} {W W' : World} {A' : Option Addr} {C' : Nat} (h : Al17 w b c t A C S A1 n1 C1 l1 A2 n2 C2 l2 D0 W) (hB : BSt W' w.heap.size b c t A' C' S') (hF : FrG b c (.slice A S.z.length C) W W') (hV : ∀ q, (Value.slice A' S'.z.length C').ownBlock = some q → (Value.slice A S.z.length C).ownBlock = some q ∨ W.heap.size ≤ q) : Al17 w b c t A' C' S' A1 n1 C1 l1 A2 n2 C2 l2 D0 W' :=
  ⟨(h.code.other rfl rfl hF _ _ _ h.sz (by decide) (by decide) (by decide)).trans h.sz, hB, own_call h.code hF h.came h.a1, own_call h.code hF h.told h.a2, fun q e1 e2 => (hV q e1).elim (fun g => h.a1 q g e2) (fun g => by have := (h.came.lt q e2).2; omega), fun q e1 e2 => (hV q e1).elim (fun g => h.a2 q g e2) (fun g => by have := (h.told.lt q e2).2; omega), h.a3, h.code.bel hF h.bel (Nat.le_refl _)⟩
/-- What came has grown. -/
theorem Al17.grown1 {w : World} {b c t : Nat} {A : Option Addr} {C : Nat} {S : Bd} {A1 : Option Addr} {n1 C1 : Nat} {l1 : List Int} {A2 : Option Addr} {n2 C2 : Nat} {l2 : List Int} {D0 : Array Value} {W W' : World} {A' : Option Addr} {n' C' : Nat} {l' : List Int} (h : Al17 w b c t A C S A1 n1 C1 l1 A2 n2 C2 l2 D0 W) (ho : OwnU W' w.heap.size (.slice A' n' C') n' l') (hg : W.grownBy W' (Value.slice A1 n1 C1).ownBlock) (hV : (Value.slice A' n' C').ownBlock = (Value.slice A1 n1 C1).ownBlock ∨ (Value.slice A' n' C').ownBlock = some W.heap.size) : Al17 w b c t A C S A' n' C' l' A2 n2 C2 l2 D0 W' := by
  have hv : ∀ q, (Value.slice A' n' C').ownBlock = some q → (Value.slice A1 n1 C1).ownBlock = some q ∨ W.heap.size ≤ q := fun q e => hV.elim (fun g => .inl (g ▸ e)) (fun g => .inr (by rw [g] at e; simp at e; omega))
  have ht := fun q (hq : (Value.slice A1 n1 C1).ownBlock = some q) => own_type h.came hq
  have hk : ∀ (q : Nat) (D : Array Value) (ty : TypeId), W.heap[q]? = some (Obj.cells D ty (0, 0)) → ty ≠ 54 → W'.heap[q]? = W.heap[q]? := fun q D ty hq hty => hg.block q (Array.getElem?_eq_some_iff.1 hq).1 (fun e => by
    obtain ⟨cur, hc⟩ := ht q e.symm
    exact two_types hq hc hty rfl)
  have hb := h.code.blk
  have hcc := h.code.ctl
  obtain ⟨T, htab, _⟩ := h.code.tab
  unfold B8 at hb
  unfold Blk16 at hcc
  refine ⟨(hk _ _ _ h.sz (by decide)).trans h.sz, ⟨h.code.hb, h.code.hc, h.code.blk.keep (hk b _ _ hb (by decide)), h.code.ctl.keep (hk c _ _ hcc (by decide)), World.rowIs.of_block h.code.tab (hk t _ _ htab (by decide)), h.code.row.keep (fun q hq => hg.block q (h.code.row.lt q hq).2 (fun e => h.a1 q hq e.symm))⟩, ho, h.told.keep (fun q hq => hg.block q (h.told.lt q hq).2 (fun e => h.a3 q e.symm hq)), fun q e1 e2 => (hv q e2).elim (fun g => h.a1 q e1 g) (fun g => by have := (h.code.row.lt q e1).2; omega), h.a2, fun q e1 e2 => (hv q e1).elim (fun g => h.a3 q g e2) (fun g => by have := (h.told.lt q e2).2; omega), h.bel.grown hg h.bel.size (fun q e => (h.came.lt q e).1)⟩
/-- What was told has grown. -/
theorem Al17.grown2 {w : World} {b c t : Nat} {A : Option Addr} {C : Nat} {S : Bd} {A1 : Option Addr} {n1 C1 : Nat} {l1 : List Int} {A2 : Option Addr} {n2 C2 : Nat} {l2 : List Int} {D0 : Array Value} {W W' : World} {A' : Option Addr} {n' C' : Nat} {l' : List Int} (h : Al17 w b c t A C S A1 n1 C1 l1 A2 n2 C2 l2 D0 W) (ho : OwnU W' w.heap.size (.slice A' n' C') n' l') (hg : W.grownBy W' (Value.slice A2 n2 C2).ownBlock) (hV : (Value.slice A' n' C').ownBlock = (Value.slice A2 n2 C2).ownBlock ∨ (Value.slice A' n' C').ownBlock = some W.heap.size) : Al17 w b c t A C S A1 n1 C1 l1 A' n' C' l' D0 W' := by
  have h' : Al17 w b c t A C S A2 n2 C2 l2 A1 n1 C1 l1 D0 W := ⟨h.sz, h.code, h.told, h.came, h.a2, h.a1, fun q e1 e2 => h.a3 q e2 e1, h.bel⟩
  have g := h'.grown1 ho hg hV
  exact ⟨g.sz, g.code, g.told, g.came, g.a2, g.a1, fun q e1 e2 => g.a3 q e2 e1, g.bel⟩
end Go.Proofs.Ytphddcbkjikgfaa
