/-
  Own text: the set's iterator, as one that hands over its keys in order.
-/
import Derived.Test.YtnffngbkidehfaaNkJ
import Derived.Test.YtnffngbkidehfaaRangeJ
import Derived.TacticsInMore
import Derived.LoopNIn
import Derived.LoopIn
namespace Go.Proofs.Ytnffngbkidehfaa.Nk
open Go.RowKit
attribute [local go_sem] Oper.semAt_some

/-- What the iterator reads. -/
def ItC (p p2 : Nat) (now : Int) (A : Option Addr) (n C : Nat) (l : List It) (W : World) : Prop := W.cell? ⟨p, 0, none⟩ = some (.slice A n C) ∧ W.cell? ⟨p2, 0, none⟩ = some (.int .i64 now) ∧ OwnT W 0 (.slice A n C) n l
theorem ItC.below {p p2 n C : Nat} {now : Int} {A : Option Addr} {l : List It} {W W' : World} (h : ItC p p2 now A n C l W) (hb : Below W.heap.size W W') : ItC p p2 now A n C l W' :=
  ⟨(hb.cell (p := ⟨p, 0, none⟩) (cell_in h.1)).trans h.1, (hb.cell (p := ⟨p2, 0, none⟩) (cell_in h.2.1)).trans h.2.1, h.2.2.below hb (Nat.le_refl _)⟩
theorem ItC.obj {p p2 n C : Nat} {now : Int} {A : Option Addr} {xs : List It} {W : World} (h : ItC p p2 now A n C xs W) {l : Nat} {o o' : Obj} (hl : W.heap[l]? = some o) (ho : o.isCells = false) : ItC p p2 now A n C xs (W.putObj l o') := by
  have := Kr.obj (p := p) (p2 := p2) (now := now) (A := A) (n := n) (C := C) (xs := xs) W l o o' hl ho
  exact ⟨this.1 h.1, this.2.1 h.2.1, this.2.2 h.2.2⟩
def encT (now : Int) (l : List It) (i : Nat) : Array Value := #[.int .u32 (itAt l i).key, .int .i64 ((itAt l i).due - now)]
set_option maxRecDepth 100000 in
set_option maxHeartbeats 2000000 in
theorem all1_yields (n p p2 N C : Nat) (now : Int) (A : Option Addr) (xs : List It) (hN : N = xs.length) (hk : N ≤ 1000) (hd : ∀ y ∈ xs, 0 ≤ y.due ∧ y.due ≤ 2199023255552) (hw0 : 0 ≤ now) (hw1 : now ≤ 1099511627776) :
    YieldsJ Fence.wide n Try.prog 103 #[.pointer (some ⟨p, 0, none⟩), .pointer (some ⟨p2, 0, none⟩)] N (encT now xs) (ItC p p2 now A N C xs) := by
  rintro l J W ⟨hp, hp2, hr⟩ hJ hY h0
  have HP := Lib.hid hp
  have HP2 := Lib.hid hp2
  have HR := Lib.hid hr
  have HN := Lib.hid hN
  have HDU := Lib.hid hd
  have hk2 : (N : Int) ≤ 1000 := by omega
  clear hr hN hd
  refine callsIn_of_wp Try.func103 rfl trivial ?_ rfl
  simp only [Try.ntmps103, List.size_toArray, List.length_cons, List.length_nil, Nat.reduceAdd, Nat.reduceSub, Array.replicate_succ, Array.replicate_zero, List.push_toArray, List.append_toArray, List.nil_append, List.cons_append]
  gi_wp2
  clear hp hp2
  gi_loopw [5, 8] (fun _ i wr => ∃ (q : Nat), q ≤ N ∧ i = .int .i64 (q : Int) ∧ J q wr ∧ Hid (wr.cell? ⟨p, 0, none⟩ = some (.slice A N C)) ∧ Hid (wr.cell? ⟨p2, 0, none⟩ = some (.int .i64 now)) ∧ Hid (OwnT wr 0 (.slice A N C) N xs))
    (fun _ i _ => N - (intOf i).toNat)
  case atStart => exact ⟨0, Nat.zero_le _, rfl, h0, HP, HP2, HR⟩
  case round =>
    obtain ⟨q, hq, rfl, hJs, HPr, HP2r, HRr⟩ := hrel
    by_cases hlt : q < N
    · have hqx : q < xs.length := by rw [← HN.out]; exact hlt
      obtain ⟨g, eA, _, hgl, c0, c1⟩ := HRr.out.at_ q _ (itAt_some hqx)
      subst eA
      obtain ⟨y, hy⟩ : ∃ y, y = itAt xs q := ⟨_, rfl⟩
      obtain ⟨yb0, yb1⟩ : 0 ≤ y.due ∧ y.due ≤ 2199023255552 := by rw [hy]; exact HDU.out _ (List.mem_of_getElem? (itAt_some hqx))
      rw [← hy] at c0 c1
      obtain ⟨W2, hW2⟩ : ∃ W2, W2 = wr.alloc (.cells #[.int .u32 y.key, .int .i64 y.due] 167) := ⟨_, rfl⟩
      have hb2 : Below wr.heap.size wr W2 := by rw [hW2]; exact (Below.refl _ _).alloc (Nat.le_refl _) _
      have hJ2 : J q W2 := hJ q wr W2 hJs hb2
      have hk2 : Kr p p2 now (some ⟨g, 0, none⟩) N C xs wr W2 := ⟨fun e => (hb2.cell (p := ⟨p, 0, none⟩) (cell_in e)).trans e, fun e => (hb2.cell (p := ⟨p2, 0, none⟩) (cell_in e)).trans e, fun e => e.below hb2 (Nat.le_refl _)⟩
      have hx2 : TBlk W2 wr.heap.size (icells [y]) := by rw [hW2]; exact one_new wr y _ rfl
      have x0 := hx2.cell 0
      have x1 := hx2.cell 1
      have p2c := hk2.2.1 HP2r.out
      simp only [icells, List.getElem?_cons_succ, List.getElem?_cons_zero] at x0 x1
      have h1 := hY q W2 hlt hJ2 ⟨hk2.1 HPr.out, hk2.2.1 HP2r.out, hk2.2.2 HRr.out⟩
      unfold encT at h1
      rw [← hy] at h1
      have HY := Lib.hid h1
      have HK2 := Lib.hid hk2
      have HW2 := Lib.hid hW2
      have HLT := Lib.hid hlt
      have j1 : (q : Int) < (N : Int) := by omega
      clear hy hqx hgl hb2 hJ2 hk2 hx2 h1 hW2 hJs
      generalize y.key = yk at *
      generalize y.due = yd at *
      obtain rfl := HW2.out
      gi_wp2
      obtain ⟨fn, tmps, assign, body, hyl, hR⟩ := HY.out
      rw [hyl]
      gi_wp2
      refine ⟨(fun h => by cases h), hR.mono ?_⟩
      rintro e W3 ⟨rfl, hJ3, hk3⟩
      dsimp only
      gi_wp2
      go_roundw
      case rel => exact ⟨q + 1, HLT.out, by go_num, hJ3, Lib.hid hk3.1, Lib.hid hk3.2.1, Lib.hid hk3.2.2⟩
      case measure => simp [intOf] <;> (have := HLT.out; omega)
    · obtain rfl : q = N := by omega
      gi_wp2
      go_end0
      exact ⟨⟨_, rfl⟩, hJs⟩
end Go.Proofs.Ytnffngbkidehfaa.Nk
