/-
  Own text: the iterator that All answers, walked.
-/
import Derived.Test.YtnffngbkidehfaaNkI
import Derived.RangeFuncNested
import Derived.RangeFuncBox
import Derived.RangeFuncBound
import Derived.RangeFuncCalls
import Derived.RangeFuncLeaves
import Derived.OwnWalkIn
import Derived.TacticsInMore
import Derived.LoopNIn
import Derived.LoopIn
namespace Go.Proofs.Ytnffngbkidehfaa.Nk
open Go.RowKit
attribute [local go_sem] Oper.semAt_some

theorem yield_wide {m m' l : Nat} {args : Array Value} {W : World} {R : Ending → World → Prop} (h : YieldAt Fence.wide m Try.prog l args W R) : YieldAt Fence.wide m' Try.prog l args W R := by
  obtain ⟨fn, tmps, assign, body, h1, h2⟩ := h
  exact ⟨fn, tmps, assign, body, h1, h2.1, fun c cs _ => h2.2 c cs (room_wide _)⟩
/-- An entry of a list. -/
abbrev Ent (l : List It) := { i : Nat // i < l.length }
def entsOf {l : List It} (ys : List (Ent l)) : List Nat := ys.map (fun x => x.1)
theorem entsOf_snoc {l : List It} (ys : List (Ent l)) (x : Ent l) : entsOf (ys ++ [x]) = entsOf ys ++ [x.1] := by simp [entsOf]
theorem entsOf_length {l : List It} (ys : List (Ent l)) : (entsOf ys).length = ys.length := by simp [entsOf]
/-- What is handed over of it. -/
def itAt (l : List It) (i : Nat) : It := l.getD i ⟨0, 0⟩
abbrev entV (now : Int) (l : List It) (x : Ent l) : Array Value := #[.int .u32 (itAt l x.1).key, .int .i64 ((itAt l x.1).due - now)]
theorem itAt_some {l : List It} {i : Nat} (h : i < l.length) : l[i]? = some (itAt l i) := by
  unfold itAt
  rw [List.getD_eq_getElem?_getD, List.getElem?_eq_getElem h]
  rfl
/-- What a round keeps: the iterator's boxes, its runs. -/
def Kr (p p2 : Nat) (now : Int) (A : Option Addr) (n C : Nat) (l : List It) (W W' : World) : Prop :=
  (W.cell? ⟨p, 0, none⟩ = some (.slice A n C) → W'.cell? ⟨p, 0, none⟩ = some (.slice A n C)) ∧ (W.cell? ⟨p2, 0, none⟩ = some (.int .i64 now) → W'.cell? ⟨p2, 0, none⟩ = some (.int .i64 now)) ∧ (OwnT W 0 (.slice A n C) n l → OwnT W' 0 (.slice A n C) n l)
theorem Kr.trans' {p p2 n C : Nat} {now : Int} {A : Option Addr} {l : List It} {W1 W2 W3 : World} (h : Kr p p2 now A n C l W1 W2) (k : Kr p p2 now A n C l W2 W3) : Kr p p2 now A n C l W1 W3 :=
  ⟨fun e => k.1 (h.1 e), fun e => k.2.1 (h.2.1 e), fun e => k.2.2 (h.2.2 e)⟩
theorem obj_other {W : World} {l k : Nat} {o o' : Obj} (hl : W.heap[l]? = some o) (ho : o.isCells = false) {u : Obj} (hk : W.heap[k]? = some u) (hu : u.isCells = true) : (W.putObj l o').heap[k]? = W.heap[k]? := by
  refine (grownBy_putObj' W l o').block k (Array.getElem?_eq_some_iff.1 hk).1 (fun e => ?_)
  cases e
  rw [hl] at hk
  cases hk
  rw [ho] at hu
  cases hu
theorem own_cells {W : World} {base n C : Nat} {A : Option Addr} {l : List It} (h : OwnT W base (.slice A n C) n l) (g : Nat) (hg : A.map Addr.block = some g) : ∃ u : Obj, W.heap[g]? = some u ∧ u.isCells = true := by
  rcases h.form with ⟨rfl, _⟩ | ⟨g', R, rfl, _, _, hb, _⟩
  · simp at hg
  · simp at hg
    subst hg
    exact ⟨_, hb, rfl⟩
theorem OwnT.obj {W : World} {base n C l : Nat} {A : Option Addr} {o o' : Obj} {xs : List It} (h : OwnT W base (.slice A n C) n xs) (hl : W.heap[l]? = some o) (ho : o.isCells = false) : OwnT (W.putObj l o') base (.slice A n C) n xs :=
  h.keep (fun g hg => by
    rw [own_block] at hg
    obtain ⟨u, hu, hc⟩ := own_cells h g hg
    exact obj_other hl ho hu hc)
theorem Kr.obj {p p2 n C : Nat} {now : Int} {A : Option Addr} {xs : List It} (W : World) (l : Nat) (o o' : Obj) (hl : W.heap[l]? = some o) (ho : o.isCells = false) : Kr p p2 now A n C xs W (W.putObj l o') :=
  ⟨fun e => cell_kept e (grownBy_putObj' W l o') (fun r e => by cases e; exact ⟨o, hl, ho⟩), fun e => cell_kept e (grownBy_putObj' W l o') (fun r e => by cases e; exact ⟨o, hl, ho⟩), fun h => h.obj hl ho⟩
theorem Kr.below {p p2 n C B : Nat} {now : Int} {A : Option Addr} {xs : List It} {W W' : World} (h : Below B W W') (h1 : p < B) (h2 : p2 < B) (h3 : W.heap.size ≤ B ∨ ∀ g, A.map Addr.block = some g → g < B) : Kr p p2 now A n C xs W W' :=
  ⟨fun e => (h.cell (p := ⟨p, 0, none⟩) h1).trans e, fun e => (h.cell (p := ⟨p2, 0, none⟩) h2).trans e, fun e => by
    rcases h3 with h3 | h3
    · exact e.below h h3
    · exact e.keep (fun g hg => h.block g (h3 g (by rw [own_block] at hg; exact hg)))⟩
theorem cell_in {w : World} {a : Addr} {v : Value} (h : w.cell? a = some v) : a.block < w.heap.size := World.block_lt_of_cell? w a h
set_option maxRecDepth 100000 in
set_option maxHeartbeats 2000000 in
theorem all1_in (n l p p2 N C : Nat) (now : Int) (A : Option Addr) (xs : List It) (hN : N = xs.length) (hk : N ≤ 1000) (hd : ∀ y ∈ xs, 0 ≤ y.due ∧ y.due ≤ 2199023255552) (hw0 : 0 ≤ now) (hw1 : now ≤ 1099511627776) (J Jx : List (Ent xs) → World → Prop) (W : World) (hJ : AbidesFrom W.heap.size J)
    (hY : ∀ pre x W, J pre W → pre.length < 1001 → YieldAt Fence.wide (n - 1) Try.prog l (entV now xs x) W fun e W' =>
      (e = .returned (.bool true) ∧ J (pre ++ [x]) W' ∧ Kr p p2 now A N C xs W W') ∨ (e = .returned (.bool false) ∧ Jx (pre ++ [x]) W'))
    (hp : W.cell? ⟨p, 0, none⟩ = some (.slice A N C)) (hp2 : W.cell? ⟨p2, 0, none⟩ = some (.int .i64 now)) (hr : OwnT W 0 (.slice A N C) N xs) (h0 : J [] W) :
    CallsIn Fence.wide n Try.prog 103 #[.func (.yield l) #[] #[], .pointer (some ⟨p, 0, none⟩), .pointer (some ⟨p2, 0, none⟩)] W fun e W' => (∃ v, e = .returned v) ∧
      ((∃ ys, entsOf ys = List.range xs.length ∧ J ys W') ∨ (∃ pre, entsOf pre = List.range pre.length ∧ Jx pre W')) := by
  have HP := Lib.hid hp
  have HP2 := Lib.hid hp2
  have HR := Lib.hid hr
  have HN := Lib.hid hN
  have HDU := Lib.hid hd
  have hk2 : (N : Int) ≤ 1000 := by omega
  clear hr hN hd
  refine callsIn_of_wp Try.func103 rfl trivial ?_ rfl
  simp only [Try.ntmps103, List.size_toArray, List.length_cons, List.length_nil, Nat.reduceAdd, Nat.reduceSub, Array.replicate_succ, Array.replicate_zero, List.push_toArray, List.append_toArray, List.nil_append, List.cons_append]
  gi_wp2
  clear hp hp2
  gi_loopw [5, 8] (fun _ i wr => ∃ (q : Nat) (pre : List (Ent xs)), q ≤ N ∧ entsOf pre = List.range q ∧ i = .int .i64 (q : Int) ∧ J pre wr ∧ Hid (wr.cell? ⟨p, 0, none⟩ = some (.slice A N C)) ∧ Hid (wr.cell? ⟨p2, 0, none⟩ = some (.int .i64 now)) ∧ Hid (OwnT wr 0 (.slice A N C) N xs))
    (fun _ i _ => N - (intOf i).toNat)
  case atStart => exact ⟨0, [], Nat.zero_le _, rfl, rfl, h0, HP, HP2, HR⟩
  case round =>
    obtain ⟨q, pre, hq, hpre, rfl, hJs, HPr, HP2r, HRr⟩ := hrel
    have hpl : pre.length = q := by have := congrArg List.length hpre; rw [entsOf_length, List.length_range] at this; exact this
    by_cases hlt : q < N
    · have hqx : q < xs.length := by rw [← HN.out]; exact hlt
      obtain ⟨x, hx⟩ : ∃ x : Ent xs, x.1 = q := ⟨⟨q, hqx⟩, rfl⟩
      obtain ⟨g, eA, _, hgl, c0, c1⟩ := HRr.out.at_ q _ (itAt_some hqx)
      subst eA
      obtain ⟨y, hy⟩ : ∃ y, y = itAt xs q := ⟨_, rfl⟩
      obtain ⟨yb0, yb1⟩ : 0 ≤ y.due ∧ y.due ≤ 2199023255552 := by rw [hy]; exact HDU.out _ (List.mem_of_getElem? (itAt_some hqx))
      rw [← hy] at c0 c1
      obtain ⟨W2, hW2⟩ : ∃ W2, W2 = wr.alloc (.cells #[.int .u32 y.key, .int .i64 y.due] 167) := ⟨_, rfl⟩
      have hb2 : Below wr.heap.size wr W2 := by rw [hW2]; exact (Below.refl _ _).alloc (Nat.le_refl _) _
      have hJ2 : J pre W2 := by
        rw [hW2]
        exact hJ pre wr _ none hJs (World.grownBy_alloc wr _ none) (fun r e => by cases e)
      have hk2 : Kr p p2 now (some ⟨g, 0, none⟩) N C xs wr W2 := ⟨fun e => (hb2.cell (p := ⟨p, 0, none⟩) (cell_in e)).trans e, fun e => (hb2.cell (p := ⟨p2, 0, none⟩) (cell_in e)).trans e, fun e => e.below hb2 (Nat.le_refl _)⟩
      have hx2 : TBlk W2 wr.heap.size (icells [y]) := by rw [hW2]; exact one_new wr y _ rfl
      have x0 := hx2.cell 0
      have x1 := hx2.cell 1
      have p2c := hk2.2.1 HP2r.out
      simp only [icells, List.getElem?_cons_succ, List.getElem?_cons_zero] at x0 x1
      have h1 := hY pre x W2 hJ2 (by omega)
      unfold entV at h1
      rw [hx, ← hy] at h1
      have HY := Lib.hid h1
      have HX := Lib.hid hx
      have HK2 := Lib.hid hk2
      have HW2 := Lib.hid hW2
      have HLT := Lib.hid hlt
      have HPL := Lib.hid hpl
      have j1 : (q : Int) < (N : Int) := by omega
      clear hy hx hqx hgl hb2 hJ2 hk2 hx2 h1 hW2 hpl hJs
      generalize y.key = yk at *
      generalize y.due = yd at *
      obtain rfl := HW2.out
      gi_wp2
      obtain ⟨fn, tmps, assign, body, hyl, hR⟩ := HY.out
      rw [hyl]
      gi_wp2
      refine ⟨(fun h => by cases h), hR.mono ?_⟩
      rintro e W3 (⟨rfl, hJ3, hk3⟩ | ⟨rfl, hx⟩)
      · dsimp only
        gi_wp2
        go_roundw
        case rel => exact ⟨q + 1, _, HLT.out, by rw [entsOf_snoc, hpre, HX.out, List.range_succ], by go_num, hJ3, Lib.hid (hk3.1 (HK2.out.1 HPr.out)), Lib.hid (hk3.2.1 (HK2.out.2.1 HP2r.out)), Lib.hid (hk3.2.2 (HK2.out.2.2 HRr.out))⟩
        case measure => simp [intOf] <;> (have := HLT.out; omega)
      · dsimp only
        gi_wp2
        refine bodyPost_ret (results_none rfl _ _ _) rfl ?_
        exact ⟨⟨_, rfl⟩, .inr ⟨_, by rw [List.length_append, List.length_singleton, HPL.out, entsOf_snoc, hpre, HX.out, List.range_succ], hx⟩⟩
    · obtain rfl : q = N := by omega
      gi_wp2
      go_end0
      exact ⟨⟨_, rfl⟩, .inl ⟨pre, by rw [hpre, HN.out], hJs⟩⟩
theorem all_stops (n p p2 N C : Nat) (now : Int) (A : Option Addr) (xs : List It) (hN : N = xs.length) (hk : N ≤ 1000) (hd : ∀ y ∈ xs, 0 ≤ y.due ∧ y.due ≤ 2199023255552) (hw0 : 0 ≤ now) (hw1 : now ≤ 1099511627776) (w : World) (hp : w.cell? ⟨p, 0, none⟩ = some (.slice A N C)) (hp2 : w.cell? ⟨p2, 0, none⟩ = some (.int .i64 now)) (hr : OwnT w 0 (.slice A N C) N xs) :
    SeqStopsK Fence.wide n Try.prog 103 #[.pointer (some ⟨p, 0, none⟩), .pointer (some ⟨p2, 0, none⟩)] (entV now xs) (Kr p p2 now A N C xs) (fun ys => entsOf ys = List.range xs.length) (fun pre => entsOf pre = List.range pre.length) 1001 w := fun l J Jx W hW hJ _ hY h0 =>
  all1_in n l p p2 N C now A xs hN hk hd hw0 hw1 J Jx W hJ hY ((hW.cell (p := ⟨p, 0, none⟩) (cell_in hp)).trans hp) ((hW.cell (p := ⟨p2, 0, none⟩) (cell_in hp2)).trans hp2) (hr.below hW (Nat.le_refl _)) h0
end Go.Proofs.Ytnffngbkidehfaa.Nk
