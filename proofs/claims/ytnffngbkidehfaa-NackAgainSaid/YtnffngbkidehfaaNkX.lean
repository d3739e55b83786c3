/-
  Own text: the list's iterator, as one that hands over groups and how often each was asked for, in order.
-/
import Derived.Test.YtnffngbkidehfaaNkW
namespace Go.Proofs.Ytnffngbkidehfaa.Nk
open Go.RowKit
attribute [local go_sem] Oper.semAt_some

theorem NC.below {p1 p2 n C1 C2 : Nat} {K V : List Value} {A1 A2 : Option Addr} {W W' : World} (h : NC p1 p2 K V n A1 C1 A2 C2 W) (hb : Below W.heap.size W W') : NC p1 p2 K V n A1 C1 A2 C2 W' :=
  ⟨(hb.cell (p := ⟨p1, 0, none⟩) (cell_in h.one)).trans h.one, (hb.cell (p := ⟨p2, 0, none⟩) (cell_in h.two)).trans h.two, row_keep h.ks (fun g _ hg _ _ => hb.block g (h.ks.lt g hg).2), row_keep h.vs (fun g _ hg _ _ => hb.block g (h.vs.lt g hg).2)⟩
theorem NC.obj {p1 p2 n C1 C2 : Nat} {K V : List Value} {A1 A2 : Option Addr} {W : World} (h : NC p1 p2 K V n A1 C1 A2 C2 W) {l : Nat} {o o' : Obj} (hl : W.heap[l]? = some o) (ho : o.isCells = false) : NC p1 p2 K V n A1 C1 A2 C2 (W.putObj l o') :=
  ⟨cell_kept h.one (grownBy_putObj' W l o') (fun r e => by cases e; exact ⟨o, hl, ho⟩), cell_kept h.two (grownBy_putObj' W l o') (fun r e => by cases e; exact ⟨o, hl, ho⟩),
    row_keep h.ks (fun g cur _ _ hc => obj_other hl ho hc rfl), row_keep h.vs (fun g cur _ _ hc => obj_other hl ho hc rfl)⟩
theorem row_at {W : World} {base n C i : Nat} {e : TypeId} {A : Option Addr} {xs : List Value} {z : Value} (h : W.ownsRow base e 1 (.slice A n C) n xs) (hz : xs[i]? = some z) (hi : i < n) : ∃ g, A = some ⟨g, 0, none⟩ ∧ W.cell? ⟨g, i, none⟩ = some z := by
  rcases h.2 with ⟨e1, h0⟩ | ⟨g, cap, cur, e1, h1, hg, h3, h4, _⟩
  · omega
  · simp only [Value.slice.injEq, true_and] at e1
    obtain ⟨rfl, rfl⟩ := e1
    exact ⟨g, rfl, by rw [World.ownsRow.cellAt h i (by omega), hz]⟩
def encN (l : List It) (t : Int → Nat) (i : Nat) : Array Value := #[.int .u32 (itAt l i).key, .int .i64 (t (itAt l i).key : Int)]
set_option maxRecDepth 100000 in
set_option maxHeartbeats 2000000 in
theorem nall1_yields (n p1 p2 m C1 C2 : Nat) (A1 A2 : Option Addr) (N : Nl) (hN : m = N.q.l.length) (hk : m ≤ 1000) :
    YieldsJ Fence.wide n Try.prog 104 #[.pointer (some ⟨p1, 0, none⟩), .pointer (some ⟨p2, 0, none⟩)] m (encN N.q.l N.t) (NC p1 p2 N.ks N.vs m A1 C1 A2 C2) := by
  rintro l J W hC hJ hY h0
  have HC := Lib.hid hC
  have c0 := hC.one
  have hk2 : (m : Int) ≤ 1000 := by omega
  have HCB : Hid (∀ i A B, J i A → Below A.heap.size A B → J i B) := Lib.hid hJ
  clear hC hJ
  refine callsIn_of_wp Try.func104 rfl trivial ?_ rfl
  simp only [Try.ntmps104, List.size_toArray, List.length_cons, List.length_nil, Nat.reduceAdd, Nat.reduceSub, Array.replicate_succ, Array.replicate_zero, List.push_toArray, List.append_toArray, List.nil_append, List.cons_append]
  gi_wp2
  clear c0
  gi_loopw [4, 8] (fun _ i wr => ∃ (q : Nat), q ≤ m ∧ i = .int .i64 (q : Int) ∧ J q wr ∧ Hid (NC p1 p2 N.ks N.vs m A1 C1 A2 C2 wr))
    (fun _ i _ => m - (intOf i).toNat)
  case atStart => exact ⟨0, Nat.zero_le _, rfl, h0, HC⟩
  case round =>
    obtain ⟨q, hq, rfl, hJs, HCr⟩ := hrel
    by_cases hlt : q < m
    · have hqx : q < N.q.l.length := by rw [← hN]; exact hlt
      have hs := itAt_some (l := N.q.l) hqx
      obtain ⟨g1, e1, c1⟩ := row_at (z := .int .u32 (itAt N.q.l q).key) HCr.out.ks (by unfold Nl.ks; rw [List.getElem?_map, hs]; rfl) hlt
      obtain ⟨g2, e2, c2⟩ := row_at (z := .int .i64 (N.t (itAt N.q.l q).key : Int)) HCr.out.vs (by unfold Nl.vs; rw [List.getElem?_map, hs]; rfl) hlt
      subst e1
      subst e2
      have d2 := HCr.out.two
      have h1 := hY q wr hlt hJs HCr.out
      unfold encN at h1
      have HY := Lib.hid h1
      have HLT := Lib.hid hlt
      have j1 : (q : Int) < (m : Int) := by omega
      clear hs hqx h1 hJs
      generalize (itAt N.q.l q).key = k at *
      generalize (N.t k : Int) = tk at *
      gi_wp2
      obtain ⟨fn, tmps, assign, body, hyl, hR⟩ := HY.out
      rw [hyl]
      gi_wp2
      refine ⟨(fun h => by cases h), hR.mono ?_⟩
      rintro e W3 ⟨rfl, hJ3, hk3⟩
      dsimp only
      gi_wp2
      go_roundw
      case rel => exact ⟨q + 1, HLT.out, by go_num, hJ3, Lib.hid hk3⟩
      case measure => simp [intOf] <;> (have := HLT.out; omega)
    · obtain rfl : q = m := by omega
      gi_wp2
      go_end0
      exact ⟨⟨_, rfl⟩, hJs⟩
end Go.Proofs.Ytnffngbkidehfaa.Nk
