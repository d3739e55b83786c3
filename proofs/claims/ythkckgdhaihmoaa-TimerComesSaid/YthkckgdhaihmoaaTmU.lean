/-
  Own text: the law's Same, walked. (Written by gen_tmu.py.)
-/
import Derived.Test.YthkckgdhaihmoaaTmJ
import Derived.Test.YthkckgdhaihmoaaTmQ
import Derived.Test.YthkckgdhaihmoaaRoundQ
import Derived.Sort.CutIn
import Derived.Shelf.Abstract
import Derived.Deep.DeepCutAuto
import Derived.BigGuard
namespace Go.Proofs.Ythkckgdhaihmoaa
open Go.RowKit Go.Shelf
attribute [local go_sem] Oper.semAt_some

theorem keeps_below11 {W W' : World} (h : Below W.heap.size W W') : KeepsOthers W W' :=
  ⟨h.size, fun k _ hk _ => (h.block k (Array.getElem?_eq_some_iff.1 hk).1).trans hk⟩
theorem boxed_own11 {W W' : World} {b : Nat} {t : TypeId} {v : Value} {row : Option Nat} (h : Boxed W b t v) (hg : W.grownBy W' row) (hr : ∀ r, row = some r → ∃ o : Obj, W.heap[r]? = some o ∧ o.isCells = false) : Boxed W' b t v :=
  h.kept hg (fun e => by obtain ⟨o, ho, hc⟩ := hr b e.symm; rw [show W.heap[b]? = _ from h] at ho; cases ho; cases hc)
/-- What holds between two rounds: a counter in its box; all that lay ahead of it lies as it lay. -/
structure CI (v0 : World) {α : Type} (pre : List α) (W : World) : Prop where
  bel : Below v0.heap.size v0 W
  cnt : Boxed W v0.heap.size 3 (.int .i64 (pre.length : Int))
theorem CI.own {v0 : World} {α : Type} {B : Nat} (hB : v0.heap.size ≤ B) : OwnFrom B (fun (pre : List α) W => CI v0 pre W) := by
  intro pre W W' row h hg hr
  exact ⟨h.bel.grown hg h.bel.size (fun k e => Nat.le_trans hB (hr k e).1), boxed_own11 h.cnt hg (fun r e => (hr r e).2)⟩
theorem func_nil11 (f p p2 : Nat) (w : World) : (binOp .eql 76 (.func (.func f) #[] #[.pointer (some ⟨p, 0, none⟩), .pointer (some ⟨p2, 0, none⟩)]) Value.nilFunc).run Try.prog w = .ok (.bool false) w := by kernel_rfl
theorem bad_all {l : List It} {pre : List (Ent l)} {x : Ent l} (h : x.1 ≠ pre.length) : ¬ (entsOf (pre ++ [x]) = List.range (pre ++ [x]).length) := by
  intro e
  rw [entsOf_snoc, List.length_append, List.length_singleton, List.range_succ] at e
  have := List.append_inj_right' e rfl
  simp at this
  exact h this
/-- What Next answers. -/
def Qn.next (Q : Qn) : Value := match Q.l with | [] => .tuple #[.int .i64 0, .bool false] | x :: _ => .tuple #[.int .i64 (x.due - Q.now), .bool true]
theorem next_any (b : Nat) (Q : Qn) (A : Option Addr) (C : Nat) (hf : Q.fit) (w : World) (h : QB w b Q A C) :
    Calls Try.prog 31 #[.pointer (some ⟨b, 0, none⟩)] w fun e w' => e = .returned Q.next ∧ ∃ k, w' = w.drewN k := by
  unfold Qn.next
  cases hl : Q.l with
  | nil =>
    have hb := h.blk
    rw [hl] at hb
    exact next_none A C w hb
  | cons x t => exact next_some b Q A C x t hl hf w h
set_option maxRecDepth 100000 in
set_option maxHeartbeats 4000000 in
theorem same11_any (b : Nat) (Q : Qn) (hf : Q.fit) (A : Option Addr) (C : Nat) (B : Nat) (A2 : Option Addr) (n C2 : Nat) (hQ : Q.l.length = n) (w : World) (hr : QB w b Q A C) (hd : DL w B A2 n C2 Q.l) :
    Calls Try.prog 20 #[.pointer (some ⟨b, 0, none⟩), DV Q.room Q.now A2 n C2] w fun e w' => e = .returned (.bool true) ∧ Below w.heap.size w w' := by
  refine (callsIn_wide (n := 3)).1 ?_
  have hro : Fence.wide.round = none := rfl
  have hn : n ≤ 1000 := by have := hf.len; have := hf.hi; omega
  obtain ⟨W, hW⟩ : ∃ W, W = (w.alloc (.cells #[.int .i64 (Q.room : Int), .int .i64 Q.now, .slice A2 n C2] 27)).alloc (.cells #[.bool false] 4) := ⟨_, rfl⟩
  have hs : W.heap.size = w.heap.size + 2 := by rw [hW]; simp
  have hb : Below w.heap.size w W := by rw [hW]; exact ((Below.refl w.heap.size w).alloc (Nat.le_refl _) _).alloc (by simp) _
  have hx : DBx W w.heap.size Q.room Q.now (.slice A2 n C2) := by rw [hW]; exact (DBx.new w Q.room Q.now _).keep (Below.heap_alloc _ _ _ (by simp))
  have hx2 : Boxed W (w.heap.size + 1) 4 (.bool false) := by
    rw [hW]
    have := Boxed.new (w.alloc (.cells #[.int .i64 (Q.room : Int), .int .i64 Q.now, .slice A2 n C2] 27)) 4 (.bool false)
    simpa using this
  have hrW : QB W b Q A C := hr.below hb (Nat.le_refl _)
  have hdW : DL W B A2 n C2 Q.l := hd.below hb (Nat.le_refl _)
  have HALL : Hid (∀ w', Below W.heap.size W w' → DBx w' w.heap.size Q.room Q.now (.slice A2 n C2) ∧ Boxed w' (w.heap.size + 1) 4 (.bool false) ∧ QB w' b Q A C ∧ DL w' B A2 n C2 Q.l) := Lib.hid (fun w' h => ⟨hx.below h (by omega), (h.block _ (by omega)).trans hx2, hrW.below h (Nat.le_refl _), hdW.below h (Nat.le_refl _)⟩)
  have CP : Hid (∀ w', Below W.heap.size W w' → Calls Try.prog 31 #[.pointer (some ⟨b, 0, none⟩)] w' fun e w'' => e = .returned Q.next ∧ ∃ k, w'' = w'.drewN k) := Lib.hid (fun w' h => next_any b Q A C hf w' (HALL.out w' h).2.2.1)
  have CL : Hid (∀ w', Below W.heap.size W w' → Calls Try.prog 22 #[.pointer (some ⟨b, 0, none⟩)] w' fun e w'' => e = .returned (.int .i64 (n : Int)) ∧ w'' = w') := Lib.hid (fun w' h => (len_any A n C w' (by have := (HALL.out w' h).2.2.1.blk; rwa [hQ] at this)).mono fun e w'' h2 => ⟨h2.1, h2.2.symm⟩)
  have CR : Hid (∀ w', Below W.heap.size W w' → Calls Try.prog 18 #[.pointer (some ⟨b, 0, none⟩)] w' fun e w'' => e = .returned (.int .i64 Q.now) ∧ w'' = w') := Lib.hid (fun w' h => (now_any w' (HALL.out w' h).2.2.1.blk).mono fun e w'' h2 => ⟨h2.1, h2.2.symm⟩)
  have CA : Hid (∀ w', Below W.heap.size W w' → Calls Try.prog 32 #[.pointer (some ⟨b, 0, none⟩)] w' (Iter Q.l Q.now w')) := Lib.hid (fun w' h => all_any b Q A C (by omega) w' (HALL.out w' h).2.2.1)
  have HS := Lib.hid hs
  have HB := Lib.hid hb
  have HQ := Lib.hid hQ
  have HN := Lib.hid hn
  have HW := Lib.hid hW
  have HF := Lib.hid hf
  have HD : Hid (∀ k, Below W.heap.size W (W.drewN k)) := Lib.hid (fun k => below_drewN (Below.refl _ _) k)
  have m0 := hf.now0
  have m1 := hf.now1
  clear hs hb hx hx2 hrW hdW hr hd hW hQ hf
  unfold DV
  refine callsIn_of_wp_marks Try.func20 rfl trivial ?_ hro
  simp only [Try.ntmps20, List.size_toArray, List.length_cons, List.length_nil, Nat.reduceAdd, Nat.reduceSub, Array.replicate_succ, Array.replicate_zero, List.push_toArray, List.append_toArray, List.nil_append, List.cons_append]
  rw [wpIn_wide]
  go_upto_region 1 with fail
  rw [← HW.out]
  obtain ⟨fv, fo, hfe, hf2⟩ : ∃ fv fo, Q.next = .tuple #[.int .i64 fv, .bool fo] ∧ ((Q.l = [] ∧ fv = 0 ∧ fo = false) ∨ (∃ x t, Q.l = x :: t ∧ fv = x.due - Q.now ∧ fo = true)) := by
    unfold Qn.next
    cases hl : Q.l with
    | nil => exact ⟨0, false, rfl, .inl ⟨rfl, rfl, rfl⟩⟩
    | cons x t => exact ⟨x.due - Q.now, true, rfl, .inr ⟨x, t, rfl, rfl, rfl⟩⟩
  rw [hfe] at CP
  have HF2 := Lib.hid hf2
  clear hfe hf2
  go_wp2_with (first
    | (go_at_call 31; (with_reducible refine (CP.out _ (Below.refl _ _)).mono ?_); rintro e w1 ⟨rfl, k, rfl⟩)
    | fail)
  have HD2 : Hid (∀ j, Below W.heap.size W ((W.drewN k).drewN j)) := Lib.hid (fun j => below_drewN (HD.out k) j)
  have HD1 := Lib.hid (HD.out k)
  generalize W.drewN k = W2 at *
  go_cut [59] from 16 to 59 (fun s wx => s = .bool false ∧ Hid (Below W.heap.size W wx))
  case first =>
    obtain ⟨hx, hz, hq, hd⟩ := HALL.out _ HD1.out
    obtain ⟨d0, d1, d2⟩ := hx.cells
    rcases HF2.out with ⟨hl, rfl, rfl⟩ | ⟨x, t, hl, rfl, rfl⟩
    · obtain rfl : n = 0 := by have := HQ.out; rw [hl] at this; simpa using this.symm
      clear hx hz hq hd hl HF2
      go_quiet (first
        | (go_at_call 22; exact Calls.quiet_of_same (CL.out _ (HD2.out _)))
        | (go_at_call 18; exact Calls.quiet_of_same (CR.out _ (HD2.out _)))
        | fail)
      go_wp2
      go_meet
      exact ⟨rfl, Lib.hid (HD2.out _)⟩
    · obtain ⟨g, off, rfl, _, c0, c1⟩ := hd.at_ 0 x (by rw [hl]; rfl)
      obtain ⟨x1, x2⟩ := HF.out.due x (by rw [hl]; exact List.mem_cons_self ..)
      simp only [Nat.zero_mul, Nat.add_zero] at c0 c1
      have hn0 : 0 < n := by have := HQ.out; rw [hl] at this; simp at this; omega
      have hn1 : (0 : Int) < (n : Int) := by omega
      have hn2 : decide ((0 : Int) < (n : Int)) = true := decide_eq_true hn1
      have hn3 : ((true : Bool) != true) = false := rfl
      clear hx hz hq hd hl HF2
      generalize x.due = xd at *
      generalize x.key = xk at *
      go_quiet (first
        | (go_at_call 22; exact Calls.quiet_of_same (CL.out _ (HD2.out _)))
        | (go_at_call 18; exact Calls.quiet_of_same (CR.out _ (HD2.out _)))
        | fail)
      go_wp2
      go_meet
      exact ⟨rfl, Lib.hid (HD2.out _)⟩
  case rest =>
    obtain ⟨rfl, HB3⟩ := hcut
    generalize wc = w3 at *
    go_wp2_with (first
      | (go_at_call 32; (with_reducible refine (CA.out _ HB3.out).mono ?_); rintro e w4 ⟨p, p2, A4, C4, rfl, HI4⟩; have fnp := func_nil11 42 p p2)
      | fail)
    have HB4 : Hid (Below w3.heap.size w3 w4) := Lib.hid HI4.out.bel
    have b4 : Below W.heap.size W w4 := HB3.out.trans (HB4.out.mono HB3.out.size)
    have hw4 : W.heap.size ≤ w4.heap.size := b4.size
    have HNQ : Hid (n = Q.l.length) := Lib.hid HQ.out.symm
    have hp4 : w4.cell? ⟨p, 0, none⟩ = some (.slice A4 n C4) := by rw [HNQ.out]; exact HI4.out.box
    have hp24 : w4.cell? ⟨p2, 0, none⟩ = some (.int .i64 Q.now) := HI4.out.nb
    have ho4 : OwnT w4 0 (.slice A4 n C4) n Q.l := by rw [HNQ.out]; exact HI4.out.own
    have HPL : Hid (p < w4.heap.size) := Lib.hid (cell_in hp4)
    have HPL2 : Hid (p2 < w4.heap.size) := Lib.hid (cell_in hp24)
    have HRL : Hid (∀ g, A4.map Addr.block = some g → g < w4.heap.size) := Lib.hid (fun g hg => (ho4.lt g (by rw [own_block]; exact hg)).2)
    have HALL4 : Hid (∀ w', Below w4.heap.size w4 w' → DBx w' w.heap.size Q.room Q.now (.slice A2 n C2) ∧ Boxed w' (w.heap.size + 1) 4 (.bool false) ∧ DL w' B A2 n C2 Q.l ∧ Below w.heap.size w w') := Lib.hid (fun w' h => by
      have b5 := b4.trans (h.mono b4.size)
      obtain ⟨a1, a2, _, a4⟩ := HALL.out w' b5
      exact ⟨a1, a2, a4, HB.out.trans (b5.mono (by have := HS.out; omega))⟩)
    have HLE : Hid (w.heap.size + 2 ≤ w4.heap.size) := Lib.hid (by have := HS.out; omega)
    have bW : Below w4.heap.size w4 (w4.alloc (.cells #[.int .i64 0] 3)) := (Below.refl _ _).alloc (Nat.le_refl _) _
    have HPS := Lib.hid (all_stops 2 p p2 n C4 Q.now A4 Q.l HNQ.out hn HF.out.due m0 m1 (w4.alloc (.cells #[.int .i64 0] 3)) ((bW.cell (p := ⟨p, 0, none⟩) HPL.out).trans hp4) ((bW.cell (p := ⟨p2, 0, none⟩) HPL2.out).trans hp24) (ho4.below bW (Nat.le_refl _)))
    have HY0 : Hid (CI w4 ([] : List (Ent Q.l)) (w4.alloc (.cells #[.int .i64 0] 3))) := Lib.hid ⟨bW, Boxed.new w4 3 (.int .i64 0)⟩
    have HOR : Hid (w4.heap.size ≤ (w4.alloc (.cells #[.int .i64 0] 3)).heap.size) := Lib.hid bW.size
    clear b4 hw4 hp4 hp24 ho4 bW HI4
    refine (wpIn_wide (n := 3)).1 ?_
    refine wpIn_rangeFunc_ownG hro (by omega) (gf := 42) (lb := #[.pointer (some ⟨p, 0, none⟩), .pointer (some ⟨p2, 0, none⟩)]) rfl trivial (enters_of Try.func42 (by kernel_rfl) rfl)
      HPS.out Kr.trans' (fun W l o o' _ h2 h3 _ => Kr.obj W l o o' h2 h3) (Below.refl _ _) (fun _ => rfl)
      (fun pre W => CI w4 pre W)
      (fun c pre W => ¬ (entsOf pre = List.range pre.length))
      (CI.own HOR.out)
      (fun c _ _ _ _ hs _ _ => hs)
      HY0.out
      (fun x => { tmps := #[.pointer (some ⟨b, 0, none⟩), .agg #[.int .i64 (Q.room : Int), .int .i64 Q.now, .slice A2 n C2], undef, .pointer (some ⟨w.heap.size, 0, none⟩), .pointer (some ⟨w.heap.size + 1, 0, none⟩), .int .i64 fv, .bool fo, .func (.func 42) #[] #[.pointer (some ⟨p, 0, none⟩), .pointer (some ⟨p2, 0, none⟩)], .pointer (some ⟨w4.heap.size, 0, none⟩), .int .i64 (itAt Q.l x.1).key, .int .i64 ((itAt Q.l x.1).due - Q.now), .tuple #[.int .i64 fv, .bool fo], .pointer (some ⟨b, 0, none⟩), .tuple #[.int .i64 fv, .bool fo], .int .i64 fv, .bool fo, u16, u17, u18, u19, u20, u21, u22, u23, u24, u25, u26, u27, u28, u29, u30, u31, u32, u33, u34, u35, u36, u37, u38, u39, u40, u41, u42, u43, u44, u45, u46, u47, u48, u49, u50, u51, u52, u53, u54, u55, u56, u57, u58, .bool false, .pointer (some ⟨b, 0, none⟩), .func (.func 42) #[] #[.pointer (some ⟨p, 0, none⟩), .pointer (some ⟨p2, 0, none⟩)], .func (.func 42) #[] #[.pointer (some ⟨p, 0, none⟩), .pointer (some ⟨p2, 0, none⟩)], .bool false, .func (.func 42) #[] #[.pointer (some ⟨p, 0, none⟩), .pointer (some ⟨p2, 0, none⟩)], .int .i64 (itAt Q.l x.1).key, .int .i64 ((itAt Q.l x.1).due - Q.now), undef, undef, undef, undef, undef, undef, undef, undef, undef, undef, undef, undef, undef, undef, undef, undef, undef, undef, undef, undef, undef, undef, undef, undef, undef, undef, undef, undef, undef, undef, undef, undef, undef, undef, undef], defers := [] }) ?assign ?body ?done ?stop
    case assign =>
      intro l x W K hK
      dsimp only at hK ⊢
      gi_wp2
      exact hK
    case stop =>
      rintro D c pre W _ hs hn _
      exact (hn hs).elim
    case body =>
      rintro l0 pre x Wb hI hlen
      obtain ⟨hx0, hres, hdl, hbB⟩ := HALL4.out Wb hI.bel
      obtain ⟨d0, d1, d2⟩ := hx0.cells
      have cK := hI.cnt.cell
      have fK := hI.cnt.frozen
      have HI := Lib.hid hI
      have HI2 := Lib.hid hI.cnt
      obtain ⟨m, hm⟩ : ∃ m, m = pre.length := ⟨_, rfl⟩
      have H9 : Hid (∀ j v, Below w4.heap.size Wb ((Wb.drewN j).setCell ⟨w4.heap.size, 0, none⟩ v)) := Lib.hid (fun j v => (below_drewN (Below.refl w4.heap.size Wb) j).setCell (p := ⟨w4.heap.size, 0, none⟩) (Nat.le_refl _) v)
      simp only [← hm] at cK
      have hm2 : m ≤ 1001 := by omega
      have hm3 : (m : Int) ≤ 1001 := by omega
      have HM := Lib.hid hm
      have HXL := Lib.hid x.2
      have HGO : Hid (∀ (j : Nat) (v : Value), v = .int .i64 ((m : Int) + 1) → CI w4 (pre ++ [x]) ((Wb.drewN j).setCell ⟨w4.heap.size, 0, none⟩ v)) := Lib.hid (fun j v hv => by
        refine ⟨hI.bel.trans (H9.out _ _), ?_⟩
        have h7 : Boxed (Wb.drewN j) w4.heap.size 3 (.int .i64 (pre.length : Int)) := HI2.out
        have h8 := h7.set (.int .i64 ((m : Int) + 1))
        have e8 : (((pre ++ [x]).length : Nat) : Int) = (m : Int) + 1 := by rw [List.length_append, List.length_singleton, ← HM.out]; rfl
        rw [e8, hv]
        exact h8)
      have cR := hres.cell
      have fR := hres.frozen
      clear hI hx0 hbB hm hlen hres
      dsimp only
      by_cases hlt : m < n
      · have hmq : m < Q.l.length := by rw [← HNQ.out]; exact hlt
        obtain ⟨g, off, rfl, _, c0, c1⟩ := hdl.at_ m (itAt Q.l m) (itAt_some hmq)
        obtain ⟨y1, y2⟩ := HF.out.due _ (List.mem_of_getElem? (itAt_some hmq))
        have k1 : (m : Int) < (n : Int) := by omega
        have k2 : decide ((n : Int) ≤ (m : Int)) = false := decide_eq_false (by omega)
        have k4 : ¬ n ≤ m := by omega
        have k5 : ¬ (n : Int) ≤ (m : Int) := by omega
        by_cases hxm : x.1 = m
        · rw [hxm]
          generalize (itAt Q.l m).key = yk at *
          generalize (itAt Q.l m).due = yd at *
          have wr : IntKind.i64.wrap (yd - Q.now) = yd - Q.now := by rw [IntKind.wrap_i64]; omega
          clear hdl hxm hmq
          gi_upto_region 11 with fail
          refine wpIn_round_all (by kernel_rfl) (by kernel_rfl) (by kernel_rfl) ?_
          iterate 28 (refine wpQuietIn_step (fun _ _ _ _ => trivial) (fun K hK => ?_); go_simp; refine hK _ ?_; clear hK K)
          refine wpQuietIn_nil ?_
          rintro _ ⟨nq, rfl⟩
          gi_wp2
          exact ⟨((keeps_below11 (below_drewN (Below.refl _ Wb) nq)).trans (KeepsOthers.setCell _ _ _)).from _, Kr.below (H9.out _ _) HPL.out HPL2.out (.inr HRL.out), HGO.out _ _ rfl⟩
        · have HBAD := Lib.hid (bad_all (pre := pre) (x := x) (by rw [← HM.out]; exact hxm))
          obtain ⟨xv, hxv⟩ : ∃ xv, xv = (itAt Q.l x.1).due - Q.now := ⟨_, rfl⟩
          rw [← hxv]
          clear hxv
          generalize (itAt Q.l m).key = yk at *
          generalize (itAt Q.l m).due = yd at *
          generalize (itAt Q.l x.1).key = xk at *
          have wr : IntKind.i64.wrap (yd - Q.now) = yd - Q.now := by rw [IntKind.wrap_i64]; omega
          clear hdl hxm hmq
          by_cases hk : xk = yk
          · have e1 : (xk != yk) = false := by simp [hk]
            by_cases hv : xv = yd - Q.now
            · have e2 : (xv != yd - Q.now) = false := by simp [hv]
              clear hk hv
              gi_upto_region 11 with fail
              refine wpIn_round_all (by kernel_rfl) (by kernel_rfl) (by kernel_rfl) ?_
              iterate 28 (refine wpQuietIn_step (fun _ _ _ _ => trivial) (fun K hK => ?_); go_simp; refine hK _ ?_; clear hK K)
              refine wpQuietIn_nil ?_
              rintro _ ⟨nq, rfl⟩
              gi_wp2
              exact ⟨((keeps_below11 (below_drewN (Below.refl _ Wb) nq)).trans (KeepsOthers.setCell _ _ _)).from _, Kr.below (H9.out _ _) HPL.out HPL2.out (.inr HRL.out), HGO.out _ _ rfl⟩
            · have e2 : (xv != yd - Q.now) = true := by simp [hv]
              clear hk hv
              gi_upto_region 11 with fail
              refine wpIn_round_all (by kernel_rfl) (by kernel_rfl) (by kernel_rfl) ?_
              iterate 28 (refine wpQuietIn_step (fun _ _ _ _ => trivial) (fun K hK => ?_); go_simp; refine hK _ ?_; clear hK K)
              refine wpQuietIn_nil ?_
              rintro _ ⟨nq, rfl⟩
              gi_wp2
              exact ⟨((keeps_below11 (below_drewN (Below.refl _ Wb) nq)).trans (KeepsOthers.setCell _ _ _)).from _, HBAD.out⟩
          · have e1 : (xk != yk) = true := by simp [hk]
            clear hk
            gi_upto_region 11 with fail
            refine wpIn_round_all (by kernel_rfl) (by kernel_rfl) (by kernel_rfl) ?_
            iterate 28 (refine wpQuietIn_step (fun _ _ _ _ => trivial) (fun K hK => ?_); go_simp; refine hK _ ?_; clear hK K)
            refine wpQuietIn_nil ?_
            rintro _ ⟨nq, rfl⟩
            gi_wp2
            exact ⟨((keeps_below11 (below_drewN (Below.refl _ Wb) nq)).trans (KeepsOthers.setCell _ _ _)).from _, HBAD.out⟩
      · have HBAD := Lib.hid (bad_all (pre := pre) (x := x) (by have := HXL.out; have := HM.out; have := HNQ.out; omega))
        have k2 : decide ((n : Int) ≤ (m : Int)) = true := decide_eq_true (by omega)
        have k4 : n ≤ m := by omega
        have k5 : (n : Int) ≤ (m : Int) := by omega
        obtain ⟨xv, hxv⟩ : ∃ xv, xv = (itAt Q.l x.1).due - Q.now := ⟨_, rfl⟩
        rw [← hxv]
        clear hxv
        generalize (itAt Q.l x.1).key = xk at *
        clear hdl
        gi_upto_region 11 with fail
        refine wpIn_round_all (by kernel_rfl) (by kernel_rfl) (by kernel_rfl) ?_
        iterate 28 (refine wpQuietIn_step (fun _ _ _ _ => trivial) (fun K hK => ?_); go_simp; refine hK _ ?_; clear hK K)
        refine wpQuietIn_nil ?_
        rintro _ ⟨nq, rfl⟩
        gi_wp2
        exact ⟨((keeps_below11 (below_drewN (Below.refl _ Wb) nq)).trans (KeepsOthers.setCell _ _ _)).from _, HBAD.out⟩
    case done =>
      rintro D1 ys W5 hD hys hI hK
      have hyl : ys.length = n := by have := congrArg List.length hys; rw [entsOf_length, List.length_range] at this; rw [HNQ.out]; exact this
      have hc7 : Boxed W5 w4.heap.size 3 (.int .i64 (n : Int)) := by
        have h : Boxed W5 w4.heap.size 3 (.int .i64 (ys.length : Int)) := hI.cnt
        rwa [hyl] at h
      obtain ⟨hx0, hres, _, hbB⟩ := HALL4.out W5 hI.bel
      obtain ⟨d0, d1, d2⟩ := hx0.cells
      have c7 := hc7.cell
      have cR := hres.cell
      have fR := hres.frozen
      have HRS := Lib.hid hres
      have HK1 := Lib.hid hK
      have HBB := Lib.hid hbB
      clear hyl hys hI hK hx0 hres hbB hc7
      dsimp only
      go_wp2
      have hK1 := (KeepsOthers.setCell W5 ⟨w.heap.size + 1, 0, none⟩ (.bool true)).same D1 _ HK1.out rfl
      have hDw1 : w.heap.size ≤ D1 := by have := HLE.out; have := HOR.out; omega
      refine ⟨by simp, .inl ⟨_, _, rfl, run_takeDeferred hK1, ?_⟩⟩
      have hc6 := cell_kept (HRS.out.set (.bool true)).cell (grownBy_putObj' _ D1 (.deferred none)) (fun r e => by cases e; exact ⟨_, hK1, rfl⟩)
      refine ⟨.bool true, ?_, rfl, (HBB.out.setCell (p := ⟨w.heap.size + 1, 0, none⟩) (by show _ ≤ w.heap.size + 1; omega) _).trans (belowK_b (w := w) (Nat.le_refl _) _ D1 _ _ hDw1 hK1 rfl rfl)⟩
      simp [results, Try.f20, go_sem, hc6]
end Go.Proofs.Ythkckgdhaihmoaa
