/-
  Own text: the iterators All and Back, walked.
-/
import Derived.Test.YtjkobejhbgjhlaaRgI
import Derived.RangeFuncNested
import Derived.RangeFuncBox
import Derived.RangeFuncBound
import Derived.RangeFuncCalls
import Derived.RangeFuncLeaves
import Derived.OwnWalkIn
import Derived.TacticsInMore
import Derived.LoopNIn
import Derived.LoopIn
namespace Go.Proofs.Ytjkobejhbgjhlaa
open Go.RowKit
attribute [local go_sem] Oper.semAt_some

theorem yield_wide {m m' l : Nat} {args : Array Value} {W : World} {R : Ending → World → Prop} (h : YieldAt Fence.wide m Try.prog l args W R) : YieldAt Fence.wide m' Try.prog l args W R := by
  obtain ⟨fn, tmps, assign, body, h1, h2⟩ := h
  exact ⟨fn, tmps, assign, body, h1, h2.1, fun c cs _ => h2.2 c cs (room_wide _)⟩
/-- An entry of a ring. -/
abbrev Ent (R : Rn) := { i : Nat // i < R.l.length }
def entsOf {R : Rn} (ys : List (Ent R)) : List Nat := ys.map (fun x => x.1)
theorem entsOf_snoc {R : Rn} (ys : List (Ent R)) (x : Ent R) : entsOf (ys ++ [x]) = entsOf ys ++ [x.1] := by simp [entsOf]
theorem entsOf_length {R : Rn} (ys : List (Ent R)) : (entsOf ys).length = ys.length := by simp [entsOf]
/-- What is handed over of it. -/
abbrev entV (R : Rn) (x : Ent R) : Array Value := #[.int .i64 ((R.first + x.1 : Nat) : Int), .int .i64 (R.l.getD x.1 0)]
/-- What a round keeps: the iterator's box, the ring. -/
def Kr (p b : Nat) (R : Rn) (A : Option Addr) (C : Nat) (xs : List Int) (W W' : World) : Prop :=
  (W.cell? ⟨p, 0, none⟩ = some (.pointer (some ⟨b, 0, none⟩)) → W'.cell? ⟨p, 0, none⟩ = some (.pointer (some ⟨b, 0, none⟩))) ∧ (RB W b R A C xs → RB W' b R A C xs)
theorem Kr.trans' {p b C : Nat} {R : Rn} {A : Option Addr} {xs : List Int} {W1 W2 W3 : World} (h : Kr p b R A C xs W1 W2) (k : Kr p b R A C xs W2 W3) : Kr p b R A C xs W1 W3 :=
  ⟨fun e => k.1 (h.1 e), fun e => k.2 (h.2 e)⟩
theorem obj_other {W : World} {l k : Nat} {o o' : Obj} (hl : W.heap[l]? = some o) (ho : o.isCells = false) {u : Obj} (hk : W.heap[k]? = some u) (hu : u.isCells = true) : (W.putObj l o').heap[k]? = W.heap[k]? := by
  refine (grownBy_putObj' W l o').block k (Array.getElem?_eq_some_iff.1 hk).1 (fun e => ?_)
  cases e
  rw [hl] at hk
  cases hk
  rw [ho] at hu
  cases hu
theorem own_cells {W : World} {base n : Nat} {v : Value} {xs : List Int} (h : OwnI W base v n xs) (g : Nat) (hg : v.ownBlock = some g) : ∃ u : Obj, W.heap[g]? = some u ∧ u.isCells = true := by
  rcases h.2 with ⟨rfl, _⟩ | ⟨g', cap, cur, rfl, _, hb, _⟩
  · simp [Value.ownBlock] at hg
  · simp [Value.ownBlock] at hg
    subst hg
    exact ⟨_, hb, rfl⟩
theorem RB.obj {b C : Nat} {R : Rn} {A : Option Addr} {xs : List Int} {W : World} {l : Nat} {o o' : Obj} (h : RB W b R A C xs) (hl : W.heap[l]? = some o) (ho : o.isCells = false) : RB (W.putObj l o') b R A C xs :=
  h.keep (obj_other hl ho h.blk rfl) (fun g hg => by obtain ⟨u, hu, hc⟩ := own_cells h.own g hg; exact obj_other hl ho hu hc)
theorem Kr.obj {p b C : Nat} {R : Rn} {A : Option Addr} {xs : List Int} (W : World) (l : Nat) (o o' : Obj) (hl : W.heap[l]? = some o) (ho : o.isCells = false) : Kr p b R A C xs W (W.putObj l o') :=
  ⟨fun e => cell_kept e (grownBy_putObj' W l o') (fun r e => by cases e; exact ⟨o, hl, ho⟩), fun h => h.obj hl ho⟩
theorem Kr.below {p b C B : Nat} {R : Rn} {A : Option Addr} {xs : List Int} {W W' : World} (h : Below B W W') (h1 : p < B) (h2 : W.heap.size ≤ B ∨ (b < B ∧ ∀ g, (Value.slice A xs.length C).ownBlock = some g → g < B)) : Kr p b R A C xs W W' :=
  ⟨fun e => (h.cell (p := ⟨p, 0, none⟩) h1).trans e, fun e => by
    rcases h2 with h2 | ⟨h2, h3⟩
    · exact e.below h h2
    · exact e.keep (h.block b h2) (fun g hg => h.block g (h3 g hg))⟩
theorem drawn_kept {p b C B : Nat} {R : Rn} {A : Option Addr} {xs : List Int} {J : List (Ent R) → World → Prop} (hJ : AbidesFrom B J) {pre : List (Ent R)} {W : World} (h : J pre W) (k : Nat) (_ : W.cell? ⟨p, 0, none⟩ = some (.pointer (some ⟨b, 0, none⟩))) (_ : RB W b R A C xs) :
    J pre (W.drewN k) ∧ Kr p b R A C xs W (W.drewN k) :=
  ⟨hJ pre W (W.drewN k) none h ⟨rfl, rfl, rfl, Nat.le_refl _, fun _ _ _ => rfl⟩ (fun r e => by cases e), fun e => e, fun e => e.drewN k⟩
theorem at_in (n i k b N : Nat) (v : Int) (R : Rn) (A : Option Addr) (C : Nat) (xs : List Int) (hf : R.fit k) (hk : k ≤ 1000000) (hi : i < R.l.length) (hN : N = R.first + i) (hv : v = R.l.getD i 0) (W : World) (h : RB W b R A C xs) :
    CallsIn Fence.wide n Try.prog 14 #[.pointer (some ⟨b, 0, none⟩), .int .i64 (N : Int)] W fun e W' => e = .returned (.tuple #[.int .i64 v, .int .i64 0]) ∧ ∃ j, W' = W.drewN j := by
  subst hN
  subst hv
  have e0 : R.kept ((R.first + i : Nat) : Int) = 0 := by
    unfold Rn.kept Rn.next
    rw [if_neg (by omega), if_neg (by omega)]
  have e1 : R.at_ ((R.first + i : Nat) : Int) = R.l.getD i 0 := by
    unfold Rn.at_
    rw [if_pos e0]
    congr 1
    omega
  have h1 := at_some ((R.first + i : Nat) : Int) b k R A C xs hf hk e0 W h
  rw [e0, e1] at h1
  exact callsIn_wide.2 h1
theorem tell_in (n l b i k N : Nat) (v : Int) (R : Rn) (A : Option Addr) (C : Nat) (xs : List Int) (hf : R.fit k) (hk : k ≤ 1000000) (hi : i < R.l.length) (hN : N = R.first + i) (hv : v = R.l.getD i 0) (W : World) (h : RB W b R A C xs) (Q : Bool → World → Prop)
    (hY : ∀ j m, YieldAt Fence.wide m Try.prog l #[.int .i64 (N : Int), .int .i64 v] (W.drewN j) fun e W' => ∃ r, e = .returned (.bool r) ∧ Q r W') :
    CallsIn Fence.wide n Try.prog 42 #[.pointer (some ⟨b, 0, none⟩), .int .i64 (N : Int), .func (.yield l) #[] #[]] W fun e W' => ∃ r, e = .returned (.bool r) ∧ Q r W' := by
  have CA := Lib.hid (at_in (n - 1) i k b N v R A C xs hf hk hi hN hv W h)
  clear hN hv h hi hk hf
  refine callsIn_of_wp Try.func42 rfl trivial ?_ rfl
  simp only [Try.ntmps42, List.size_toArray, List.length_cons, List.length_nil, Nat.reduceAdd, Nat.reduceSub, Array.replicate_succ, Array.replicate_zero, List.push_toArray, List.append_toArray, List.nil_append, List.cons_append]
  gi_wp2
  refine ⟨trivial, (fun h => by cases h), ?_⟩
  refine (CA.out).mono ?_
  rintro e w1 ⟨rfl, j, rfl⟩
  obtain ⟨fn, tmps, assign, body, hy, hR⟩ := hY j (n - 1)
  dsimp only at hy ⊢
  gi_wp2
  refine ⟨(fun h => by cases h), hR.mono ?_⟩
  rintro e w3 ⟨r, rfl, hq⟩
  dsimp only
  gi_wp2
  go_ret
  exact ⟨r, rfl, hq⟩
set_option maxRecDepth 100000 in
set_option maxHeartbeats 2000000 in
theorem all1_in (n k l p b : Nat) (R : Rn) (A : Option Addr) (C : Nat) (xs : List Int) (hf : R.fit k) (hk : k ≤ 1000000) (J Jx : List (Ent R) → World → Prop) (W : World) (hJ : AbidesFrom W.heap.size J)
    (hY : ∀ pre x W, J pre W → pre.length < 4097 → YieldAt Fence.wide (n - 1) Try.prog l (entV R x) W fun e W' =>
      (e = .returned (.bool true) ∧ J (pre ++ [x]) W' ∧ Kr p b R A C xs W W') ∨ (e = .returned (.bool false) ∧ Jx (pre ++ [x]) W'))
    (hp : W.cell? ⟨p, 0, none⟩ = some (.pointer (some ⟨b, 0, none⟩))) (hr : RB W b R A C xs) (h0 : J [] W) :
    CallsIn Fence.wide n Try.prog 41 #[.func (.yield l) #[] #[], .pointer (some ⟨p, 0, none⟩)] W fun e W' => (∃ v, e = .returned v) ∧
      ((∃ ys, entsOf ys = List.range R.l.length ∧ J ys W') ∨ (∃ pre, entsOf pre = List.range pre.length ∧ Jx pre W')) := by
  have HP := Lib.hid hp
  have HR := Lib.hid hr
  obtain ⟨c0, c1, c2, c3⟩ := hr.blk.cells
  have hlen : R.l.length ≤ 4096 := by have := hf.len; have := hf.hi; omega
  have hnx : R.first + R.l.length ≤ 1099511627776 + k := hf.next
  obtain ⟨NX, hNX⟩ : ∃ NX, NX = R.next := ⟨_, rfl⟩
  rw [← hNX] at c2
  have HNX : Hid (NX = R.first + R.l.length) := Lib.hid hNX
  have HF := Lib.hid hf
  clear hr hNX hf
  refine callsIn_of_wp Try.func41 rfl trivial ?_ rfl
  simp only [Try.ntmps41, List.size_toArray, List.length_cons, List.length_nil, Nat.reduceAdd, Nat.reduceSub, Array.replicate_succ, Array.replicate_zero, List.push_toArray, List.append_toArray, List.nil_append, List.cons_append]
  gi_wp2
  clear hp c0 c1 c2 c3
  gi_loopw [4] (fun i wr => ∃ (q : Nat) (pre : List (Ent R)), q ≤ R.l.length ∧ entsOf pre = List.range q ∧ i = .int .i64 ((R.first + q : Nat) : Int) ∧ J pre wr ∧ Hid (wr.cell? ⟨p, 0, none⟩ = some (.pointer (some ⟨b, 0, none⟩))) ∧ Hid (RB wr b R A C xs))
    (fun i _ => (((R.first + R.l.length : Nat) : Int) - intOf i).toNat)
  case atStart => exact ⟨0, [], Nat.zero_le _, rfl, by simp, h0, HP, HR⟩
  case round =>
    obtain ⟨q, pre, hq, hpre, rfl, hJs, HPr, HRr⟩ := hrel
    have hpl : pre.length = q := by have := congrArg List.length hpre; rw [entsOf_length, List.length_range] at this; exact this
    obtain ⟨N, hN⟩ : ∃ N, N = R.first + q := ⟨_, rfl⟩
    rw [← hN]
    have hnx2 := HNX.out
    by_cases hlt : q < R.l.length
    · have hl1 : N < NX := by omega
      have hl2 : N ≤ 1099512627776 := by omega
      obtain ⟨x, hx⟩ : ∃ x : Ent R, x.1 = q := ⟨⟨q, hlt⟩, rfl⟩
      have HX := Lib.hid hx
      obtain ⟨v, hv⟩ : ∃ v, v = R.l.getD q 0 := ⟨_, rfl⟩
      have HN := Lib.hid hN
      have HV := Lib.hid hv
      have hpr := HPr.out
      have HLT := Lib.hid hlt
      have HPL := Lib.hid hpl
      have HJ := Lib.hid hJs
      have HK := Lib.hid hk
      have CT : Hid (CallsIn Fence.wide (n - 1) Try.prog 42 #[.pointer (some ⟨b, 0, none⟩), .int .i64 (N : Int), .func (.yield l) #[] #[]] wr fun e W' => ∃ r, e = .returned (.bool r) ∧ (r = true ∧ J (pre ++ [x]) W' ∧ Kr p b R A C xs wr W' ∨ r = false ∧ Jx (pre ++ [x]) W')) := Lib.hid (by
        refine tell_in (n - 1) l b q k N v R A C xs HF.out hk hlt hN hv wr HRr.out (fun r W' => r = true ∧ J (pre ++ [x]) W' ∧ Kr p b R A C xs wr W' ∨ r = false ∧ Jx (pre ++ [x]) W') ?_
        intro j m
        obtain ⟨g1, g2⟩ := drawn_kept hJ hJs j HPr.out HRr.out
        have h1 := hY pre x (wr.drewN j) g1 (by omega)
        unfold entV at h1
        rw [hx, ← hN, ← hv] at h1
        refine yield_wide (YieldAt.mono h1 ?_)
        rintro e W' (⟨rfl, h2, h3⟩ | ⟨rfl, h2⟩)
        · exact ⟨_, rfl, .inl ⟨rfl, h2, g2.trans' h3⟩⟩
        · exact ⟨_, rfl, .inr ⟨rfl, h2⟩⟩)
      clear hN hv hx hlt hpl hJs hk hnx2 hq
      gi_wp2
      refine ⟨trivial, (fun h => by cases h), CT.out.mono ?_⟩
      rintro e W3 ⟨r, rfl, (⟨rfl, hJ3, hk3⟩ | ⟨rfl, hx⟩)⟩
      · dsimp only
        gi_wp2
        go_roundw
        case rel => exact ⟨q + 1, _, HLT.out, by rw [entsOf_snoc, hpre, HX.out, List.range_succ], by have := HN.out; subst this; go_num, hJ3, Lib.hid (hk3.1 HPr.out), Lib.hid (hk3.2 HRr.out)⟩
        case measure => simp [intOf] <;> (have := HN.out; have := HLT.out; omega)
      · dsimp only
        gi_wp2
        refine bodyPost_ret (results_none rfl _ _ _) rfl ?_
        exact ⟨⟨_, rfl⟩, .inr ⟨_, by rw [List.length_append, List.length_singleton, HPL.out, entsOf_snoc, hpre, HX.out, List.range_succ], hx⟩⟩
    · obtain rfl : q = R.l.length := by omega
      have hl1 : ¬ N < NX := by omega
      have hl2 : ¬ (N : Int) < (NX : Int) := by omega
      have HN := Lib.hid hN
      clear hN hnx2 hpl
      gi_wp2
      go_end0
      exact ⟨⟨_, rfl⟩, .inl ⟨pre, hpre, hJs⟩⟩
set_option maxRecDepth 100000 in
set_option maxHeartbeats 2000000 in
theorem back1_in (n k l p b : Nat) (R : Rn) (A : Option Addr) (C : Nat) (xs : List Int) (hf : R.fit k) (hk : k ≤ 1000000) (J Jx : List (Ent R) → World → Prop) (W : World) (hJ : AbidesFrom W.heap.size J)
    (hY : ∀ pre x W, J pre W → pre.length < 4097 → YieldAt Fence.wide (n - 1) Try.prog l (entV R x) W fun e W' =>
      (e = .returned (.bool true) ∧ J (pre ++ [x]) W' ∧ Kr p b R A C xs W W') ∨ (e = .returned (.bool false) ∧ Jx (pre ++ [x]) W'))
    (hp : W.cell? ⟨p, 0, none⟩ = some (.pointer (some ⟨b, 0, none⟩))) (hr : RB W b R A C xs) (h0 : J [] W) :
    CallsIn Fence.wide n Try.prog 43 #[.func (.yield l) #[] #[], .pointer (some ⟨p, 0, none⟩)] W fun e W' => (∃ v, e = .returned v) ∧
      ((∃ ys, entsOf ys = (List.range R.l.length).map (fun j => R.l.length - 1 - j) ∧ J ys W') ∨ (∃ pre, (pre.length ≤ R.l.length ∧ entsOf pre = (List.range pre.length).map (fun j => R.l.length - 1 - j)) ∧ Jx pre W')) := by
  have HP := Lib.hid hp
  have HR := Lib.hid hr
  obtain ⟨c0, c1, c2, c3⟩ := hr.blk.cells
  have hlen : R.l.length ≤ 4096 := by have := hf.len; have := hf.hi; omega
  have hnx : R.first + R.l.length ≤ 1099511627776 + k := hf.next
  obtain ⟨NX, hNX⟩ : ∃ NX, NX = R.next := ⟨_, rfl⟩
  rw [← hNX] at c2
  have HNX : Hid (NX = R.first + R.l.length) := Lib.hid hNX
  have HF := Lib.hid hf
  have hnb : NX ≤ 1099512627776 := by unfold Rn.next at hNX; omega
  clear hr hNX hf
  refine callsIn_of_wp Try.func43 rfl trivial ?_ rfl
  simp only [Try.ntmps43, List.size_toArray, List.length_cons, List.length_nil, Nat.reduceAdd, Nat.reduceSub, Array.replicate_succ, Array.replicate_zero, List.push_toArray, List.append_toArray, List.nil_append, List.cons_append]
  gi_wp2
  clear hp c0 c1 c2 c3
  gi_loopw [4] (fun i wr => ∃ (q : Nat) (pre : List (Ent R)) (m : Int), q ≤ R.l.length ∧ entsOf pre = (List.range q).map (fun j => R.l.length - 1 - j) ∧ i = .int .i64 m ∧ Hid (m = (R.first : Int) + R.l.length - 1 - q) ∧ J pre wr ∧ Hid (wr.cell? ⟨p, 0, none⟩ = some (.pointer (some ⟨b, 0, none⟩))) ∧ Hid (RB wr b R A C xs))
    (fun i _ => (intOf i + 1 - (R.first : Int)).toNat)
  case atStart => exact ⟨0, [], _, Nat.zero_le _, rfl, rfl, Lib.hid (by have := HNX.out; omega), h0, HP, HR⟩
  case round =>
    obtain ⟨q, pre, m, hq, hpre, rfl, HM, hJs, HPr, HRr⟩ := hrel
    have hpl : pre.length = q := by have := congrArg List.length hpre; rw [entsOf_length, List.length_map, List.length_range] at this; exact this
    by_cases hlt : q < R.l.length
    · obtain ⟨N, hN⟩ : ∃ N, N = R.first + (R.l.length - 1 - q) := ⟨_, rfl⟩
      have hm := HM.out
      obtain rfl : m = (N : Int) := by omega
      have hl1 : R.first ≤ N := by omega
      have hl2 : N ≤ 1099512627776 := by omega
      have hl3 : (R.first : Int) ≤ (N : Int) := by omega
      obtain ⟨x, hx⟩ : ∃ x : Ent R, x.1 = R.l.length - 1 - q := ⟨⟨R.l.length - 1 - q, by omega⟩, rfl⟩
      have HX := Lib.hid hx
      obtain ⟨v, hv⟩ : ∃ v, v = R.l.getD (R.l.length - 1 - q) 0 := ⟨_, rfl⟩
      have HN := Lib.hid hN
      have HV := Lib.hid hv
      have hpr := HPr.out
      have HLT := Lib.hid hlt
      have HPL := Lib.hid hpl
      have HJ := Lib.hid hJs
      have HK := Lib.hid hk
      have CT : Hid (CallsIn Fence.wide (n - 1) Try.prog 42 #[.pointer (some ⟨b, 0, none⟩), .int .i64 (N : Int), .func (.yield l) #[] #[]] wr fun e W' => ∃ r, e = .returned (.bool r) ∧ (r = true ∧ J (pre ++ [x]) W' ∧ Kr p b R A C xs wr W' ∨ r = false ∧ Jx (pre ++ [x]) W')) := Lib.hid (by
        refine tell_in (n - 1) l b (R.l.length - 1 - q) k N v R A C xs HF.out hk (by omega) hN hv wr HRr.out (fun r W' => r = true ∧ J (pre ++ [x]) W' ∧ Kr p b R A C xs wr W' ∨ r = false ∧ Jx (pre ++ [x]) W') ?_
        intro j m
        obtain ⟨g1, g2⟩ := drawn_kept hJ hJs j HPr.out HRr.out
        have h1 := hY pre x (wr.drewN j) g1 (by omega)
        unfold entV at h1
        rw [hx, ← hN, ← hv] at h1
        refine yield_wide (YieldAt.mono h1 ?_)
        rintro e W' (⟨rfl, h2, h3⟩ | ⟨rfl, h2⟩)
        · exact ⟨_, rfl, .inl ⟨rfl, h2, g2.trans' h3⟩⟩
        · exact ⟨_, rfl, .inr ⟨rfl, h2⟩⟩)
      clear hN hv hx hlt hpl hJs hk hm hq
      gi_wp2
      refine ⟨trivial, (fun h => by cases h), CT.out.mono ?_⟩
      rintro e W3 ⟨r, rfl, (⟨rfl, hJ3, hk3⟩ | ⟨rfl, hx⟩)⟩
      · dsimp only
        gi_wp2
        go_roundw
        case rel => exact ⟨q + 1, _, _, HLT.out, by rw [entsOf_snoc, hpre, HX.out, List.range_succ, List.map_append]; rfl, rfl, Lib.hid (by have := HN.out; have := HLT.out; omega), hJ3, Lib.hid (hk3.1 HPr.out), Lib.hid (hk3.2 HRr.out)⟩
        case measure => simp [intOf] <;> omega
      · dsimp only
        gi_wp2
        refine bodyPost_ret (results_none rfl _ _ _) rfl ?_
        exact ⟨⟨_, rfl⟩, .inr ⟨_, ⟨by rw [List.length_append, List.length_singleton, HPL.out]; exact HLT.out, by rw [List.length_append, List.length_singleton, HPL.out, entsOf_snoc, hpre, HX.out, List.range_succ, List.map_append]; rfl⟩, hx⟩⟩
    · obtain rfl : q = R.l.length := by omega
      have hm := HM.out
      have hl1 : ¬ (R.first : Int) ≤ m := by omega
      have hl2 : m < (R.first : Int) := by omega
      clear hm hpl
      gi_wp2
      go_end0
      exact ⟨⟨_, rfl⟩, .inl ⟨pre, hpre, hJs⟩⟩
theorem cell_in {W : World} {p i : Nat} {v : Value} (h : W.cell? ⟨p, i, none⟩ = some v) : p < W.heap.size := by
  obtain ⟨o, ho, _⟩ := not_walk_of_cell h
  exact (Array.getElem?_eq_some_iff.1 ho).1
theorem all_stops (n k p b : Nat) (R : Rn) (A : Option Addr) (C : Nat) (xs : List Int) (hf : R.fit k) (hk : k ≤ 1000000) (w : World) (hp : w.cell? ⟨p, 0, none⟩ = some (.pointer (some ⟨b, 0, none⟩))) (hr : RB w b R A C xs) :
    SeqStopsK Fence.wide n Try.prog 41 #[.pointer (some ⟨p, 0, none⟩)] (entV R) (Kr p b R A C xs) (fun ys => entsOf ys = List.range R.l.length) (fun pre => entsOf pre = List.range pre.length) 4097 w := fun l J Jx W hW hJ _ hY h0 =>
  all1_in n k l p b R A C xs hf hk J Jx W hJ hY ((hW.cell (p := ⟨p, 0, none⟩) (cell_in hp)).trans hp) (hr.below hW (Nat.le_refl _)) h0
theorem back_stops (n k p b : Nat) (R : Rn) (A : Option Addr) (C : Nat) (xs : List Int) (hf : R.fit k) (hk : k ≤ 1000000) (w : World) (hp : w.cell? ⟨p, 0, none⟩ = some (.pointer (some ⟨b, 0, none⟩))) (hr : RB w b R A C xs) :
    SeqStopsK Fence.wide n Try.prog 43 #[.pointer (some ⟨p, 0, none⟩)] (entV R) (Kr p b R A C xs) (fun ys => entsOf ys = (List.range R.l.length).map (fun j => R.l.length - 1 - j)) (fun pre => (pre.length ≤ R.l.length ∧ entsOf pre = (List.range pre.length).map (fun j => R.l.length - 1 - j))) 4097 w := fun l J Jx W hW hJ _ hY h0 =>
  back1_in n k l p b R A C xs hf hk J Jx W hJ hY ((hW.cell (p := ⟨p, 0, none⟩) (cell_in hp)).trans hp) (hr.below hW (Nat.le_refl _)) h0
theorem box_new (w : World) (v : Value) (t : TypeId) : (w.alloc (.cells #[v] t)).cell? ⟨w.heap.size, 0, none⟩ = some v := by
  have h1 : (w.alloc (.cells #[v] t)).heap[w.heap.size]? = some (.cells #[v] t) := World.alloc_heap_new w _
  simp only [World.cell?, h1]
  rfl
/-- What All and Back answer: an iterator over a box that holds the ring's place. -/
def Iter (f b : Nat) (w : World) (e : Ending) (w' : World) : Prop :=
  ∃ p, e = .returned (.func (.func f) #[] #[.pointer (some ⟨p, 0, none⟩)]) ∧ w'.cell? ⟨p, 0, none⟩ = some (.pointer (some ⟨b, 0, none⟩)) ∧ w.heap.size ≤ p ∧ Below w.heap.size w w'
theorem all_any (b : Nat) (w : World) :
    Calls Try.prog 39 #[.pointer (some ⟨b, 0, none⟩)] w (Iter 41 b w) := by
  go_enter Try.func39, Try.ntmps39
  go_wp2
  go_ret
  exact ⟨_, rfl, box_new w _ _, Nat.le_refl _, (Below.refl _ _).alloc (Nat.le_refl _) _⟩
theorem back_any (b : Nat) (w : World) :
    Calls Try.prog 40 #[.pointer (some ⟨b, 0, none⟩)] w (Iter 43 b w) := by
  go_enter Try.func40, Try.ntmps40
  go_wp2
  go_ret
  exact ⟨_, rfl, box_new w _ _, Nat.le_refl _, (Below.refl _ _).alloc (Nat.le_refl _) _⟩
end Go.Proofs.Ytjkobejhbgjhlaa
