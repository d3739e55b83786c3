/-
  Own text: Below, walked.
-/
import Derived.Test.YtnffngbkidehfaaNkT
import Derived.Test.YtnffngbkidehfaaNkU
import Derived.Sort.QuietIn
import Derived.Shelf.Abstract
namespace Go.Proofs.Ytnffngbkidehfaa.Nk
open Go.RowKit
attribute [local go_sem] Oper.semAt_some

theorem func_nil19 (f p p2 : Nat) (w : World) : (binOp .eql 157 (.func (.func f) #[] #[.pointer (some ⟨p, 0, none⟩), .pointer (some ⟨p2, 0, none⟩)]) Value.nilFunc).run Try.prog w = .ok (.bool false) w := by kernel_rfl
/-- The first i of those of which a question holds go. -/
def Nl.upto (N : Nl) (p : Int → Bool) (i : Nat) : Nl := N.strike (fun z => p z && decide (z ∈ (N.q.l.take i).map (fun x => x.key)))
theorem Nl.upto_zero (N : Nl) (p : Int → Bool) : N.upto p 0 = N := Nl.strike_none (fun x _ => by simp)
theorem Nl.upto_all (N : Nl) (p : Int → Bool) : N.upto p N.q.l.length = N.strike p := by
  unfold Nl.upto Nl.strike
  dsimp only
  congr 2
  apply List.filter_congr
  intro x hx
  have : x.key ∈ N.q.l.map (fun x => x.key) := List.mem_map.2 ⟨x, hx, rfl⟩
  rw [List.take_of_length_le (Nat.le_refl _), decide_eq_true this, Bool.and_true]
theorem Nl.upto_fit {N : Nl} {j : Nat} (hf : N.fit j) (p : Int → Bool) (i : Nat) : (N.upto p i).fit j := Nl.strike_fit hf _
theorem Nl.upto_step {N : Nl} {j : Nat} (hf : N.fit j) (p : Int → Bool) (i : Nat) (hi : i < N.q.l.length) :
    N.upto p (i + 1) = if p (itAt N.q.l i).key = true then (N.upto p i).stop (itAt N.q.l i).key else N.upto p i := by
  have ht : N.q.l.take (i + 1) = N.q.l.take i ++ [itAt N.q.l i] := (take_snoc (itAt_some hi)).symm
  generalize hk : (itAt N.q.l i).key = k
  have hm : ∀ z, (z ∈ (N.q.l.take (i + 1)).map (fun x => x.key)) ↔ (z ∈ (N.q.l.take i).map (fun x => x.key)) ∨ z = k := by
    intro z
    rw [ht, List.map_append, List.mem_append, List.map_singleton, List.mem_singleton, hk]
  split
  · rename_i hp
    rw [Nl.stop_strike (Nl.upto_fit hf p i)]
    unfold Nl.upto
    rw [Nl.strike_strike]
    congr 1
    funext z
    by_cases hz : z = k
    · subst hz
      rw [hp, decide_eq_true ((hm z).2 (.inr rfl)), decide_eq_true rfl]
      simp
    · rw [decide_eq_false hz, Bool.or_false]
      congr 1
      exact decide_eq_decide.2 ((hm z).trans ⟨fun h => h.resolve_right hz, .inl⟩)
  · rename_i hp
    unfold Nl.upto
    congr 1
    funext z
    by_cases hz : z = k
    · subst hz
      have : p z = false := by simpa using hp
      rw [this]
      rfl
    · congr 1
      exact decide_eq_decide.2 ((hm z).trans ⟨fun h => h.resolve_right hz, .inl⟩)
/-- Between two groups that are looked at. -/
structure BI (w : World) (b s m : Nat) (A : Option Addr) (no : Int) (D : Nat) (N : Nl) (W : World) (A' : Option Addr) (C' : Nat) : Prop where
  ns : NS W b s m A' C' N
  mov : Moved w (A.map Addr.block) (A'.map Addr.block)
  frm : NFr b s m (A.map Addr.block) w W
  away : ∀ k, A'.map Addr.block = some k → k < w.heap.size ∨ D + 2 ≤ k
  one : W.heap[w.heap.size]? = some (Obj.cells #[.pointer (some ⟨b, 0, none⟩)] 59 (0, 0))
  two : W.heap[w.heap.size + 1]? = some (Obj.cells #[.int .u32 no] 28 (0, 0))
  lo : b < w.heap.size ∧ s < w.heap.size ∧ m < w.heap.size ∧ w.heap.size + 2 ≤ D ∧ D ≤ W.heap.size
theorem BI.aside {w : World} {b s m : Nat} {A : Option Addr} {no : Int} {D : Nat} {N : Nl} {W W' : World} {A' : Option Addr} {C' : Nat} (h : BI w b s m A no D N W A' C') (hs : Aside D W W') : BI w b s m A no D N W' A' C' := by
  obtain ⟨l1, l2, l3, l4, l5⟩ := h.lo
  have hk : ∀ k, k < W.heap.size → k < w.heap.size + 2 ∨ D + 2 ≤ k → W'.heap[k]? = W.heap[k]? := fun k h1 h2 => hs.block k h1 (by omega) (by omega)
  refine ⟨NB.keep h.ns (hk b h.ns.blk.lt (by omega)) (hk s h.ns.set.blk.lt (by omega)) (hk m h.ns.map.lt (by omega)) (fun g hg => hk g (h.ns.set.lt g hg) (by have := h.away g hg; omega)), h.mov, ?_, h.away, (hk _ (by omega) (by omega)).trans h.one, (hk _ (by omega) (by omega)).trans h.two, l1, l2, l3, l4, Nat.le_trans l5 hs.size⟩
  exact ⟨hs.os.trans h.frm.os, hs.tape.trans h.frm.tape, hs.output.trans h.frm.output, Nat.le_trans h.frm.size hs.size, fun k h1 h2 h3 h4 h5 => (hk k (Nat.lt_of_lt_of_le h1 h.frm.size) (by omega)).trans (h.frm.block k h1 h2 h3 h4 h5)⟩
/-- A call on the list, in such a round. -/
theorem BI.call {w : World} {b s m : Nat} {A : Option Addr} {no : Int} {D : Nat} {N N2 : Nl} {W W' : World} {A' : Option Addr} {C' : Nat} (h : BI w b s m A no D N W A' C') (hD : D + 2 ≤ W.heap.size) (ht : NTo W b s m A' N2 W') :
    (∃ A2 C2, BI w b s m A no D N2 W' A2 C2) ∧ W.heap.size ≤ W'.heap.size ∧ ∀ k, w.heap.size ≤ k → k < D + 2 → W'.heap[k]? = W.heap[k]? := by
  obtain ⟨l1, l2, l3, l4, l5⟩ := h.lo
  obtain ⟨A2, C2, h1, h2, h3⟩ := ht
  have hk : ∀ k, w.heap.size ≤ k → k < D + 2 → W'.heap[k]? = W.heap[k]? := fun k k1 k2 => h3.block k (by omega) (by omega) (by omega) (by omega) (fun e => by have := h.away k e.symm; omega)
  refine ⟨⟨A2, C2, h1, h.mov.trans h.frm.size h2, h.frm.then_ h.mov h3, fun k hk2 => ?_, (hk _ (Nat.le_refl _) (by omega)).trans h.one, (hk _ (Nat.le_succ _) (by omega)).trans h.two, l1, l2, l3, l4, Nat.le_trans l5 h3.size⟩, h3.size, hk⟩
  rcases h2 with e | e
  · exact h.away k (by rw [← e]; exact hk2)
  · have := e k hk2; omega
theorem ItC.keep {p p2 n C : Nat} {now : Int} {A : Option Addr} {l : List It} {W W' : World} (h : ItC p p2 now A n C l W) (h1 : W'.heap[p]? = W.heap[p]?) (h2 : W'.heap[p2]? = W.heap[p2]?) (h3 : ∀ g, A.map Addr.block = some g → W'.heap[g]? = W.heap[g]?) : ItC p p2 now A n C l W' :=
  ⟨(World.cell?_of_block (a := ⟨p, 0, none⟩) h1).trans h.1, (World.cell?_of_block (a := ⟨p2, 0, none⟩) h2).trans h.2.1, h.2.2.keep (fun g hg => h3 g (by rw [own_block] at hg; exact hg))⟩
set_option maxRecDepth 100000 in
set_option maxHeartbeats 1000000 in
theorem nbelow_any (no : Int) (hno : 0 ≤ no ∧ no ≤ 4294967295) (b s m : Nat) (A : Option Addr) (C j : Nat) (N : Nl) (hf : N.fit j) (_hj : j ≤ 1000000) (w : World) (h : NS w b s m A C N) :
    Calls Try.prog 57 #[.pointer (some ⟨b, 0, none⟩), .int .u32 no] w fun e w' => e = .returned (.int .i64 ((N.q.l.length : Int) - ((N.strike (fun z => decide (behindZ z no < 0))).q.l.length : Int))) ∧ Hid (NTo w b s m A (N.strike (fun z => decide (behindZ z no < 0))) w') := by
  obtain ⟨pz, hpz⟩ : ∃ pz : Int → Bool, pz = fun z => decide (behindZ z no < 0) := ⟨_, rfl⟩
  have HPZ : Hid (∀ z, pz z = decide (behindZ z no < 0)) := Lib.hid (fun z => by rw [hpz])
  rw [← hpz]
  obtain ⟨fl, hfl⟩ : ∃ fl, fl = (N.strike pz).q.l.length := ⟨_, rfl⟩
  rw [← hfl]
  have HFL : Hid ((N.strike pz).q.l.length = fl) := Lib.hid hfl.symm
  clear hpz hfl
  obtain ⟨W, hW⟩ : ∃ W, W = (w.alloc (.cells #[.pointer (some ⟨b, 0, none⟩)] 59)).alloc (.cells #[.int .u32 no] 28) := ⟨_, rfl⟩
  have hn : N.q.l.length ≤ 1000 := by have := hf.q.len; have := hf.room; omega
  have hbW : Below w.heap.size w W := by rw [hW]; exact ((Below.refl _ _).alloc (Nat.le_refl _) _).alloc (by simp) _
  have hsW : W.heap.size = w.heap.size + 2 := by rw [hW]; simp
  have h1W : W.heap[w.heap.size]? = some (.cells #[.pointer (some ⟨b, 0, none⟩)] 59 (0, 0)) := by
    rw [hW]; exact (Below.heap_alloc _ _ _ (by simp)).trans (Go.Deep.blk_alloc_new w _)
  have h2W : W.heap[w.heap.size + 1]? = some (.cells #[.int .u32 no] 28 (0, 0)) := by
    rw [hW]
    have := Go.Deep.blk_alloc_new (w.alloc (.cells #[.pointer (some ⟨b, 0, none⟩)] 59)) (.cells #[.int .u32 no] 28)
    simpa using this
  have hNW : NS W b s m A C N := NB.below h hbW (Nat.le_refl _)
  obtain ⟨c0, c1, c2, c3⟩ := hNW.blk.cells
  have d0 := (blk_cell h1W).1
  have d1 := (blk_cell h2W).1
  have CL := Lib.hid (nlen_any b s m C N.asked N.full N.q.l.length A N.q N.has N.t W hNW)
  have CA := Lib.hid (all_any s N.q A C hn W hNW.set)
  have HW := Lib.hid hW
  have hro : Fence.wide.round = none := rfl
  obtain ⟨n, hN⟩ : ∃ n, n = N.q.l.length := ⟨_, rfl⟩
  have HNN := Lib.hid hN
  rw [← hN] at CL ⊢
  clear hW hN
  refine (callsIn_wide (n := 3)).1 ?_
  refine callsIn_of_wp_marks Try.func57 rfl trivial ?_ hro
  simp only [Try.ntmps57, List.size_toArray, List.length_cons, List.length_nil, Nat.reduceAdd, Nat.reduceSub, Array.replicate_succ, Array.replicate_zero, List.push_toArray, List.append_toArray, List.nil_append, List.cons_append]
  rw [wpIn_wide]
  go_upto_region 1 with fail
  rw [← HW.out]
  go_wp2_with (first
    | (go_at_call 27; (with_reducible refine (CL.out).mono ?_); rintro e w1 ⟨rfl, rfl⟩)
    | (go_at_call 83; (with_reducible refine (CA.out).mono ?_); rintro e w4 ⟨p, p2, A4, C4, rfl, HI4⟩; have fnp := func_nil19 103 p p2)
    | fail)
  obtain ⟨hbx, hnb, how, hbel, hlo1, hlo2⟩ := HI4.out
  have HN1000 : Hid (n ≤ 1000) := Lib.hid (by rw [HNN.out]; exact hn)
  have HIC : Hid (ItC p p2 N.q.now A4 n C4 N.q.l w4) := Lib.hid ⟨by rw [HNN.out]; exact hbx, hnb, by rw [HNN.out]; exact how.low (Nat.zero_le _)⟩
  have HLO : Hid (∀ k, (k = p ∨ k = p2 ∨ A4.map Addr.block = some k) → w.heap.size ≤ k ∧ k < w4.heap.size) := Lib.hid (fun k hk => by
    rcases hk with rfl | rfl | hk
    · exact ⟨by omega, cell_in hbx⟩
    · exact ⟨by omega, cell_in hnb⟩
    · have := how.lt k (by rw [own_block]; exact hk)
      omega)
  have hB0 : BI w b s m A no w4.heap.size N w4 A C := by
    refine ⟨NB.below hNW hbel (Nat.le_refl _), .inl rfl, ?_, fun k hk => .inl (h.set.lt k hk), ?_, ?_, h.blk.lt, h.set.blk.lt, h.map.lt, by have := hbel.size; omega, Nat.le_refl _⟩
    · exact NFr.of_below (hbW.trans (hbel.mono (by omega)))
    · exact (hbel.block _ (by omega)).trans h1W
    · exact (hbel.block _ (by omega)).trans h2W
  have HB0 := Lib.hid hB0
  have HYS := Lib.hid (all1_yields 2 p p2 n C4 N.q.now A4 N.q.l HNN.out HN1000.out hf.q.due hf.q.now0 hf.q.now1)
  have HKEY : Hid (∀ i, i < n → 0 ≤ (itAt N.q.l i).key ∧ (itAt N.q.l i).key ≤ 4294967295) := Lib.hid (fun i hi => hf.key _ (List.mem_of_getElem? (itAt_some (by rw [← HNN.out]; exact hi))))
  have HST : Hid (∀ i, i < n → N.upto pz (i + 1) = if behindZ (itAt N.q.l i).key no < 0 then (N.upto pz i).stop (itAt N.q.l i).key else N.upto pz i) := Lib.hid (fun i hi => by
    rw [Nl.upto_step hf _ i (by rw [← HNN.out]; exact hi), HPZ.out]
    by_cases hz : behindZ (itAt N.q.l i).key no < 0
    · rw [if_pos hz, if_pos (decide_eq_true hz)]
    · rw [if_neg hz, if_neg (by rw [decide_eq_false hz]; decide)])
  have HFIT : Hid (∀ i, (N.upto pz i).fit j) := Lib.hid (fun i => Nl.upto_fit hf _ i)
  have HZERO := Lib.hid (N.upto_zero pz)
  have HALLN : Hid (N.upto pz n = N.strike pz) := Lib.hid (by rw [HNN.out]; exact N.upto_all _)
  have HNO := Lib.hid hno
  have HLEN : Hid ((N.strike pz).q.l.length ≤ 1000) := Lib.hid (Nat.le_trans (List.length_filter_le _ _) hn)
  clear hbx hnb how hbel hlo1 hlo2 hB0 HI4 hNW h1W h2W hbW hsW c0 c1 c2 c3 d0 d1 h hf hn
  have hDW : Hid (w.heap.size + 2 ≤ w4.heap.size) := Lib.hid HB0.out.lo.2.2.2.1
  refine (wpIn_wide (n := 3)).1 ?_
  refine wpIn_range_j hro (by omega) (gf := 103) (lb := #[.pointer (some ⟨p, 0, none⟩), .pointer (some ⟨p2, 0, none⟩)]) rfl trivial (enters_of Try.func103 (by kernel_rfl) rfl) (N := n) (enc := encT N.q.now N.q.l) (C := ItC p p2 N.q.now A4 n C4 N.q.l) HYS.out (fun _ => rfl)
    (fun A B h hb => h.below hb) (fun A l r o h hl => h.obj hl rfl)
    (fun i W => ∃ A' C', BI w b s m A no w4.heap.size (N.upto pz i) W A' C') (fun i A B h hs => by obtain ⟨A', C', h⟩ := h; exact ⟨A', C', h.aside hs⟩)
    ⟨A, C, by rw [HZERO.out]; exact HB0.out⟩ HIC.out
    (fun i => { tmps := #[.pointer (some ⟨b, 0, none⟩), .int .u32 no, .pointer (some ⟨w.heap.size, 0, none⟩), .pointer (some ⟨w.heap.size + 1, 0, none⟩), .int .i64 0, .int .i64 n, .int .u32 (itAt N.q.l i).key, .pointer (some ⟨b, 0, none⟩), .int .i64 n, .pointer (some ⟨b, 0, none⟩), .pointer (some ⟨b, 0, none⟩), .pointer (some ⟨b, 0, none⟩), .pointer (some ⟨s, 0, none⟩),
      .func (.func 103) #[] #[.pointer (some ⟨p, 0, none⟩), .pointer (some ⟨p2, 0, none⟩)], .int .u32 (itAt N.q.l i).key, .int .i64 ((itAt N.q.l i).due - N.q.now), undef, undef, undef, undef, undef, undef, undef, undef, undef, undef, undef], defers := [] }) ?assign ?body ?done
  case assign =>
    intro l i W K hK
    dsimp only [encT] at hK ⊢
    gi_wp2
    exact hK
  case body =>
    rintro l0 i W hi ⟨A', C', hB⟩ hC hD _ _
    have hb1 := (blk_cell hB.one).1
    have hb2 := (blk_cell hB.two).1
    have HK := Lib.hid (HKEY.out i hi)
    have HSTI := Lib.hid (HST.out i hi)
    have HBH : Hid (∀ W, Calls Try.prog 72 #[.int .u32 (itAt N.q.l i).key, .int .u32 no] W fun e w' => e = .returned (.int .i64 (behindZ (itAt N.q.l i).key no)) ∧ W = w') := Lib.hid (fun W => behind_any _ _ W)
    have CS := Lib.hid (nstop_any (itAt N.q.l i).key HK.out b s m A' C' j (N.upto pz i) (HFIT.out i) W hB.ns)
    have HCALL : Hid (∀ W', NTo W b s m A' ((N.upto pz i).stop (itAt N.q.l i).key) W' → (∃ A2 C2, BI w b s m A no w4.heap.size ((N.upto pz i).stop (itAt N.q.l i).key) W' A2 C2) ∧ ItC p p2 N.q.now A4 n C4 N.q.l W' ∧ W.heap.size ≤ W'.heap.size ∧ W'.heap[w4.heap.size]? = W.heap[w4.heap.size]? ∧ W'.heap[w4.heap.size + 1]? = W.heap[w4.heap.size + 1]?) := Lib.hid (fun W' ht => by
      obtain ⟨x1, x2, x3⟩ := hB.call hD ht
      have hx := hDW.out
      exact ⟨x1, hC.keep (by have := HLO.out p (.inl rfl); exact x3 p (by omega) (by omega)) (by have := HLO.out p2 (.inr (.inl rfl)); exact x3 p2 (by omega) (by omega)) (fun g hg => by have := HLO.out g (.inr (.inr hg)); exact x3 g (by omega) (by omega)), x2, x3 _ (by omega) (by omega), x3 _ (by omega) (by omega)⟩)
    have HKEEP : Hid ((∃ A2 C2, BI w b s m A no w4.heap.size (N.upto pz i) W A2 C2) ∧ ItC p p2 N.q.now A4 n C4 N.q.l W) := Lib.hid ⟨⟨A', C', hB⟩, hC⟩
    clear hB hC hD
    generalize behindZ (itAt N.q.l i).key no = bz at *
    generalize (itAt N.q.l i).key = k at *
    generalize (itAt N.q.l i).due - N.q.now = dz at *
    by_cases hbz : bz < 0
    · have HE : Hid (N.upto pz (i + 1) = (N.upto pz i).stop k) := Lib.hid (by have := HSTI.out; rwa [if_pos hbz] at this)
      gi_wp2_with (first
        | (refine ⟨trivial, ?_⟩; gi_at_call 72; refine (CallsIn.inRound l0 (callsIn_wide.2 (HBH.out W))).mono ?_; rintro e W1 ⟨rfl, rfl⟩)
        | (refine ⟨trivial, ?_⟩; gi_at_call 28; refine (CallsIn.inRound l0 (callsIn_wide.2 CS.out)).mono ?_; rintro e W2 ⟨rfl, ht⟩; have HC2 := Lib.hid (HCALL.out W2 ht.out))
        | fail)
      obtain ⟨x1, x2, x3, x4, x5⟩ := HC2.out
      refine ⟨?_, x2, x3, x4, x5⟩
      show ∃ A' C', BI w b s m A no w4.heap.size (N.upto pz (i + 1)) W2 A' C'
      rw [HE.out]
      exact x1
    · have HE : Hid (N.upto pz (i + 1) = N.upto pz i) := Lib.hid (by have := HSTI.out; rwa [if_neg hbz] at this)
      gi_wp2_with (first
        | (refine ⟨trivial, ?_⟩; gi_at_call 72; refine (CallsIn.inRound l0 (callsIn_wide.2 (HBH.out W))).mono ?_; rintro e W1 ⟨rfl, rfl⟩)
        | fail)
      obtain ⟨x1, x2⟩ := HKEEP.out
      refine ⟨?_, x2, Nat.le_refl _, rfl, rfl⟩
      show ∃ A' C', BI w b s m A no w4.heap.size (N.upto pz (i + 1)) W A' C'
      rw [HE.out]
      exact x1
  case done =>
    rintro W ⟨A', C', hB⟩ hD hK
    rw [HALLN.out] at hB
    have hb1 := (blk_cell hB.one).1
    have hns := hB.ns
    have CL2 := Lib.hid (nlen_any b s m C' _ _ _ A' _ _ _ W hns)
    rw [HFL.out] at CL2
    have HBB := Lib.hid hB
    have HK1 := Lib.hid hK
    have i1 : (n : Int) ≤ 1000 := by have := HN1000.out; omega
    have i2 : (fl : Int) ≤ 1000 := by have := HLEN.out; rw [HFL.out] at this; omega
    clear hB hns hD hK
    dsimp only
    go_wp2_with (first
      | (go_at_call 27; (with_reducible refine (CL2.out).mono ?_); rintro e W1 ⟨rfl, rfl⟩)
      | fail)
    refine ⟨by simp, .inl ⟨_, _, rfl, run_takeDeferred HK1.out, ?_⟩⟩
    have hB2 := HBB.out.aside (Aside.put0 (D := w4.heap.size) W1 (.deferred none))
    refine ⟨.int .i64 ((n : Int) - (fl : Int)), ?_, rfl, Lib.hid ⟨A', C', hB2.ns, hB2.mov, hB2.frm⟩⟩
    simp [results, Try.results57, go_sem]
end Go.Proofs.Ytnffngbkidehfaa.Nk
