/-
  Own text: the law's numbers, walked; its same, walked.
-/
import Derived.Test.YtnffngbkidehfaaNkDf
import Derived.Test.YtnffngbkidehfaaRoundQ
import Derived.Sort.CutIn
namespace Go.Proofs.Ytnffngbkidehfaa.Nk
open Go.RowKit
attribute [local go_sem] Oper.semAt_some

set_option maxRecDepth 100000 in
theorem numbers19_any (A : Option Addr) (C : Nat) (A' : Option Addr) (C' n : Nat) (l : List Int) (hn : n ≤ 1000) (w : World) (h : OwnW w 0 (.slice A n C) n l) (h' : OwnW w 0 (.slice A' n C') n l) :
    Calls Try.prog 59 #[.slice A n C, .slice A' n C'] w fun e w' => e = .returned (.bool true) ∧ Below w.heap.size w w' := by
  have HALL : Hid (∀ w', Below w.heap.size w w' → OwnW w' 0 (.slice A n C) n l ∧ OwnW w' 0 (.slice A' n C') n l) := Lib.hid (fun w' hb => ⟨h.below hb (Nat.le_refl _), h'.below hb (Nat.le_refl _)⟩)
  have n1 : (n : Int) ≤ 1000 := by omega
  have nn : ((n : Int) != (n : Int)) = false := by simp
  clear h h'
  go_enter Try.func59, Try.ntmps59
  go_wp2
  go_loopw [5] (fun i wr => ∃ q : Nat, q ≤ n ∧ i = .int .i64 (q : Int) ∧ Hid (Below w.heap.size w wr)) (fun i _ => n - (intOf i).toNat)
  case atStart => exact ⟨0, Nat.zero_le _, rfl, Lib.hid (Below.refl _ _)⟩
  case round =>
    obtain ⟨q, hq, rfl, HB⟩ := hrel
    by_cases hlt : q < n
    · obtain ⟨ho, ho'⟩ := HALL.out wr HB.out
      obtain ⟨g, rfl, _, _, c0, _⟩ := ho.at_ q hlt
      obtain ⟨g', rfl, _, _, c1, _⟩ := ho'.at_ q hlt
      have k1 : (q : Int) < (n : Int) := by omega
      generalize l.getD q 0 = z at *
      have zz : (z != z) = false := by simp
      have HLT := Lib.hid hlt
      clear ho ho'
      go_upto_region 6 with fail
      go_quiet (fail)
      go_wp2
      go_roundw
      case rel => exact ⟨q + 1, HLT.out, by go_num, Lib.hid (below_drewN HB.out _)⟩
      case measure => simp [intOf] <;> (have := HLT.out; omega)
    · obtain rfl : q = n := by omega
      go_wp2
      go_ret
      exact ⟨rfl, HB.out⟩
theorem func_nil19b (f p p2 : Nat) (w : World) : (binOp .eql 160 (.func (.func f) #[] #[.pointer (some ⟨p, 0, none⟩), .pointer (some ⟨p2, 0, none⟩)]) Value.nilFunc).run Try.prog w = .ok (.bool false) w := by kernel_rfl
/-- Between two that are looked at: the count's box alone has turned. -/
structure SI (w6 : World) (kb i : Nat) (W : World) : Prop where
  grown : w6.grownBy W (some kb)
  box : W.heap[kb]? = some (Obj.cells #[.int .i64 (i : Int)] 3 (0, 0))
theorem SI.aside {w6 : World} {kb i : Nat} {W W' : World} (h : SI w6 kb i W) (hkb : kb < w6.heap.size) (hs : Aside w6.heap.size W W') : SI w6 kb i W' := by
  have hsz := h.grown.size
  refine ⟨⟨hs.os.trans h.grown.os, hs.tape.trans h.grown.tape, hs.output.trans h.grown.output, Nat.le_trans hsz hs.size, fun k hk hr => (hs.block k (by omega) (by omega) (by omega)).trans (h.grown.block k hk hr)⟩, (hs.block kb (by omega) (by omega) (by omega)).trans h.box⟩
theorem SI.next {w6 : World} {kb i : Nat} {W : World} (h : SI w6 kb i W) (nq : Nat) : SI w6 kb (i + 1) ((W.drewN nq).setCell ⟨kb, 0, none⟩ (.int .i64 ((i : Int) + 1))) := by
  refine ⟨⟨h.grown.os, h.grown.tape, h.grown.output, by simpa using h.grown.size, fun k hk hr => (Below.heap_setCell (W.drewN nq) ⟨kb, 0, none⟩ _ k (fun e => hr (by rw [show k = kb from e]))).trans (h.grown.block k hk hr)⟩, ?_⟩
  have : (W.drewN nq).heap[kb]? = some (Obj.cells #[.int .i64 (i : Int)] 3 (0, 0)) := h.box
  have h2 := set_blk this (.int .i64 ((i : Int) + 1))
  rw [show ((i + 1 : Nat) : Int) = (i : Int) + 1 by omega]
  exact h2
set_option maxRecDepth 100000 in
set_option maxHeartbeats 1000000 in
theorem same19_any (b s m : Nat) (A : Option Addr) (C j : Nat) (N : Nl) (hf : N.fit j) (_hj : j ≤ 1000000) (B : Nat) (A2 : Option Addr) (C2 : Nat) (w : World) (h : NS w b s m A C N) (hd : DL w B A2 N.q.l.length C2 N.ref) :
    Calls Try.prog 60 #[.pointer (some ⟨b, 0, none⟩), NV N A2 C2] w fun e w' => e = .returned (.bool true) ∧ Below w.heap.size w w' := by
  have hn : N.q.l.length ≤ 64 := by have := hf.q.len; have := hf.room; omega
  obtain ⟨W, hW⟩ : ∃ W, W = (w.alloc (.cells #[.int .i64 (N.q.room : Int), .int .i64 (N.asked : Int), .int .i64 (N.full : Int), .slice A2 N.q.l.length C2] 62)).alloc (.cells #[.bool false] 4) := ⟨_, rfl⟩
  have hb : Below w.heap.size w W := by rw [hW]; exact ((Below.refl _ _).alloc (Nat.le_refl _) _).alloc (by simp) _
  have hs : W.heap.size = w.heap.size + 2 := by rw [hW]; simp
  have hx : DBx W w.heap.size N.q.room N.asked N.full (.slice A2 N.q.l.length C2) := by rw [hW]; exact (DBx.new w _ _ _ _).keep (Below.heap_alloc _ _ _ (by simp))
  have hr : W.heap[w.heap.size + 1]? = some (Obj.cells #[.bool false] 4 (0, 0)) := by
    rw [hW]
    have := Go.Deep.blk_alloc_new (w.alloc (.cells #[.int .i64 (N.q.room : Int), .int .i64 (N.asked : Int), .int .i64 (N.full : Int), .slice A2 N.q.l.length C2] 62)) (.cells #[.bool false] 4)
    simpa using this
  have hNW : NS W b s m A C N := NB.below h hb (Nat.le_refl _)
  have hDW : DL W B A2 N.q.l.length C2 N.ref := hd.below hb (Nat.le_refl _)
  obtain ⟨n, hN⟩ : ∃ n, n = N.q.l.length := ⟨_, rfl⟩
  have HNN := Lib.hid hN
  have CL : Hid (∀ w', Below W.heap.size W w' → Calls Try.prog 27 #[.pointer (some ⟨b, 0, none⟩)] w' fun e w1 => e = .returned (.int .i64 (n : Int)) ∧ Below W.heap.size W w1) := Lib.hid (fun w' hb => (nlen_any b s m C N.asked N.full N.q.l.length A N.q N.has N.t w' (NB.below hNW hb (Nat.le_refl _))).mono fun _ _ hh => ⟨by rw [hh.1, HNN.out], by rw [hh.2]; exact hb⟩)
  have CK : Hid (∀ w', Below W.heap.size W w' → Calls Try.prog 84 #[.pointer (some ⟨b, 0, none⟩)] w' fun e w1 => e = .returned (.int .i64 (N.asked : Int)) ∧ Below W.heap.size W w1) := Lib.hid (fun w' hb => (asked_any b s m N.asked N.full w' (NB.below hNW hb (Nat.le_refl _)).blk).mono fun _ _ hh => ⟨hh.1, by rw [hh.2]; exact hb⟩)
  have CF : Hid (∀ w', Below W.heap.size W w' → Calls Try.prog 85 #[.pointer (some ⟨b, 0, none⟩)] w' fun e w1 => e = .returned (.int .i64 (N.full : Int)) ∧ Below W.heap.size W w1) := Lib.hid (fun w' hb => (full_any b s m N.asked N.full w' (NB.below hNW hb (Nat.le_refl _)).blk).mono fun _ _ hh => ⟨hh.1, by rw [hh.2]; exact hb⟩)
  have CA : Hid (∀ w', Below W.heap.size W w' → Calls Try.prog 86 #[.pointer (some ⟨b, 0, none⟩)] w' (NIter w' N.ks N.vs n)) := Lib.hid (fun w' hb => by rw [HNN.out]; exact nall_any b s m A C j N hf w' (NB.below hNW hb (Nat.le_refl _)))
  have HALL : Hid (∀ w', Below W.heap.size W w' → DBx w' w.heap.size N.q.room N.asked N.full (.slice A2 n C2) ∧ w'.heap[w.heap.size + 1]? = some (Obj.cells #[.bool false] 4 (0, 0)) ∧ DL w' B A2 n C2 N.ref ∧ Below w.heap.size w w') := Lib.hid (fun w' hb2 => by
    rw [HNN.out]
    exact ⟨hx.below hb2 hx.lt, (hb2.block _ (by omega)).trans hr, hDW.below hb2 (Nat.le_refl _), hb.trans (hb2.mono (by omega))⟩)
  have HW := Lib.hid hW
  have HS := Lib.hid hs
  have HN64 : Hid (n ≤ 64) := Lib.hid (by omega)
  have HIT : Hid (∀ i, i < n → N.ref[i]? = some ⟨(itAt N.q.l i).key, (itAt N.q.l i).due - N.q.now, N.t (itAt N.q.l i).key⟩) := Lib.hid (fun i hi => by
    unfold Nl.ref
    rw [List.getElem?_map, itAt_some (by rw [← HNN.out]; exact hi)]
    rfl)
  have hro : Fence.wide.round = none := rfl
  have n1 : (n : Int) ≤ 64 := by omega
  have e1 : ((n : Int) != (n : Int)) = false := by simp
  have e2 : ((N.asked : Int) != (N.asked : Int)) = false := by simp
  have e3 : ((N.full : Int) != (N.full : Int)) = false := by simp
  unfold NV
  rw [← hN] at HW ⊢
  clear hW hb hs hx hr hNW hDW h hd hf _hj hn hN
  generalize (N.asked : Int) = ak at *
  generalize (N.full : Int) = fl at *
  generalize (N.q.room : Int) = rm at *
  refine (callsIn_wide (n := 3)).1 ?_
  refine callsIn_of_wp_marks Try.func60 rfl trivial ?_ hro
  simp only [Try.ntmps60, List.size_toArray, List.length_cons, List.length_nil, Nat.reduceAdd, Nat.reduceSub, Array.replicate_succ, Array.replicate_zero, List.push_toArray, List.append_toArray, List.nil_append, List.cons_append]
  rw [wpIn_wide]
  go_upto_region 1 with fail
  rw [← HW.out]
  refine (wpIn_wide (n := 3)).1 ?_
  refine wpIn_class (fun w' => Below W.heap.size W w') (Below.refl _ _).drew rfl (by kernel_rfl) (by kernel_rfl) ?_
  (refine wpQuietIn_step (fun _ _ _ _ => trivial) (fun K hK => ?_); go_simp; refine ⟨_, fun _ _ => rfl, hK _ ?_⟩; clear hK K)
  (refine wpQuietIn_step (fun _ _ _ _ => trivial) (fun K hK => ?_); go_simp; refine ⟨.int .i64 (n : Int), fun w' hw => callsIn_wide.2 (CL.out w' hw), hK _ ?_⟩; clear hK K)
  (refine wpQuietIn_step (fun _ _ _ _ => trivial) (fun K hK => ?_); go_simp; refine ⟨_, fun _ _ => rfl, hK _ ?_⟩; clear hK K)
  refine wpQ_readw (.slice A2 n C2) (fun _ _ _ _ => trivial) rfl (fun w' hw => ?_) ?_
  · obtain ⟨c0, c1, c2, c3⟩ := (HALL.out w' hw).1.cells
    unfold Oper.quietAtIn
    go_simp
  simp only [Act.put, List.setIfInBounds_toArray, List.set_cons_zero, List.set_cons_succ]
  iterate 4 (refine wpQuietIn_step (fun _ _ _ _ => trivial) (fun K hK => ?_); go_simp; refine ⟨_, fun _ _ => rfl, hK _ ?_⟩; clear hK K)
  (refine wpQuietIn_step (fun _ _ _ _ => trivial) (fun K hK => ?_); go_simp; refine ⟨.int .i64 ak, fun w' hw => callsIn_wide.2 (CK.out w' hw), hK _ ?_⟩; clear hK K)
  (refine wpQuietIn_step (fun _ _ _ _ => trivial) (fun K hK => ?_); go_simp; refine ⟨_, fun _ _ => rfl, hK _ ?_⟩; clear hK K)
  refine wpQ_readw (.int .i64 ak) (fun _ _ _ _ => trivial) rfl (fun w' hw => ?_) ?_
  · obtain ⟨c0, c1, c2, c3⟩ := (HALL.out w' hw).1.cells
    unfold Oper.quietAtIn
    go_simp
  simp only [Act.put, List.setIfInBounds_toArray, List.set_cons_zero, List.set_cons_succ]
  iterate 4 (refine wpQuietIn_step (fun _ _ _ _ => trivial) (fun K hK => ?_); go_simp; refine ⟨_, fun _ _ => rfl, hK _ ?_⟩; clear hK K)
  (refine wpQuietIn_step (fun _ _ _ _ => trivial) (fun K hK => ?_); go_simp; refine ⟨.int .i64 fl, fun w' hw => callsIn_wide.2 (CF.out w' hw), hK _ ?_⟩; clear hK K)
  (refine wpQuietIn_step (fun _ _ _ _ => trivial) (fun K hK => ?_); go_simp; refine ⟨_, fun _ _ => rfl, hK _ ?_⟩; clear hK K)
  refine wpQ_readw (.int .i64 fl) (fun _ _ _ _ => trivial) rfl (fun w' hw => ?_) ?_
  · obtain ⟨c0, c1, c2, c3⟩ := (HALL.out w' hw).1.cells
    unfold Oper.quietAtIn
    go_simp
  simp only [Act.put, List.setIfInBounds_toArray, List.set_cons_zero, List.set_cons_succ]
  iterate 2 (refine wpQuietIn_step (fun _ _ _ _ => trivial) (fun K hK => ?_); go_simp; refine ⟨_, fun _ _ => rfl, hK _ ?_⟩; clear hK K)
  refine wpQuietIn_nil ?_
  rintro w3 hw3
  have H3 := Lib.hid hw3
  clear hw3
  gi_wp2
  go_wp2_with (first
    | (go_at_call 86; (with_reducible refine (CA.out _ H3.out).mono ?_); rintro e w5 ⟨p1, p2, A3, C3, A4, C4, rfl, HC5, HB5⟩; have fnp := func_nil19b 104 p1 p2)
    | fail)
  have hb6 : Below w5.heap.size w5 (w5.alloc (.cells #[.int .i64 0] 3)) := (Below.refl _ _).alloc (Nat.le_refl _) _
  have hs6 : (w5.alloc (.cells #[.int .i64 0] 3)).heap.size = w5.heap.size + 1 := by simp
  have HC6 := Lib.hid (HC5.out.below hb6)
  have hk6 : (w5.alloc (.cells #[.int .i64 0] 3)).heap[w5.heap.size]? = some (Obj.cells #[.int .i64 ((0 : Nat) : Int)] 3 (0, 0)) := Go.Deep.blk_alloc_new w5 _
  have HW6 : Hid (Below W.heap.size W (w5.alloc (.cells #[.int .i64 0] 3))) := Lib.hid ((H3.out.trans (HB5.out.mono H3.out.size)).trans (hb6.mono (Nat.le_trans H3.out.size HB5.out.size)))
  have HW5 : Hid (W.heap.size ≤ w5.heap.size) := Lib.hid (Nat.le_trans H3.out.size HB5.out.size)
  have HLTC : Hid (∀ k, (k = p1 ∨ k = p2 ∨ A3.map Addr.block = some k ∨ A4.map Addr.block = some k) → k < w5.heap.size) := Lib.hid (fun k hk => by
    rcases hk with rfl | rfl | hk | hk
    · exact cell_in HC5.out.one
    · exact cell_in HC5.out.two
    · exact (HC5.out.ks.lt k (by rw [own_block]; exact hk)).2
    · exact (HC5.out.vs.lt k (by rw [own_block]; exact hk)).2)
  have HYS := Lib.hid (nall1_yields 2 p1 p2 n C3 C4 A3 A4 N HNN.out (by have := HN64.out; omega))
  obtain ⟨kb, hkb⟩ : ∃ kb, kb = w5.heap.size := ⟨_, rfl⟩
  rw [← hkb] at hk6 HLTC HW5 hs6 ⊢
  clear hb6 hkb HC5 HB5 H3 CA CL CK CF
  generalize w5.alloc (.cells #[.int .i64 0] 3) = w6 at *
  have HSI0 : Hid (SI w6 kb 0 w6) := Lib.hid ⟨grown_refl _ _, hk6⟩
  have HKB : Hid (kb < w6.heap.size) := Lib.hid (by omega)
  have HSIW : Hid (∀ i W', SI w6 kb i W' → DBx W' w.heap.size rm ak fl (.slice A2 n C2) ∧ W'.heap[w.heap.size + 1]? = some (Obj.cells #[.bool false] 4 (0, 0)) ∧ DL W' B A2 n C2 N.ref ∧ Below w.heap.size w W') := Lib.hid (fun i W' h => by
    refine HALL.out W' ?_
    have h1 := HW6.out
    have h2 := h.grown
    have h3 := HW5.out
    exact below_grown h1 h2 (by have := h1.size; omega) (fun k e => by cases e; exact h3))
  clear hk6 HW6 HALL hs6
  refine (wpIn_wide (n := 3)).1 ?_
  refine wpIn_range_j hro (by omega) (gf := 104) (lb := #[.pointer (some ⟨p1, 0, none⟩), .pointer (some ⟨p2, 0, none⟩)]) rfl trivial (enters_of Try.func104 (by kernel_rfl) rfl) (N := n) (enc := encN N.q.l N.t) (C := NC p1 p2 N.ks N.vs n A3 C3 A4 C4) HYS.out (fun _ => rfl)
    (fun A B h hb => h.below hb) (fun A l r o h hl => h.obj hl rfl)
    (fun i W => SI w6 kb i W) (fun i A B h hs => h.aside HKB.out hs)
    HSI0.out HC6.out
    (fun i => { tmps := #[.pointer (some ⟨b, 0, none⟩), .agg #[.int .i64 rm, .int .i64 ak, .int .i64 fl, .slice A2 n C2], undef, .pointer (some ⟨w.heap.size, 0, none⟩), .pointer (some ⟨w.heap.size + 1, 0, none⟩), .func (.func 104) #[] #[.pointer (some ⟨p1, 0, none⟩), .pointer (some ⟨p2, 0, none⟩)], .pointer (some ⟨kb, 0, none⟩), .int .u32 (itAt N.q.l i).key, .int .i64 (N.t (itAt N.q.l i).key : Int), .pointer (some ⟨b, 0, none⟩), .int .i64 (n : Int), .pointer (some ⟨w.heap.size, 3, none⟩), .slice A2 n C2, .int .i64 (n : Int), .bool false, .bool false, .pointer (some ⟨b, 0, none⟩), .int .i64 ak, .pointer (some ⟨w.heap.size, 1, none⟩), .int .i64 ak, .bool false, .bool false, .bool false, .pointer (some ⟨b, 0, none⟩), .int .i64 fl, .pointer (some ⟨w.heap.size, 2, none⟩), .int .i64 fl, .bool false, .bool false, .pointer (some ⟨b, 0, none⟩), .func (.func 104) #[] #[.pointer (some ⟨p1, 0, none⟩), .pointer (some ⟨p2, 0, none⟩)], .func (.func 104) #[] #[.pointer (some ⟨p1, 0, none⟩), .pointer (some ⟨p2, 0, none⟩)], .bool false, .func (.func 104) #[] #[.pointer (some ⟨p1, 0, none⟩), .pointer (some ⟨p2, 0, none⟩)], .int .u32 (itAt N.q.l i).key, .int .i64 (N.t (itAt N.q.l i).key : Int), undef, undef, undef, undef, undef, undef, undef, undef, undef, undef, undef, undef, undef, undef, undef, undef, undef, undef, undef, undef, undef, undef, undef, undef, undef, undef, undef, undef, undef, undef, undef, undef], defers := [] }) ?assign ?body ?done
  case assign =>
    intro l i W K hK
    dsimp only [encN] at hK ⊢
    gi_wp2
    exact hK
  case body =>
    rintro l0 i W' hi hI hC hD _ _
    obtain ⟨hx0, hres, hdl, _⟩ := HSIW.out i W' hI
    obtain ⟨d0, d1, d2, d3⟩ := hx0.cells
    obtain ⟨cK, fK⟩ := blk_cell hI.box
    obtain ⟨g, off, rfl, _, c0, c1, c2⟩ := hdl.at_ i _ (HIT.out i hi)
    dsimp only at c0 c1 c2
    have HI := Lib.hid hI
    have HCC := Lib.hid hC
    have i1 : (i : Int) < (n : Int) := by omega
    have i2 : decide ((n : Int) ≤ (i : Int)) = false := decide_eq_false (by omega)
    have i4 : ¬ n ≤ i := by omega
    have i5 : ¬ (n : Int) ≤ (i : Int) := by omega
    have HEND : Hid (∀ nq, WentJ w6.heap.size (fun i W => SI w6 kb i W) (NC p1 p2 N.ks N.vs n A3 C3 A4 C4) i W' .normal { tmps := #[], defers := [] } ((W'.drewN nq).setCell ⟨kb, 0, none⟩ (.int .i64 ((i : Int) + 1)))) := Lib.hid (fun nq => by
      have hk : ∀ k, k ≠ kb → ((W'.drewN nq).setCell ⟨kb, 0, none⟩ (.int .i64 ((i : Int) + 1))).heap[k]? = W'.heap[k]? := fun k hk => Below.heap_setCell (W'.drewN nq) ⟨kb, 0, none⟩ _ k hk
      have hl := HLTC.out
      have hkl := HKB.out
      have hne : ∀ k, (k = p1 ∨ k = p2 ∨ A3.map Addr.block = some k ∨ A4.map Addr.block = some k) → k ≠ kb := fun k h => by have := hl k h; omega
      refine ⟨hI.next nq, ⟨(World.cell?_of_block (a := ⟨p1, 0, none⟩) (hk p1 (hne p1 (.inl rfl)))).trans hC.one, (World.cell?_of_block (a := ⟨p2, 0, none⟩) (hk p2 (hne p2 (.inr (.inl rfl))))).trans hC.two, row_keep hC.ks (fun g _ hg _ _ => hk g (hne g (.inr (.inr (.inl (by rw [own_block] at hg; exact hg)))))), row_keep hC.vs (fun g _ hg _ _ => hk g (hne g (.inr (.inr (.inr (by rw [own_block] at hg; exact hg))))))⟩, by simp, hk _ (by omega), hk _ (by omega)⟩)
    have HN := Lib.hid HN64.out
    clear hx0 hres hdl hI hC hD hi
    generalize (itAt N.q.l i).key = k at *
    generalize hTK : (N.t k : Int) = tk at *
    have e4 : (k != k) = false := by simp
    have e5 : (tk != tk) = false := by simp
    clear hTK
    gi_wp2
    exact HEND.out 0
  case done =>
    rintro W' hI hD hK
    obtain ⟨hx0, hres, hdl, hbel⟩ := HSIW.out n W' hI
    obtain ⟨d0, d1, d2, d3⟩ := hx0.cells
    obtain ⟨cK, fK⟩ := blk_cell hI.box
    obtain ⟨cR, fR⟩ := blk_cell hres
    have HRS := Lib.hid hres
    have HBL := Lib.hid hbel
    have HK1 := Lib.hid hK
    have e6 : ((n : Int) == (n : Int)) = true := by simp
    have HD9 : Hid (w.heap.size + 2 ≤ w6.heap.size) := Lib.hid (by have := HS.out; have := HW5.out; have := HKB.out; omega)
    clear hx0 hres hdl hbel hI hD hK
    dsimp only
    go_wp2
    have hne : w6.heap.size ≠ w.heap.size + 1 := by have := HD9.out; omega
    have hK1 : (W'.setCell ⟨w.heap.size + 1, 0, none⟩ (.bool true)).heap[w6.heap.size]? = some (.deferred (some [])) := (Below.heap_setCell W' ⟨w.heap.size + 1, 0, none⟩ _ _ hne).trans HK1.out
    refine ⟨by simp, .inl ⟨_, _, rfl, run_takeDeferred hK1, ?_⟩⟩
    have hc6 := (blk_cell (set_blk HRS.out (.bool true))).1
    have hc7 : ((W'.setCell ⟨w.heap.size + 1, 0, none⟩ (.bool true)).putObj w6.heap.size (.deferred none)).cell? ⟨w.heap.size + 1, 0, none⟩ = some (.bool true) := (World.cell?_of_block (a := ⟨w.heap.size + 1, 0, none⟩) (World.putObj_heap_other (fun e => hne e.symm))).trans hc6
    refine ⟨.bool true, ?_, rfl, ?_⟩
    · simp [results, Try.results60, go_sem, hc7]
    · have h1 := HBL.out.setCell (p := ⟨w.heap.size + 1, 0, none⟩) (Nat.le_succ _) (.bool true)
      exact h1.trans ⟨rfl, rfl, rfl, by rw [World.putObj_size]; exact Nat.le_refl _, fun k hk => World.putObj_heap_other (by have := HD9.out; omega)⟩
end Go.Proofs.Ytnffngbkidehfaa.Nk
