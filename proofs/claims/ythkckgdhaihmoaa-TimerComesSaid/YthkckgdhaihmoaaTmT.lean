/-
  Own text: the document's Tick, walked.
-/
import Derived.Test.YthkckgdhaihmoaaTmS
namespace Go.Proofs.Ythkckgdhaihmoaa
open Go.RowKit

/-- Those that are due, and the others, as the document parts them. -/
def dcame (m : Int) (l : List It) : List Int := (l.filter (fun x => decide (x.due ≤ m))).map (fun x => x.key)
def dstay (m : Int) (l : List It) : List It := l.filter (fun x => !decide (x.due ≤ m))
theorem dpart_step (m : Int) (l : List It) (i : Nat) (y : It) (h : l[i]? = some y) : (dcame m (l.take (i + 1)) = if y.due ≤ m then dcame m (l.take i) ++ [y.key] else dcame m (l.take i)) ∧ (dstay m (l.take (i + 1)) = if y.due ≤ m then dstay m (l.take i) else dstay m (l.take i) ++ [y]) := by
  unfold dcame dstay
  rw [List.take_add_one, h, List.filter_append, List.filter_append]
  by_cases hk : y.due ≤ m <;> simp [hk]
/-- append of one, and what it leaves. -/
theorem wpList_append_intG {w : World} {ops : Array Oper} {rest : List Oper} {o : Oper} {a : Act} {Q : Exit → Act → World → Prop} (hgd : o.guard = none) (s x : Operand)
    (ho : o.op = .call { callee := .builtin .append, args := #[s, x], argTypes := #[51, 51] })
    (base : Nat) (dp : Option Addr) (n dC : Nat) (hs : a.eval s = .slice dp n dC) (l : List Int) (hown : OwnI w base (.slice dp n dC) n l)
    (g : Nat) (hx : a.eval x = .slice (some ⟨g, 0, none⟩) 1 1) (z : Int) (hy : w.cell? ⟨g, 0, none⟩ = some (.int .i64 z)) (hb : n + 1 ≤ 100000) (hbase : base ≤ w.heap.size)
    (h : ∀ A C w', Hid (OwnI w' base (.slice A (n + 1) C) (n + 1) (l ++ [z])) → Hid (Below base w w') → Hid (w.grownBy w' (dp.map Addr.block)) → wpList Try.prog ops Q rest (a.put o.dst (.slice A (n + 1) C)) w') :
    wpList Try.prog ops Q (o :: rest) a w := by
  refine wpList_plain hgd fun K hK => ?_
  obtain ⟨i, hi, hzz⟩ := Option.map_eq_some_iff.1 info_i64
  simp only [Prod.mk.injEq] at hzz
  obtain ⟨hz, hsz, hby⟩ := hzz
  refine wp_append_own w s x 51 ho base 3 i (.int .i64 0) 1 8 Try.underlying51 hi hz hsz hby rfl (by omega) _ n _ hs hown ⟨g, 0, none⟩ 1 1 [.int .i64 z] hx rfl ?_ ?_ (by unfold maxLen; omega) (by omega) hbase ?_
  · intro j u hu
    cases j with
    | zero => simp at hu; subst hu; rw [add_place]; exact hy
    | succ j => simp at hu
  · intro u hu
    simp at hu
    subst hu
    rfl
  · intro v' w' h1 h2 _
    have h3 : OwnI w' base v' (n + 1) (l ++ [z]) := by unfold OwnI; rw [List.map_append]; exact h1
    have h4 : ∃ A C, v' = .slice A (n + 1) C := by
      rcases h3.2 with ⟨rfl, h0⟩ | ⟨g, cap, cur, rfl, _⟩
      · omega
      · exact ⟨_, _, rfl⟩
    obtain ⟨A, C, rfl⟩ := h4
    exact hK _ _ (h A C w' (Lib.hid h3) (Lib.hid (below_grown (Below.refl base w) h2 hbase (fun k hk => (hown.lt k hk).1))) (Lib.hid (by rw [← own_block dp n dC]; exact h2)))
theorem wpList_append_ditemG {w : World} {ops : Array Oper} {rest : List Oper} {o : Oper} {a : Act} {Q : Exit → Act → World → Prop} (hgd : o.guard = none) (s x : Operand)
    (ho : o.op = .call { callee := .builtin .append, args := #[s, x], argTypes := #[25, 25] })
    (base : Nat) (dp : Option Addr) (n dC : Nat) (hs : a.eval s = .slice dp n dC) (l : List It) (hown : OwnD w base (.slice dp n dC) n l)
    (g : Nat) (hx : a.eval x = .slice (some ⟨g, 0, none⟩) 1 1) (z : It) (hy : w.cell? ⟨g, 0, none⟩ = some (.int .i64 z.key) ∧ w.cell? ⟨g, 1, none⟩ = some (.int .i64 z.due)) (hb : n + 1 ≤ 100000) (hbase : base ≤ w.heap.size)
    (h : ∀ A C w', Hid (OwnD w' base (.slice A (n + 1) C) (n + 1) (l ++ [z])) → Hid (Below base w w') → Hid (w.grownBy w' (dp.map Addr.block)) → wpList Try.prog ops Q rest (a.put o.dst (.slice A (n + 1) C)) w') :
    wpList Try.prog ops Q (o :: rest) a w := by
  refine wpList_plain hgd fun K hK => ?_
  obtain ⟨i, hi, hzz⟩ := Option.map_eq_some_iff.1 info_ditem
  simp only [Prod.mk.injEq] at hzz
  obtain ⟨hz, hsz, hby⟩ := hzz
  refine wp_append_own w s x 25 ho base 41 i _ 2 16 Try.underlying25 hi hz hsz hby rfl (by omega) _ n _ hs hown ⟨g, 0, none⟩ 1 1 (icells [z]) hx rfl ?_ ?_ (by unfold maxLen; omega) (by omega) hbase ?_
  · intro j u hu
    match j, hu with
    | 0, hu => simp [icells] at hu; subst hu; rw [add_place]; exact hy.1
    | 1, hu => simp [icells] at hu; subst hu; rw [add_place]; exact hy.2
    | j + 2, hu => simp [icells] at hu
  · intro u hu
    simp [icells] at hu
    rcases hu with rfl | rfl <;> rfl
  · intro v' w' h1 h2 _
    rw [← icells_append] at h1
    have h3 : OwnD w' base v' (n + 1) (l ++ [z]) := h1
    have h4 : ∃ A C, v' = .slice A (n + 1) C := by
      rcases h3.2 with ⟨rfl, h0⟩ | ⟨g, cap, cur, rfl, _⟩
      · omega
      · exact ⟨_, _, rfl⟩
    obtain ⟨A, C, rfl⟩ := h4
    exact hK _ _ (h A C w' (Lib.hid h3) (Lib.hid (below_grown (Below.refl base w) h2 hbase (fun k hk => (hown.lt k hk).1))) (Lib.hid (by rw [← own_block dp n dC]; exact h2)))
/-- A list of keys and one of runs don't lie in one block. -/
theorem own_apart {w : World} {b1 b2 n1 C1 n2 C2 : Nat} {A1 A2 : Option Addr} {l1 : List Int} {l2 : List It} (h1 : OwnI w b1 (.slice A1 n1 C1) n1 l1) (h2 : OwnD w b2 (.slice A2 n2 C2) n2 l2) (g : Nat) (e1 : A1.map Addr.block = some g) (e2 : A2.map Addr.block = some g) : False := by
  rcases h1.2 with ⟨e, _⟩ | ⟨g1, cap, cur, e, _, hg1, _⟩
  · simp only [Value.slice.injEq] at e
    rw [e.1] at e1
    simp at e1
  · rcases h2.2 with ⟨e', _⟩ | ⟨g2, cap', cur', e', _, hg2, _⟩
    · simp only [Value.slice.injEq] at e'
      rw [e'.1] at e2
      simp at e2
    · simp only [Value.slice.injEq, true_and] at e e'
      obtain ⟨rfl, _⟩ := e
      obtain ⟨rfl, _⟩ := e'
      simp at e1 e2
      subst e1
      subst e2
      rw [hg1] at hg2
      simp at hg2
theorem own_keepD {w w' : World} {b1 b2 n1 C1 n2 C2 : Nat} {A1 A2 : Option Addr} {l1 : List Int} {l2 : List It} (h1 : OwnI w b1 (.slice A1 n1 C1) n1 l1) (h2 : OwnD w b2 (.slice A2 n2 C2) n2 l2) (hg : w.grownBy w' (A1.map Addr.block)) : OwnD w' b2 (.slice A2 n2 C2) n2 l2 :=
  h2.keep (fun g e => hg.block g (h2.lt g e).2 (fun e1 => own_apart h1 h2 g e1.symm (by rw [own_block] at e; exact e)))
theorem own_keepI {w w' : World} {b1 b2 n1 C1 n2 C2 : Nat} {A1 A2 : Option Addr} {l1 : List Int} {l2 : List It} (h1 : OwnI w b1 (.slice A1 n1 C1) n1 l1) (h2 : OwnD w b2 (.slice A2 n2 C2) n2 l2) (hg : w.grownBy w' (A2.map Addr.block)) : OwnI w' b1 (.slice A1 n1 C1) n1 l1 :=
  h1.keep (fun g e => hg.block g (h1.lt g e).2 (fun e2 => own_apart h1 h2 g (by rw [own_block] at e; exact e) e2.symm))
def RTick (w : World) (Q : Qn) (L : List Int) (e : Ending) (w' : World) : Prop :=
  ∃ A C A3 C3, e = .returned (.tuple #[DV Q.room Q.now A Q.l.length C, .slice A3 L.length C3]) ∧ Hid (DL w' w.heap.size A Q.l.length C Q.l) ∧ Hid (OwnI w' w.heap.size (.slice A3 L.length C3) L.length L) ∧ Hid (Below w.heap.size w w')
set_option maxRecDepth 100000 in
set_option maxHeartbeats 1000000 in
theorem rtick_any (t : Int) (Q : Qn) (hf : Q.fit) (B : Nat) (A : Option Addr) (C : Nat) (w : World) (h : DL w B A Q.l.length C Q.l) :
    Calls Try.prog 29 #[DV Q.room Q.now A Q.l.length C, .int .i64 t] w (RTick w (Q.tick t) (Q.came t)) := by
  obtain ⟨m, hm⟩ : ∃ m, m = adv Q.now t := ⟨_, rfl⟩
  obtain ⟨l, hl⟩ : ∃ l, l = Q.l := ⟨_, rfl⟩
  obtain ⟨n, hnn⟩ : ∃ n, n = l.length := ⟨_, rfl⟩
  have hn1 : n ≤ 256 := by have := hf.len; have := hf.hi; rw [hnn, hl]; omega
  obtain ⟨W, hW⟩ : ∃ W, W = (w.alloc (.cells #[.int .i64 (Q.room : Int), .int .i64 Q.now, .slice A Q.l.length C] 27)).alloc (.cells #[.int .i64 0, .int .i64 0, .slice none 0 0] 27) := ⟨_, rfl⟩
  obtain ⟨hs, hb, hall⟩ := dboxes (room := Q.room) (now := Q.now) h W hW
  obtain ⟨hx, hz, hd⟩ := hall W (Below.refl _ _)
  have m0 := hf.now0
  have m1 := hf.now1
  have hmm := adv_in (t := t) m0 m1
  rw [← hm] at hmm
  have HTK : Hid (Q.tick t = ⟨Q.room, m, dstay m l⟩ ∧ Q.came t = dcame m l) := Lib.hid (by
    obtain ⟨p1, p2⟩ := due_take (d := m) (l := Q.l) hf.sorted
    unfold Qn.tick Qn.came dcame dstay
    rw [← hm, hl, p1, p2]
    exact ⟨rfl, rfl⟩)
  have HM : Hid (m = adv Q.now t ∧ 0 ≤ m ∧ m ≤ 1099511627776) := Lib.hid ⟨hm, by omega, hmm.2⟩
  have HDU : Hid (∀ y ∈ l, 0 ≤ y.due ∧ y.due ≤ 2199023255552) := Lib.hid (by rw [hl]; exact hf.due)
  rw [← hl, ← hnn] at hx hd hW
  have HL : Hid (l.length = n) := Lib.hid hnn.symm
  have HSET : Hid (∀ v : Int, v = m → DBx (W.setCell ⟨w.heap.size, 1, none⟩ (.int .i64 v)) w.heap.size Q.room m (.slice A n C) ∧ DBx (W.setCell ⟨w.heap.size, 1, none⟩ (.int .i64 v)) (w.heap.size + 1) 0 0 (.slice none 0 0) ∧ DL (W.setCell ⟨w.heap.size, 1, none⟩ (.int .i64 v)) B A n C l ∧ Below w.heap.size w (W.setCell ⟨w.heap.size, 1, none⟩ (.int .i64 v)) ∧ w.heap.size + 2 ≤ (W.setCell ⟨w.heap.size, 1, none⟩ (.int .i64 v)).heap.size) := Lib.hid (fun v hv => by
    subst hv
    refine ⟨hx.setNow v, hz.other (by show w.heap.size + 1 ≠ w.heap.size; omega) _, hd.keep (fun g cur _ _ hg => Below.heap_setCell _ _ _ g (fun e => ?_)), hb.setCell (p := ⟨w.heap.size, 1, none⟩) (Nat.le_refl _) _, by simp; omega⟩
    have e' : g = w.heap.size := e
    subst e'
    unfold DBx at hx
    rw [hg] at hx
    simp at hx)
  have HNOT : Hid (Q.now = m → DBx W w.heap.size Q.room m (.slice A n C) ∧ DBx W (w.heap.size + 1) 0 0 (.slice none 0 0) ∧ DL W B A n C l ∧ Below w.heap.size w W ∧ w.heap.size + 2 ≤ W.heap.size) := Lib.hid (fun e => by rw [← e]; exact ⟨hx, hz, hd, hb, by omega⟩)
  obtain ⟨d0, d1, d2⟩ := hx.cells
  have df := hx.frozen 1
  have HW := Lib.hid hW
  have HN : Hid (n ≤ 256) := Lib.hid hn1
  have n1 : (n : Int) ≤ 256 := by omega
  unfold DV
  clear hW hs hb hall hx hz hd h hf hm hmm hn1
  rw [← hl, ← hnn]
  clear hl hnn
  generalize Q.now = now at *
  go_enter Try.func29, Try.ntmps29
  go_upto_region 1 with fail
  rw [← HW.out]
  clear HW
  go_upto_if 13 with fail
  go_cut [1] (fun s wx => s = .int .i64 (if 1099511627776 - now < t then 1099511627776 - now else t) ∧ Hid (wx = W))
  case first =>
    by_cases h1 : 1099511627776 - now < t
    · go_wp2
      go_meet
      exact ⟨by rw [if_pos h1], Lib.hid rfl⟩
    · go_wp2
      go_meet
      exact ⟨by rw [if_neg (by omega)], Lib.hid rfl⟩
  case rest =>
    obtain ⟨rfl, HWC⟩ := hcut
    obtain rfl := HWC.out
    obtain ⟨t2, ht2⟩ : ∃ t2, t2 = if 1099511627776 - now < t then 1099511627776 - now else t := ⟨_, rfl⟩
    rw [← ht2]
    have HT2 : Hid ((0 < t2 → now + t2 = m) ∧ (¬ 0 < t2 → now = m) ∧ t2 ≤ 1099511627776 - now) := Lib.hid (by
      have := HM.out.1
      unfold adv at this
      refine ⟨fun h => ?_, fun h => ?_, ?_⟩
      · split at this <;> split at ht2 <;> (try split at this) <;> omega
      · split at this <;> split at ht2 <;> (try split at this) <;> omega
      · split at ht2 <;> omega)
    clear ht2
    go_upto_if 18 with fail
    go_cut [5] (fun s wx => s = .slice none 0 0 ∧ Hid (DBx wx w.heap.size Q.room m (.slice A n C) ∧ DBx wx (w.heap.size + 1) 0 0 (.slice none 0 0) ∧ DL wx B A n C l ∧ Below w.heap.size w wx ∧ w.heap.size + 2 ≤ wx.heap.size))
    case first =>
      by_cases h1 : 0 < t2
      · have HV := Lib.hid (HT2.out.1 h1)
        have b1 : t2 ≤ 1099511627776 - now := HT2.out.2.2
        have b2 : now + t2 ≤ 1099511627776 := by omega
        have b3 : 0 ≤ now + t2 := by omega
        clear HNOT
        go_wp2
        go_meet
        exact ⟨rfl, Lib.hid (HSET.out _ HV.out)⟩
      · have HV := Lib.hid (HT2.out.2.1 h1)
        clear HSET
        go_wp2
        go_meet
        exact ⟨rfl, Lib.hid (HNOT.out HV.out)⟩
    case rest =>
      obtain ⟨rfl, HX0⟩ := hcut
      clear HSET HNOT HT2
      obtain ⟨hx, hz, hd, hb, hs⟩ := HX0.out
      generalize wc = w1 at *
      have HALL : Hid (∀ w', Below w1.heap.size w1 w' → DBx w' w.heap.size Q.room m (.slice A n C) ∧ DBx w' (w.heap.size + 1) 0 0 (.slice none 0 0) ∧ DL w' B A n C l ∧ Below w.heap.size w w') := Lib.hid (fun w' h' => ⟨hx.below h' hx.lt, hz.below h' hz.lt, hd.below h' (Nat.le_refl _), hb.trans (h'.mono (by omega))⟩)
      have HYES : Hid (∀ (WW : World) (A3 : Option Addr) (C3 q : Nat) (A2 : Option Addr) (C2 r : Nat), OwnI WW w1.heap.size (.slice A3 q C3) q (dcame m l) → OwnD WW w1.heap.size (.slice A2 r C2) r (dstay m l) → Below w1.heap.size w1 WW → RTick w (Q.tick t) (Q.came t) (.returned (.tuple #[.agg #[.int .i64 (Q.room : Int), .int .i64 m, .slice A2 r C2], .slice A3 q C3]))
          ((((WW.setCell ⟨w.heap.size, 2, none⟩ (.slice A2 r C2)).setCell ⟨w.heap.size + 1, 0, none⟩ (.int .i64 (Q.room : Int))).setCell ⟨w.heap.size + 1, 1, none⟩ (.int .i64 m)).setCell ⟨w.heap.size + 1, 2, none⟩ (.slice A2 r C2))) := Lib.hid (fun WW A3 C3 q A2 C2 r ho hd2 h' => by
        have hww := (HALL.out WW h').2.2.2
        rw [HTK.out.1, HTK.out.2]
        have e1 : (dcame m l).length = q := ho.length
        have e2 : (dstay m l).length = r := hd2.length
        have hk : ∀ g, w1.heap.size ≤ g → ((((WW.setCell ⟨w.heap.size, 2, none⟩ (.slice A2 r C2)).setCell ⟨w.heap.size + 1, 0, none⟩ (.int .i64 (Q.room : Int))).setCell ⟨w.heap.size + 1, 1, none⟩ (.int .i64 m)).setCell ⟨w.heap.size + 1, 2, none⟩ (.slice A2 r C2)).heap[g]? = WW.heap[g]? := fun g hg => by
          rw [three_far _ _ _ _ _ g (by omega), Below.heap_setCell _ ⟨w.heap.size, 2, none⟩ _ g (by show g ≠ w.heap.size; omega)]
        refine ⟨A2, C2, A3, C3, ?_, Lib.hid ?_, Lib.hid ?_, Lib.hid ?_⟩
        · show _ = Ending.returned (.tuple #[DV Q.room m A2 (dstay m l).length C2, .slice A3 (dcame m l).length C3])
          rw [e1, e2]
          rfl
        · show DL _ w.heap.size A2 (dstay m l).length C2 (dstay m l)
          rw [e2]
          exact (hd2.dl.keep (fun g _ _ hg _ => hk g hg)).low (by omega)
        · rw [e1]
          exact OwnI.low (ho.keep (fun g hg => hk g (ho.lt g hg).1)) (by omega)
        · exact three_below (hww.setCell (p := ⟨w.heap.size, 2, none⟩) (Nat.le_refl _) _) _ (Nat.le_succ _) _ _ _)
      clear hx hz hd hb hs HX0 HTK d0 d1 d2 df
      obtain ⟨a1, _, _, _⟩ := HALL.out w1 (Below.refl _ _)
      obtain ⟨d0, d1, d2⟩ := a1.cells
      clear a1
      go_wp2
      go_loopw [6, 7, 8] (fun o1 o2 i wr => ∃ (j q r : Nat) (A3 : Option Addr) (C3 : Nat) (A2 : Option Addr) (C2 : Nat), j ≤ n ∧ q ≤ j ∧ r ≤ j ∧ i = .int .i64 (j : Int) ∧ o1 = .slice A3 q C3 ∧ o2 = .slice A2 r C2 ∧ Hid (OwnI wr w1.heap.size (.slice A3 q C3) q (dcame m (l.take j))) ∧ Hid (OwnD wr w1.heap.size (.slice A2 r C2) r (dstay m (l.take j))) ∧ Hid (Below w1.heap.size w1 wr)) (fun _ _ i _ => n - (intOf i).toNat)
      case atStart => exact ⟨0, 0, 0, none, 0, none, 0, Nat.zero_le _, Nat.le_refl _, Nat.le_refl _, rfl, rfl, rfl, Lib.hid (OwnI.none _ _), Lib.hid (OwnD.none _ _), Lib.hid (Below.refl _ _)⟩
      case round =>
        obtain ⟨j, q, r, A3, C3, A2, C2, hj, hq, hr, rfl, rfl, rfl, HI, HO, HBR⟩ := hrel
        clear d0 d1 d2
        obtain ⟨wo, hwo⟩ : ∃ wo, wo = wr := ⟨_, rfl⟩
        subst hwo
        obtain ⟨hx, hz, hdl, _⟩ := HALL.out wo HBR.out
        obtain ⟨d0, d1, d2⟩ := hx.cells
        have HSZ := Lib.hid HBR.out.size
        by_cases hlt : j < n
        · obtain ⟨y, hy⟩ : ∃ y, l[j]? = some y := ⟨_, List.getElem?_eq_getElem (by rw [HL.out]; exact hlt)⟩
          obtain ⟨g, off, eA, hgl, c0, c1⟩ := hdl.at_ j y hy
          subst eA
          have k1 : (j : Int) < (n : Int) := by omega
          have HLT := Lib.hid (⟨hlt, hq, hr⟩ : j < n ∧ q ≤ j ∧ r ≤ j)
          have HB1 : Hid (q + 1 ≤ 100000 ∧ r + 1 ≤ 100000) := Lib.hid (by have := HN.out; omega)
          have HT := Lib.hid (dpart_step m l j y hy)
          have HXX : Hid (∀ w', Below wo.heap.size wo w' → (w'.cell? ⟨w.heap.size, 0, none⟩ = some (.int .i64 (Q.room : Int)) ∧ w'.cell? ⟨w.heap.size, 1, none⟩ = some (.int .i64 m) ∧ w'.cell? ⟨w.heap.size, 2, none⟩ = some (.slice (some ⟨g, off, none⟩) n C)) ∧ w'.cell? ⟨g, off + j * 2, none⟩ = some (.int .i64 y.key) ∧ w'.cell? ⟨g, off + j * 2 + 1, none⟩ = some (.int .i64 y.due)) := Lib.hid (fun w' h' => ⟨(hx.below h' hx.lt).cells, (h'.cell (p := ⟨g, off + j * 2, none⟩) hgl).trans c0, (h'.cell (p := ⟨g, off + j * 2 + 1, none⟩) hgl).trans c1⟩)
          obtain ⟨y0, y1⟩ := y
          dsimp only at c0 c1 HT HXX
          clear hy hgl hdl hx hz hlt hq hr hj
          go_upto_region 10 with fail
          go_quiet (fail)
          clear d0 d1 d2 c0 c1
          have HD1 : Hid (Below wo.heap.size wo (wo.drewN nq)) := Lib.hid (below_drewN (Below.refl _ _) nq)
          have HI1 : Hid (OwnI (wo.drewN nq) w1.heap.size (.slice A3 q C3) q (dcame m (l.take j))) := Lib.hid (HI.out.below HD1.out (Nat.le_refl _))
          have HO1 : Hid (OwnD (wo.drewN nq) w1.heap.size (.slice A2 r C2) r (dstay m (l.take j))) := Lib.hid (HO.out.below HD1.out (Nat.le_refl _))
          obtain ⟨⟨d0, d1, d2⟩, c0, c1⟩ := HXX.out _ HD1.out
          have HBR1 : Hid (Below w1.heap.size w1 (wo.drewN nq)) := Lib.hid (below_drewN HBR.out nq)
          have HSZ1 : Hid (w1.heap.size ≤ (wo.drewN nq).heap.size) := HSZ
          generalize wo.drewN nq = w4 at *
          by_cases hdue : y1 ≤ m
          · have HT2 : Hid (dcame m (l.take (j + 1)) = dcame m (l.take j) ++ [y0] ∧ dstay m (l.take (j + 1)) = dstay m (l.take j)) := Lib.hid (by obtain ⟨p1, p2⟩ := HT.out; rw [if_pos hdue] at p1 p2; exact ⟨p1, p2⟩)
            clear HT
            go_wp2_with (first
              | (at_builtin; (with_reducible refine wpList_append_intG rfl (.tmp 40) (.tmp 47) rfl w1.heap.size A3 q C3 rfl (dcame m (l.take j)) (HI1.out.below ((Below.refl _ _).alloc (Nat.le_refl _) _) (Nat.le_refl _)) w4.heap.size rfl y0 (by simp [go_sem]) HB1.out.1 (Nat.le_trans HSZ1.out (Nat.le_of_lt (lt_alloc _ _))) ?_); intro A4 C4 w5 HI5 HB5 HG5)
              | fail)
            go_roundw
            case rel => exact ⟨j + 1, q + 1, r, A4, C4, A2, C2, HLT.out.1, Nat.succ_le_succ HLT.out.2.1, Nat.le_succ_of_le HLT.out.2.2, by go_num, rfl, rfl, Lib.hid (by rw [HT2.out.1]; exact HI5.out), Lib.hid (by rw [HT2.out.2]; exact own_keepD (HI1.out.below ((Below.refl _ _).alloc (Nat.le_refl _) _) (Nat.le_refl _)) (HO1.out.below ((Below.refl _ _).alloc (Nat.le_refl _) _) (Nat.le_refl _)) HG5.out), Lib.hid ((HBR1.out.alloc HSZ1.out _).trans HB5.out)⟩
            case measure => simp [intOf] <;> (have := HLT.out; omega)
          · have HT2 : Hid (dcame m (l.take (j + 1)) = dcame m (l.take j) ∧ dstay m (l.take (j + 1)) = dstay m (l.take j) ++ [⟨y0, y1⟩]) := Lib.hid (by obtain ⟨p1, p2⟩ := HT.out; rw [if_neg hdue] at p1 p2; exact ⟨p1, p2⟩)
            clear HT
            go_wp2_with (first
              | (at_builtin; (with_reducible refine wpList_append_ditemG rfl (.tmp 49) (.tmp 55) rfl w1.heap.size A2 r C2 rfl (dstay m (l.take j)) (HO1.out.below ((Below.refl _ _).alloc (Nat.le_refl _) _) (Nat.le_refl _)) w4.heap.size rfl ⟨y0, y1⟩ (ditem_new w4 y0 y1) HB1.out.2 (Nat.le_trans HSZ1.out (Nat.le_of_lt (lt_alloc _ _))) ?_); intro A4 C4 w5 HO5 HB5 HG5)
              | fail)
            go_roundw
            case rel => exact ⟨j + 1, q, r + 1, A3, C3, A4, C4, HLT.out.1, Nat.le_succ_of_le HLT.out.2.1, Nat.succ_le_succ HLT.out.2.2, by go_num, rfl, rfl, Lib.hid (by rw [HT2.out.1]; exact own_keepI (HI1.out.below ((Below.refl _ _).alloc (Nat.le_refl _) _) (Nat.le_refl _)) (HO1.out.below ((Below.refl _ _).alloc (Nat.le_refl _) _) (Nat.le_refl _)) HG5.out), Lib.hid (by rw [HT2.out.2]; exact HO5.out), Lib.hid ((HBR1.out.alloc HSZ1.out _).trans HB5.out)⟩
            case measure => simp [intOf] <;> (have := HLT.out; omega)
        · obtain rfl : j = n := by omega
          have HEND : Hid (l.take j = l) := Lib.hid (List.take_of_length_le (by rw [HL.out]; exact Nat.le_refl _))
          have HI9 : Hid (OwnI wo w1.heap.size (.slice A3 q C3) q (dcame m l)) := Lib.hid (by have := HI.out; rwa [HEND.out] at this)
          have HO9 : Hid (OwnD wo w1.heap.size (.slice A2 r C2) r (dstay m l)) := Lib.hid (by have := HO.out; rwa [HEND.out] at this)
          have n3 : ¬ (j : Int) < (j : Int) := by omega
          obtain ⟨z0, z1, z2⟩ := hz.cells
          have df := hx.frozen 2
          have zf0 := hz.frozen 0
          have zf1 := hz.frozen 1
          have zf2 := hz.frozen 2
          clear hx hz hdl hj hq hr
          go_wp2
          refine bodyPost_ret (v := .tuple #[.agg #[.int .i64 (Q.room : Int), .int .i64 m, .slice A2 r C2], .slice A3 q C3]) (by simp [results, Try.results29, go_sem, z0, z1, z2]) rfl ?_
          exact HYES.out wo A3 C3 q A2 C2 r HI9.out HO9.out HBR.out
end Go.Proofs.Ythkckgdhaihmoaa
