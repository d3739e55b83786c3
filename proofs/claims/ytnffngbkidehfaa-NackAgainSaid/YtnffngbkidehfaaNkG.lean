/-
  Own text: Start, walked.
-/
import Derived.Test.YtnffngbkidehfaaNkF
import Derived.Deep.DeepCutAuto
namespace Go.Proofs.Ytnffngbkidehfaa.Nk
open Go.RowKit

/-- An operation that yields one value in each world is taken first: its place is written out. -/
theorem take_w {P : Program} {ops : Array Oper} {md : Region.Mode} {Q : Exit → Act → World → Prop} {i : Nat} {oi : Oper} {v : Value} {fuel : Nat} {listed : Array Bool} {a : Act} {w : World} (d : Option Tmp) (hi : ops[i]? = some oi) (hd : oi.dst = d)
    (hs : Region.noSelect ops = true) (hf : Region.free md ops listed i = true) (hr : (Region.ready md ops listed).contains i = true)
    (hQ : ∀ c a w, Q (.panic c) (a.put oi.dst v) w → Q (.panic c) a w) (hy : Yields P ops oi v a)
    (h : wpAny P md ops Q fuel (listed.setIfInBounds i true) (a.put d v) w) : wpAny P md ops Q (fuel + 1) listed a w := by
  subst hd
  exact wpAny_take hi hs hf hr hQ hy h
theorem QTo.of_drew {w w' : World} {b : Nat} {A : Option Addr} {Q : Qn} (h : QTo w.drew b A Q w') : QTo w b A Q w' := by
  obtain ⟨A', C', h1, h2, h3⟩ := h
  exact ⟨A', C', h1, h2, h3.os, h3.tape, h3.output, h3.size, h3.block⟩
theorem lt_alloc (w : World) (o : Obj) : w.heap.size < (w.alloc o).heap.size := by simp
theorem run_new (w : World) (k d : Int) : TBlk (w.alloc (.cells #[.int .u32 k, .int .i64 d] 167)) w.heap.size (icells [⟨k, d⟩]) := one_new w ⟨k, d⟩ _ rfl
theorem Qn.code_range {Q : Qn} {k t : Int} (h : t < 1 ∨ 1099511627776 < t) : Q.code k t = 1 ∧ Q.start k t = Q := by
  have e : Q.code k t = 1 := by unfold Qn.code; rw [if_pos h]
  refine ⟨e, ?_⟩
  unfold Qn.start
  rw [e, if_neg (by omega)]
theorem start_range (k t : Int) (h : t < 1 ∨ 1099511627776 < t) (b : Nat) (w : World) :
    Calls Try.prog 61 #[.pointer (some ⟨b, 0, none⟩), .int .u32 k, .int .i64 t] w fun e w' => e = .returned (.int .i64 1) ∧ w' = w := by
  by_cases h1 : t < 1
  · clear h
    go_enter Try.func61, Try.ntmps61
    go_wp2
    go_ret
    exact ⟨rfl, rfl⟩
  · have h2 : 1099511627776 < t := by omega
    clear h
    go_enter Try.func61, Try.ntmps61
    go_wp2
    go_ret
    exact ⟨rfl, rfl⟩
set_option maxRecDepth 100000 in
theorem start_full (k t : Int) (h1 : 1 ≤ t) (h2 : t ≤ 1099511627776) (b : Nat) (Q : Qn) (A : Option Addr) (C : Nat) (hf : Q.fit) (hk : ¬ fidx k Q.l < Q.l.length) (hfull : Q.l.length = Q.room) (w : World) (h : QB w b Q A C) :
    Calls Try.prog 61 #[.pointer (some ⟨b, 0, none⟩), .int .u32 k, .int .i64 t] w fun e w' => e = .returned (.int .i64 2) ∧ Below w.heap.size w w' := by
  have hn : Q.l.length ≤ 256 := by have := hf.len; have := hf.hi; omega
  have CF := Lib.hid (stop_none k b Q A C (by omega) hk w.drew (h.drewN 1))
  have HC : Hid (∀ w1, Below w.heap.size w w1 → w1.cell? ⟨b, 0, none⟩ = some (.int .i64 (Q.room : Int)) ∧ w1.cell? ⟨b, 2, none⟩ = some (.slice A Q.room C)) := Lib.hid (fun w1 h1 => by
    obtain ⟨c0, c1, c2⟩ := (h.blk.below h1 h.blk.lt).cells
    rw [hfull] at c2
    exact ⟨c0, c2⟩)
  have i1 : decide ((Q.room : Int) = (Q.room : Int)) = true := decide_eq_true rfl
  clear h hf hk hfull hn
  generalize Q.room = room at *
  go_enter Try.func61, Try.ntmps61
  go_upto_region 3 with fail
  go_region_held3 (fun w' => w'.cell? ⟨b, 0, none⟩ = some (.int .i64 (room : Int)) ∧ w'.cell? ⟨b, 2, none⟩ = some (.slice A room C))
    (first | exact HC.out _ (Below.refl _ _) | exact HC.out _ (Below.refl _ _).drew | exact HC.out _ ((Below.refl _ _).drew.trans HB1.out))
    (first
      | (go_at_call 65; (with_reducible refine (CF.out).mono ?_); rintro e w1 ⟨rfl, hb⟩; have HB1 := Lib.hid hb; clear hb)
      | fail)
  all_goals
    go_wp2
    go_ret
    exact ⟨rfl, (Below.refl _ _).drew.trans HB1.out⟩
set_option maxRecDepth 100000 in
set_option maxHeartbeats 1000000 in
theorem start_ok (Q : Qn) (k t : Int) (hc : Q.code k t = 0) (b : Nat) (A : Option Addr) (C : Nat) (hf : Q.fit) (w : World) (h : QB w b Q A C) :
    Calls Try.prog 61 #[.pointer (some ⟨b, 0, none⟩), .int .u32 k, .int .i64 t] w fun e w' => e = .returned (.int .i64 0) ∧ Hid (QTo w b A (Q.start k t) w') := by
  obtain ⟨h1, h2, h3⟩ := Qn.code_ok hc
  have hn : Q.l.length ≤ 256 := by have := hf.len; have := hf.hi; omega
  have hst : Q.start k t = ⟨Q.room, Q.now, ins ⟨k, Q.now + t⟩ (cutK k Q.l)⟩ := by unfold Qn.start; rw [if_pos hc]
  have m1 := hf.now0
  have m2 := hf.now1
  have HFS := Lib.hid (Qn.stop_fit hf k)
  have HST := Lib.hid hst
  obtain ⟨d, hd⟩ : ∃ d, d = Q.now + t := ⟨_, rfl⟩
  have CS : Hid (Calls Try.prog 65 #[.pointer (some ⟨b, 0, none⟩), .int .u32 k] w.drew fun e w' => e = .returned (.bool (hasK k Q.l)) ∧ Hid (QTo w.drew b A (Q.stop k) w')) := Lib.hid (stop_any k b Q A C (by omega) w.drew (h.drewN 1))
  have CF : Hid (¬ fidx k Q.l < Q.l.length → Calls Try.prog 65 #[.pointer (some ⟨b, 0, none⟩), .int .u32 k] w.drew fun e w' => e = .returned (.bool false) ∧ Below w.drew.heap.size w.drew w') := Lib.hid (fun hk => stop_none k b Q A C (by omega) hk w.drew (h.drewN 1))
  have HH := Lib.hid h
  have H3 := Lib.hid h3
  have HL : Hid ((cutK k Q.l).length ≤ 256) := Lib.hid (Nat.le_trans (cutK_sub k Q.l).length_le hn)
  have HD := Lib.hid hd
  have HN := Lib.hid hn
  have HFT := Lib.hid hf
  clear h hf hc hst h3 hn hd
  go_enter Try.func61, Try.ntmps61
  go_upto_region 3 with fail
  go_cut [29] (fun s wx => s = .bool false ∧ Hid (QTo w b A (Q.stop k) wx))
  case first =>
    by_cases hk : fidx k Q.l < Q.l.length
    · have e : hasK k Q.l = true := by unfold hasK; exact decide_eq_true hk
      rw [e] at CS
      refine wp_region_any (by kernel_rfl) ?_
      change wpAny _ _ _ _ _ _ _ (World.drew _)
      refine take_w (i := 0) (v := .pointer (some ⟨b, 0, none⟩)) (some 14) rfl rfl (by kernel_rfl) (by kernel_rfl) (by kernel_rfl) (fun _ _ _ h => h) (Or.inl ⟨rfl, fun _ => rfl⟩) ?_
      simp only [Act.put, List.setIfInBounds_toArray, List.set_cons_zero, List.set_cons_succ]
      refine take_w (i := 1) (v := .int .u32 k) (some 15) rfl rfl (by kernel_rfl) (by kernel_rfl) (by kernel_rfl) (fun _ _ _ h => h) (Or.inl ⟨rfl, fun _ => rfl⟩) ?_
      simp only [Act.put, List.setIfInBounds_toArray, List.set_cons_zero, List.set_cons_succ]
      refine wpAny_ready (rs := [2]) (by kernel_rfl) (by simp) ?_
      refine AllReady.cons (o := { dst := some 16, op := Op.call { callee := Callee.value (Operand.func 65), args := #[Operand.tmp 14, Operand.tmp 15], argTypes := #[126, 28] }, type := 4, pos := "timer.go:55", after := #[{ on := 0, ground := Ground.data }, { on := 1, ground := Ground.data }], guard := none }) rfl (fun K hK => ?_) AllReady.nil
      go_simp
      go_at_call 65
      refine (CS.out).mono ?_
      rintro e w1 ⟨rfl, HQ⟩
      go_wp2_with fail
      try simp only [Act.put, List.setIfInBounds_toArray, List.set_cons_zero, List.set_cons_succ]
      refine take_w (i := 3) (v := .bool false) (some 17) rfl rfl (by kernel_rfl) (by kernel_rfl) (by kernel_rfl) (fun _ _ _ h => h) (Or.inl ⟨rfl, fun _ => rfl⟩) ?_
      simp only [Act.put, List.setIfInBounds_toArray, List.set_cons_zero, List.set_cons_succ]
      refine take_w (i := 4) (v := .bool false) (some 18) rfl rfl (by kernel_rfl) (by kernel_rfl) (by kernel_rfl) (fun _ _ _ h => h) (Or.inl ⟨rfl, fun _ => rfl⟩) ?_
      simp only [Act.put, List.setIfInBounds_toArray, List.set_cons_zero, List.set_cons_succ]
      refine take_w (i := 5) (v := undef) (some 19) rfl rfl (by kernel_rfl) (by kernel_rfl) (by kernel_rfl) (fun _ _ _ h => h) (Or.inr ⟨rfl, rfl⟩) ?_
      simp only [Act.put, List.setIfInBounds_toArray, List.set_cons_zero, List.set_cons_succ]
      refine take_w (i := 6) (v := undef) (some 20) rfl rfl (by kernel_rfl) (by kernel_rfl) (by kernel_rfl) (fun _ _ _ h => h) (Or.inr ⟨rfl, rfl⟩) ?_
      simp only [Act.put, List.setIfInBounds_toArray, List.set_cons_zero, List.set_cons_succ]
      refine take_w (i := 7) (v := undef) (some 21) rfl rfl (by kernel_rfl) (by kernel_rfl) (by kernel_rfl) (fun _ _ _ h => h) (Or.inr ⟨rfl, rfl⟩) ?_
      simp only [Act.put, List.setIfInBounds_toArray, List.set_cons_zero, List.set_cons_succ]
      refine take_w (i := 8) (v := undef) (some 22) rfl rfl (by kernel_rfl) (by kernel_rfl) (by kernel_rfl) (fun _ _ _ h => h) (Or.inr ⟨rfl, rfl⟩) ?_
      simp only [Act.put, List.setIfInBounds_toArray, List.set_cons_zero, List.set_cons_succ]
      refine take_w (i := 9) (v := undef) (some 23) rfl rfl (by kernel_rfl) (by kernel_rfl) (by kernel_rfl) (fun _ _ _ h => h) (Or.inr ⟨rfl, rfl⟩) ?_
      simp only [Act.put, List.setIfInBounds_toArray, List.set_cons_zero, List.set_cons_succ]
      refine take_w (i := 10) (v := undef) (some 24) rfl rfl (by kernel_rfl) (by kernel_rfl) (by kernel_rfl) (fun _ _ _ h => h) (Or.inr ⟨rfl, rfl⟩) ?_
      simp only [Act.put, List.setIfInBounds_toArray, List.set_cons_zero, List.set_cons_succ]
      refine take_w (i := 11) (v := undef) (some 25) rfl rfl (by kernel_rfl) (by kernel_rfl) (by kernel_rfl) (fun _ _ _ h => h) (Or.inr ⟨rfl, rfl⟩) ?_
      simp only [Act.put, List.setIfInBounds_toArray, List.set_cons_zero, List.set_cons_succ]
      refine take_w (i := 12) (v := undef) (some 26) rfl rfl (by kernel_rfl) (by kernel_rfl) (by kernel_rfl) (fun _ _ _ h => h) (Or.inr ⟨rfl, rfl⟩) ?_
      simp only [Act.put, List.setIfInBounds_toArray, List.set_cons_zero, List.set_cons_succ]
      refine take_w (i := 13) (v := undef) (some 27) rfl rfl (by kernel_rfl) (by kernel_rfl) (by kernel_rfl) (fun _ _ _ h => h) (Or.inr ⟨rfl, rfl⟩) ?_
      simp only [Act.put, List.setIfInBounds_toArray, List.set_cons_zero, List.set_cons_succ]
      refine take_w (i := 14) (v := undef) (some 28) rfl rfl (by kernel_rfl) (by kernel_rfl) (by kernel_rfl) (fun _ _ _ h => h) (Or.inr ⟨rfl, rfl⟩) ?_
      simp only [Act.put, List.setIfInBounds_toArray, List.set_cons_zero, List.set_cons_succ]
      refine take_w (i := 15) (v := .bool false) (some 29) rfl rfl (by kernel_rfl) (by kernel_rfl) (by kernel_rfl) (fun _ _ _ h => h) (Or.inl ⟨rfl, fun _ => rfl⟩) ?_
      simp only [Act.put, List.setIfInBounds_toArray, List.set_cons_zero, List.set_cons_succ]
      refine wpAny_done (by kernel_rfl) ?_ _
      go_wp2
      go_meet
      exact ⟨rfl, Lib.hid HQ.out.of_drew⟩
    · have hroom : ¬ Q.l.length = Q.room := fun e => H3.out ⟨by unfold hasK; exact decide_eq_false hk, e⟩
      have i1 : ((Q.l.length : Int) == (Q.room : Int)) = false := by simp; omega
      have HC : Hid (∀ w1, Below w.heap.size w w1 → w1.cell? ⟨b, 0, none⟩ = some (.int .i64 (Q.room : Int)) ∧ w1.cell? ⟨b, 2, none⟩ = some (.slice A Q.l.length C)) := Lib.hid (fun w1 h1 => by
        obtain ⟨c0, c1, c2⟩ := (HH.out.blk.below h1 HH.out.blk.lt).cells
        exact ⟨c0, c2⟩)
      have HE := Lib.hid (stop_no (Q := Q) hk)
      have CF2 := Lib.hid (CF.out hk)
      generalize hrm : Q.room = room at *
      generalize hnn : Q.l.length = n at *
      go_region_held3 (fun w' => w'.cell? ⟨b, 0, none⟩ = some (.int .i64 (room : Int)) ∧ w'.cell? ⟨b, 2, none⟩ = some (.slice A n C))
        (first | exact HC.out _ (Below.refl _ _) | exact HC.out _ (Below.refl _ _).drew | exact HC.out _ ((Below.refl _ _).drew.trans HB1.out))
        (first
          | (go_at_call 65; (with_reducible refine (CF2.out).mono ?_); rintro e w1 ⟨rfl, hb⟩; have HB1 := Lib.hid hb; clear hb)
          | fail)
      all_goals
        go_wp2
        go_meet
        refine ⟨rfl, Lib.hid ?_⟩
        rw [HE.out]
        exact ⟨A, C, HH.out.below ((Below.refl _ _).drew.trans HB1.out) (Nat.le_refl _), .inl rfl, Frm.of_below ((Below.refl _ _).drew.trans HB1.out)⟩
  case rest =>
    obtain ⟨rfl, HQ⟩ := hcut
    generalize wc = w2 at *
    obtain ⟨A1, C1, hq1, hm1, hf1⟩ := HQ.out
    obtain ⟨n1, hn1⟩ : ∃ n1, n1 = (cutK k Q.l).length := ⟨_, rfl⟩
    obtain ⟨P, hP⟩ : ∃ P, P = dpos d (cutK k Q.l) := ⟨_, rfl⟩
    have hPn : P ≤ n1 := by rw [hP, hn1]; exact dpos_le _ _
    have hall : ∀ w1, Below w2.heap.size w2 w1 → QBlk w1 b Q.room Q.now (.slice A1 n1 C1) ∧ QB w1 b (Q.stop k) A1 C1 := fun w1 hb => by
      refine ⟨?_, hq1.below hb (Nat.le_refl _)⟩
      have := hq1.blk.below hb hq1.blk.lt
      rw [hn1]
      exact this
    have HC2 : Hid (∀ w1, Below w2.heap.size w2 w1 → w1.cell? ⟨b, 2, none⟩ = some (.slice A1 n1 C1)) := Lib.hid (fun w1 hb => (hall w1 hb).1.cells.2.2)
    have CU : Hid (∀ w1, Below w2.heap.size w2 w1 → Calls Try.prog 88 #[.pointer (some ⟨b, 0, none⟩), .int .i64 d] w1 fun e w' => e = .returned (.int .i64 (P : Int)) ∧ Below w1.heap.size w1 w') := Lib.hid (fun w1 hb => by
      have := until_any d (by have := HD.out; omega) (by have := HD.out; omega) b (Q.stop k) A1 C1 (by have := HL.out; show (cutK k Q.l).length ≤ 1000; omega) HFS.out.sorted w1 (hall w1 hb).2
      rw [hP]
      exact this)
    have CI : Hid (∀ (W4 : World) (vb : Nat), Below w2.heap.size w2 W4 → w2.heap.size ≤ vb → vb < W4.heap.size → TBlk W4 vb (icells [⟨k, d⟩]) → Calls Try.prog 87 #[.slice A1 n1 C1, .int .i64 (P : Int), .slice (some ⟨vb, 0, none⟩) 1 1] W4 fun e w5 => ∃ A5 C5, e = .returned (.slice A5 (n1 + 1) C5) ∧ Hid (QBlk w5 b Q.room Q.now (.slice A1 n1 C1)) ∧ Hid (QTo w b A (Q.start k t) (w5.setCell ⟨b, 2, none⟩ (.slice A5 (n1 + 1) C5)))) := Lib.hid (fun W4 vb hb h5 h6 h7 => by
      have hq4 := hall W4 hb
      have hl4 : ∀ g, A1.map Addr.block = some g → g < w2.heap.size := hq1.lt
      have hins := insert_any ⟨k, d⟩ A1 n1 C1 vb P (cutK k Q.l) (by rw [← hn1]; exact hPn) (by have := HL.out; omega) W4 (by rw [hn1]; exact hq4.2.own) h7 h6 (fun e => by have := hl4 _ e.symm; omega)
      have e1 : (cutK k Q.l).take P ++ (⟨k, d⟩ : It) :: (cutK k Q.l).drop P = ins ⟨k, d⟩ (cutK k Q.l) := by unfold ins; rw [hP]
      rw [e1] at hins
      refine hins.mono ?_
      rintro e w5 ⟨A5, C5, rfl, ho5, hm5⟩
      have el : (ins ⟨k, d⟩ (cutK k Q.l)).length = n1 + 1 := by rw [ins_length, hn1]
      rw [el] at ho5
      rw [el]
      have hne : some b ≠ A1.map Addr.block := fun e => hq1.apart b e.symm rfl
      have hlt : b < W4.heap.size := hq4.1.lt
      have hq5 : QBlk w5 b Q.room Q.now (.slice A1 n1 C1) := hq4.1.keep (hm5.out.grown.block b hlt hne)
      refine ⟨A5, C5, rfl, Lib.hid hq5, Lib.hid ?_⟩
      rw [HST.out, ← HD.out]
      refine ⟨A5, C5, ⟨?_, ?_⟩, ?_, ?_⟩
      · show QBlk _ b Q.room Q.now (.slice A5 (ins ⟨k, d⟩ (cutK k Q.l)).length C5)
        rw [el]
        exact hq5.setItems _
      · show OwnT _ 0 (.slice A5 (ins ⟨k, d⟩ (cutK k Q.l)).length C5) (ins ⟨k, d⟩ (cutK k Q.l)).length (ins ⟨k, d⟩ (cutK k Q.l))
        rw [el]
        refine ho5.out.keep (fun g hg => Below.heap_setCell _ _ _ g ?_)
        rw [own_block] at hg
        rcases hm5.out.place with e | e
        · exact hq1.apart g (by rw [← e]; exact hg)
        · have h8 := e g hg
          show g ≠ b
          omega
      · refine Moved.trans hm1 (Nat.le_trans hf1.size hb.size) ?_
        exact hm5.out.place
      · exact (hf1.then_ hm1 (((Frm.of_below hb).trans (Frm.grown hm5.out.grown)).trans (Frm.setIn _ _ _ _ _))))
    obtain ⟨c0, c1, c2⟩ := (hall w2 (Below.refl _ _)).1.cells
    have hdn : Q.now + t = d := HD.out.symm
    have b1 : (0 : Int) ≤ d := by omega
    have b2 : d ≤ 2199023255552 := by omega
    clear hq1 hm1 hf1 hall hn1 hP CS CF HQ
    generalize Q.now = now at *
    go_upto_region 6 with fail
    clear c0 c1 c2
    have c2 := HC2.out w2 (Below.refl _ _)
    have e2 : ∀ o, (w2.alloc o).cell? ⟨b, 2, none⟩ = some (.slice A1 n1 C1) := fun o => HC2.out _ ((Below.refl _ _).alloc (Nat.le_refl _) o)
    go_region_law (first
        | (go_simp; go_at_call 88; (with_reducible refine (CU.out _ (Below.refl _ _).drew).mono ?_); rintro e w3 ⟨rfl, hb⟩; have HB3 := Lib.hid ((Below.refl w2.heap.size w2).drew.trans hb); have g2 := HC2.out w3 HB3.out; have g3 := (fun o => HC2.out _ (HB3.out.alloc HB3.out.size o)); clear hb)
        | (go_simp; go_at_call 88; (with_reducible refine (CU.out _ ((Below.refl _ _).alloc (Nat.le_refl _) _).drew).mono ?_); rintro e w3 ⟨rfl, hb⟩; have HB3 := Lib.hid (((Below.refl w2.heap.size w2).alloc (Nat.le_refl _) _).drew.trans (hb.mono (Nat.le_of_lt (lt_alloc _ _)))); have HT3 : Hid (TBlk w3 w2.heap.size (icells [⟨k, d⟩])) := Lib.hid ((hb.block w2.heap.size (lt_alloc _ _)).trans (run_new w2 k d)); have HV3 := Lib.hid (Nat.lt_of_lt_of_le (lt_alloc _ _) hb.size); have g2 := HC2.out w3 HB3.out; clear hb)
        | (go_simp; go_at_call 87; (with_reducible refine (CI.out _ w2.heap.size HB3.out (Nat.le_refl _) HV3.out HT3.out).mono ?_); rintro e w5 ⟨A5, C5, rfl, H5, HQ5⟩; obtain ⟨f0, f1, f2⟩ := H5.out.cells; have ff := H5.out.frozen 2)
        | (go_simp; go_at_call 87; (with_reducible refine (CI.out _ w3.heap.size (HB3.out.alloc HB3.out.size _) HB3.out.size (lt_alloc _ _) (run_new w3 k d)).mono ?_); rintro e w5 ⟨A5, C5, rfl, H5, HQ5⟩; obtain ⟨f0, f1, f2⟩ := H5.out.cells; have ff := H5.out.frozen 2)
        | fail)
    all_goals
      go_wp2
      go_ret
      exact ⟨rfl, HQ5⟩
/-- Start, whatever is asked. -/
theorem start_any (k t : Int) (b : Nat) (Q : Qn) (A : Option Addr) (C : Nat) (hf : Q.fit) (w : World) (h : QB w b Q A C) :
    Calls Try.prog 61 #[.pointer (some ⟨b, 0, none⟩), .int .u32 k, .int .i64 t] w fun e w' => e = .returned (.int .i64 (Q.code k t)) ∧ Hid (QTo w b A (Q.start k t) w') := by
  by_cases hr : t < 1 ∨ 1099511627776 < t
  · obtain ⟨e1, e2⟩ := Qn.code_range (Q := Q) (k := k) hr
    rw [e1, e2]
    refine (start_range k t hr b w).mono ?_
    rintro e w' ⟨rfl, rfl⟩
    exact ⟨rfl, Lib.hid ⟨A, C, h, .inl rfl, Frm.refl _ _ _⟩⟩
  · by_cases hc : Q.code k t = 0
    · rw [hc]
      exact start_ok Q k t hc b A C hf w h
    · have h2 : hasK k Q.l = false ∧ Q.l.length = Q.room := by
        unfold Qn.code at hc
        rw [if_neg hr] at hc
        split at hc
        · assumption
        · omega
      have e1 : Q.code k t = 2 := by unfold Qn.code; rw [if_neg hr, if_pos h2]
      have e2 : Q.start k t = Q := by unfold Qn.start; rw [if_neg hc]
      have hk : ¬ fidx k Q.l < Q.l.length := by have := h2.1; unfold hasK at this; simpa using this
      rw [e1, e2]
      refine (start_full k t (by omega) (by omega) b Q A C hf hk h2.2 w h).mono ?_
      rintro e w' ⟨rfl, hb⟩
      exact ⟨rfl, Lib.hid ⟨A, C, h.below hb (Nat.le_refl _), .inl rfl, Frm.of_below hb⟩⟩
end Go.Proofs.Ytnffngbkidehfaa.Nk
