/-
  Own text: an item is put among others: slices.Insert, walked.
  Own text: an item goes: slices.Delete, take, walked.
  Own text: a queue whose items bear a datagram, in plain numbers, in its block; its small calls, walked. (Written by gen_mqe.py.)
-/
import Derived.Test.YtldhlknmabpanaaGreatK08
import Derived.Lib.Overlaps
import Derived.Deep.AppendLies
namespace Go.Proofs.YtldhlknmabpanaaGreat.Mq
open Go.RowKit

theorem splice_new {α : Type} (A Z X : List α) : splice (A ++ Z) A.length X = A ++ (X ++ Z.drop X.length) := by
  unfold splice
  rw [List.take_left' rfl, List.drop_append]
  congr 2
  rw [List.drop_eq_nil_of_le (by omega), List.nil_append]
  congr 1
  omega
theorem splice_at {α : Type} (A Z X : List α) (n : Nat) (h : A.length = n) : splice (A ++ Z) n X = A ++ (X ++ Z.drop X.length) := by
  subst h; exact splice_new A Z X
/-- One item in a block of its own. -/
theorem one_new (w : World) (x : It) (fr : Nat × Nat) (hf : fr = (0, 0)) : TBlk (w.alloc (.cells x.cells 113 fr)) w.heap.size (icells [x]) := by
  subst hf
  exact Go.Deep.blk_alloc_new w _
set_option maxRecDepth 100000 in
theorem no_overlap (w : World) (vb g lb cb lc cc o : Nat) (L M : List Value) (hv : TBlk w vb L) (hg : TBlk w g M) (hM : 0 < M.length) (hne : vb ≠ g) :
    (callFunc 84 #[.slice (some ⟨vb, 0, none⟩) lc cc, .slice (some ⟨g, o, none⟩) lb cb]).run Tryz.prog w = .ok (.value (.bool false)) w := by
  unfold TBlk at hv hg
  rw [run_callFunc_extern Tryz.func84 (by kernel_rfl) (by kernel_rfl) (by kernel_rfl) (e := Extern.SlicesOverlaps.overlaps #[109, 109] #[4]) (by kernel_rfl),
    Lib.run_overlaps_apart w 109 4 113 Tryz.underlying109 13 (by intro w; rfl) ⟨vb, 0, none⟩ ⟨g, o, none⟩ lc cc lb cb hne 113 113 L.length M.length (by simp [World.shape?, hv]) (by simp [World.shape?, hg]) (by omega) (by simp [World.frozen?, hv]) (by simp [World.frozen?, hv])]
  rfl
/-- What a call may turn that moves a row on. -/
structure MovedTo (w : World) (s : Option Nat) (w' : World) (s' : Option Nat) : Prop where
  grown : w.grownBy w' s
  place : s' = s ∨ ∀ k, s' = some k → w.heap.size ≤ k
def PutIn (w : World) (A : Option Addr) (l : List It) (e : Ending) (w' : World) : Prop :=
  ∃ A' C', e = .returned (.slice A' l.length C') ∧ Hid (OwnT w' 0 (.slice A' l.length C') l.length l) ∧ Hid (MovedTo w (A.map Addr.block) w' (A'.map Addr.block))
theorem own_block (A : Option Addr) (n C : Nat) : (Value.slice A n C).ownBlock = A.map Addr.block := by cases A <;> rfl
set_option maxRecDepth 100000 in
theorem run_append_items {w : World} (ty : TypeId) (base : Nat) (A : Option Addr) (n C : Nat) (l : List It) (hown : OwnT w base (.slice A n C) n l)
    (ad : Addr) (m c : Nat) (l2 : List It) (hl : l2.length = m) (hnews : ∀ j u, (icells l2)[j]? = some u → w.cell? (ad.add j) = some u) (hb : n + m ≤ 100000) (hbase : base ≤ w.heap.size) :
    ∃ A' C' w', (Builtin.append_ #[109, 109] ty #[.slice A n C, .slice (some ad) m c]).run Tryz.prog w = .ok (.slice A' (n + m) C') w' ∧
      Hid (OwnT w' base (.slice A' (n + m) C') (n + m) (l ++ l2)) ∧ Hid (MovedTo w (A.map Addr.block) w' (A'.map Addr.block)) := by
  obtain ⟨i, hi, hzz⟩ := Option.map_eq_some_iff.1 info_item
  simp only [Prod.mk.injEq] at hzz
  obtain ⟨hz, hsz, hby⟩ := hzz
  obtain ⟨v', w', hr, h2, h3, _, h5⟩ := run_append_own_at (P := Tryz.prog) w base 109 ty 113 i _ 13 104 Tryz.underlying109 hi hz hsz hby rfl (by decide) _ n _ hown ad m c (icells l2) (by rw [icells_length, hl]) hnews (icells_one _) (by unfold maxLen; omega) (by omega) hbase
  rw [← icells_append] at h2
  obtain ⟨A', C', rfl, _⟩ := OwnT.slice (l := l ++ l2) h2
  refine ⟨A', C', w', hr, Lib.hid h2, Lib.hid ⟨?_, ?_⟩⟩
  · rw [own_block] at h3; exact h3
  · rw [own_block, own_block] at h5
    refine h5.imp id (fun e k hk => ?_)
    rw [e] at hk
    simp at hk
    omega
theorem wpList_append_items {w : World} {ops : Array Oper} {rest : List Oper} {o : Oper} {a : Act} {Q : Exit → Act → World → Prop} (hgd : o.guard = none) (s x : Operand)
    (ho : o.op = .call { callee := .builtin .append, args := #[s, x], argTypes := #[109, 109] })
    (base : Nat) (A : Option Addr) (n C : Nat) (hs : a.eval s = .slice A n C) (l : List It) (hown : OwnT w base (.slice A n C) n l)
    (ad : Addr) (m c : Nat) (hx : a.eval x = .slice (some ad) m c) (l2 : List It) (hl : l2.length = m) (hnews : ∀ j u, (icells l2)[j]? = some u → w.cell? (ad.add j) = some u) (hb : n + m ≤ 100000) (hbase : base ≤ w.heap.size)
    (h : ∀ A' C' w', Hid (OwnT w' base (.slice A' (n + m) C') (n + m) (l ++ l2)) → Hid (MovedTo w (A.map Addr.block) w' (A'.map Addr.block)) → wpList Tryz.prog ops Q rest (a.put o.dst (.slice A' (n + m) C')) w') :
    wpList Tryz.prog ops Q (o :: rest) a w := by
  refine wpList_plain hgd fun K hK => ?_
  obtain ⟨A', C', w', hr, h1, h2⟩ := run_append_items o.type base A n C l hown ad m c l2 hl hnews hb hbase
  unfold Oper.wp
  simp only [execOp, ho, resolve, invoke, builtin, Sem.run_bind, Sem.run_pure, Result.andThen_ok, List.map_toArray, List.map_cons, List.map_nil, hs, hx, hr]
  exact hK _ _ (h A' C' w' h1 h2)
set_option maxRecDepth 100000 in
theorem insert_end (x : It) (A : Option Addr) (n C vb : Nat) (l : List It) (hn : n ≤ 1000) (w : World) (h : OwnT w 0 (.slice A n C) n l) (hv : TBlk w vb (icells [x])) :
    Calls Tryz.prog 48 #[.slice A n C, .int .i64 (n : Int), .slice (some ⟨vb, 0, none⟩) 1 1] w (PutIn w A (l ++ [x])) := by
  have HO := Lib.hid h
  have HL := Lib.hid h.length
  have HN : Hid (∀ j u, (icells [x])[j]? = some u → w.cell? ((⟨vb, 0, none⟩ : Addr).add j) = some u) := Lib.hid (TBlk.src (P := []) (S := []) (by simpa using hv) 0 rfl)
  have HM : Hid (n + 1 ≤ 100000) := Lib.hid (by omega)
  have hnC : n ≤ C := by obtain ⟨A', C', e, h1, _⟩ := h.slice; simp at e; omega
  have hn1 : (n : Int) ≤ 1000 := by omega
  have hnC2 : (n : Int) ≤ (C : Int) := by omega
  clear h hv hn hnC
  go_enter Tryz.func48, Tryz.ntmps48
  go_upto_region 2 with fail
  generalize (if C = n then A else _ : Option Addr) = ad at *
  go_wp2_with (first
    | (at_builtin; (with_reducible refine wpList_append_items rfl (.tmp 23) (.tmp 24) rfl 0 A n C rfl l HO.out ⟨vb, 0, none⟩ 1 1 rfl [x] rfl HN.out HM.out (Nat.zero_le _) ?_); intro A' C' w' H1 H2)
    | fail)
  all_goals
    go_ret
    have e : (l ++ [x]).length = n + 1 := by rw [List.length_append, HL.out]; rfl
    refine ⟨A', C', by rw [e]; rfl, ?_, H2⟩
    rw [e]
    exact H1
theorem fill_grow {α : Type} (A Z X B : List α) (p : Nat) (hA : A.length = p) (hX : X.length = 13) : splice (splice (A ++ Z) p X) (p + 13) B = A ++ (X ++ (B ++ (Z.drop 13).drop B.length)) := by
  rw [splice_at _ _ _ _ hA, ← List.append_assoc, splice_at _ _ _ _ (by rw [List.length_append]; omega), hX, List.append_assoc]
/-- An item among others, where there is no room. -/
theorem grown_two {w w1 w2 w3 : World} {s : Option Nat} (h1 : w.grownBy w1 none) (h2 : w1.grownBy w2 (some w.heap.size)) (h3 : w2.grownBy w3 (some w.heap.size)) : MovedTo w s w3 (some w.heap.size) := by
  refine ⟨⟨h3.os.trans (h2.os.trans h1.os), h3.tape.trans (h2.tape.trans h1.tape), h3.output.trans (h2.output.trans h1.output), Nat.le_trans h1.size (Nat.le_trans h2.size h3.size), fun k hk _ => ?_⟩, .inr (fun k hk => by simp at hk; omega)⟩
  have a1 := h1.size
  have a2 := h2.size
  have hne : some k ≠ some w.heap.size := by intro e; simp at e; omega
  exact (h3.block k (by omega) hne).trans ((h2.block k (by omega) hne).trans (h1.block k hk (by simp)))
set_option maxRecDepth 100000 in
theorem insert_grow (x : It) (g n C vb i k : Nat) (a b : List It) (R : List Value) (ha : a.length = i) (hb : b.length = k) (hk : 0 < k) (hnk : n = i + k) (hn : n ≤ 1000) (hC : C = n) (w : World) (hg : TBlk w g (icells a ++ icells b ++ R)) (hgl : g < w.heap.size) (hv : TBlk w vb (icells [x])) (hvl : vb < w.heap.size) :
    Calls Tryz.prog 48 #[.slice (some ⟨g, 0, none⟩) n C, .int .i64 (i : Int), .slice (some ⟨vb, 0, none⟩) 1 1] w (PutIn w (some ⟨g, 0, none⟩) (a ++ x :: b)) := by
  obtain ⟨m, hm⟩ : ∃ m, m = k + 1 := ⟨_, rfl⟩
  have e1 : (n : Int) + 1 - (i : Int) = (m : Int) := by omega
  have lx : (icells [x]).length = 13 := rfl
  have HA : Hid ((icells a).length = i * 13) := Lib.hid (by rw [icells_length, ha])
  have HB : Hid ((icells b).length = k * 13) := Lib.hid (by rw [icells_length, hb])
  have HG : Hid (TBlk w g (icells a ++ (icells b ++ R))) := Lib.hid (by rw [← List.append_assoc]; exact hg)
  have HAB : Hid (a.length = i ∧ b.length = k) := Lib.hid ⟨ha, hb⟩
  have HN : Hid (n = i + k ∧ m = k + 1 ∧ C = n ∧ n ≤ 1000 ∧ 0 < k) := Lib.hid ⟨hnk, hm, hC, hn, hk⟩
  -- the two sources, in all worlds to come
  have HSB : Hid (∀ w' : World, w'.heap[g]? = w.heap[g]? → ∀ j u, (icells b)[j]? = some u → w'.cell? ((⟨g, i * 13, none⟩ : Addr).add j) = some u) := Lib.hid (fun w' e => TBlk.src (P := icells a) (S := R) (show TBlk w' g (icells a ++ icells b ++ R) from e.trans hg) _ (by rw [icells_length, ha]))
  have HSX : Hid (∀ w' : World, w'.heap[vb]? = w.heap[vb]? → ∀ j u, (icells [x])[j]? = some u → w'.cell? ((⟨vb, 0, none⟩ : Addr).add j) = some u) := Lib.hid (fun w' e => TBlk.src (P := []) (S := []) (by simpa using (show TBlk w' vb (icells [x]) from e.trans hv)) 0 rfl)
  have HVL := Lib.hid hvl
  have HGL := Lib.hid hgl
  have M0 : Hid (0 < m) := Lib.hid (by omega)
  have HK1 : Hid (1 = Nat.min 1 m) := Lib.hid (by simp only [Nat.min_def]; split <;> omega)
  have HK2 : Hid (k = Nat.min (n - i) (i + m - (i + 1))) := Lib.hid (by simp only [Nat.min_def]; split <;> omega)
  have HF2 : Hid (∀ (Z : List Value) (C2 : Nat), (i + m ≤ C2 ∧ C2 ≤ maxLen ∧ i * 13 + Z.length = C2 * 13) → (i + 1) * 13 + (icells b).length ≤ (splice (icells a ++ Z) (i * 13) (icells [x])).length) := Lib.hid (fun Z C2 h => by rw [splice_at _ _ _ _ HA.out, List.length_append, List.length_append, List.length_drop, HA.out, HB.out, lx]; omega)
  have HW12 : Hid (∀ w1 w2 : World, w.grownBy w1 none → w1.grownBy w2 (some w.heap.size) → w2.drew.heap[g]? = w.heap[g]?) := Lib.hid (fun w1 w2 h1 h2 => (h2.block g (Nat.lt_of_lt_of_le hgl h1.size) (by simp; omega)).trans (h1.block g hgl (by simp)))
  have HFIN : Hid (∀ (Z : List Value) (C2 : Nat) (w1 w2 w3 : World), (i + m ≤ C2 ∧ C2 ≤ maxLen ∧ i * 13 + Z.length = C2 * 13) → TBlk w3 w.heap.size (splice (splice (icells a ++ Z) (i * 13) (icells [x])) ((i + 1) * 13) (icells b)) → w.grownBy w1 none → w1.grownBy w2 (some w.heap.size) → w2.drew.grownBy w3 (some w.heap.size) → PutIn w (some ⟨g, 0, none⟩) (a ++ x :: b) (.returned (.slice (some ⟨w.heap.size, 0, none⟩) (i + m) C2)) w3) := Lib.hid (fun Z C2 w1 w2 w3 h hg3 h1 h2 h3 => by
    have e : (a ++ x :: b).length = i + m := by rw [List.length_append, List.length_cons, ha, hb]; omega
    refine ⟨some ⟨w.heap.size, 0, none⟩, C2, by rw [e], Lib.hid ?_, Lib.hid (grown_two h1 h2 ⟨h3.os, h3.tape, h3.output, h3.size, h3.block⟩)⟩
    rw [show (i + 1) * 13 = i * 13 + 13 by omega, fill_grow _ _ _ _ _ HA.out lx] at hg3
    refine OwnT.of (R := (Z.drop 13).drop (icells b).length) rfl (Nat.zero_le _) ?_ ?_ h.2.1
    · rw [icells_append, show x :: b = [x] ++ b from rfl, icells_append, List.append_assoc, List.append_assoc]
      exact hg3
    · rw [e, List.length_drop, List.length_drop, HB.out]
      omega)
  have HF1 : Hid (∀ (Z : List Value) (C2 : Nat), (i + m ≤ C2 ∧ C2 ≤ maxLen ∧ i * 13 + Z.length = C2 * 13) → i * 13 + (icells [x]).length ≤ (icells a ++ Z).length) := Lib.hid (fun Z C2 h => by rw [List.length_append, HA.out, lx]; omega)
  have M1 : Hid (C < i + m) := Lib.hid (by omega)
  have M2 : Hid (i + m ≤ 100000) := Lib.hid (by omega)
  have i1 : (i : Int) < (n : Int) := by omega
  have i2 : (n : Int) ≤ (C : Int) := by omega
  have i3 : (n : Int) ≤ 1000 := by omega
  have i4 : (C : Int) < (n : Int) + 1 := by omega
  have i5 : ¬ (i : Int) = (n : Int) := by omega
  have i6 : ¬ C = i := by omega
  have i7 : (i : Int) ≤ (C : Int) := by omega
  clear hg hv ha hb hnk hm hC hn hk lx hvl hgl
  go_enter Tryz.func48, Tryz.ntmps48
  go_upto_region 9 with fail
  go_wp2_with (first
    | (at_builtin; (with_reducible refine wpList_append_made rfl (.tmp 34) (.tmp 39) rfl g i C m rfl rfl (icells a) (icells b ++ R) HG.out HA.out M0.out M1.out M2.out ?_); intro C2 Z w1 h1 h2 h3 HG1 HS1 HW1; have H123 : Hid (i + m ≤ C2 ∧ C2 ≤ maxLen ∧ i * 13 + Z.length = C2 * 13) := Lib.hid ⟨h1, h2, h3⟩; have j1 : ¬ C2 = i := (by have := M0.out; omega); have j2 : ¬ C2 = i + 1 := (by have := M0.out; have := HN.out; omega); have j3 : (i : Int) + 1 ≤ (i : Int) + (m : Int) := (by have := M0.out; omega); clear h1 h2 h3)
    | ((with_reducible refine wpList_copy_items rfl (.tmp 43) (.tmp 44) rfl w.heap.size (i * 13) m (C2 - i) ⟨vb, 0, none⟩ 1 1 rfl rfl (icells a ++ Z) (icells [x]) 1 HG1.out HK1.out rfl (HSX.out w1 (HW1.out.block vb HVL.out (by simp))) (HF1.out Z C2 H123.out) (icells_one _) ?_); intro w2 HG2 HW2)
    | fail)
  have wr1 : IntKind.i64.wrap ((i : Int) + 1) = (i : Int) + 1 := by rw [IntKind.wrap_i64]; omega
  have tn1 : ((i : Int) + 1).toNat = i + 1 := by omega
  have p1 : (0 : Int) ≤ (i : Int) + 1 := by omega
  have p2 : i ≤ n := by omega
  go_region_law (refine step_copy_items rfl (.tmp 50) (.tmp 53) rfl w.heap.size ((i + 1) * 13) (i + m - (i + 1)) (C2 - (i + 1)) ⟨g, i * 13, none⟩ (n - i) (C - i) (by simp [Act.eval, Act.put]) (by simp [Act.eval, Act.put]) _ (icells b) k HG2.out HK2.out HB.out (HSB.out _ (HW12.out _ _ HW1.out HW2.out)) (HF2.out Z C2 H123.out) (icells_one _) ?_; intro w3 HG3 HW3)
  all_goals
    go_wp2
    go_ret
    exact HFIN.out Z C2 w1 w2 w3 H123.out HG3.out HW1.out HW2.out HW3.out
theorem fill_shift {α : Type} (A X B R : List α) (p : Nat) (hA : A.length = p) (hX : X.length = 13) (hR : 13 ≤ R.length) : splice (splice (A ++ (B ++ R)) (p + 13) B) p X = A ++ (X ++ (B ++ R.drop 13)) := by
  have e : A ++ (B ++ R) = (A ++ (B ++ R).take 13) ++ (B ++ R).drop 13 := by rw [List.append_assoc, List.take_append_drop]
  rw [e, splice_at _ _ _ _ (by rw [List.length_append, List.length_take, List.length_append]; omega), List.append_assoc, splice_at _ _ _ _ hA, hX, List.drop_left' (by rw [List.length_take, List.length_append]; omega), List.drop_drop, List.drop_append]
  congr 3
  rw [List.drop_eq_nil_of_le (by omega), List.nil_append]
  congr 1
  omega
set_option maxRecDepth 100000 in
theorem insert_shift (x : It) (g n C vb i k : Nat) (a b : List It) (R : List Value) (ha : a.length = i) (hb : b.length = k) (hk : 0 < k) (hnk : n = i + k) (hn : n ≤ 1000) (hC : n + 1 ≤ C) (hCm : C ≤ maxLen) (hR : n * 13 + R.length = C * 13) (w : World) (hg : TBlk w g (icells a ++ icells b ++ R)) (hv : TBlk w vb (icells [x])) (hne : vb ≠ g) (hvl : vb < w.heap.size) :
    Calls Tryz.prog 48 #[.slice (some ⟨g, 0, none⟩) n C, .int .i64 (i : Int), .slice (some ⟨vb, 0, none⟩) 1 1] w (PutIn w (some ⟨g, 0, none⟩) (a ++ x :: b)) := by
  have lx : (icells [x]).length = 13 := rfl
  have la : (icells a).length = i * 13 := by rw [icells_length, ha]
  have lb : (icells b).length = k * 13 := by rw [icells_length, hb]
  have hg' : TBlk w g (icells a ++ (icells b ++ R)) := by rw [← List.append_assoc]; exact hg
  have HG : Hid (TBlk w.drew g (icells a ++ (icells b ++ R))) := Lib.hid hg'
  have hov : ∀ lb cb, (callFunc 84 #[.slice (some ⟨vb, 0, none⟩) 1 1, .slice (some ⟨g, (i + 1) * 13, none⟩) lb cb]).run Tryz.prog w = .ok (.value (.bool false)) w := fun lb cb => no_overlap w vb g lb cb 1 1 _ _ _ hv hg' (by simp only [List.length_append]; omega) hne
  have HSB : Hid (∀ j u, (icells b)[j]? = some u → w.drew.cell? ((⟨g, i * 13, none⟩ : Addr).add j) = some u) := Lib.hid (TBlk.src (P := icells a) (S := R) (show TBlk w.drew g (icells a ++ icells b ++ R) from hg) _ la)
  have HSX : Hid (∀ w' : World, w'.heap[vb]? = w.heap[vb]? → ∀ j u, (icells [x])[j]? = some u → w'.cell? ((⟨vb, 0, none⟩ : Addr).add j) = some u) := Lib.hid (fun w' e => TBlk.src (P := []) (S := []) (by simpa using (show TBlk w' vb (icells [x]) from e.trans hv)) 0 rfl)
  have HVB : Hid (∀ w2 : World, w.drew.grownBy w2 (some g) → w2.heap[vb]? = w.heap[vb]?) := Lib.hid (fun w2 h => h.block vb hvl (by simp; exact hne))
  have HK1 : Hid (1 = Nat.min 1 (n + 1 - i)) := Lib.hid (by simp only [Nat.min_def]; split <;> omega)
  have HK2 : Hid (k = Nat.min (n + 1 - i) (n + 1 - (i + 1))) := Lib.hid (by simp only [Nat.min_def]; split <;> omega)
  have HLB : Hid ((icells b).length = k * 13) := Lib.hid lb
  have HF2 : Hid ((i + 1) * 13 + (icells b).length ≤ (icells a ++ (icells b ++ R)).length) := Lib.hid (by simp only [List.length_append]; omega)
  have HF1 : Hid (i * 13 + (icells [x]).length ≤ (splice (icells a ++ (icells b ++ R)) ((i + 1) * 13) (icells b)).length) := Lib.hid (by rw [length_splice _ _ _ (by simp only [List.length_append]; omega)]; simp only [List.length_append]; omega)
  have HFIN : Hid (∀ w2 w3 : World, TBlk w3 g (splice (splice (icells a ++ (icells b ++ R)) ((i + 1) * 13) (icells b)) (i * 13) (icells [x])) → w.drew.grownBy w2 (some g) → w2.grownBy w3 (some g) → PutIn w (some ⟨g, 0, none⟩) (a ++ x :: b) (.returned (.slice (some ⟨g, 0, none⟩) (n + 1) C)) w3) := Lib.hid (fun w2 w3 hg3 h1 h2 => by
    have e : (a ++ x :: b).length = n + 1 := by rw [List.length_append, List.length_cons, ha, hb]; omega
    refine ⟨some ⟨g, 0, none⟩, C, by rw [e], Lib.hid ?_, Lib.hid ⟨grown_trans (B := w2) ⟨h1.os, h1.tape, h1.output, h1.size, h1.block⟩ h2, .inl rfl⟩⟩
    rw [show (i + 1) * 13 = i * 13 + 13 by omega, fill_shift _ _ _ _ _ la lx (by omega)] at hg3
    refine OwnT.of (R := R.drop 13) rfl (Nat.zero_le _) ?_ ?_ hCm
    · rw [icells_append, show x :: b = [x] ++ b from rfl, icells_append, List.append_assoc, List.append_assoc]
      exact hg3
    · rw [e, List.length_drop]
      omega)
  have i1 : (i : Int) < (n : Int) := by omega
  have i2 : (n : Int) + 1 ≤ (C : Int) := by omega
  have i3 : (n : Int) ≤ 1000 := by omega
  have i4 : ¬ (C : Int) < (n : Int) + 1 := by omega
  have i5 : ¬ (i : Int) = (n : Int) := by omega
  have i6 : ¬ C = i := by omega
  have i7 : ¬ C = i + 1 := by omega
  have p2 : i ≤ n := by omega
  have p3 : i ≤ n + 1 := by omega
  have p4 : (i : Int) ≤ (n : Int) + 1 := by omega
  clear hg hg' hv ha hb hnk hC hn hk lx la lb hvl hR hCm
  go_enter Tryz.func48, Tryz.ntmps48
  go_wp2_with (first | (simp only [hov]) | fail)
  have wr1 : IntKind.i64.wrap ((i : Int) + 1) = (i : Int) + 1 := by rw [IntKind.wrap_i64]; omega
  have tn1 : ((i : Int) + 1).toNat = i + 1 := by omega
  have p1 : (0 : Int) ≤ (i : Int) + 1 := by omega
  have p5 : (i : Int) + 1 ≤ (n : Int) + 1 := by omega
  go_region_law (refine step_copy_items rfl (.tmp 73) (.tmp 76) rfl g ((i + 1) * 13) (n + 1 - (i + 1)) (C - (i + 1)) ⟨g, i * 13, none⟩ (n + 1 - i) (C - i) (by simp [Act.eval, Act.put]) (by simp [Act.eval, Act.put]) _ (icells b) k HG.out HK2.out HLB.out HSB.out HF2.out (icells_one _) ?_; intro w2 HG2 HW2)
  all_goals
    go_wp2_with (first
      | ((with_reducible refine wpList_copy_items rfl (.tmp 80) (.tmp 81) rfl g (i * 13) (n + 1 - i) (C - i) ⟨vb, 0, none⟩ 1 1 rfl rfl (splice (icells a ++ (icells b ++ R)) ((i + 1) * 13) (icells b)) (icells [x]) 1 HG2.out HK1.out rfl (HSX.out w2 (HVB.out w2 HW2.out)) HF1.out (icells_one _) ?_); intro w3 HG3 HW3)
      | fail)
    go_ret
    exact HFIN.out w2 w3 HG3.out HW2.out HW3.out
/-- An item put among others. -/
theorem insert_any (x : It) (A : Option Addr) (n C vb i : Nat) (l : List It) (hi : i ≤ l.length) (hn : n ≤ 1000) (w : World) (h : OwnT w 0 (.slice A n C) n l) (hv : TBlk w vb (icells [x])) (hvl : vb < w.heap.size) (hne : some vb ≠ A.map Addr.block) :
    Calls Tryz.prog 48 #[.slice A n C, .int .i64 (i : Int), .slice (some ⟨vb, 0, none⟩) 1 1] w (PutIn w A (l.take i ++ x :: l.drop i)) := by
  have hl := h.length
  by_cases he : i = n
  · subst he
    rw [List.take_of_length_le (by omega), List.drop_eq_nil_of_le (by omega)]
    exact insert_end x A i C vb l hn w h hv
  · rcases h.form with ⟨rfl, h0, _, _⟩ | ⟨g, R, rfl, _, hgl, hg, hR, hC⟩
    · omega
    · have hta : (l.take i).length = i := by rw [List.length_take]; omega
      have htb : (l.drop i).length = n - i := by rw [List.length_drop]; omega
      rw [← List.take_append_drop i l, icells_append] at hg
      by_cases hroom : n + 1 ≤ C
      · exact insert_shift x g n C vb i (n - i) _ _ R hta htb (by omega) (by omega) hn hroom hC hR w hg hv (by simpa using hne) hvl
      · exact insert_grow x g n C vb i (n - i) _ _ R hta htb (by omega) (by omega) hn (by omega) w hg hgl hv hvl
end Go.Proofs.YtldhlknmabpanaaGreat.Mq
namespace Go.Proofs.YtldhlknmabpanaaGreat.Mq
open Go.RowKit

theorem cut_shift {α : Type} (A Y B R Z : List α) (p k : Nat) (hA : A.length = p) (hB : B.length = k) : splice (splice (A ++ (Y ++ (B ++ R))) p B) (p + k) Z = A ++ (B ++ (Z ++ ((Y ++ (B ++ R)).drop k).drop Z.length)) := by
  rw [splice_at _ _ _ _ hA, ← List.append_assoc, splice_at _ _ _ _ (by rw [List.length_append]; omega), List.append_assoc, hB]
set_option maxRecDepth 100000 in
theorem delete_any (y : It) (g n C i k : Nat) (a b : List It) (R : List Value) (ha : a.length = i) (hb : b.length = k) (hnk : n = i + 1 + k) (hn : n ≤ 1000) (hC : n ≤ C) (hCm : C ≤ maxLen) (hR : n * 13 + R.length = C * 13) (w : World) (hg : TBlk w g (icells (a ++ y :: b) ++ R)) :
    Calls Tryz.prog 86 #[.slice (some ⟨g, 0, none⟩) n C, .int .i64 (i : Int), .int .i64 ((i : Int) + 1)] w fun e w' => e = .returned (.slice (some ⟨g, 0, none⟩) (i + k) C) ∧ Hid (OwnT w' 0 (.slice (some ⟨g, 0, none⟩) (i + k) C) (i + k) (a ++ b)) ∧ Hid (w.grownBy w' (some g)) := by
  have ly : (icells [y]).length = 13 := rfl
  have la : (icells a).length = i * 13 := by rw [icells_length, ha]
  have lb : (icells b).length = k * 13 := by rw [icells_length, hb]
  have hg' : TBlk w g (icells a ++ (icells [y] ++ (icells b ++ R))) := by
    rw [icells_append, show y :: b = [y] ++ b from rfl, icells_append, List.append_assoc, List.append_assoc] at hg
    exact hg
  have HG : Hid (TBlk w.drew g (icells a ++ (icells [y] ++ (icells b ++ R)))) := Lib.hid hg'
  obtain ⟨ad, had, hsrc⟩ : ∃ ad : Addr, (if C = i + 1 then some (⟨g, 0, none⟩ : Addr) else some ⟨g, (i + 1) * 13, none⟩) = some ad ∧ Hid (∀ j u, (icells b)[j]? = some u → w.drew.cell? (ad.add j) = some u) := by
    by_cases h : C = i + 1
    · refine ⟨⟨g, 0, none⟩, by rw [if_pos h], Lib.hid (fun j u hu => ?_)⟩
      have := (List.getElem?_eq_some_iff.1 hu).1
      omega
    · refine ⟨⟨g, (i + 1) * 13, none⟩, by rw [if_neg h], Lib.hid ?_⟩
      refine TBlk.src (P := icells a ++ icells [y]) (S := R) ?_ _ (by rw [List.length_append]; omega)
      rw [List.append_assoc, List.append_assoc]
      exact hg'
  have HLB : Hid ((icells b).length = k * 13) := Lib.hid lb
  have HR1 : Hid (i + k ≤ C) := Lib.hid (by omega)
  have HF1 : Hid (i * 13 + (icells b).length ≤ (icells a ++ (icells [y] ++ (icells b ++ R))).length) := Lib.hid (by simp only [List.length_append]; omega)
  have HF2 : Hid ((i + k) * 13 + (n - (i + k)) * 13 ≤ (splice (icells a ++ (icells [y] ++ (icells b ++ R))) (i * 13) (icells b)).length) := Lib.hid (by rw [length_splice _ _ _ (by simp only [List.length_append]; omega)]; simp only [List.length_append]; omega)
  have HFIN : Hid (∀ (w2 w3 : World) (Z : List Value), Z.length = (n - (i + k)) * 13 → TBlk w3 g (splice (splice (icells a ++ (icells [y] ++ (icells b ++ R))) (i * 13) (icells b)) ((i + k) * 13) Z) → w.drew.grownBy w2 (some g) → w2.grownBy w3 (some g) → OwnT w3 0 (.slice (some ⟨g, 0, none⟩) (i + k) C) (i + k) (a ++ b) ∧ w.grownBy w3 (some g)) := Lib.hid (fun w2 w3 Z hZ hg3 h1 h2 => by
    refine ⟨?_, grown_trans (B := w2) ⟨h1.os, h1.tape, h1.output, h1.size, h1.block⟩ h2⟩
    rw [show (i + k) * 13 = i * 13 + k * 13 by omega, cut_shift _ _ _ _ _ _ _ la lb] at hg3
    refine OwnT.of (R := Z ++ ((icells [y] ++ (icells b ++ R)).drop (k * 13)).drop Z.length) (by rw [List.length_append]; omega) (Nat.zero_le _) ?_ ?_ hCm
    · rw [icells_append, List.append_assoc]
      exact hg3
    · simp only [List.length_append, List.length_drop]
      omega)
  have i1 : (i : Int) < (n : Int) := by omega
  have i2 : (n : Int) ≤ (C : Int) := by omega
  have i3 : (n : Int) ≤ 1000 := by omega
  have i4 : (i : Int) + 1 ≤ (n : Int) := by omega
  have i8 : n - (i + 1) = k := by omega
  have HNK : Hid (n = i + 1 + k) := Lib.hid hnk
  clear hg hg' ha hb hnk hn la lb ly hR hCm
  go_enter Tryz.func86, Tryz.ntmps86
  go_upto_region 5 with fail
  have wr1 : IntKind.i64.wrap ((i : Int) + 1) = (i : Int) + 1 := by rw [IntKind.wrap_i64]; omega
  have tn1 : ((i : Int) + 1).toNat = i + 1 := by omega
  have p1 : (0 : Int) ≤ (i : Int) + 1 := by omega
  have p2 : i ≤ C := by omega
  have p3 : (i : Int) ≤ (C : Int) := by omega
  go_region_law (refine step_append_items rfl (.tmp 22) (.tmp 25) rfl g i C ad k (C - (i + 1)) (by simp [Act.eval, Act.put]) (by simp [Act.eval, Act.put]) _ (icells b) HG.out HLB.out HR1.out hsrc.out HF1.out (icells_one _) ?_; intro w2 HG2 HW2)
  all_goals
    have q1 : ¬ C = i + k := by have := HNK.out; omega
    have Q2 : Hid (0 < n - (i + k)) := Lib.hid (by have := HNK.out; omega)
    have q3 : (i : Int) + (k : Int) ≤ (n : Int) := by have := HNK.out; omega
    have q4 : n ≤ C := by omega
    go_wp2_with (first
      | ((with_reducible refine wpList_clear_items rfl (.tmp 31) rfl g ((i + k) * 13) (n - (i + k)) (C - (i + k)) rfl Q2.out _ HG2.out HF2.out ?_); intro w3 Z HZ HG3 HW3)
      | fail)
    go_ret
    obtain ⟨h1, h2⟩ := HFIN.out w2 w3 Z HZ.out HG3.out HW2.out HW3.out
    exact ⟨rfl, Lib.hid h1, Lib.hid h2⟩
end Go.Proofs.YtldhlknmabpanaaGreat.Mq
namespace Go.Proofs.YtldhlknmabpanaaGreat.Mq
open Go.RowKit

/-- A queue in plain numbers. -/
structure Qn where
  room : Nat
  pushed : Nat
  l : List It
/-- A queue's block. -/
def QBlk (w : World) (b room pushed : Nat) (s : Value) : Prop := w.heap[b]? = some (.cells #[.int .i64 (room : Int), .int .i64 (pushed : Int), s] 111 (0, 0))
section
variable {w : World} {b room pushed : Nat} {s : Value}
theorem QBlk.lt (h : QBlk w b room pushed s) : b < w.heap.size := (Array.getElem?_eq_some_iff.1 h).1
theorem QBlk.cells (h : QBlk w b room pushed s) : w.cell? ⟨b, 0, none⟩ = some (.int .i64 (room : Int)) ∧ w.cell? ⟨b, 1, none⟩ = some (.int .i64 (pushed : Int)) ∧ w.cell? ⟨b, 2, none⟩ = some s := by
  unfold QBlk at h
  simp [World.cell?, h]
theorem QBlk.frozen (h : QBlk w b room pushed s) (i : Nat) : w.frozen? ⟨b, i, none⟩ = false := by
  unfold QBlk at h
  simp [World.frozen?, h]
theorem QBlk.keep {w' : World} (h : QBlk w b room pushed s) (e : w'.heap[b]? = w.heap[b]?) : QBlk w' b room pushed s := e.trans h
theorem QBlk.below {w' : World} {B : Nat} (h : QBlk w b room pushed s) (hb : Below B w w') (hB : b < B) : QBlk w' b room pushed s := h.keep (hb.block b hB)
theorem QBlk.setPushed (h : QBlk w b room pushed s) (n : Nat) : QBlk (w.setCell ⟨b, 1, none⟩ (.int .i64 (n : Int))) b room n s := by
  unfold QBlk at *
  simp [World.setCell, Array.getElem?_modify, h]
theorem QBlk.setItems (h : QBlk w b room pushed s) (v : Value) : QBlk (w.setCell ⟨b, 2, none⟩ v) b room pushed v := by
  unfold QBlk at *
  simp [World.setCell, Array.getElem?_modify, h]
theorem QBlk.other (h : QBlk w b room pushed s) {p : Addr} (hp : b ≠ p.block) (u : Value) : QBlk (w.setCell p u) b room pushed s := h.keep (Below.heap_setCell w p u b hp)
end
/-- A queue: its block, and its items. -/
structure QB (w : World) (b : Nat) (Q : Qn) (A : Option Addr) (C : Nat) : Prop where
  blk : QBlk w b Q.room Q.pushed (.slice A Q.l.length C)
  own : OwnT w 0 (.slice A Q.l.length C) Q.l.length Q.l
theorem QB.apart {w : World} {b C : Nat} {Q : Qn} {A : Option Addr} (h : QB w b Q A C) (g : Nat) (hg : A.map Addr.block = some g) : g ≠ b := by
  rcases h.own.form with ⟨e, _⟩ | ⟨g', R, e, _, _, hg', _⟩
  · rw [e] at hg; simp at hg
  · rw [e] at hg
    simp at hg
    subst hg
    intro hb
    subst hb
    have := h.blk
    unfold QBlk at this
    unfold TBlk at hg'
    rw [hg'] at this
    simp at this
theorem QB.keep {w w' : World} {b C : Nat} {Q : Qn} {A : Option Addr} (h : QB w b Q A C) (e : w'.heap[b]? = w.heap[b]?) (hg : ∀ g, A.map Addr.block = some g → w'.heap[g]? = w.heap[g]?) : QB w' b Q A C :=
  ⟨h.blk.keep e, h.own.keep (fun g hg' => hg g (by rw [own_block] at hg'; exact hg'))⟩
theorem QB.lt {w : World} {b C : Nat} {Q : Qn} {A : Option Addr} (h : QB w b Q A C) : ∀ g, A.map Addr.block = some g → g < w.heap.size := fun g hg => (h.own.lt g (by rw [own_block]; exact hg)).2
theorem QB.below {w w' : World} {b C B : Nat} {Q : Qn} {A : Option Addr} (h : QB w b Q A C) (hb : Below B w w') (hB : w.heap.size ≤ B) : QB w' b Q A C :=
  h.keep (hb.block b (Nat.lt_of_lt_of_le h.blk.lt hB)) (fun g hg => hb.block g (Nat.lt_of_lt_of_le (h.lt g hg) hB))
theorem QB.drewN {w : World} {b C : Nat} {Q : Qn} {A : Option Addr} (h : QB w b Q A C) (k : Nat) : QB (w.drewN k) b Q A C := h.keep rfl (fun _ _ => rfl)
/-- What a queue's call may turn: its block, its items, what is new. -/
structure Frm (b : Nat) (s : Option Nat) (w w' : World) : Prop where
  os : w'.os = w.os
  tape : w'.tape = w.tape
  output : w'.output = w.output
  size : w.heap.size ≤ w'.heap.size
  block : ∀ k, k < w.heap.size → k ≠ b → some k ≠ s → w'.heap[k]? = w.heap[k]?
theorem Frm.refl (b : Nat) (s : Option Nat) (w : World) : Frm b s w w := ⟨rfl, rfl, rfl, Nat.le_refl _, fun _ _ _ _ => rfl⟩
theorem Frm.trans {b : Nat} {s : Option Nat} {w w1 w2 : World} (h : Frm b s w w1) (k : Frm b s w1 w2) : Frm b s w w2 :=
  ⟨k.os.trans h.os, k.tape.trans h.tape, k.output.trans h.output, Nat.le_trans h.size k.size, fun i hi h1 h2 => (k.block i (Nat.lt_of_lt_of_le hi h.size) h1 h2).trans (h.block i hi h1 h2)⟩
/-- The items lie where they lay, or are new. -/
def Moved (w : World) (s s' : Option Nat) : Prop := s' = s ∨ ∀ k, s' = some k → w.heap.size ≤ k
theorem Moved.trans {w w1 : World} {s s1 s2 : Option Nat} (h : Moved w s s1) (hs : w.heap.size ≤ w1.heap.size) (k : Moved w1 s1 s2) : Moved w s s2 := by
  rcases k with e | e
  · rw [e]; exact h
  · exact .inr (fun i hi => Nat.le_trans hs (e i hi))
theorem Frm.then_ {b : Nat} {s s' : Option Nat} {w w1 w2 : World} (h : Frm b s w w1) (hm : Moved w s s') (k : Frm b s' w1 w2) : Frm b s w w2 :=
  ⟨k.os.trans h.os, k.tape.trans h.tape, k.output.trans h.output, Nat.le_trans h.size k.size, fun i hi h1 h2 => (k.block i (Nat.lt_of_lt_of_le hi h.size) h1 (by
    rcases hm with e | e
    · rw [e]; exact h2
    · intro e2; have := e i e2.symm; omega)).trans (h.block i hi h1 h2)⟩
theorem Frm.drewN {b : Nat} {s : Option Nat} {w w' : World} (h : Frm b s w w') (k : Nat) : Frm b s w (w'.drewN k) := ⟨h.os, h.tape, h.output, h.size, h.block⟩
theorem Frm.grown {b : Nat} {s : Option Nat} {w w' : World} (h : w.grownBy w' s) : Frm b s w w' := ⟨h.os, h.tape, h.output, h.size, fun k hk _ h2 => h.block k hk h2⟩
theorem Frm.setIn (b i : Nat) (s : Option Nat) (w : World) (v : Value) : Frm b s w (w.setCell ⟨b, i, none⟩ v) :=
  ⟨rfl, rfl, rfl, by simp, fun k _ h1 _ => Below.heap_setCell _ _ _ k h1⟩
theorem Frm.bel {b : Nat} {s : Option Nat} {w w' w0 : World} {B : Nat} (h : Frm b s w w') (h0 : Below B w0 w) (hB : B ≤ w.heap.size) (hb : B ≤ b) (hs : ∀ k, s = some k → B ≤ k) : Below B w0 w' :=
  h0.trans ⟨h.os, h.tape, h.output, h.size, fun k hk => h.block k (by omega) (by omega) (fun e => by have := hs k e.symm; omega)⟩
theorem Frm.of_below {b : Nat} {s : Option Nat} {w w' : World} (h : Below w.heap.size w w') : Frm b s w w' := ⟨h.os, h.tape, h.output, h.size, fun k hk _ _ => h.block k hk⟩
section
variable {w : World} {b room pushed : Nat} {s : Value}
theorem len_any (A : Option Addr) (n C : Nat) (w : World) (h : QBlk w b room pushed (.slice A n C)) :
    Calls Tryz.prog 25 #[.pointer (some ⟨b, 0, none⟩)] w fun e w' => e = .returned (.int .i64 (n : Int)) ∧ w = w' := by
  obtain ⟨c0, c1, c2⟩ := h.cells
  clear h
  go_enter Tryz.func25, Tryz.ntmps25
  go_wp2
  go_ret
  exact ⟨rfl, rfl⟩
end
set_option maxRecDepth 100000 in
theorem new_any (room : Nat) (h1 : 1 ≤ room) (h2 : room ≤ 256) (w : World) :
    Calls Tryz.prog 14 #[.int .i64 (room : Int)] w fun e w' => e = .returned (.tuple #[.pointer (some ⟨w.heap.size, 0, none⟩), .int .i64 0]) ∧ Hid (QB w' w.heap.size ⟨room, 0, []⟩ none 0) ∧ Hid (Below w.heap.size w w') := by
  have n0 : ¬ (room : Int) < 1 := by omega
  have n1 : ¬ (256 : Int) < (room : Int) := by omega
  have n2 : (1 : Int) ≤ (room : Int) := by omega
  have n3 : (room : Int) ≤ 256 := by omega
  clear h1 h2
  go_enter Tryz.func14, Tryz.ntmps14
  go_wp2
  go_ret2
  refine ⟨rfl, Lib.hid ⟨?_, OwnT.none _ _⟩, Lib.hid ((Below.refl w.heap.size w).alloc (Nat.le_refl _) _)⟩
  exact Go.Deep.blk_alloc_new w _
/-- A datagram's cells. -/
abbrev dcells (d : Dg) : Array Value := #[.int .i64 d.kind, .int .u32 d.ses, .int .u32 d.seq, .int .i64 d.path, .int .u32 d.tick, .int .u32 d.A, .int .u32 d.B, .int .i64 d.K, .int .i64 d.M, .int .i64 d.ix, .slice d.da d.dl d.dc]
/-- A datagram of noughts. -/
abbrev nil : Dg := ⟨0, 0, 0, 0, 0, 0, 0, 0, 0, 0, none, 0, 0⟩
theorem infoD : (Tryz.prog.info? 50).map (·.size) = some 11 := by kernel_rfl
theorem infoC (d : Dg) : (Tryz.prog.info? 50).map (·.size) = some (dcells d).size := infoD
theorem dcells_one (d : Dg) : (dcells d).all (·.oneCell') = true := by simp [Value.oneCell']
theorem load_dg {w : World} {b o : Nat} {d : Dg} (h : Lies w b o (dcells d)) : (Instr.loadAt 50 (.pointer (some ⟨b, o, none⟩))).run Tryz.prog w = .ok d.val w := h.loadAt 50 _ Tryz.underlying50 rfl infoD
theorem loadv_dg {w : World} {b o : Nat} {d : Dg} (h : Lies w b o (dcells d)) : (loadVar 50 ⟨b, o, none⟩).run Tryz.prog w = .ok d.val w := h.loadVar 50 _ Tryz.underlying50 rfl infoD
/-- The datagram of an item that lies somewhere. -/
theorem it_dg {w : World} {g o : Nat} {x : It} (h : Lies w g o x.cells) : Lies w g (o + 2) (dcells x.v) := h.sub 2 (dcells x.v) (by decide : 2 + 11 ≤ 13) (fun j hj => by
  have : j < 11 := hj
  rcases j with _ | _ | _ | _ | _ | _ | _ | _ | _ | _ | _ | j
  all_goals first | rfl | omega)
/-- Results: one that lies in a cell, and two slots. -/
theorem results_cell2 {fn : Func} {p u v : Tmp} {t1 : TypeId} (h : fn.results = #[.cell p t1, .tmp u, .tmp v]) (tmps : Array Value) (w : World) (b : Nat) (v1 v2 v3 : Value)
    (hp : tmps.getD p undef = .pointer (some ⟨b, 0, none⟩)) (hu : tmps.getD u undef = v2) (hv : tmps.getD v undef = v3)
    (h1 : (loadVar t1 ⟨b, 0, none⟩).run Tryz.prog w = .ok v1 w) :
    (results fn tmps).run Tryz.prog w = .ok (.tuple #[v1, v2, v3]) w := by
  have hp' : tmps[p]?.getD undef = .pointer (some ⟨b, 0, none⟩) := by simpa using hp
  have hu' : tmps[u]?.getD undef = v2 := by simpa using hu
  have hv' : tmps[v]?.getD undef = v3 := by simpa using hv
  simp [results, h, hp', hu', hv', asAddr, h1]
/-- Results: one that lies in a cell, and a slot. -/
theorem results_cell1 {fn : Func} {p u : Tmp} {t1 : TypeId} (h : fn.results = #[.cell p t1, .tmp u]) (tmps : Array Value) (w : World) (b : Nat) (v1 v2 : Value)
    (hp : tmps.getD p undef = .pointer (some ⟨b, 0, none⟩)) (hu : tmps.getD u undef = v2)
    (h1 : (loadVar t1 ⟨b, 0, none⟩).run Tryz.prog w = .ok v1 w) :
    (results fn tmps).run Tryz.prog w = .ok (.tuple #[v1, v2]) w := by
  have hp' : tmps[p]?.getD undef = .pointer (some ⟨b, 0, none⟩) := by simpa using hp
  have hu' : tmps[u]?.getD undef = v2 := by simpa using hu
  simp [results, h, hp', hu', asAddr, h1]
/-- Results: one that lies in a cell. -/
theorem results_cell0 {fn : Func} {p : Tmp} {t1 : TypeId} (h : fn.results = #[.cell p t1]) (tmps : Array Value) (w : World) (b : Nat) (v1 : Value)
    (hp : tmps.getD p undef = .pointer (some ⟨b, 0, none⟩))
    (h1 : (loadVar t1 ⟨b, 0, none⟩).run Tryz.prog w = .ok v1 w) :
    (results fn tmps).run Tryz.prog w = .ok v1 w := by
  have hp' : tmps[p]?.getD undef = .pointer (some ⟨b, 0, none⟩) := by simpa using hp
  simp [results, h, hp', asAddr, h1]
section
variable {w : World} {b room pushed : Nat} {s : Value}
set_option maxRecDepth 100000 in
theorem peek_none (A : Option Addr) (C : Nat) (w : World) (h : QBlk w b room pushed (.slice A 0 C)) :
    Calls Tryz.prog 18 #[.pointer (some ⟨b, 0, none⟩)] w fun e w' => e = .returned (.tuple #[nil.val, .int .i64 0, .bool false]) ∧ Hid (Below w.heap.size w w') := by
  obtain ⟨W1, hW1⟩ : ∃ W1, W1 = w.alloc (.cells (dcells nil) 50) := ⟨_, rfl⟩
  have HB1 : Hid (Below w.heap.size w W1) := Lib.hid (by rw [hW1]; exact (Below.refl _ _).alloc (Nat.le_refl _) _)
  have HL1 : Hid (Lies W1 w.heap.size 0 (dcells nil)) := Lib.hid (by rw [hW1]; exact Lies.new w (dcells nil) _ (Below.refl _ _))
  have HW1 := Lib.hid hW1
  obtain ⟨c0, c1, c2⟩ := (h.below HB1.out h.lt).cells
  clear h hW1
  go_enter Tryz.func18, Tryz.ntmps18
  go_upto_region 1 with fail
  rw [← HW1.out]
  go_upto_region 3 with fail
  obtain ⟨W2, hW2⟩ : ∃ W2, W2 = W1.alloc (.cells (dcells nil) 50) := ⟨_, rfl⟩
  have HB2 : Hid (Below W1.heap.size W1 W2) := Lib.hid (by rw [hW2]; exact (Below.refl _ _).alloc (Nat.le_refl _) _)
  have HL2 : Hid (Lies W2 W1.heap.size 0 (dcells nil)) := Lib.hid (by rw [hW2]; exact Lies.new W1 (dcells nil) _ (Below.refl _ _))
  have HR2 : Hid (Lies W2 w.heap.size 0 (dcells nil)) := Lib.hid (HL1.out.below HB2.out HL1.out.lt)
  rw [← hW2]
  clear hW2
  go_wp2_with (first
    | (with_reducible refine wpList_load_lies rfl 50 (.tmp 5) rfl W1.heap.size 0 rfl (dcells nil) HL2.out _ Tryz.underlying50 rfl (infoC nil) ?_)
    | ((with_reducible refine wpList_store_lies rfl 50 (.tmp 2) (.tmp 12) rfl w.heap.size 0 rfl (dcells nil) rfl (dcells nil) HR2.out rfl (infoC nil) (dcells_one nil) ?_); intro w3 J1 J2 J3)
    | fail)
  refine bodyPost_ret (v := .tuple #[nil.val, .int .i64 0, .bool false]) (results_cell2 (p := 2) (u := 3) (v := 4) rfl _ w3 w.heap.size _ _ _ rfl rfl rfl (loadv_dg J1.out)) rfl ?_
  exact ⟨rfl, Lib.hid (J2.out.bel (HB1.out.trans (HB2.out.mono HB1.out.size)) (Nat.le_trans HB1.out.size HB2.out.size) (Nat.le_refl _))⟩
end
set_option maxRecDepth 100000 in
theorem peek_some (b : Nat) (Q : Qn) (A : Option Addr) (C : Nat) (x : It) (t : List It) (hQ : Q.l = x :: t) (w : World) (h : QB w b Q A C) :
    Calls Tryz.prog 18 #[.pointer (some ⟨b, 0, none⟩)] w fun e w' => e = .returned (.tuple #[x.v.val, .int .i64 x.rank, .bool true]) ∧ Hid (Below w.heap.size w w') := by
  obtain ⟨W1, hW1⟩ : ∃ W1, W1 = w.alloc (.cells (dcells nil) 50) := ⟨_, rfl⟩
  have HB1 : Hid (Below w.heap.size w W1) := Lib.hid (by rw [hW1]; exact (Below.refl _ _).alloc (Nat.le_refl _) _)
  have HL1 : Hid (Lies W1 w.heap.size 0 (dcells nil)) := Lib.hid (by rw [hW1]; exact Lies.new w (dcells nil) _ (Below.refl _ _))
  have hq := h.below HB1.out (Nat.le_refl _)
  have HW1 := Lib.hid hW1
  obtain ⟨c0, c1, c2⟩ := hq.blk.cells
  have hbl := h.blk.lt
  obtain ⟨g, rfl, _, hgl, hx⟩ := hq.own.at_ 0 x (by rw [hQ]; rfl)
  have hgw : g < w.heap.size := h.lt g rfl
  have hn : 0 < Q.l.length := by rw [hQ]; simp
  have hn0 : ¬ Q.l.length = 0 := by omega
  rw [Nat.zero_mul] at hx
  obtain ⟨r, hr⟩ : ∃ r, r = x.rank := ⟨_, rfl⟩
  obtain ⟨d, hd⟩ : ∃ d, d = x.v := ⟨_, rfl⟩
  have HXD : Hid (Lies W1 g 2 (dcells d)) := Lib.hid (by rw [hd]; exact it_dg hx)
  have HXR : Hid (W1.cell? ⟨g, 0, none⟩ = some (.int .i64 r)) := Lib.hid (by rw [hr]; exact hx.cell 0 (by decide : 0 < 13))
  rw [← hr, ← hd]
  clear h hQ hW1 hq hx hr hd
  generalize Q.l.length = n at *
  have HALL : Hid (W1.cell? ⟨b, 2, none⟩ = some (.slice (some ⟨g, 0, none⟩) n C)) := Lib.hid c2
  have HLT : Hid (b < w.heap.size ∧ g < w.heap.size) := Lib.hid ⟨hbl, hgw⟩
  clear hbl hgw hgl
  obtain ⟨D, hD⟩ : ∃ D, D = dcells d := ⟨_, rfl⟩
  have HDS : Hid (D.size = 11) := Lib.hid (by rw [hD]; rfl)
  have HD := Lib.hid hD
  rw [← hD] at HXD
  clear hD
  go_enter Tryz.func18, Tryz.ntmps18
  go_upto_region 1 with fail
  rw [← HW1.out]
  go_upto_region 4 with fail
  refine wp_region_held_drew (S := fun w' => w'.cell? ⟨b, 2, none⟩ = some (.slice (some ⟨g, 0, none⟩) n C) ∧ Lies w' g 2 D ∧ w'.cell? ⟨g, 0, none⟩ = some (.int .i64 r)) (by kernel_rfl) ⟨HALL.out, HXD.out.drew, HXR.out⟩ (fun hHeld => ?_)
  refine taken_at (i := 0) (v := .pointer (some ⟨b, 0, none⟩)) (some 13) rfl rfl (by kernel_rfl) (by kernel_rfl) (by kernel_rfl) (fun _ _ _ h => h) (Or.inl ⟨rfl, fun _ _ => rfl⟩) hHeld ?_
  try simp only [Act.put, List.setIfInBounds_toArray, List.set_cons_zero, List.set_cons_succ]
  refine taken_at (i := 1) (v := .pointer (some ⟨b, 0, none⟩)) (some 14) rfl rfl (by kernel_rfl) (by kernel_rfl) (by kernel_rfl) (fun _ _ _ h => h) (Or.inl ⟨rfl, fun _ _ => rfl⟩) hHeld ?_
  try simp only [Act.put, List.setIfInBounds_toArray, List.set_cons_zero, List.set_cons_succ]
  refine taken_at (i := 2) (v := .pointer (some ⟨b, 2, none⟩)) (some 15) rfl rfl (by kernel_rfl) (by kernel_rfl) (by kernel_rfl) (fun _ _ _ h => h) (Or.inl ⟨rfl, fun w' hw => by obtain ⟨k0, k1, k2⟩ := hw; go_simp⟩) hHeld ?_
  try simp only [Act.put, List.setIfInBounds_toArray, List.set_cons_zero, List.set_cons_succ]
  refine taken_at (i := 3) (v := .slice (some ⟨g, 0, none⟩) n C) (some 16) rfl rfl (by kernel_rfl) (by kernel_rfl) (by kernel_rfl) (fun _ _ _ h => h) (Or.inl ⟨rfl, fun w' hw => by obtain ⟨k0, k1, k2⟩ := hw; go_simp⟩) hHeld ?_
  try simp only [Act.put, List.setIfInBounds_toArray, List.set_cons_zero, List.set_cons_succ]
  refine taken_at (i := 4) (v := .pointer (some ⟨g, 0, none⟩)) (some 17) rfl rfl (by kernel_rfl) (by kernel_rfl) (by kernel_rfl) (fun _ _ _ h => h) (Or.inl ⟨rfl, fun w' hw => by obtain ⟨k0, k1, k2⟩ := hw; go_simp⟩) hHeld ?_
  try simp only [Act.put, List.setIfInBounds_toArray, List.set_cons_zero, List.set_cons_succ]
  refine taken_at (i := 5) (v := .pointer (some ⟨g, 2, none⟩)) (some 18) rfl rfl (by kernel_rfl) (by kernel_rfl) (by kernel_rfl) (fun _ _ _ h => h) (Or.inl ⟨rfl, fun w' hw => by obtain ⟨k0, k1, k2⟩ := hw; go_simp⟩) hHeld ?_
  try simp only [Act.put, List.setIfInBounds_toArray, List.set_cons_zero, List.set_cons_succ]
  refine taken_at (i := 6) (v := .agg D) (some 19) rfl rfl (by kernel_rfl) (by kernel_rfl) (by kernel_rfl) (fun _ _ _ h => h) (yields_loadAt 50 (.tmp 18) (.pointer (some ⟨g, 2, none⟩)) rfl rfl rfl (fun w' hw => hw.2.1.loadAt 50 _ Tryz.underlying50 rfl (infoD.trans (by rw [HDS.out])))) hHeld ?_
  try simp only [Act.put, List.setIfInBounds_toArray, List.set_cons_zero, List.set_cons_succ]
  refine taken_at (i := 7) (v := .pointer (some ⟨b, 0, none⟩)) (some 20) rfl rfl (by kernel_rfl) (by kernel_rfl) (by kernel_rfl) (fun _ _ _ h => h) (Or.inl ⟨rfl, fun _ _ => rfl⟩) hHeld ?_
  try simp only [Act.put, List.setIfInBounds_toArray, List.set_cons_zero, List.set_cons_succ]
  refine taken_at (i := 8) (v := .pointer (some ⟨b, 0, none⟩)) (some 21) rfl rfl (by kernel_rfl) (by kernel_rfl) (by kernel_rfl) (fun _ _ _ h => h) (Or.inl ⟨rfl, fun _ _ => rfl⟩) hHeld ?_
  try simp only [Act.put, List.setIfInBounds_toArray, List.set_cons_zero, List.set_cons_succ]
  refine taken_at (i := 9) (v := .pointer (some ⟨b, 2, none⟩)) (some 22) rfl rfl (by kernel_rfl) (by kernel_rfl) (by kernel_rfl) (fun _ _ _ h => h) (Or.inl ⟨rfl, fun w' hw => by obtain ⟨k0, k1, k2⟩ := hw; go_simp⟩) hHeld ?_
  try simp only [Act.put, List.setIfInBounds_toArray, List.set_cons_zero, List.set_cons_succ]
  refine taken_at (i := 10) (v := .slice (some ⟨g, 0, none⟩) n C) (some 23) rfl rfl (by kernel_rfl) (by kernel_rfl) (by kernel_rfl) (fun _ _ _ h => h) (Or.inl ⟨rfl, fun w' hw => by obtain ⟨k0, k1, k2⟩ := hw; go_simp⟩) hHeld ?_
  try simp only [Act.put, List.setIfInBounds_toArray, List.set_cons_zero, List.set_cons_succ]
  refine taken_at (i := 11) (v := .pointer (some ⟨g, 0, none⟩)) (some 24) rfl rfl (by kernel_rfl) (by kernel_rfl) (by kernel_rfl) (fun _ _ _ h => h) (Or.inl ⟨rfl, fun w' hw => by obtain ⟨k0, k1, k2⟩ := hw; go_simp⟩) hHeld ?_
  try simp only [Act.put, List.setIfInBounds_toArray, List.set_cons_zero, List.set_cons_succ]
  refine taken_at (i := 12) (v := .pointer (some ⟨g, 0, none⟩)) (some 25) rfl rfl (by kernel_rfl) (by kernel_rfl) (by kernel_rfl) (fun _ _ _ h => h) (Or.inl ⟨rfl, fun w' hw => by obtain ⟨k0, k1, k2⟩ := hw; go_simp⟩) hHeld ?_
  try simp only [Act.put, List.setIfInBounds_toArray, List.set_cons_zero, List.set_cons_succ]
  refine taken_at (i := 13) (v := .int .i64 r) (some 26) rfl rfl (by kernel_rfl) (by kernel_rfl) (by kernel_rfl) (fun _ _ _ h => h) (Or.inl ⟨rfl, fun w' hw => by obtain ⟨k0, k1, k2⟩ := hw; go_simp⟩) hHeld ?_
  try simp only [Act.put, List.setIfInBounds_toArray, List.set_cons_zero, List.set_cons_succ]
  refine wpAnyH_ready (rs := [14]) (by kernel_rfl) (by simp) ?_
  refine AllReadyH.cons rfl (fun K hK => ?_) AllReadyH.nil
  refine step_store_lies rfl 50 (.tmp 2) (.tmp 19) rfl w.heap.size 0 rfl D rfl (dcells nil) HL1.out.drew (HDS.out) (infoD.trans (by rw [HDS.out])) (HD.out ▸ dcells_one d) ?_
  intro w3 J1 J2 J3
  refine hK.out _ _ ⟨?_, ?_, ?_⟩ (fun hHeld => ?_)
  · exact (World.cell?_of_block (w := W1.drew) (J2.out.block b (Nat.lt_of_lt_of_le HLT.out.1 HB1.out.size) (by have := HLT.out; omega))).trans HALL.out
  · exact Lies.apart HXD.out.drew J2.out (by have := HLT.out; omega)
  · exact (World.cell?_of_block (w := W1.drew) (J2.out.block g (Nat.lt_of_lt_of_le HLT.out.2 HB1.out.size) (by have := HLT.out; omega))).trans HXR.out
  clear hK K
  try simp only [Act.put]
  refine taken_at (i := 15) (v := .int .i64 r) (some 3) rfl rfl (by kernel_rfl) (by kernel_rfl) (by kernel_rfl) (fun _ _ _ h => h) (Or.inl ⟨rfl, fun _ _ => rfl⟩) hHeld ?_
  try simp only [Act.put, List.setIfInBounds_toArray]
  refine taken_at (i := 16) (v := .bool true) (some 4) rfl rfl (by kernel_rfl) (by kernel_rfl) (by kernel_rfl) (fun _ _ _ h => h) (Or.inl ⟨rfl, fun _ _ => rfl⟩) hHeld ?_
  try simp only [Act.put]
  refine wpAnyH_done (by kernel_rfl) ?_ _
  clear hHeld
  go_wp2
  refine bodyPost_ret (v := .tuple #[d.val, .int .i64 r, .bool true]) (results_cell2 (p := 2) (u := 3) (v := 4) rfl _ w3 w.heap.size _ _ _ rfl rfl rfl (loadv_dg (HD.out ▸ J1.out))) rfl ?_
  exact ⟨rfl, Lib.hid (J2.out.bel HB1.out.drew HB1.out.size (Nat.le_refl _))⟩
end Go.Proofs.YtldhlknmabpanaaGreat.Mq
