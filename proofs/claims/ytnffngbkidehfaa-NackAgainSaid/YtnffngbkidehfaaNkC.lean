/-
  Own text: an item is put among others: slices.Insert, walked.
-/
import Derived.Test.YtnffngbkidehfaaNkB
import Derived.Lib.Overlaps
import Derived.Deep.AppendLies
namespace Go.Proofs.Ytnffngbkidehfaa.Nk
open Go.RowKit

theorem splice_new {α : Type} (A Z X : List α) : splice (A ++ Z) A.length X = A ++ (X ++ Z.drop X.length) := by
  unfold splice
  rw [List.take_left' rfl, List.drop_append]
  congr 2
  rw [List.drop_eq_nil_of_le (by omega), List.nil_append]
  congr 1
  omega
theorem splice_at {α : Type} (A Z X : List α) (n : Nat) (h : A.length = n) : splice (A ++ Z) n X = A ++ (X ++ Z.drop X.length) := by
  subst h; exact splice_new A Z X
set_option maxRecDepth 100000 in
theorem no_overlap (w : World) (vb g lb cb lc cc o : Nat) (L M : List Value) (hv : TBlk w vb L) (hg : TBlk w g M) (hM : 0 < M.length) (hne : vb ≠ g) :
    (callFunc 105 #[.slice (some ⟨vb, 0, none⟩) lc cc, .slice (some ⟨g, o, none⟩) lb cb]).run Try.prog w = .ok (.value (.bool false)) w := by
  unfold TBlk at hv hg
  rw [run_callFunc_extern Try.func105 (by kernel_rfl) (by kernel_rfl) (by kernel_rfl) (e := Extern.SlicesOverlaps.overlaps #[162, 162] #[4]) (by kernel_rfl),
    Lib.run_overlaps_apart w 162 4 167 Try.underlying162 2 (by intro w; rfl) ⟨vb, 0, none⟩ ⟨g, o, none⟩ lc cc lb cb hne 167 167 L.length M.length (by simp [World.shape?, hv]) (by simp [World.shape?, hg]) (by omega) (by simp [World.frozen?, hv]) (by simp [World.frozen?, hv])]
  rfl
/-- What a call may turn that moves a row on. -/
structure MovedTo (w : World) (s : Option Nat) (w' : World) (s' : Option Nat) : Prop where
  grown : w.grownBy w' s
  place : s' = s ∨ ∀ k, s' = some k → w.heap.size ≤ k
def PutIn (w : World) (A : Option Addr) (l : List It) (e : Ending) (w' : World) : Prop :=
  ∃ A' C', e = .returned (.slice A' l.length C') ∧ Hid (OwnT w' 0 (.slice A' l.length C') l.length l) ∧ Hid (MovedTo w (A.map Addr.block) w' (A'.map Addr.block))
theorem own_block (A : Option Addr) (n C : Nat) : (Value.slice A n C).ownBlock = A.map Addr.block := by cases A <;> rfl
theorem run_append_items {w : World} (ty : TypeId) (base : Nat) (A : Option Addr) (n C : Nat) (l : List It) (hown : OwnT w base (.slice A n C) n l)
    (ad : Addr) (m c : Nat) (l2 : List It) (hl : l2.length = m) (hnews : ∀ j u, (icells l2)[j]? = some u → w.cell? (ad.add j) = some u) (hb : n + m ≤ 100000) (hbase : base ≤ w.heap.size) :
    ∃ A' C' w', (Builtin.append_ #[162, 162] ty #[.slice A n C, .slice (some ad) m c]).run Try.prog w = .ok (.slice A' (n + m) C') w' ∧
      Hid (OwnT w' base (.slice A' (n + m) C') (n + m) (l ++ l2)) ∧ Hid (MovedTo w (A.map Addr.block) w' (A'.map Addr.block)) := by
  obtain ⟨i, hi, hzz⟩ := Option.map_eq_some_iff.1 info_item
  simp only [Prod.mk.injEq] at hzz
  obtain ⟨hz, hsz, hby⟩ := hzz
  obtain ⟨v', w', hr, h2, h3, _, h5⟩ := run_append_own_at (P := Try.prog) w base 162 ty 167 i _ 2 16 Try.underlying162 hi hz hsz hby rfl (by decide) _ n _ hown ad m c (icells l2) (by rw [icells_length, hl]) hnews (icells_one _) (by unfold maxLen; omega) (by omega) hbase
  rw [← icells_append] at h2
  obtain ⟨A', C', rfl, _⟩ := OwnT.slice (l := l ++ l2) h2
  refine ⟨A', C', w', hr, Lib.hid h2, Lib.hid ⟨?_, ?_⟩⟩
  · rw [own_block] at h3; exact h3
  · rw [own_block, own_block] at h5
    refine h5.imp id (fun e k hk => ?_)
    rw [e] at hk
    simp at hk
    omega
theorem wpList_append_items {w : World} {ops : Array Oper} {rest : List Oper} {o : Oper} {a : Act} {Q : Exit → Act → World → Prop} (hgd : o.guard = none) (s x : Operand)
    (ho : o.op = .call { callee := .builtin .append, args := #[s, x], argTypes := #[162, 162] })
    (base : Nat) (A : Option Addr) (n C : Nat) (hs : a.eval s = .slice A n C) (l : List It) (hown : OwnT w base (.slice A n C) n l)
    (ad : Addr) (m c : Nat) (hx : a.eval x = .slice (some ad) m c) (l2 : List It) (hl : l2.length = m) (hnews : ∀ j u, (icells l2)[j]? = some u → w.cell? (ad.add j) = some u) (hb : n + m ≤ 100000) (hbase : base ≤ w.heap.size)
    (h : ∀ A' C' w', Hid (OwnT w' base (.slice A' (n + m) C') (n + m) (l ++ l2)) → Hid (MovedTo w (A.map Addr.block) w' (A'.map Addr.block)) → wpList Try.prog ops Q rest (a.put o.dst (.slice A' (n + m) C')) w') :
    wpList Try.prog ops Q (o :: rest) a w := by
  refine wpList_plain hgd fun K hK => ?_
  obtain ⟨A', C', w', hr, h1, h2⟩ := run_append_items o.type base A n C l hown ad m c l2 hl hnews hb hbase
  unfold Oper.wp
  simp only [execOp, ho, resolve, invoke, builtin, Sem.run_bind, Sem.run_pure, Result.andThen_ok, List.map_toArray, List.map_cons, List.map_nil, hs, hx, hr]
  exact hK _ _ (h A' C' w' h1 h2)
set_option maxRecDepth 100000 in
theorem insert_end (x : It) (A : Option Addr) (n C vb : Nat) (l : List It) (hn : n ≤ 1000) (w : World) (h : OwnT w 0 (.slice A n C) n l) (hv : TBlk w vb (icells [x])) :
    Calls Try.prog 87 #[.slice A n C, .int .i64 (n : Int), .slice (some ⟨vb, 0, none⟩) 1 1] w (PutIn w A (l ++ [x])) := by
  have HO := Lib.hid h
  have HL := Lib.hid h.length
  have HN : Hid (∀ j u, (icells [x])[j]? = some u → w.cell? ((⟨vb, 0, none⟩ : Addr).add j) = some u) := Lib.hid (TBlk.src (P := []) (S := []) (by simpa using hv) 0 rfl)
  have HM : Hid (n + 1 ≤ 100000) := Lib.hid (by omega)
  have hnC : n ≤ C := by obtain ⟨A', C', e, h1, _⟩ := h.slice; simp at e; omega
  have hn1 : (n : Int) ≤ 1000 := by omega
  have hnC2 : (n : Int) ≤ (C : Int) := by omega
  clear h hv hn hnC
  go_enter Try.func87, Try.ntmps87
  go_upto_region 2 with fail
  generalize (if C = n then A else _ : Option Addr) = ad at *
  go_wp2_with (first
    | (at_builtin; (with_reducible refine wpList_append_items rfl (.tmp 23) (.tmp 24) rfl 0 A n C rfl l HO.out ⟨vb, 0, none⟩ 1 1 rfl [x] rfl HN.out HM.out (Nat.zero_le _) ?_); intro A' C' w' H1 H2)
    | fail)
  all_goals
    go_ret
    have e : (l ++ [x]).length = n + 1 := by rw [List.length_append, HL.out]; rfl
    refine ⟨A', C', by rw [e]; rfl, ?_, H2⟩
    rw [e]
    exact H1
theorem fill_grow {α : Type} (A Z X B : List α) (p : Nat) (hA : A.length = p) (hX : X.length = 2) : splice (splice (A ++ Z) p X) (p + 2) B = A ++ (X ++ (B ++ (Z.drop 2).drop B.length)) := by
  rw [splice_at _ _ _ _ hA, ← List.append_assoc, splice_at _ _ _ _ (by rw [List.length_append]; omega), hX, List.append_assoc]
/-- An item among others, where there is no room. -/
theorem grown_two {w w1 w2 w3 : World} {s : Option Nat} (h1 : w.grownBy w1 none) (h2 : w1.grownBy w2 (some w.heap.size)) (h3 : w2.grownBy w3 (some w.heap.size)) : MovedTo w s w3 (some w.heap.size) := by
  refine ⟨⟨h3.os.trans (h2.os.trans h1.os), h3.tape.trans (h2.tape.trans h1.tape), h3.output.trans (h2.output.trans h1.output), Nat.le_trans h1.size (Nat.le_trans h2.size h3.size), fun k hk _ => ?_⟩, .inr (fun k hk => by simp at hk; omega)⟩
  have a1 := h1.size
  have a2 := h2.size
  have hne : some k ≠ some w.heap.size := by intro e; simp at e; omega
  exact (h3.block k (by omega) hne).trans ((h2.block k (by omega) hne).trans (h1.block k hk (by simp)))
set_option maxRecDepth 100000 in
theorem insert_grow (x : It) (g n C vb i k : Nat) (a b : List It) (R : List Value) (ha : a.length = i) (hb : b.length = k) (hk : 0 < k) (hnk : n = i + k) (hn : n ≤ 1000) (hC : C = n) (w : World) (hg : TBlk w g (icells a ++ icells b ++ R)) (hgl : g < w.heap.size) (hv : TBlk w vb (icells [x])) (hvl : vb < w.heap.size) :
    Calls Try.prog 87 #[.slice (some ⟨g, 0, none⟩) n C, .int .i64 (i : Int), .slice (some ⟨vb, 0, none⟩) 1 1] w (PutIn w (some ⟨g, 0, none⟩) (a ++ x :: b)) := by
  obtain ⟨m, hm⟩ : ∃ m, m = k + 1 := ⟨_, rfl⟩
  have e1 : (n : Int) + 1 - (i : Int) = (m : Int) := by omega
  have lx : (icells [x]).length = 2 := rfl
  have HA : Hid ((icells a).length = i * 2) := Lib.hid (by rw [icells_length, ha])
  have HB : Hid ((icells b).length = k * 2) := Lib.hid (by rw [icells_length, hb])
  have HG : Hid (TBlk w g (icells a ++ (icells b ++ R))) := Lib.hid (by rw [← List.append_assoc]; exact hg)
  have HAB : Hid (a.length = i ∧ b.length = k) := Lib.hid ⟨ha, hb⟩
  have HN : Hid (n = i + k ∧ m = k + 1 ∧ C = n ∧ n ≤ 1000 ∧ 0 < k) := Lib.hid ⟨hnk, hm, hC, hn, hk⟩
  -- the two sources, in all worlds to come
  have HSB : Hid (∀ w' : World, w'.heap[g]? = w.heap[g]? → ∀ j u, (icells b)[j]? = some u → w'.cell? ((⟨g, i * 2, none⟩ : Addr).add j) = some u) := Lib.hid (fun w' e => TBlk.src (P := icells a) (S := R) (show TBlk w' g (icells a ++ icells b ++ R) from e.trans hg) _ (by rw [icells_length, ha]))
  have HSX : Hid (∀ w' : World, w'.heap[vb]? = w.heap[vb]? → ∀ j u, (icells [x])[j]? = some u → w'.cell? ((⟨vb, 0, none⟩ : Addr).add j) = some u) := Lib.hid (fun w' e => TBlk.src (P := []) (S := []) (by simpa using (show TBlk w' vb (icells [x]) from e.trans hv)) 0 rfl)
  have HVL := Lib.hid hvl
  have HGL := Lib.hid hgl
  have M0 : Hid (0 < m) := Lib.hid (by omega)
  have HK1 : Hid (1 = Nat.min 1 m) := Lib.hid (by simp only [Nat.min_def]; split <;> omega)
  have HK2 : Hid (k = Nat.min (n - i) (i + m - (i + 1))) := Lib.hid (by simp only [Nat.min_def]; split <;> omega)
  have HF2 : Hid (∀ (Z : List Value) (C2 : Nat), (i + m ≤ C2 ∧ C2 ≤ maxLen ∧ i * 2 + Z.length = C2 * 2) → (i + 1) * 2 + (icells b).length ≤ (splice (icells a ++ Z) (i * 2) (icells [x])).length) := Lib.hid (fun Z C2 h => by rw [splice_at _ _ _ _ HA.out, List.length_append, List.length_append, List.length_drop, HA.out, HB.out, lx]; omega)
  have HW12 : Hid (∀ w1 w2 : World, w.grownBy w1 none → w1.grownBy w2 (some w.heap.size) → w2.drew.heap[g]? = w.heap[g]?) := Lib.hid (fun w1 w2 h1 h2 => (h2.block g (Nat.lt_of_lt_of_le hgl h1.size) (by simp; omega)).trans (h1.block g hgl (by simp)))
  have HFIN : Hid (∀ (Z : List Value) (C2 : Nat) (w1 w2 w3 : World), (i + m ≤ C2 ∧ C2 ≤ maxLen ∧ i * 2 + Z.length = C2 * 2) → TBlk w3 w.heap.size (splice (splice (icells a ++ Z) (i * 2) (icells [x])) ((i + 1) * 2) (icells b)) → w.grownBy w1 none → w1.grownBy w2 (some w.heap.size) → w2.drew.grownBy w3 (some w.heap.size) → PutIn w (some ⟨g, 0, none⟩) (a ++ x :: b) (.returned (.slice (some ⟨w.heap.size, 0, none⟩) (i + m) C2)) w3) := Lib.hid (fun Z C2 w1 w2 w3 h hg3 h1 h2 h3 => by
    have e : (a ++ x :: b).length = i + m := by rw [List.length_append, List.length_cons, ha, hb]; omega
    refine ⟨some ⟨w.heap.size, 0, none⟩, C2, by rw [e], Lib.hid ?_, Lib.hid (grown_two h1 h2 ⟨h3.os, h3.tape, h3.output, h3.size, h3.block⟩)⟩
    rw [show (i + 1) * 2 = i * 2 + 2 by omega, fill_grow _ _ _ _ _ HA.out lx] at hg3
    refine OwnT.of (R := (Z.drop 2).drop (icells b).length) rfl (Nat.zero_le _) ?_ ?_ h.2.1
    · rw [icells_append, show x :: b = [x] ++ b from rfl, icells_append, List.append_assoc, List.append_assoc]
      exact hg3
    · rw [e, List.length_drop, List.length_drop, HB.out]
      omega)
  have HF1 : Hid (∀ (Z : List Value) (C2 : Nat), (i + m ≤ C2 ∧ C2 ≤ maxLen ∧ i * 2 + Z.length = C2 * 2) → i * 2 + (icells [x]).length ≤ (icells a ++ Z).length) := Lib.hid (fun Z C2 h => by rw [List.length_append, HA.out, lx]; omega)
  have M1 : Hid (C < i + m) := Lib.hid (by omega)
  have M2 : Hid (i + m ≤ 100000) := Lib.hid (by omega)
  have i1 : (i : Int) < (n : Int) := by omega
  have i2 : (n : Int) ≤ (C : Int) := by omega
  have i3 : (n : Int) ≤ 1000 := by omega
  have i4 : (C : Int) < (n : Int) + 1 := by omega
  have i5 : ¬ (i : Int) = (n : Int) := by omega
  have i6 : ¬ C = i := by omega
  have i7 : (i : Int) ≤ (C : Int) := by omega
  clear hg hv ha hb hnk hm hC hn hk lx hvl hgl
  go_enter Try.func87, Try.ntmps87
  go_upto_region 9 with fail
  go_wp2_with (first
    | (at_builtin; (with_reducible refine wpList_append_made rfl (.tmp 34) (.tmp 39) rfl g i C m rfl rfl (icells a) (icells b ++ R) HG.out HA.out M0.out M1.out M2.out ?_); intro C2 Z w1 h1 h2 h3 HG1 HS1 HW1; have H123 : Hid (i + m ≤ C2 ∧ C2 ≤ maxLen ∧ i * 2 + Z.length = C2 * 2) := Lib.hid ⟨h1, h2, h3⟩; have j1 : ¬ C2 = i := (by have := M0.out; omega); have j2 : ¬ C2 = i + 1 := (by have := M0.out; have := HN.out; omega); have j3 : (i : Int) + 1 ≤ (i : Int) + (m : Int) := (by have := M0.out; omega); clear h1 h2 h3)
    | ((with_reducible refine wpList_copy_items rfl (.tmp 43) (.tmp 44) rfl w.heap.size (i * 2) m (C2 - i) ⟨vb, 0, none⟩ 1 1 rfl rfl (icells a ++ Z) (icells [x]) 1 HG1.out HK1.out rfl (HSX.out w1 (HW1.out.block vb HVL.out (by simp))) (HF1.out Z C2 H123.out) (icells_one _) ?_); intro w2 HG2 HW2)
    | fail)
  have wr1 : IntKind.i64.wrap ((i : Int) + 1) = (i : Int) + 1 := by rw [IntKind.wrap_i64]; omega
  have tn1 : ((i : Int) + 1).toNat = i + 1 := by omega
  have p1 : (0 : Int) ≤ (i : Int) + 1 := by omega
  have p2 : i ≤ n := by omega
  go_region_law (refine step_copy_items rfl (.tmp 50) (.tmp 53) rfl w.heap.size ((i + 1) * 2) (i + m - (i + 1)) (C2 - (i + 1)) ⟨g, i * 2, none⟩ (n - i) (C - i) (by simp [Act.eval, Act.put]) (by simp [Act.eval, Act.put]) _ (icells b) k HG2.out HK2.out HB.out (HSB.out _ (HW12.out _ _ HW1.out HW2.out)) (HF2.out Z C2 H123.out) (icells_one _) ?_; intro w3 HG3 HW3)
  all_goals
    go_wp2
    go_ret
    exact HFIN.out Z C2 w1 w2 w3 H123.out HG3.out HW1.out HW2.out HW3.out
theorem fill_shift {α : Type} (A X B R : List α) (p : Nat) (hA : A.length = p) (hX : X.length = 2) (hR : 2 ≤ R.length) : splice (splice (A ++ (B ++ R)) (p + 2) B) p X = A ++ (X ++ (B ++ R.drop 2)) := by
  have e : A ++ (B ++ R) = (A ++ (B ++ R).take 2) ++ (B ++ R).drop 2 := by rw [List.append_assoc, List.take_append_drop]
  rw [e, splice_at _ _ _ _ (by rw [List.length_append, List.length_take, List.length_append]; omega), List.append_assoc, splice_at _ _ _ _ hA, hX, List.drop_left' (by rw [List.length_take, List.length_append]; omega), List.drop_drop, List.drop_append]
  congr 3
  rw [List.drop_eq_nil_of_le (by omega), List.nil_append]
  congr 1
  omega
set_option maxRecDepth 100000 in
theorem insert_shift (x : It) (g n C vb i k : Nat) (a b : List It) (R : List Value) (ha : a.length = i) (hb : b.length = k) (hk : 0 < k) (hnk : n = i + k) (hn : n ≤ 1000) (hC : n + 1 ≤ C) (hCm : C ≤ maxLen) (hR : n * 2 + R.length = C * 2) (w : World) (hg : TBlk w g (icells a ++ icells b ++ R)) (hv : TBlk w vb (icells [x])) (hne : vb ≠ g) (hvl : vb < w.heap.size) :
    Calls Try.prog 87 #[.slice (some ⟨g, 0, none⟩) n C, .int .i64 (i : Int), .slice (some ⟨vb, 0, none⟩) 1 1] w (PutIn w (some ⟨g, 0, none⟩) (a ++ x :: b)) := by
  have lx : (icells [x]).length = 2 := rfl
  have la : (icells a).length = i * 2 := by rw [icells_length, ha]
  have lb : (icells b).length = k * 2 := by rw [icells_length, hb]
  have hg' : TBlk w g (icells a ++ (icells b ++ R)) := by rw [← List.append_assoc]; exact hg
  have HG : Hid (TBlk w.drew g (icells a ++ (icells b ++ R))) := Lib.hid hg'
  have hov : ∀ lb cb, (callFunc 105 #[.slice (some ⟨vb, 0, none⟩) 1 1, .slice (some ⟨g, (i + 1) * 2, none⟩) lb cb]).run Try.prog w = .ok (.value (.bool false)) w := fun lb cb => no_overlap w vb g lb cb 1 1 _ _ _ hv hg' (by simp only [List.length_append]; omega) hne
  have HSB : Hid (∀ j u, (icells b)[j]? = some u → w.drew.cell? ((⟨g, i * 2, none⟩ : Addr).add j) = some u) := Lib.hid (TBlk.src (P := icells a) (S := R) (show TBlk w.drew g (icells a ++ icells b ++ R) from hg) _ la)
  have HSX : Hid (∀ w' : World, w'.heap[vb]? = w.heap[vb]? → ∀ j u, (icells [x])[j]? = some u → w'.cell? ((⟨vb, 0, none⟩ : Addr).add j) = some u) := Lib.hid (fun w' e => TBlk.src (P := []) (S := []) (by simpa using (show TBlk w' vb (icells [x]) from e.trans hv)) 0 rfl)
  have HVB : Hid (∀ w2 : World, w.drew.grownBy w2 (some g) → w2.heap[vb]? = w.heap[vb]?) := Lib.hid (fun w2 h => h.block vb hvl (by simp; exact hne))
  have HK1 : Hid (1 = Nat.min 1 (n + 1 - i)) := Lib.hid (by simp only [Nat.min_def]; split <;> omega)
  have HK2 : Hid (k = Nat.min (n + 1 - i) (n + 1 - (i + 1))) := Lib.hid (by simp only [Nat.min_def]; split <;> omega)
  have HLB : Hid ((icells b).length = k * 2) := Lib.hid lb
  have HF2 : Hid ((i + 1) * 2 + (icells b).length ≤ (icells a ++ (icells b ++ R)).length) := Lib.hid (by simp only [List.length_append]; omega)
  have HF1 : Hid (i * 2 + (icells [x]).length ≤ (splice (icells a ++ (icells b ++ R)) ((i + 1) * 2) (icells b)).length) := Lib.hid (by rw [length_splice _ _ _ (by simp only [List.length_append]; omega)]; simp only [List.length_append]; omega)
  have HFIN : Hid (∀ w2 w3 : World, TBlk w3 g (splice (splice (icells a ++ (icells b ++ R)) ((i + 1) * 2) (icells b)) (i * 2) (icells [x])) → w.drew.grownBy w2 (some g) → w2.grownBy w3 (some g) → PutIn w (some ⟨g, 0, none⟩) (a ++ x :: b) (.returned (.slice (some ⟨g, 0, none⟩) (n + 1) C)) w3) := Lib.hid (fun w2 w3 hg3 h1 h2 => by
    have e : (a ++ x :: b).length = n + 1 := by rw [List.length_append, List.length_cons, ha, hb]; omega
    refine ⟨some ⟨g, 0, none⟩, C, by rw [e], Lib.hid ?_, Lib.hid ⟨grown_trans (B := w2) ⟨h1.os, h1.tape, h1.output, h1.size, h1.block⟩ h2, .inl rfl⟩⟩
    rw [show (i + 1) * 2 = i * 2 + 2 by omega, fill_shift _ _ _ _ _ la lx (by omega)] at hg3
    refine OwnT.of (R := R.drop 2) rfl (Nat.zero_le _) ?_ ?_ hCm
    · rw [icells_append, show x :: b = [x] ++ b from rfl, icells_append, List.append_assoc, List.append_assoc]
      exact hg3
    · rw [e, List.length_drop]
      omega)
  have i1 : (i : Int) < (n : Int) := by omega
  have i2 : (n : Int) + 1 ≤ (C : Int) := by omega
  have i3 : (n : Int) ≤ 1000 := by omega
  have i4 : ¬ (C : Int) < (n : Int) + 1 := by omega
  have i5 : ¬ (i : Int) = (n : Int) := by omega
  have i6 : ¬ C = i := by omega
  have i7 : ¬ C = i + 1 := by omega
  have p2 : i ≤ n := by omega
  have p3 : i ≤ n + 1 := by omega
  have p4 : (i : Int) ≤ (n : Int) + 1 := by omega
  clear hg hg' hv ha hb hnk hC hn hk lx la lb hvl hR hCm
  go_enter Try.func87, Try.ntmps87
  go_wp2_with (first | (simp only [hov]) | fail)
  have wr1 : IntKind.i64.wrap ((i : Int) + 1) = (i : Int) + 1 := by rw [IntKind.wrap_i64]; omega
  have tn1 : ((i : Int) + 1).toNat = i + 1 := by omega
  have p1 : (0 : Int) ≤ (i : Int) + 1 := by omega
  have p5 : (i : Int) + 1 ≤ (n : Int) + 1 := by omega
  go_region_law (refine step_copy_items rfl (.tmp 73) (.tmp 76) rfl g ((i + 1) * 2) (n + 1 - (i + 1)) (C - (i + 1)) ⟨g, i * 2, none⟩ (n + 1 - i) (C - i) (by simp [Act.eval, Act.put]) (by simp [Act.eval, Act.put]) _ (icells b) k HG.out HK2.out HLB.out HSB.out HF2.out (icells_one _) ?_; intro w2 HG2 HW2)
  all_goals
    go_wp2_with (first
      | ((with_reducible refine wpList_copy_items rfl (.tmp 80) (.tmp 81) rfl g (i * 2) (n + 1 - i) (C - i) ⟨vb, 0, none⟩ 1 1 rfl rfl (splice (icells a ++ (icells b ++ R)) ((i + 1) * 2) (icells b)) (icells [x]) 1 HG2.out HK1.out rfl (HSX.out w2 (HVB.out w2 HW2.out)) HF1.out (icells_one _) ?_); intro w3 HG3 HW3)
      | fail)
    go_ret
    exact HFIN.out w2 w3 HG3.out HW2.out HW3.out
/-- An item put among others. -/
theorem insert_any (x : It) (A : Option Addr) (n C vb i : Nat) (l : List It) (hi : i ≤ l.length) (hn : n ≤ 1000) (w : World) (h : OwnT w 0 (.slice A n C) n l) (hv : TBlk w vb (icells [x])) (hvl : vb < w.heap.size) (hne : some vb ≠ A.map Addr.block) :
    Calls Try.prog 87 #[.slice A n C, .int .i64 (i : Int), .slice (some ⟨vb, 0, none⟩) 1 1] w (PutIn w A (l.take i ++ x :: l.drop i)) := by
  have hl := h.length
  by_cases he : i = n
  · subst he
    rw [List.take_of_length_le (by omega), List.drop_eq_nil_of_le (by omega)]
    exact insert_end x A i C vb l hn w h hv
  · rcases h.form with ⟨rfl, h0, _, _⟩ | ⟨g, R, rfl, _, hgl, hg, hR, hC⟩
    · omega
    · have hta : (l.take i).length = i := by rw [List.length_take]; omega
      have htb : (l.drop i).length = n - i := by rw [List.length_drop]; omega
      rw [← List.take_append_drop i l, icells_append] at hg
      by_cases hroom : n + 1 ≤ C
      · exact insert_shift x g n C vb i (n - i) _ _ R hta htb (by omega) (by omega) hn hroom hC hR w hg hv (by simpa using hne) hvl
      · exact insert_grow x g n C vb i (n - i) _ _ R hta htb (by omega) (by omega) hn (by omega) w hg hgl hv hvl
end Go.Proofs.Ytnffngbkidehfaa.Nk
