/-
  Own text: the law's Same, walked.
-/
import Derived.Test.YtjkobejhbgjhlaaRgJ
import Derived.Test.YtjkobejhbgjhlaaGrow
import Derived.Shelf.Abstract
import Derived.Deep.DeepCutAuto
namespace Go.Proofs.Ytjkobejhbgjhlaa
open Go.RowKit Go.Shelf
attribute [local go_sem] Oper.semAt_some

/-- A region whose operations are written out, at a class of its own. -/
theorem wpIn_region_class {F : Fence} {n : Nat} {P : Program} {id : Nat} {Q : Exit → Act → World → Prop} {a : Act} {w : World} {l : List Oper} (C : World → Prop) (hC : C w.drew) (hro : F.round = none) (hm : P.follows .mixedOrders = true) (hB : Region.lexB .any l.toArray = true)
    (h : wpQuietIn F n P l.toArray C (fun a' => ∀ w', C w' → Q .normal a' w') l a) : (Code.region id l.toArray true).wpIn F n P Q a w :=
  wpIn_region_quiet (C := C) hro hm hB hC (by simpa using h)
/-- A guarded operation, whose guard is decided, that yields this value in every world of the class. -/
theorem wpQuietIn_readw {F : Fence} {n : Nat} {P : Program} {ops : Array Oper} {C : World → Prop} {Q : Act → Prop} {a : Act} {o : Oper} {rest : List Oper} (v : Value) (ha : o.askedIn F P a C) (hg : Region.wanted o (yielded ops a.tmps) = true) (hv : ∀ w, C w → o.quietAtIn F n P a C w v) (h : wpQuietIn F n P ops C Q rest (a.put o.dst v)) : wpQuietIn F n P ops C Q (o :: rest) a :=
  ⟨ha, by rw [if_pos hg]; exact ⟨v, hv, h⟩⟩
theorem quiet_load {F : Fence} {n : Nat} {C : World → Prop} {w : World} {a : Act} {o : Oper} {v : Value} (ty : TypeId) (x : Operand) (p : Value) (ho : o.op = .load ty x) (hx : a.eval x = p) (hl : (Instr.loadAt ty p).run Try.prog w = .ok v w) : o.quietAtIn F n Try.prog a C w v := by
  unfold Oper.quietAtIn execOp
  simp only [ho, hx, Sem.run_bind, hl, Result.andThen_ok, Sem.run_pure]
  exact ⟨rfl, rfl⟩
theorem boxed_own9 {W W' : World} {b : Nat} {t : TypeId} {v : Value} {row : Option Nat} (h : Boxed W b t v) (hg : W.grownBy W' row) (hr : ∀ r, row = some r → ∃ o : Obj, W.heap[r]? = some o ∧ o.isCells = false) : Boxed W' b t v :=
  h.kept hg (fun e => by obtain ⟨o, ho, hc⟩ := hr b e.symm; rw [show W.heap[b]? = _ from h] at ho; cases ho; cases hc)
/-- What holds between two rounds: a counter in its box; all that lay ahead of it lies as it lay. -/
structure CI (v0 : World) (f : Nat → Int) {α : Type} (pre : List α) (W : World) : Prop where
  bel : Below v0.heap.size v0 W
  cnt : Boxed W v0.heap.size 3 (.int .i64 (f pre.length))
theorem CI.own {v0 : World} {f : Nat → Int} {α : Type} {B : Nat} (hB : v0.heap.size ≤ B) : OwnFrom B (fun (pre : List α) W => CI v0 f pre W) := by
  intro pre W W' row h hg hr
  exact ⟨h.bel.grown hg h.bel.size (fun k e => Nat.le_trans hB (hr k e).1), boxed_own9 h.cnt hg (fun r e => (hr r e).2)⟩
theorem func_nil9 (f q : Nat) (w : World) : (binOp .eql 68 (.func (.func f) #[] #[.pointer (some ⟨q, 0, none⟩)]) Value.nilFunc).run Try.prog w = .ok (.bool false) w := by kernel_rfl
theorem bad_all {R : Rn} {pre : List (Ent R)} {x : Ent R} (h : x.1 ≠ pre.length) : ¬ (entsOf (pre ++ [x]) = List.range (pre ++ [x]).length) := by
  intro e
  rw [entsOf_snoc, List.length_append, List.length_singleton, List.range_succ] at e
  have := List.append_inj_right' e rfl
  simp at this
  exact h this
theorem bad_back {R : Rn} {pre : List (Ent R)} {x : Ent R} (h : x.1 ≠ R.l.length - 1 - pre.length) : ¬ (entsOf (pre ++ [x]) = (List.range (pre ++ [x]).length).map (fun j => R.l.length - 1 - j)) := by
  intro e
  rw [entsOf_snoc, List.length_append, List.length_singleton, List.range_succ, List.map_append] at e
  have := List.append_inj_right' e rfl
  simp at this
  exact h this
set_option maxRecDepth 100000 in
set_option maxHeartbeats 4000000 in
theorem same9_any (k b : Nat) (R : Rn) (A : Option Addr) (C : Nat) (xs : List Int) (A2 : Option Addr) (C2 : Nat) (hf : R.fit k) (hk : k ≤ 1000000) (w : World) (hr : RB w b R A C xs) (hd : DL w R A2 C2) :
    Calls Try.prog 31 #[.pointer (some ⟨b, 0, none⟩), DV R A2 C2] w fun e w' => e = .returned (.bool true) ∧ Below w.heap.size w w' := by
  refine (callsIn_wide (n := 3)).1 ?_
  have hro : Fence.wide.round = none := rfl
  obtain ⟨W, hW⟩ : ∃ W, W = (w.alloc (.cells #[.int .i64 (R.room : Int), .int .i64 (R.first : Int), .slice A2 R.l.length C2] 27)).alloc (.cells #[.bool false] 4) := ⟨_, rfl⟩
  have hs : W.heap.size = w.heap.size + 2 := by rw [hW]; simp
  have hb : Below w.heap.size w W := by rw [hW]; exact ((Below.refl w.heap.size w).alloc (Nat.le_refl _) _).alloc (by simp) _
  have hx : DBx W w.heap.size R.room R.first (.slice A2 R.l.length C2) := by rw [hW]; exact (DBx.new w R.room R.first _).keep (Below.heap_alloc _ _ _ (by simp))
  have hx2 : Boxed W (w.heap.size + 1) 4 (.bool false) := by
    rw [hW]
    have := Boxed.new (w.alloc (.cells #[.int .i64 (R.room : Int), .int .i64 (R.first : Int), .slice A2 R.l.length C2] 27)) 4 (.bool false)
    simpa using this
  have hrW : RB W b R A C xs := hr.below hb (Nat.le_refl _)
  have hdW : DL W R A2 C2 := hd.below hb (Nat.le_refl _)
  have HD : Hid (∀ w', Below W.heap.size W w' → DBx w' w.heap.size R.room R.first (.slice A2 R.l.length C2)) := Lib.hid (fun w' h => hx.below h (by omega))
  have HR : Hid (∀ w', Below W.heap.size W w' → RB w' b R A C xs) := Lib.hid (fun w' h => hrW.below h (Nat.le_refl _))
  have HDL : Hid (∀ w', Below W.heap.size W w' → DL w' R A2 C2) := Lib.hid (fun w' h => hdW.below h (Nat.le_refl _))
  have HX2 : Hid (∀ w', Below W.heap.size W w' → Boxed w' (w.heap.size + 1) 4 (.bool false)) := Lib.hid (fun w' h => (h.block _ (by omega)).trans hx2)
  have HS := Lib.hid hs
  have HB := Lib.hid hb
  have HF := Lib.hid hf
  have HK := Lib.hid hk
  have CR : Hid (∀ w', Below W.heap.size W w' → Calls Try.prog 38 #[.pointer (some ⟨b, 0, none⟩)] w' fun e w'' => e = .returned (.int .i64 (R.room : Int)) ∧ Below W.heap.size W w'') := Lib.hid (fun w' h => (room_any w' (HR.out w' h).blk).mono fun e w'' h2 => ⟨h2.1, h2.2 ▸ h⟩)
  have CF : Hid (∀ w', Below W.heap.size W w' → Calls Try.prog 20 #[.pointer (some ⟨b, 0, none⟩)] w' fun e w'' => e = .returned (.int .i64 (R.first : Int)) ∧ Below W.heap.size W w'') := Lib.hid (fun w' h => (first_any w' (HR.out w' h).blk).mono fun e w'' h2 => ⟨h2.1, h2.2 ▸ h⟩)
  have CN : Hid (∀ w', Below W.heap.size W w' → Calls Try.prog 16 #[.pointer (some ⟨b, 0, none⟩)] w' fun e w'' => e = .returned (.int .i64 (R.next : Int)) ∧ Below W.heap.size W w'') := Lib.hid (fun w' h => (next_any w' (HR.out w' h).blk).mono fun e w'' h2 => ⟨h2.1, h2.2 ▸ h⟩)
  have CL : Hid (∀ w', Below W.heap.size W w' → Calls Try.prog 18 #[.pointer (some ⟨b, 0, none⟩)] w' fun e w'' => e = .returned (.int .i64 (R.l.length : Int)) ∧ Below W.heap.size W w'') := Lib.hid (fun w' h => (len_any R.l.length rfl (by have := hf.next; unfold Rn.next at this; omega) w' (HR.out w' h).blk).mono fun e w'' h2 => ⟨h2.1, by obtain ⟨j, rfl⟩ := h2.2; exact below_drewN h j⟩)
  have CD : Hid (∀ w', Below W.heap.size W w' → Calls Try.prog 21 #[DV R A2 C2] w' fun e w'' => e = .returned (.int .i64 (R.next : Int)) ∧ Below W.heap.size W w'') := Lib.hid (fun w' h => (rnext_any R A2 C2 k hf hk w').mono fun e w'' h2 => ⟨h2.1, h.trans (h2.2.mono h.size)⟩)
  have HL : Hid (∀ w', Below W.heap.size W w' → (Instr.loadAt 27 (.pointer (some ⟨w.heap.size, 0, none⟩))).run Try.prog w' = .ok (DV R A2 C2) w') := Lib.hid (fun w' h => by
    obtain ⟨d0, d1, d2⟩ := (HD.out w' h).cells
    go_simp)
  clear hs hb hx hx2 hrW hdW hr hd hf hk
  refine callsIn_of_wp_marks Try.func31 rfl trivial ?_ hro
  simp only [Try.ntmps31, List.size_toArray, List.length_cons, List.length_nil, Nat.reduceAdd, Nat.reduceSub, Array.replicate_succ, Array.replicate_zero, List.push_toArray, List.append_toArray, List.nil_append, List.cons_append]
  rw [wpIn_wide]
  go_upto_region 1 with fail
  rw [← hW]
  clear hW
  refine (wpIn_wide (n := 3)).1 ?_
  refine wpIn_region_class (fun w' => Below W.heap.size W w') (Below.refl _ _).drew rfl (by kernel_rfl) (by kernel_rfl) ?_
  refine wpQuietIn_step (fun _ _ _ _ => trivial) (fun K hK => ?_)
  go_simp
  refine ⟨_, fun _ _ => rfl, hK _ ?_⟩
  clear hK K
  refine wpQuietIn_step (fun _ _ _ _ => trivial) (fun K hK => ?_)
  go_simp
  refine ⟨.int .i64 (R.room : Int), fun w' hw => callsIn_wide.2 (CR.out w' hw), hK _ ?_⟩
  clear hK K
  refine wpQuietIn_step (fun _ _ _ _ => trivial) (fun K hK => ?_)
  go_simp
  refine ⟨_, fun _ _ => rfl, hK _ ?_⟩
  clear hK K
  refine wpQuietIn_readw (.int .i64 (R.room : Int)) (fun _ _ _ _ => trivial) rfl (fun w' hw => ?_) ?_
  · obtain ⟨d0, d1, d2⟩ := (HD.out w' hw).cells
    unfold Oper.quietAtIn
    go_simp
  simp only [Act.put, List.setIfInBounds_toArray, List.set_cons_zero, List.set_cons_succ]
  refine wpQuietIn_step (fun _ _ _ _ => trivial) (fun K hK => ?_)
  go_simp
  refine ⟨_, fun _ _ => rfl, hK _ ?_⟩
  clear hK K
  refine wpQuietIn_step (fun _ _ _ _ => trivial) (fun K hK => ?_)
  go_simp
  refine ⟨_, fun _ _ => rfl, hK _ ?_⟩
  clear hK K
  refine wpQuietIn_step (fun _ _ _ _ => trivial) (fun K hK => ?_)
  go_simp
  refine ⟨_, fun _ _ => rfl, hK _ ?_⟩
  clear hK K
  refine wpQuietIn_step (fun _ _ _ _ => trivial) (fun K hK => ?_)
  go_simp
  refine ⟨.int .i64 (R.l.length : Int), fun w' hw => callsIn_wide.2 (CL.out w' hw), hK _ ?_⟩
  clear hK K
  refine wpQuietIn_step (fun _ _ _ _ => trivial) (fun K hK => ?_)
  go_simp
  refine ⟨_, fun _ _ => rfl, hK _ ?_⟩
  clear hK K
  refine wpQuietIn_readw (.slice A2 R.l.length C2) (fun _ _ _ _ => trivial) rfl (fun w' hw => ?_) ?_
  · obtain ⟨d0, d1, d2⟩ := (HD.out w' hw).cells
    unfold Oper.quietAtIn
    go_simp
  simp only [Act.put, List.setIfInBounds_toArray, List.set_cons_zero, List.set_cons_succ]
  refine wpQuietIn_step (fun _ _ _ _ => trivial) (fun K hK => ?_)
  go_simp
  refine ⟨_, fun _ _ => rfl, hK _ ?_⟩
  clear hK K
  refine wpQuietIn_step (fun _ _ _ _ => trivial) (fun K hK => ?_)
  go_simp
  refine ⟨_, fun _ _ => rfl, hK _ ?_⟩
  clear hK K
  refine wpQuietIn_step (fun _ _ _ _ => trivial) (fun K hK => ?_)
  go_simp
  refine ⟨_, fun _ _ => rfl, hK _ ?_⟩
  clear hK K
  refine wpQuietIn_step (fun _ _ _ _ => trivial) (fun K hK => ?_)
  go_simp
  refine ⟨_, fun _ _ => rfl, hK _ ?_⟩
  clear hK K
  refine wpQuietIn_step (fun _ _ _ _ => trivial) (fun K hK => ?_)
  go_simp
  refine ⟨_, fun _ _ => rfl, hK _ ?_⟩
  clear hK K
  refine wpQuietIn_step (fun _ _ _ _ => trivial) (fun K hK => ?_)
  go_simp
  refine ⟨.int .i64 (R.first : Int), fun w' hw => callsIn_wide.2 (CF.out w' hw), hK _ ?_⟩
  clear hK K
  refine wpQuietIn_step (fun _ _ _ _ => trivial) (fun K hK => ?_)
  go_simp
  refine ⟨_, fun _ _ => rfl, hK _ ?_⟩
  clear hK K
  refine wpQuietIn_readw (.int .i64 (R.first : Int)) (fun _ _ _ _ => trivial) rfl (fun w' hw => ?_) ?_
  · obtain ⟨d0, d1, d2⟩ := (HD.out w' hw).cells
    unfold Oper.quietAtIn
    go_simp
  simp only [Act.put, List.setIfInBounds_toArray, List.set_cons_zero, List.set_cons_succ]
  refine wpQuietIn_step (fun _ _ _ _ => trivial) (fun K hK => ?_)
  go_simp
  refine ⟨_, fun _ _ => rfl, hK _ ?_⟩
  clear hK K
  refine wpQuietIn_step (fun _ _ _ _ => trivial) (fun K hK => ?_)
  go_simp
  refine ⟨_, fun _ _ => rfl, hK _ ?_⟩
  clear hK K
  refine wpQuietIn_step (fun _ _ _ _ => trivial) (fun K hK => ?_)
  go_simp
  refine ⟨_, fun _ _ => rfl, hK _ ?_⟩
  clear hK K
  refine wpQuietIn_step (fun _ _ _ _ => trivial) (fun K hK => ?_)
  go_simp
  refine ⟨_, fun _ _ => rfl, hK _ ?_⟩
  clear hK K
  refine wpQuietIn_step (fun _ _ _ _ => trivial) (fun K hK => ?_)
  go_simp
  refine ⟨.int .i64 (R.next : Int), fun w' hw => callsIn_wide.2 (CN.out w' hw), hK _ ?_⟩
  clear hK K
  refine wpQuietIn_readw (DV R A2 C2) (fun _ _ _ _ => trivial) rfl (fun w' hw => ?_) ?_
  · exact quiet_load 27 (.tmp 3) _ rfl rfl (HL.out w' hw)
  simp only [Act.put, List.setIfInBounds_toArray, List.set_cons_zero, List.set_cons_succ]
  refine wpQuietIn_step (fun _ _ _ _ => trivial) (fun K hK => ?_)
  go_simp
  refine ⟨.int .i64 (R.next : Int), fun w' hw => callsIn_wide.2 (CD.out w' hw), hK _ ?_⟩
  clear hK K
  refine wpQuietIn_step (fun _ _ _ _ => trivial) (fun K hK => ?_)
  go_simp
  refine ⟨_, fun _ _ => rfl, hK _ ?_⟩
  clear hK K
  refine wpQuietIn_step (fun _ _ _ _ => trivial) (fun K hK => ?_)
  go_simp
  refine ⟨_, fun _ _ => rfl, hK _ ?_⟩
  clear hK K
  refine wpQuietIn_nil ?_
  rintro W2 HW2
  have C1 : Hid (∀ w', Calls Try.prog 39 #[.pointer (some ⟨b, 0, none⟩)] w' (Iter 41 b w')) := Lib.hid (fun w' => all_any b w')
  have C2' : Hid (∀ w', Calls Try.prog 40 #[.pointer (some ⟨b, 0, none⟩)] w' (Iter 43 b w')) := Lib.hid (fun w' => back_any b w')
  have HB2 := Lib.hid HW2
  clear HW2
  go_wp2_with (first
    | (go_at_call 39; (with_reducible refine (C1.out _).mono ?_); rintro e w3 ⟨p, rfl, hp, hpl, hb3⟩; have fnp := func_nil9 41 p; have HP := Lib.hid hp; have HB3 := Lib.hid hb3; clear hp hb3 hpl)
    | (go_at_call 40; (with_reducible refine (C2'.out _).mono ?_); rintro e w4 ⟨q, rfl, hq, hql, hb4⟩; have fnq := func_nil9 43 q; have HQ := Lib.hid hq; have HB4 := Lib.hid hb4; clear hq hb4 hql)
    | fail)
  have hsz3 := HB3.out.size
  have hsz2 := HB2.out.size
  have hsz4 := HB4.out.size
  have hszW := HS.out
  have b3 : Below W.heap.size W w3 := HB2.out.trans (HB3.out.mono hsz2)
  have b4 : Below W.heap.size W w4 := b3.trans (HB4.out.mono (by omega))
  have hp4 : w4.cell? ⟨p, 0, none⟩ = some (.pointer (some ⟨b, 0, none⟩)) := (HB4.out.cell (p := ⟨p, 0, none⟩) (cell_in HP.out)).trans HP.out
  have hpl : p < w4.heap.size := cell_in hp4
  have hql : q < w4.heap.size := cell_in HQ.out
  have hr4 := HR.out w4 b4
  have hbl : b < w4.heap.size := hr4.blk.lt
  have hgl : ∀ g, (Value.slice A xs.length C).ownBlock = some g → g < w4.heap.size := fun g hg => (hr4.own.lt g hg).2
  have HRL : Hid (b < w4.heap.size ∧ ∀ g, (Value.slice A xs.length C).ownBlock = some g → g < w4.heap.size) := Lib.hid ⟨hbl, hgl⟩
  have HALL : Hid (∀ w', Below w4.heap.size w4 w' → DBx w' w.heap.size R.room R.first (.slice A2 R.l.length C2) ∧ RB w' b R A C xs ∧ DL w' R A2 C2 ∧ Boxed w' (w.heap.size + 1) 4 (.bool false) ∧ w'.cell? ⟨p, 0, none⟩ = some (.pointer (some ⟨b, 0, none⟩)) ∧ w'.cell? ⟨q, 0, none⟩ = some (.pointer (some ⟨b, 0, none⟩)) ∧ Below w.heap.size w w') := Lib.hid (fun w' h => by
    have b5 := b4.trans (h.mono b4.size)
    exact ⟨HD.out _ b5, HR.out _ b5, HDL.out _ b5, HX2.out _ b5, (h.cell (p := ⟨p, 0, none⟩) hpl).trans hp4, (h.cell (p := ⟨q, 0, none⟩) hql).trans HQ.out, HB.out.trans (b5.mono (by omega))⟩)
  have HLE : Hid (w.heap.size + 2 ≤ w4.heap.size) := Lib.hid (by have := b4.size; omega)
  have HPL := Lib.hid hpl
  have HQL := Lib.hid hql
  have bW : Below w4.heap.size w4 (w4.alloc (.cells #[.int .i64 0] 3)) := (Below.refl _ _).alloc (Nat.le_refl _) _
  have hps := all_stops 2 k p b R A C xs HF.out HK.out (w4.alloc (.cells #[.int .i64 0] 3)) (HALL.out _ bW).2.2.2.2.1 (HALL.out _ bW).2.1
  have HY0 : Hid (CI w4 (fun j => (j : Int)) ([] : List (Ent R)) (w4.alloc (.cells #[.int .i64 0] 3))) := Lib.hid ⟨bW, Boxed.new w4 3 (.int .i64 0)⟩
  have HPS := Lib.hid hps
  have HOR : Hid (w4.heap.size ≤ (w4.alloc (.cells #[.int .i64 0] 3)).heap.size) := Lib.hid bW.size
  clear hsz3 hsz2 hsz4 hszW b3 b4 hp4 hpl hql hr4 hbl hgl bW hps
  refine (wpIn_wide (n := 3)).1 ?_
  refine wpIn_rangeFunc_ownG hro (by omega) (gf := 41) (lb := #[.pointer (some ⟨p, 0, none⟩)]) rfl trivial (enters_of Try.func41 (by kernel_rfl) rfl)
    HPS.out Kr.trans' (fun W l o o' _ h2 h3 _ => Kr.obj W l o o' h2 h3) (Below.refl _ _) (fun _ => rfl)
    (fun pre W => CI w4 (fun j => (j : Int)) pre W)
    (fun c pre W => ¬ (entsOf pre = List.range pre.length))
    (CI.own HOR.out)
    (fun c _ _ _ _ hs _ _ => hs)
    HY0.out
    (fun x => { tmps := #[.pointer (some ⟨b, 0, none⟩), DV R A2 C2, undef, .pointer (some ⟨w.heap.size, 0, none⟩), .pointer (some ⟨w.heap.size + 1, 0, none⟩), .func (.func 41) #[] #[.pointer (some ⟨p, 0, none⟩)], .func (.func 43) #[] #[.pointer (some ⟨q, 0, none⟩)], .pointer (some ⟨w4.heap.size, 0, none⟩), .int .i64 ((R.first + x.1 : Nat) : Int), .int .i64 (R.l.getD x.1 0), undef, undef, undef, .pointer (some ⟨b, 0, none⟩), .int .i64 (R.room : Int), .pointer (some ⟨w.heap.size, 0, none⟩), .int .i64 (R.room : Int), .bool false, .bool false, .pointer (some ⟨b, 0, none⟩), .int .i64 (R.l.length : Int), .pointer (some ⟨w.heap.size, 2, none⟩), .slice A2 R.l.length C2, .int .i64 (R.l.length : Int), .bool false, .bool false, .bool false, .pointer (some ⟨b, 0, none⟩), .int .i64 (R.first : Int), .pointer (some ⟨w.heap.size, 1, none⟩), .int .i64 (R.first : Int), .bool false, .bool false, .bool false, .pointer (some ⟨b, 0, none⟩), .int .i64 (R.next : Int), DV R A2 C2, .int .i64 (R.next : Int), .bool false, .bool false, .pointer (some ⟨b, 0, none⟩), .func (.func 41) #[] #[.pointer (some ⟨p, 0, none⟩)], .pointer (some ⟨b, 0, none⟩), .func (.func 43) #[] #[.pointer (some ⟨q, 0, none⟩)], .func (.func 41) #[] #[.pointer (some ⟨p, 0, none⟩)], .bool false, .bool false, .func (.func 43) #[] #[.pointer (some ⟨q, 0, none⟩)], .bool false, .bool false, .func (.func 41) #[] #[.pointer (some ⟨p, 0, none⟩)], .int .i64 ((R.first + x.1 : Nat) : Int), .int .i64 (R.l.getD x.1 0), undef, undef, undef, undef, undef, undef, undef, undef, undef, undef, undef, undef, undef, undef, undef, undef, undef, undef, undef, undef, undef, undef, undef, undef, undef, undef, undef, undef, undef, undef, undef, undef, undef, undef, undef, undef, undef, undef, undef, undef, undef, undef, undef, undef, undef, undef, undef, undef, undef, undef, undef, undef, undef, undef, undef, undef, undef, undef, undef, undef], defers := [] }) ?assign ?body ?done ?stop
  case assign =>
    intro l x W K hK
    dsimp only at hK ⊢
    gi_wp2
    exact hK
  case stop =>
    rintro D c pre W _ hs hn _
    exact (hn hs).elim
  case body =>
    rintro l0 pre x Wb hI hlen
    obtain ⟨hx0, hrB, hdl, hres, hpB, hqB, hbB⟩ := HALL.out Wb hI.bel
    obtain ⟨d0, d1, d2⟩ := hx0.cells
    have cK := hI.cnt.cell
    have fK := hI.cnt.frozen
    have HI := Lib.hid hI
    have HI2 := Lib.hid hI.cnt
    obtain ⟨m, hm⟩ : ∃ m, m = pre.length := ⟨_, rfl⟩
    have h9 : Below w4.heap.size Wb Wb := Below.refl _ _
    have H9 : Hid (∀ v, Below w4.heap.size Wb (Wb.setCell ⟨w4.heap.size, 0, none⟩ v)) := Lib.hid (fun v => h9.setCell (p := ⟨w4.heap.size, 0, none⟩) (Nat.le_refl _) v)
    clear h9
    simp only [← hm] at cK
    have hm2 : m ≤ 4096 := by omega
    have hll : R.l.length ≤ 4096 := by have := HF.out.len; have := HF.out.hi; omega
    have hfx : R.first ≤ 1099512627776 := by have := HF.out.next; have := HK.out; unfold Rn.next at *; omega
    have HM := Lib.hid hm
    clear hI hx0 hrB hpB hqB hbB hm hlen
    dsimp only
    have cR := hres.cell
    have fR := hres.frozen
    by_cases hlt : m < R.l.length
    · by_cases hxm : x.1 = m
      · obtain ⟨g, eA, _, hg, hc, _⟩ := OwnI.at_ hdl m hlt
        have HXM := Lib.hid hxm
        rw [hxm]
        obtain ⟨N, hN⟩ : ∃ N, N = R.first + m := ⟨_, rfl⟩
        have e1 : (R.first : Int) + (m : Int) = (N : Int) := by omega
        have e2 : (N : Int) ≤ 1099512631872 := by omega
        have e3 : (0 : Int) ≤ (N : Int) := by omega
        have k0 : (0 : Int) ≤ (m : Int) := by omega
        have k1 : (m : Int) < (R.l.length : Int) := by omega
        have k2 : decide ((R.l.length : Int) ≤ (m : Int)) = false := decide_eq_false (by omega)
        rw [← hN]
        subst eA
        generalize R.l.getD m 0 = z at *
        clear hdl hg hxm hN hres fR cR
        gi_wp2
        refine ⟨(KeepsOthers.setCell _ _ _).from _, Kr.below (H9.out _) HPL.out (.inr HRL.out), HI.out.bel.trans (H9.out _), ?_⟩
        have h8 := HI2.out.set (.int .i64 ((m : Int) + 1))
        have e8 : (((pre ++ [x]).length : Nat) : Int) = (m : Int) + 1 := by rw [List.length_append, List.length_singleton, ← HM.out]; rfl
        show Boxed _ _ _ (.int .i64 (((pre ++ [x]).length : Nat) : Int))
        rw [e8]
        exact h8
      · have HBAD := Lib.hid (bad_all (pre := pre) (x := x) (by rw [← HM.out]; exact hxm))
        obtain ⟨N, hN⟩ : ∃ N, N = R.first + x.1 := ⟨_, rfl⟩
        obtain ⟨M, hM⟩ : ∃ M, M = R.first + m := ⟨_, rfl⟩
        have e1 : (R.first : Int) + (m : Int) = (M : Int) := by omega
        have e2 : (M : Int) ≤ 1099512631872 := by omega
        have e3 : (0 : Int) ≤ (M : Int) := by omega
        have e4 : ¬ (N : Int) = (M : Int) := by omega
        have e5 : decide ((N : Int) = (M : Int)) = false := decide_eq_false e4
        have e6 : ((N : Int) == (M : Int)) = false := beq_false_of_ne e4
        have k2 : decide ((R.l.length : Int) ≤ (m : Int)) = false := decide_eq_false (by omega)
        rw [← hN]
        generalize R.l.getD x.1 0 = z at *
        clear hdl hxm hN hM hres
        gi_wp2
        exact ⟨(KeepsOthers.setCell _ _ _).from _, HBAD.out⟩
    · have HBAD := Lib.hid (bad_all (pre := pre) (x := x) (by have := x.2; have := HM.out; omega))
      have k2 : decide ((R.l.length : Int) ≤ (m : Int)) = true := decide_eq_true (by omega)
      generalize R.l.getD x.1 0 = z at *
      generalize R.first + x.1 = N at *
      clear hdl hres
      gi_wp2
      exact ⟨(KeepsOthers.setCell _ _ _).from _, HBAD.out⟩
  case done =>
    rintro D1 ys W5 hD hys hI hK
    have hyl : ys.length = R.l.length := by have := congrArg List.length hys; rw [entsOf_length, List.length_range] at this; exact this
    have hc7 : Boxed W5 w4.heap.size 3 (.int .i64 (R.l.length : Int)) := by
      have h : Boxed W5 w4.heap.size 3 (.int .i64 (ys.length : Int)) := hI.cnt
      rwa [hyl] at h
    have hb5 := hI.bel
    have hlt5 : w4.heap.size < W5.heap.size := hc7.lt
    have hDlt : D1 < W5.heap.size := (Array.getElem?_eq_some_iff.1 hK).1
    have HALL2 : Hid (∀ w', Below W5.heap.size W5 w' → (DBx w' w.heap.size R.room R.first (.slice A2 R.l.length C2) ∧ RB w' b R A C xs ∧ DL w' R A2 C2 ∧ Boxed w' (w.heap.size + 1) 4 (.bool false) ∧ w'.cell? ⟨q, 0, none⟩ = some (.pointer (some ⟨b, 0, none⟩)) ∧ Below w.heap.size w w') ∧ Boxed w' w4.heap.size 3 (.int .i64 (R.l.length : Int)) ∧ w'.heap[D1]? = some (.deferred (some []))) := Lib.hid (fun w' h => by
      obtain ⟨a1, a2, a3, a4, _, a6, a7⟩ := HALL.out w' (hb5.trans (h.mono hb5.size))
      exact ⟨⟨a1, a2, a3, a4, a6, a7⟩, (h.block _ hlt5).trans hc7, (h.block _ hDlt).trans hK⟩)
    obtain ⟨⟨hx0, hrB, hdl, hres, hqB, hbB⟩, _⟩ := HALL2.out W5 (Below.refl _ _)
    obtain ⟨d0, d1, d2⟩ := hx0.cells
    have hll : R.l.length ≤ 4096 := by have := HF.out.len; have := HF.out.hi; omega
    have HLT5 : Hid (w4.heap.size < W5.heap.size ∧ D1 < W5.heap.size) := Lib.hid ⟨hlt5, hDlt⟩
    have bW : Below W5.heap.size W5 (W5.alloc (.cells #[.int .i64 (R.l.length : Int)] 3)) := (Below.refl _ _).alloc (Nat.le_refl _) _
    have HPS2 := Lib.hid (back_stops 2 k q b R A C xs HF.out HK.out (W5.alloc (.cells #[.int .i64 (R.l.length : Int)] 3)) (HALL2.out _ bW).1.2.2.2.2.1 (HALL2.out _ bW).1.2.1)
    have HY2 : Hid (CI W5 (fun j => (R.l.length : Int) - (j : Int)) ([] : List (Ent R)) (W5.alloc (.cells #[.int .i64 (R.l.length : Int)] 3))) := Lib.hid ⟨bW, by
      have := Boxed.new W5 3 (.int .i64 (R.l.length : Int))
      simpa using this⟩
    have HOR2 : Hid (W5.heap.size ≤ (W5.alloc (.cells #[.int .i64 (R.l.length : Int)] 3)).heap.size) := Lib.hid bW.size
    have HDG : Hid (∀ g, (Value.slice A2 R.l.length C2).ownBlock = some g → g < W5.heap.size) := Lib.hid (fun g hg => (OwnI.lt hdl g hg).2)
    have HQL2 : Hid (q < W5.heap.size) := Lib.hid (by have := HQL.out; omega)
    have HRL2 : Hid (b < W5.heap.size ∧ ∀ g, (Value.slice A xs.length C).ownBlock = some g → g < W5.heap.size) := Lib.hid ⟨by have := HRL.out.1; omega, fun g hg => by have := HRL.out.2 g hg; omega⟩
    clear hyl hc7 hb5 hlt5 hDlt hx0 hrB hdl hres hqB hbB bW hI hys hK
    dsimp only
    go_wp2
    refine (wpIn_wide (n := 3)).1 ?_
    refine wpIn_rangeFunc_ownG hro (by omega) (gf := 43) (lb := #[.pointer (some ⟨q, 0, none⟩)]) rfl trivial (enters_of Try.func43 (by kernel_rfl) rfl)
      HPS2.out Kr.trans' (fun W l o o' _ h2 h3 _ => Kr.obj W l o o' h2 h3) (Below.refl _ _) (fun _ => rfl)
      (fun pre W => CI W5 (fun j => (R.l.length : Int) - (j : Int)) pre W)
      (fun c pre W => ¬ (pre.length ≤ R.l.length ∧ entsOf pre = (List.range pre.length).map (fun j => R.l.length - 1 - j)))
      (CI.own HOR2.out)
      (fun c _ _ _ _ hs _ _ => hs)
      HY2.out
      (fun x => { tmps := #[.pointer (some ⟨b, 0, none⟩), DV R A2 C2, undef, .pointer (some ⟨w.heap.size, 0, none⟩), .pointer (some ⟨w.heap.size + 1, 0, none⟩), .func (.func 41) #[] #[.pointer (some ⟨p, 0, none⟩)], .func (.func 43) #[] #[.pointer (some ⟨q, 0, none⟩)], .pointer (some ⟨w4.heap.size, 0, none⟩), undef, undef, .pointer (some ⟨W5.heap.size, 0, none⟩), .int .i64 ((R.first + x.1 : Nat) : Int), .int .i64 (R.l.getD x.1 0), .pointer (some ⟨b, 0, none⟩), .int .i64 (R.room : Int), .pointer (some ⟨w.heap.size, 0, none⟩), .int .i64 (R.room : Int), .bool false, .bool false, .pointer (some ⟨b, 0, none⟩), .int .i64 (R.l.length : Int), .pointer (some ⟨w.heap.size, 2, none⟩), .slice A2 R.l.length C2, .int .i64 (R.l.length : Int), .bool false, .bool false, .bool false, .pointer (some ⟨b, 0, none⟩), .int .i64 (R.first : Int), .pointer (some ⟨w.heap.size, 1, none⟩), .int .i64 (R.first : Int), .bool false, .bool false, .bool false, .pointer (some ⟨b, 0, none⟩), .int .i64 (R.next : Int), DV R A2 C2, .int .i64 (R.next : Int), .bool false, .bool false, .pointer (some ⟨b, 0, none⟩), .func (.func 41) #[] #[.pointer (some ⟨p, 0, none⟩)], .pointer (some ⟨b, 0, none⟩), .func (.func 43) #[] #[.pointer (some ⟨q, 0, none⟩)], .func (.func 41) #[] #[.pointer (some ⟨p, 0, none⟩)], .bool false, .bool false, .func (.func 43) #[] #[.pointer (some ⟨q, 0, none⟩)], .bool false, .bool false, .func (.func 41) #[] #[.pointer (some ⟨p, 0, none⟩)], undef, undef, undef, undef, undef, undef, undef, undef, undef, undef, undef, undef, undef, undef, undef, undef, undef, undef, undef, undef, undef, undef, undef, undef, undef, undef, .pointer (some ⟨w.heap.size, 2, none⟩), .slice A2 R.l.length C2, .int .i64 (R.l.length : Int), .func (.func 43) #[] #[.pointer (some ⟨q, 0, none⟩)], .int .i64 ((R.first + x.1 : Nat) : Int), .int .i64 (R.l.getD x.1 0), undef, undef, undef, undef, undef, undef, undef, undef, undef, undef, undef, undef, undef, undef, undef, undef, undef, undef, undef, undef, undef, undef, undef, undef, undef, undef, undef, undef, undef, undef], defers := [] }) ?assign2 ?body2 ?done2 ?stop2
    case assign2 =>
      intro l x W K hK
      dsimp only at hK ⊢
      gi_wp2
      exact hK
    case stop2 =>
      rintro D c pre W _ hs hn _
      exact (hn hs).elim
    case body2 =>
      rintro l0 pre x Wb hI hlen
      obtain ⟨⟨hx0, hrB, hdl, hres, hqB, hbB⟩, _⟩ := HALL2.out Wb hI.bel
      have cK := hI.cnt.cell
      have fK := hI.cnt.frozen
      have HI := Lib.hid hI
      have HI2 := Lib.hid hI.cnt
      obtain ⟨m, hm⟩ : ∃ m, m = pre.length := ⟨_, rfl⟩
      have h9 : Below W5.heap.size Wb Wb := Below.refl _ _
      have H9 : Hid (∀ v, Below W5.heap.size Wb (Wb.setCell ⟨W5.heap.size, 0, none⟩ v)) := Lib.hid (fun v => h9.setCell (p := ⟨W5.heap.size, 0, none⟩) (Nat.le_refl _) v)
      clear h9
      simp only [← hm] at cK
      have hm2 : m ≤ 4096 := by omega
      have hfx : R.first ≤ 1099512627776 := by have := HF.out.next; have := HK.out; unfold Rn.next at *; omega
      have HM := Lib.hid hm
      have hne : w.heap.size ≠ W5.heap.size := by have := HLE.out; have := HLT5.out.1; omega
      have D12 : ∀ v, (Wb.setCell ⟨W5.heap.size, 0, none⟩ v).cell? ⟨w.heap.size, 1, none⟩ = some (.int .i64 (R.first : Int)) := fun v => (hx0.other (p := ⟨W5.heap.size, 0, none⟩) hne v).cells.2.1
      have D22 : ∀ v, (Wb.setCell ⟨W5.heap.size, 0, none⟩ v).cell? ⟨w.heap.size, 2, none⟩ = some (.slice A2 R.l.length C2) := fun v => (hx0.other (p := ⟨W5.heap.size, 0, none⟩) hne v).cells.2.2
      have hne2 : w.heap.size + 1 ≠ W5.heap.size := by have := HLE.out; have := HLT5.out.1; omega
      have D32 : ∀ v, (Wb.setCell ⟨W5.heap.size, 0, none⟩ v).frozen? ⟨w.heap.size + 1, 0, none⟩ = false := fun v => ((hres.other hne2 v).frozen)
      have D42 : ∀ v, (Wb.setCell ⟨W5.heap.size, 0, none⟩ v).cell? ⟨w.heap.size + 1, 0, none⟩ = some (.bool false) := fun v => ((hres.other hne2 v).cell)
      have HDL2 := Lib.hid hdl
      clear hI hx0 hrB hqB hbB hm hlen hne hne2 hres hdl
      dsimp only
      by_cases hlt : m < R.l.length
      · obtain ⟨i, hi⟩ : ∃ i, i = R.l.length - 1 - m := ⟨_, rfl⟩
        have hi1 : (R.l.length : Int) - (m : Int) = (i : Int) + 1 := by omega
        have hi2 : i < R.l.length := by omega
        rw [hi1] at cK
        by_cases hxm : x.1 = i
        · obtain ⟨g, eA, _, hg, hc, _⟩ := OwnI.at_ HDL2.out i hi2
          subst eA
          have hg5 : g < W5.heap.size := HDG.out g rfl
          have D52 : ∀ v, (Wb.setCell ⟨W5.heap.size, 0, none⟩ v).cell? ⟨g, i, none⟩ = some (.int .i64 (R.l.getD i 0)) := fun v => ((H9.out v).cell (p := ⟨g, i, none⟩) hg5).trans hc
          rw [hxm]
          obtain ⟨N, hN⟩ : ∃ N, N = R.first + i := ⟨_, rfl⟩
          have e1 : (R.first : Int) + (i : Int) = (N : Int) := by omega
          have e2 : (N : Int) ≤ 1099512631872 := by omega
          have e3 : (0 : Int) ≤ (N : Int) := by omega
          have k0 : (0 : Int) ≤ (i : Int) := by omega
          have k1 : (i : Int) < (R.l.length : Int) := by omega
          have k2 : decide ((i : Int) < 0) = false := decide_eq_false (by omega)
          have k3 : (i : Int) ≤ 4096 := by omega
          have HI3 := Lib.hid hi
          have HLT := Lib.hid hlt
          rw [← hN]
          generalize R.l.getD i 0 = z at *
          clear hc hg hxm hN hi hi1 hg5
          gi_wp2
          refine ⟨(KeepsOthers.setCell _ _ _).from _, Kr.below (H9.out _) HQL2.out (.inr HRL2.out), HI.out.bel.trans (H9.out _), ?_⟩
          have h8 := HI2.out.set (.int .i64 (i : Int))
          have e8 : (R.l.length : Int) - (((pre ++ [x]).length : Nat) : Int) = (i : Int) := by
            rw [List.length_append, List.length_singleton, ← HM.out]
            have := HI3.out
            have := HLT.out
            omega
          show Boxed _ _ _ (.int .i64 ((R.l.length : Int) - (((pre ++ [x]).length : Nat) : Int)))
          rw [e8]
          exact h8
        · have HBAD : Hid (¬ ((pre ++ [x]).length ≤ R.l.length ∧ entsOf (pre ++ [x]) = (List.range (pre ++ [x]).length).map (fun j => R.l.length - 1 - j))) := Lib.hid (fun h => bad_back (pre := pre) (x := x) (by rw [← HM.out, ← hi]; exact hxm) h.2)
          obtain ⟨N, hN⟩ : ∃ N, N = R.first + x.1 := ⟨_, rfl⟩
          obtain ⟨M, hM⟩ : ∃ M, M = R.first + i := ⟨_, rfl⟩
          have e1 : (R.first : Int) + (i : Int) = (M : Int) := by omega
          have e2 : (M : Int) ≤ 1099512631872 := by omega
          have e3 : (0 : Int) ≤ (M : Int) := by omega
          have e4 : ¬ (N : Int) = (M : Int) := by omega
          have e5 : decide ((N : Int) = (M : Int)) = false := decide_eq_false e4
          have e6 : ((N : Int) == (M : Int)) = false := beq_false_of_ne e4
          have k2 : decide ((i : Int) < 0) = false := decide_eq_false (by omega)
          have k3 : (i : Int) ≤ 4096 := by omega
          rw [← hN]
          generalize R.l.getD x.1 0 = z at *
          clear hxm hN hM hi hi1
          gi_wp2
          exact ⟨((KeepsOthers.setCell _ _ _).trans (KeepsOthers.setCell _ _ _)).from _, HBAD.out⟩
      · have HBAD : Hid (¬ ((pre ++ [x]).length ≤ R.l.length ∧ entsOf (pre ++ [x]) = (List.range (pre ++ [x]).length).map (fun j => R.l.length - 1 - j))) := Lib.hid (fun h => by
          have h1 := h.1
          rw [List.length_append, List.length_singleton, ← HM.out] at h1
          omega)
        obtain ⟨z, hz⟩ : ∃ z : Int, z = (R.l.length : Int) - (m : Int) := ⟨_, rfl⟩
        rw [← hz] at cK
        have k2 : decide (z - 1 < (0 : Int)) = true := decide_eq_true (by omega)
        have k3 : z - 1 < (0 : Int) := by omega
        have k4 : (-5000 : Int) ≤ z := by omega
        have k5 : z ≤ 5000 := by omega
        generalize R.l.getD x.1 0 = v at *
        generalize R.first + x.1 = N at *
        clear hz
        gi_wp2
        exact ⟨((KeepsOthers.setCell _ _ _).trans (KeepsOthers.setCell _ _ _)).from _, HBAD.out⟩
    case done2 =>
      rintro D2 ys W6 hD2 hys hI hK
      have hyl : ys.length = R.l.length := by have := congrArg List.length hys; rw [entsOf_length, List.length_map, List.length_range] at this; exact this
      have hc10 : Boxed W6 W5.heap.size 3 (.int .i64 0) := by
        have h : Boxed W6 W5.heap.size 3 (.int .i64 ((R.l.length : Int) - (ys.length : Int))) := hI.cnt
        rwa [hyl, Int.sub_self] at h
      obtain ⟨⟨hx0, _, _, hres, _, hbB⟩, hc7, hK1⟩ := HALL2.out W6 hI.bel
      obtain ⟨d0, d1, d2⟩ := hx0.cells
      have c10 := hc10.cell
      have c7 := hc7.cell
      have cR := hres.cell
      have fR := hres.frozen
      have HRS := Lib.hid hres
      have HKK := Lib.hid hK
      have HK1 := Lib.hid hK1
      have HBB := Lib.hid hbB
      have HBS := Lib.hid hI.bel.size
      clear hyl hys hI hK hx0 hres hbB hc7 hK1 hc10
      dsimp only
      go_wp2
      have hK2 := (KeepsOthers.setCell W6 ⟨w.heap.size + 1, 0, none⟩ (.bool true)).same D2 _ HKK.out rfl
      have hK1 := (KeepsOthers.setCell W6 ⟨w.heap.size + 1, 0, none⟩ (.bool true)).same D1 _ HK1.out rfl
      have hDD : D1 ≠ D2 := by have := HLT5.out.2; have := HOR2.out; omega
      have hDw : w.heap.size ≤ D2 := by have := HLT5.out.1; have := HLE.out; have := HOR2.out; omega
      have hDw1 : w.heap.size ≤ D1 := by have := HLE.out; have := HOR.out; omega
      refine ⟨by simp, .inl ⟨_, _, rfl, run_takeDeferred hK2, ?_⟩⟩
      have hK1' := (World.putObj_heap_other (o := .deferred none) (w := W6.setCell ⟨w.heap.size + 1, 0, none⟩ (.bool true)) hDD).trans hK1
      refine ⟨by simp, .inl ⟨_, _, rfl, run_takeDeferred hK1', ?_⟩⟩
      have hc5 := cell_kept (HRS.out.set (.bool true)).cell (grownBy_putObj' _ D2 (.deferred none)) (fun r e => by cases e; exact ⟨_, hK2, rfl⟩)
      have hc6 := cell_kept hc5 (grownBy_putObj' _ D1 (.deferred none)) (fun r e => by cases e; exact ⟨_, hK1', rfl⟩)
      refine ⟨.bool true, ?_, rfl, ((HBB.out.setCell (p := ⟨w.heap.size + 1, 0, none⟩) (by show _ ≤ w.heap.size + 1; omega) _).trans (belowK_b (w := w) (Nat.le_refl _) _ D2 _ _ hDw hK2 rfl rfl)).trans (belowK_b (w := w) (Nat.le_refl _) _ D1 _ _ hDw1 hK1' rfl rfl)⟩
      simp [results, Try.f31, go_sem, hc6]
end Go.Proofs.Ytjkobejhbgjhlaa
