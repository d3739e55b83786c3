/-
  Own text: law GroupMakes where a group is made.
-/
import Derived.Test.YtjcbcdjfhcnhcaaGmG
import Derived.Shelf.Abstract
import Derived.BigFrameIn
namespace Go.Proofs.Ytjcbcdjfhcnhcaa
open Go.RowKit
attribute [local go_sem] Oper.semAt_some
theorem tab_lt17 {w : World} {b : Nat} (h : IsTab w b) : b < w.heap.size := World.rowIs.lt h
theorem func_nil17 (f q : Nat) (w : World) : (binOp .eql 40 (.func (.func f) #[] #[.pointer (some ⟨q, 0, none⟩)]) Value.nilFunc).run Try.prog w = .ok (.bool false) w := by kernel_rfl
/-- The round's number goes up by one, and what was there stays. -/
theorem box_step {u A B : World} {t : TypeId} {i : Nat} (hA : Below (u.alloc (.cells #[.int .i64 (i : Nat)] t)).heap.size (u.alloc (.cells #[.int .i64 (i : Nat)] t)) A) (hB : Below A.heap.size A B) (z : Int) (hz : z = ((i + 1 : Nat) : Int)) :
    Below (u.heap.size + 1) (u.alloc (.cells #[.int .i64 ((i + 1 : Nat) : Int)] t)) (B.setCell ⟨u.heap.size, 0, none⟩ (.int .i64 z)) ∧ ∀ k, u.heap.size + 1 ≤ k → k < A.heap.size → (B.setCell ⟨u.heap.size, 0, none⟩ (.int .i64 z)).heap[k]? = A.heap[k]? := by
  have hs : (u.alloc (.cells #[.int .i64 (i : Nat)] t)).heap.size = u.heap.size + 1 := by simp
  have hs2 : (u.alloc (.cells #[.int .i64 ((i + 1 : Nat) : Int)] t)).heap.size = u.heap.size + 1 := by simp
  have hAB := hA.trans (hB.mono hA.size)
  have hbx : Boxed B u.heap.size t (.int .i64 (i : Nat)) := (hAB.block _ (by rw [hs]; omega)).trans (Boxed.new u t _)
  have hbx2 := hbx.set (.int .i64 z)
  have hkeep : ∀ k, k ≠ u.heap.size → (B.setCell ⟨u.heap.size, 0, none⟩ (.int .i64 z)).heap[k]? = B.heap[k]? := fun k hk => by
    simp only [World.setCell, Array.getElem?_modify]
    rw [if_neg (fun e => hk e.symm)]
  have hsz : (B.setCell ⟨u.heap.size, 0, none⟩ (.int .i64 z)).heap.size = B.heap.size := by simp [World.setCell]
  have hz2 := hAB.size
  rw [hs] at hz2
  refine ⟨⟨hAB.os, hAB.tape, hAB.output, by rw [hs2, hsz]; exact hz2, fun k hk => ?_⟩, fun k h1 h2 => ?_⟩
  · by_cases e : k = u.heap.size
    · rw [e]
      refine Eq.trans hbx2 ?_
      rw [hz]
      exact (Boxed.new u t _).symm
    · rw [hkeep k e, hAB.block k (by rw [hs]; exact hk), Below.heap_alloc _ _ _ (by omega), Below.heap_alloc _ _ _ (by omega)]
  · rw [hkeep k (by omega)]
    exact hB.block k h2
/-- A range whose loop variable is laid in a box of its own. -/
theorem wpIn_range_boxed {F : Fence} {n : Nat} {P : Program} {α : Type} {g : Operand} {ps : Array Tmp} {assign body : Code} {Q : Exit → Act → World → Prop} {a : Act} {w : World}
    (hro : F.round = none) (h1 : 1 ≤ n) {gf : Nat} {lb : Array Value} (hg : a.eval g = .func (.func gf) #[] lb) (hFg : F.fn gf) (eg : ∀ args w, (callFunc gf args).run P w = .ok (.enter gf args) w)
    {N : Nat} {enc : Nat → α → Array Value} {M : Nat → α → World → Prop} {w0 : World} (hseq : Yields F (n - 1) P gf lb N enc M w0) (hps : ∀ i x, (enc i x).size = ps.size)
    (ob : Nat → α → Obj) (hM : ∀ i x A l r o, M i x A → A.heap[l]? = some (.loop r) → M i x (A.putObj l o)) (hM2 : ∀ i x A, M i x A → M i x (A.alloc (ob i x)))
    (V : Nat → World) (hV : ∀ i, Below w0.heap.size w0 (V i)) (hVb : w0.heap.size ≤ w.heap.size) (h0 : Below w.heap.size (V 0) w) (a₁ : Nat → α → Nat → Act)
    (hassign : ∀ (l i : Nat) (x : α) (A : World) (K : Act → World → Prop), K (a₁ i x A.heap.size) (A.alloc (ob i x)) →
      assign.wpIn (F.inRound l) (n - 1 - 1) P (Exit.then K (fun _ _ _ => False)) { tmps := (ps.zip (enc i x)).foldl (fun t (p, v) => t.setIfInBounds p v) a.tmps, defers := [] } A)
    (hbody : ∀ (l i : Nat) (x : α) (g : Nat) (B : World), i < N → Below w.heap.size (V i) B → w.heap.size ≤ g → B.heap[g]? = some (ob i x) → M i x B → body.wpIn (F.inRound l) (n - 1 - 1) P (Went w.heap.size V i B) (a₁ i x g) B)
    (hdone : ∀ (D : Nat) (B : World), w.heap.size ≤ D → Below w.heap.size (V N) B → B.heap[D]? = some (.deferred (some [])) → Q .normal { a with defers := { target := .collected D, args := #[] } :: a.defers } B) :
    (Code.rangeFunc g ps assign body).wpIn F n P Q a w := by
  have hb := fun (i : Nat) (A : World) (h : Below w.heap.size (V i) A) => (hV i).trans (h.mono hVb)
  refine wpIn_rangeFunc (fun fn hfn => ?_)
  rw [hro]
  let rc : LoopState → Loop := fun s => { state := s, pending := none, fn, tmps := a.tmps, params := ps, assign, body, defers := w.heap.size }
  let W1 := (w.alloc (.deferred (some []))).alloc (.loop (rc .ready))
  have e1 : W1.heap[w.heap.size + 1]? = some (.loop (rc .ready)) := by
    have h := World.alloc_heap_new (w.alloc (.deferred (some []))) (.loop (rc .ready))
    rwa [World.size_alloc] at h
  have e2 : W1.heap[w.heap.size]? = some (.deferred (some [])) := (Below.heap_alloc _ _ _ (by simp)).trans (World.alloc_heap_new w _)
  have e3 : Below w.heap.size (V 0) W1 := h0.trans (((Below.refl _ w).alloc (Nat.le_refl _) _).alloc (by simp) _)
  refine ⟨w.heap.size + 1, [{ target := .collected w.heap.size, args := #[] }], W1, { target := .fn (.func gf) lb, args := #[.func (.yield (w.heap.size + 1)) #[] #[]] }, W1, gf,
    #[.func (.yield (w.heap.size + 1)) #[] #[]] ++ lb, W1, run_enterLoop_outer _ _ _ _ _, ?_, ?_, ?_, fun _ => h1, ?_⟩
  · simp only [resolve, hg]
    simp [go_sem]
  · intro f' hf'
    simp [Target.leads] at hf'
    subst hf'
    exact hFg
  · simp [invoke, go_sem, eg]
  refine (hseq (w.heap.size + 1) (fun i A => Below w.heap.size (V i) A ∧ A.heap[w.heap.size + 1]? = some (.loop (rc .ready)) ∧ A.heap[w.heap.size]? = some (.deferred (some []))) W1 (hb 0 _ e3) ?_ ?_ ⟨e3, e1, e2⟩).mono ?_
  · rintro i A B ⟨f1, f2, f3⟩ hAB
    have hlt := (Array.getElem?_eq_some_iff.1 f2).1
    exact ⟨f1.trans (hAB.mono (by omega)), (hAB.block _ hlt).trans f2, (hAB.block _ (by omega)).trans f3⟩
  · rintro i x A hi ⟨f1, f2, f3⟩ hA hMx
    have hlt := (Array.getElem?_eq_some_iff.1 f2).1
    have hsA : (A.alloc (ob i x)).heap.size = A.heap.size + 1 := by simp
    have d1 : Below w.heap.size (V i) (A.alloc (ob i x)) := f1.alloc (by omega) _
    have d2 : (A.alloc (ob i x)).heap[w.heap.size + 1]? = some (.loop (rc .ready)) := (Below.heap_alloc _ _ _ hlt).trans f2
    have d3 : (A.alloc (ob i x)).heap[w.heap.size]? = some (.deferred (some [])) := (Below.heap_alloc _ _ _ (by omega)).trans f3
    have hlt2 := (Array.getElem?_eq_some_iff.1 d2).1
    refine ⟨fn, _, assign, body, run_yield f2 (hps i x), roundIn_of_wpIn hfn (hassign _ i x A _ ⟨_, run_beginRound d2 rfl, ?_⟩)⟩
    have g2 := World.putObj_heap_same (o := .loop { rc .ready with state := .busy }) hlt2
    have g3 : ((A.alloc (ob i x)).putObj (w.heap.size + 1) (.loop { rc .ready with state := .busy })).heap[w.heap.size]? = some (.deferred (some [])) := (World.putObj_heap_other (by omega)).trans d3
    refine wpIn_mono (hbody _ i x A.heap.size _ hi (below_rec d1 (Nat.le_succ _) _) (by omega) ((World.putObj_heap_other (by omega)).trans (World.alloc_heap_new A _)) (hM i x _ _ _ _ (hM2 i x A hMx) d2)) ?_
    rintro e a3 B hB
    cases e with
    | normal =>
      obtain ⟨k1, k2⟩ := hB
      have m2 := (k2 _ (Nat.le_succ _) (by rw [World.putObj_size]; exact hlt2)).trans g2
      have m3 := (k2 _ (Nat.le_refl _) (by rw [World.putObj_size]; omega)).trans g3
      exact ⟨_, _, run_endRound none m2, rfl, ⟨below_rec k1 (Nat.le_succ _) _, World.putObj_heap_same (Array.getElem?_eq_some_iff.1 m2).1, (World.putObj_heap_other (by omega)).trans m3⟩, hb _ _ (below_rec k1 (Nat.le_succ _) _)⟩
    | _ => exact hB.elim
  · rintro e B ⟨⟨v, rfl⟩, f1, f2, f3⟩
    exact ⟨none, _, run_endLoop f2 (by simp [rc]), hdone _ _ (Nat.le_refl _) (below_rec f1 (Nat.le_succ _) _) ((World.putObj_heap_other (by omega)).trans f3)⟩
theorem Boxed.below18 {w w' : World} {b : Nat} {t : TypeId} {v : Value} (h : Boxed w b t v) (hb : Below w.heap.size w w') : Boxed w' b t v := (hb.block b h.lt).trans h
/-- A group's datagram, its number's kind told. -/
abbrev dgw (kd x y n m i : Int) (a : Option Addr) (c : Nat) : Value := .agg #[.int .i64 kd, .int .u32 0, .int .u32 0, .int .i64 0, .int .u32 0, .int .u32 x, .int .u32 y, .int .i64 n, .int .i64 m, .int .i64 i, .slice a 2 c]
abbrev dgo (kd x y n m i : Int) (a : Option Addr) (c : Nat) : Obj := .cells #[.int .i64 kd, .int .u32 0, .int .u32 0, .int .i64 0, .int .u32 0, .int .u32 x, .int .u32 y, .int .i64 n, .int .i64 m, .int .i64 i, .slice a 2 c] 44
/-- Its number's kind. -/
def kd17 (n i : Nat) : Int := if (i : Int) < (n : Int) then 2 else 3
theorem dgv_dgw (x y m : Int) (n i : Nat) (a : Option Addr) (c : Nat) : (dgv x y (n : Nat) m (i : Nat) a c).val = dgw (kd17 n i) x y (n : Nat) m (i : Nat) a c := rfl
theorem dgo_lies (w : World) (g : Nat) (kd x y n m i : Int) (a : Option Addr) (c : Nat) (h : w.heap[g]? = some (dgo kd x y n m i a c)) : Lies w g 0 #[.int .i64 kd, .int .u32 0, .int .u32 0, .int .i64 0, .int .u32 0, .int .u32 x, .int .u32 y, .int .i64 n, .int .i64 m, .int .i64 i, .slice a 2 c] :=
  ⟨_, _, h, by simp, fun j hj => by simp⟩
theorem dgo_load (w : World) (g : Nat) (kd x y n m i : Int) (a : Option Addr) (c : Nat) (h : Lies w g 0 #[.int .i64 kd, .int .u32 0, .int .u32 0, .int .i64 0, .int .u32 0, .int .u32 x, .int .u32 y, .int .i64 n, .int .i64 m, .int .i64 i, .slice a 2 c]) : (Instr.loadAt 44 (.pointer (some ⟨g, 0, none⟩))).run Try.prog w = .ok (dgw kd x y n m i a c) w :=
  h.loadAt 44 _ Try.underlying44 (by kernel_rfl) (by kernel_rfl)
set_option maxRecDepth 100000 in
set_option maxHeartbeats 4000000 in
theorem makes17_good (x y : Int) (m n N cap : Nat) (a : Option Addr) (Z : List Int) (w : World) (h1 : 1 ≤ n) (h2 : n ≤ 16) (hm : m ≤ 16) (hI : Ins w a n Z) (hZ : ∀ z ∈ Z, 0 ≤ z ∧ z ≤ 65535) (hN : n + m = N) :
    Calls Try.prog 3 #[.agg #[.int .u32 x, .int .u32 y], .int .i64 (m : Nat), .slice a n cap] w fun e w' => e = .returned (.bool true) ∧ Below w.heap.size w w' := by
  have C0 := Lib.hid (fun w => awake17_any w)
  have CN := Lib.hid (fun w => new_any w)
  have CG := Lib.hid (fun t u (h : Below w.heap.size w u) (ht : IsTab u t) => gmake_yes t x y n m N cap a Z u h1 h2 hm (hI.below h (Nat.le_refl _)) hZ ht hN)
  have CR := Lib.hid (fun u (h : Below w.heap.size w u) => rgmake_yes x y n m N cap a Z u h1 h2 hm (hI.below h (Nat.le_refl _)) hZ hN)
  have HN1 : Hid (0 < N ∧ N ≤ 1000) := Lib.hid (by omega)
  clear hI hZ
  obtain ⟨W, hW⟩ : ∃ W, W = (w.alloc (.cells #[.int .u32 x, .int .u32 y] 23)).alloc (.cells #[.bool false] 4) := ⟨_, rfl⟩
  obtain ⟨hb, hsz, hcell, hbox⟩ := two17 w x y hW
  have HBW := Lib.hid hb
  have HSZ := Lib.hid hsz
  have HC := Lib.hid hcell
  have HX := Lib.hid hbox
  clear hb hsz hcell hbox
  have hro : Fence.wide.round = none := rfl
  refine (callsIn_wide (n := 3)).1 ?_
  refine callsIn_of_wp_marks Try.func3 rfl trivial ?_ hro
  simp only [Try.ntmps3, List.size_toArray, List.length_cons, List.length_nil, Nat.reduceAdd, Nat.reduceSub, Array.replicate_succ, Array.replicate_zero, List.push_toArray, List.append_toArray, List.nil_append, List.cons_append]
  rw [wpIn_wide]
  go_upto_region 1 with fail
  rw [← hW]
  clear hW
  go_upto_region 3 with (first
    | (go_at_call 7; (with_reducible refine (C0.out _).mono ?_); rintro e w1 ⟨rfl, HB1⟩)
    | fail)
  have HC1 : Hid (∀ u, Below w1.heap.size w1 u → u.cell? ⟨w.heap.size, 0, none⟩ = some (.int .u32 x) ∧ u.cell? ⟨w.heap.size, 1, none⟩ = some (.int .u32 y)) := Lib.hid (fun u hu => HC.out u (HB1.out.trans (hu.mono HB1.out.size)))
  have HW1 : Hid (Below w.heap.size w w1) := Lib.hid (HBW.out.trans (HB1.out.mono HBW.out.size))
  have HM1 : Hid (∀ u t, Below w1.heap.size w1 u → IsTab u t → Calls Try.prog 8 #[.pointer (some ⟨t, 0, none⟩), .int .u32 x, .int .u32 y, .int .i64 (m : Nat), .slice a n cap] u (MadeG x y n m N (.int .i64 0) (G17 Z n) u)) := Lib.hid (fun u t hu ht => CG.out t u (HW1.out.trans (hu.mono HW1.out.size)) ht)
  have HZW : Hid (∀ (u : World) (v0 v1 v2 v3 v4 : Value), B5 28 (u.alloc (.cells #[v0, v1, v2, v3, v4] 28)) u.heap.size v0 v1 v2 v3 v4) := Lib.hid (fun u _ _ _ _ _ => B5.new _ _ _ _ _ _ _)
  have HZD : Hid (∀ u : World, B5 28 (u.alloc (.cells #[.int .u32 0, .int .u32 0, .int .i64 0, .int .i64 0, .slice none 0 0] 28)).drew u.heap.size (.int .u32 0) (.int .u32 0) (.int .i64 0) (.int .i64 0) (.slice none 0 0)) := Lib.hid (fun u => (B5.new u _ _ _ _ _ _).keep rfl)
  go_cut [7, 8] from 23 to 33 (fun s7 s8 wx => s8 = .int .i64 0 ∧ ∃ (p : Nat) (A : Option Addr) (C : Nat), s7 = .pointer (some ⟨p, 0, none⟩) ∧ Hid (Below w1.heap.size w1 wx) ∧ Hid (B5 28 wx p (.int .u32 x) (.int .u32 y) (.int .i64 (n : Nat)) (.int .i64 (m : Nat)) (.slice A N C)) ∧ Hid (Shs wx w1.heap.size (.slice A N C) N (G17 Z n)))
  case first =>
    have cc : Below w1.heap.size w1 w1.drew := (Below.refl _ _).drew
    go_region_held3 (fun u => u.cell? ⟨w.heap.size, 0, none⟩ = some (.int .u32 x) ∧ u.cell? ⟨w.heap.size, 1, none⟩ = some (.int .u32 y))
      (first
        | exact HC1.out _ cc
        | exact HC1.out _ (cc.alloc cc.size _)
        | exact HC1.out _ ((Below.refl w1.heap.size w1).alloc (Nat.le_refl _) _).drew
        | exact HC1.out _ (below_put5 cc hpg _ _ _ _ _)
        | exact HC1.out _ (below_put5 (cc.alloc cc.size _) cc.size _ _ _ _ _)
        | fail "keep")
      (first
        | (go_at_call 9; (with_reducible refine (CN.out w1.drew).mono ?_); rintro e w2 ⟨rfl, ht2, hb⟩; have HT2 : Hid (IsTab w2 w1.heap.size) := Lib.hid ht2; clear ht2; replace cc := cc.trans (hb.mono cc.size); clear hb)
        | (go_at_call 9; (with_reducible refine (CN.out (w1.alloc _).drew).mono ?_); rintro e w2 ⟨rfl, ht2, hb⟩; have HT2 : Hid (IsTab w2 (w1.heap.size + 1)) := Lib.hid (by simpa using ht2); clear ht2; have hpg : w1.heap.size ≤ w1.heap.size := Nat.le_refl _; have HP2 := Lib.hid ((HZD.out w1).below hb (HZD.out w1).lt); have cq := ((Below.refl w1.heap.size w1).alloc (Nat.le_refl _) (.cells #[.int .u32 0, .int .u32 0, .int .i64 0, .int .i64 0, .slice none 0 0] 28)).drew; replace cc := cq.trans (hb.mono cq.size); clear hb cq)
        | (go_at_call 8; (with_reducible refine (HM1.out w2 _ cc HT2.out).mono ?_); rintro e w3 ⟨A, C, rfl, HS3, HB3⟩; have HP3 := Lib.hid (HP2.out.below HB3.out HP2.out.lt); replace HS3 := Lib.hid (HS3.out.low cc.size); replace cc := cc.trans (HB3.out.mono cc.size); obtain ⟨x0, x1, x2, x3, x4⟩ := HP3.out.cells; have f0 := HP3.out.frozen 0; have f1 := HP3.out.frozen 1; have f2 := HP3.out.frozen 2; have f3 := HP3.out.frozen 3; have f4 := HP3.out.frozen 4)
        | (go_at_call 8; (with_reducible refine (HM1.out w2 _ cc HT2.out).mono ?_); rintro e w3 ⟨A, C, rfl, HS3, HB3⟩; replace HS3 := Lib.hid (HS3.out.low cc.size); replace cc := cc.trans (HB3.out.mono cc.size))
        | (go_at_call 8; (with_reducible refine (HM1.out (w2.alloc (.cells #[.int .u32 0, .int .u32 0, .int .i64 0, .int .i64 0, .slice none 0 0] 28)) _ (cc.alloc cc.size (.cells #[.int .u32 0, .int .u32 0, .int .i64 0, .int .i64 0, .slice none 0 0] 28)) (HT2.out.below ((Below.refl w2.heap.size w2).alloc (Nat.le_refl _) (.cells #[.int .u32 0, .int .u32 0, .int .i64 0, .int .i64 0, .slice none 0 0] 28)) (tab_lt17 HT2.out))).mono ?_); rintro e w3 ⟨A, C, rfl, HS3, HB3⟩; have hpg : w1.heap.size ≤ w2.heap.size := cc.size; have hs2 : w1.heap.size ≤ (w2.alloc (.cells #[.int .u32 0, .int .u32 0, .int .i64 0, .int .i64 0, .slice none 0 0] 28)).heap.size := (cc.alloc cc.size (.cells #[.int .u32 0, .int .u32 0, .int .i64 0, .int .i64 0, .slice none 0 0] 28)).size; have HP3 := Lib.hid ((HZW.out w2 (.int .u32 0) (.int .u32 0) (.int .i64 0) (.int .i64 0) (.slice none 0 0)).below HB3.out (HZW.out w2 (.int .u32 0) (.int .u32 0) (.int .i64 0) (.int .i64 0) (.slice none 0 0)).lt); replace HS3 := Lib.hid (HS3.out.low hs2); replace cc := (cc.alloc cc.size (.cells #[.int .u32 0, .int .u32 0, .int .i64 0, .int .i64 0, .slice none 0 0] 28)).trans (HB3.out.mono hs2); clear hs2; obtain ⟨x0, x1, x2, x3, x4⟩ := HP3.out.cells; have f0 := HP3.out.frozen 0; have f1 := HP3.out.frozen 1; have f2 := HP3.out.frozen 2; have f3 := HP3.out.frozen 3; have f4 := HP3.out.frozen 4)
        | fail "arm")
    · have HR := Lib.hid (HZW.out w3 (.int .u32 x) (.int .u32 y) (.int .i64 (n : Nat)) (.int .i64 (m : Nat)) (.slice A N C))
      have HA := Lib.hid (cc.alloc cc.size (.cells #[.int .u32 x, .int .u32 y, .int .i64 (n : Nat), .int .i64 (m : Nat), .slice A N C] 28))
      have HS := Lib.hid (HS3.out.below ((Below.refl w3.heap.size w3).alloc (Nat.le_refl _) (.cells #[.int .u32 x, .int .u32 y, .int .i64 (n : Nat), .int .i64 (m : Nat), .slice A N C] 28)) (Nat.le_refl _))
      clear cc HB3
      go_wp2_with fail
      go_meet
      exact ⟨rfl, _, _, _, rfl, HA, HR, HS⟩
    all_goals
      have HR := Lib.hid (HP3.out.put (.int .u32 x) (.int .u32 y) (.int .i64 (n : Nat)) (.int .i64 (m : Nat)) (.slice A N C))
      have HA := Lib.hid (below_put5 cc hpg (.int .u32 x) (.int .u32 y) (.int .i64 (n : Nat)) (.int .i64 (m : Nat)) (.slice A N C))
      have HS := Lib.hid (HS3.out.put HP3.out (by decide) (by decide) (.int .u32 x) (.int .u32 y) (.int .i64 (n : Nat)) (.int .i64 (m : Nat)) (.slice A N C))
      clear cc HB3 HP3 x0 x1 x2 x3 x4 f0 f1 f2 f3 f4
      go_wp2_with fail
      go_meet
      exact ⟨rfl, _, _, _, rfl, HA, HR, HS⟩
  case rest =>
    obtain ⟨rfl, p, A, C, rfl, HA, HR, HS⟩ := hcut
    obtain ⟨y0, y1⟩ := HC1.out wc HA.out
    have HWC : Hid (Below w.heap.size w wc) := Lib.hid (HW1.out.trans (HA.out.mono HW1.out.size))
    have HL : Hid (∀ u, Below wc.heap.size wc u → Boxed u (w.heap.size + 1) 4 (.bool false)) := Lib.hid (fun u hu => by
      have h1 := HB1.out.trans ((HA.out.trans (hu.mono HA.out.size)).mono HB1.out.size)
      exact (h1.block _ (by have := HSZ.out; omega)).trans HX.out)
    clear HC1 HZW HZD CG CN C0 HM1
    go_upto_region 5 with (first
      | (go_at_call 10; (with_reducible refine (CR.out _ HWC.out).mono ?_); rintro e w5 ⟨A', C', rfl, HS5, HB5⟩)
      | fail "arm")
    obtain ⟨W6, hW6⟩ : ∃ W6, W6 = w5.alloc (.cells #[.int .u32 x, .int .u32 y, .int .i64 (n : Nat), .int .i64 (m : Nat), .slice A' N C'] 34) := ⟨_, rfl⟩
    have HB6 : Hid (Below wc.heap.size wc W6) := Lib.hid (by rw [hW6]; exact HB5.out.alloc HB5.out.size _)
    have HR6 : Hid (∀ u, Below W6.heap.size W6 u → B5 28 u p (.int .u32 x) (.int .u32 y) (.int .i64 (n : Nat)) (.int .i64 (m : Nat)) (.slice A N C) ∧ Shs u w1.heap.size (.slice A N C) N (G17 Z n) ∧ B5 34 u w5.heap.size (.int .u32 x) (.int .u32 y) (.int .i64 (n : Nat)) (.int .i64 (m : Nat)) (.slice A' N C') ∧ Shs u wc.heap.size (.slice A' N C') N (G17 Z n) ∧ Below wc.heap.size wc u) := Lib.hid (fun u hu => by
      have hc := HB6.out.trans (hu.mono HB6.out.size)
      have h5 : Below w5.heap.size w5 u := by
        have h0 : Below w5.heap.size w5 W6 := by rw [hW6]; exact (Below.refl _ _).alloc (Nat.le_refl _) _
        exact h0.trans (hu.mono h0.size)
      have h6 : B5 34 W6 w5.heap.size (.int .u32 x) (.int .u32 y) (.int .i64 (n : Nat)) (.int .i64 (m : Nat)) (.slice A' N C') := by rw [hW6]; exact B5.new _ _ _ _ _ _ _
      exact ⟨HR.out.below hc HR.out.lt, HS.out.below hc (Nat.le_refl _), h6.below hu h6.lt, HS5.out.below h5 (Nat.le_refl _), hc⟩)
    rw [← hW6]
    clear hW6 y0 y1 HS HR HS5 HB5
    go_upto_region 7 with fail
    have HCF : Hid (∀ u, Below W6.heap.size W6 u → Calls Try.prog 12 #[.agg #[.int .u32 x, .int .u32 y, .int .i64 (n : Nat), .int .i64 (m : Nat), .slice A N C]] u fun e u' => e = .returned (.agg #[.int .u32 x, .int .u32 y, .int .i64 (n : Nat), .int .i64 (m : Nat), .slice A N C]) ∧ Below W6.heap.size W6 u') := Lib.hid (fun u hu => (ref17_any x y n m A N C u).mono fun e u' h => ⟨h.1, hu.trans (h.2.out.mono hu.size)⟩)
    have HCS : Hid (∀ u, Below W6.heap.size W6 u → Calls Try.prog 11 #[.agg #[.int .u32 x, .int .u32 y, .int .i64 (n : Nat), .int .i64 (m : Nat), .slice A N C], .agg #[.int .u32 x, .int .u32 y, .int .i64 (n : Nat), .int .i64 (m : Nat), .slice A' N C']] u fun e u' => e = .returned (.bool true) ∧ Below W6.heap.size W6 u') := Lib.hid (fun u hu => (rsame17_true x y n m A A' N C C' _ _ _ _ u (HR6.out u hu).2.1 (HR6.out u hu).2.2.2.1 HN1.out.2 (fun _ _ _ _ => rfl)).mono fun e u' h => ⟨h.1, hu.trans (h.2.out.mono hu.size)⟩)
    refine (wpIn_wide (n := 3)).1 ?_
    refine wpIn_class (fun w' => Below W6.heap.size W6 w') (Below.refl _ _).drew rfl (by kernel_rfl) (by kernel_rfl) ?_
    (refine wpQuietIn_step (fun _ _ _ _ => trivial) (fun K hK => ?_); go_simp; refine ⟨_, fun _ _ => rfl, hK _ ?_⟩; clear hK K)
    (refine wpQuietIn_step (fun _ _ _ _ => trivial) (fun K hK => ?_); go_simp; refine ⟨_, fun _ _ => rfl, hK _ ?_⟩; clear hK K)
    (refine wpQuietIn_step (fun _ _ _ _ => trivial) (fun K hK => ?_); go_simp; refine ⟨_, fun _ _ => rfl, hK _ ?_⟩; clear hK K)
    refine wpQ_readw (.agg #[.int .u32 x, .int .u32 y, .int .i64 (n : Nat), .int .i64 (m : Nat), .slice A N C]) (fun _ _ _ _ => trivial) rfl (fun w' hw => ?_) ?_
    · obtain ⟨c0, c1, c2, c3, c4⟩ := (HR6.out w' hw).1.cells
      unfold Oper.quietAtIn
      go_simp
    simp only [Act.put, List.setIfInBounds_toArray, List.set_cons_zero, List.set_cons_succ]
    refine wpQuietIn_step (fun _ _ _ _ => trivial) (fun K hK => ?_)
    go_simp
    refine ⟨.agg #[.int .u32 x, .int .u32 y, .int .i64 (n : Nat), .int .i64 (m : Nat), .slice A N C], fun w' hw => callsIn_wide.2 (HCF.out w' hw), hK _ ?_⟩
    clear hK K
    refine wpQ_readw (.agg #[.int .u32 x, .int .u32 y, .int .i64 (n : Nat), .int .i64 (m : Nat), .slice A' N C']) (fun _ _ _ _ => trivial) rfl (fun w' hw => ?_) ?_
    · obtain ⟨c0, c1, c2, c3, c4⟩ := (HR6.out w' hw).2.2.1.cells
      unfold Oper.quietAtIn
      go_simp
    simp only [Act.put, List.setIfInBounds_toArray, List.set_cons_zero, List.set_cons_succ]
    refine wpQuietIn_step (fun _ _ _ _ => trivial) (fun K hK => ?_)
    go_simp
    refine ⟨.bool true, fun w' hw => callsIn_wide.2 (HCS.out w' hw), hK _ ?_⟩
    clear hK K
    (refine wpQuietIn_step (fun _ _ _ _ => trivial) (fun K hK => ?_); go_simp; refine ⟨_, fun _ _ => rfl, hK _ ?_⟩; clear hK K)
    (refine wpQuietIn_step (fun _ _ _ _ => trivial) (fun K hK => ?_); go_simp; refine ⟨_, fun _ _ => rfl, hK _ ?_⟩; clear hK K)
    refine wpQuietIn_nil ?_
    rintro w7 hw7
    have H67 := Lib.hid hw7
    clear hw7 HCF HCS
    have HG := Lib.hid (gall_any x y n m A N C w1.heap.size (G17 Z n) w7 (HR6.out w7 H67.out).2.1 HN1.out.1 HN1.out.2)
    obtain ⟨x0, x1, x2, x3, x4⟩ := (HR6.out w7 H67.out).1.cells
    go_upto_region 12 with (first
      | (go_at_call 13; (with_reducible refine HG.out.mono ?_); rintro e w9 ⟨pi, Ai, Ci, rfl, H9⟩; have fnp := func_nil17 38 pi)
      | fail "arm9")
    have H69 : Hid (Below W6.heap.size W6 w9) := Lib.hid (H67.out.trans (H9.out.2.2.2.mono H67.out.size))
    have HYS := Lib.hid (gall1_yields 2 pi N Ci w7.heap.size x y n m Ai (G17 Z n) w9 HN1.out.2 HN1.out.1 H9.out.2.1 H9.out.2.2.1)
    clear x0 x1 x2 x3 x4 HG fnp
    have HSL : Hid (∀ (i : Nat) (B : World), Below (w9.heap.size + 1) (w9.alloc (.cells #[.int .i64 (i : Nat)] 3)) B → Below W6.heap.size W6 B ∧ Boxed B w9.heap.size 3 (.int .i64 (i : Nat))) := Lib.hid (fun i B hB => by
      have hs : (w9.alloc (.cells #[.int .i64 (i : Nat)] 3)).heap.size = w9.heap.size + 1 := by simp
      have h0 : Below w9.heap.size w9 (w9.alloc (.cells #[.int .i64 (i : Nat)] 3)) := (Below.refl _ _).alloc (Nat.le_refl _) _
      exact ⟨H69.out.trans ((h0.trans (hB.mono (Nat.le_succ _))).mono H69.out.size), (hB.block _ (Nat.lt_succ_self _)).trans (Boxed.new w9 _ _)⟩)
    go_wp2_with fail
    refine (wpIn_wide (n := 3)).1 ?_
    refine wpIn_range_boxed (α := Nat × Nat) hro (by omega) (gf := 38) (lb := #[.pointer (some ⟨pi, 0, none⟩)]) rfl trivial (enters_of Try.func38 (by kernel_rfl) rfl) (N := N) (enc := fun i z => #[.int .i64 (i : Nat), dgw (kd17 n i) x y (n : Nat) (m : Nat) (i : Nat) (some ⟨z.1, 0, none⟩) z.2]) (M := MG (G17 Z n)) (w0 := w9) HYS.out (fun _ _ => rfl)
      (fun i z => (dgo (kd17 n i) x y (n : Nat) (m : Nat) (i : Nat) (some ⟨z.1, 0, none⟩) z.2))
      (fun i z A l r o h hl => ⟨h.1, h.2.1, h.2.2.keep (World.putObj_heap_other (fun e => by obtain ⟨⟨cur, hc⟩, _⟩ := h.2.2; rw [e, hl] at hc; cases hc))⟩)
      (fun i z A h => ⟨h.1, h.2.1, h.2.2.keep (Below.heap_alloc _ _ _ h.2.2.lt)⟩)
      (fun i => w9.alloc (.cells #[.int .i64 (i : Nat)] 3)) (fun i => (Below.refl _ _).alloc (Nat.le_refl _) _) (by simp) (Below.refl _ _)
      (fun i z g => { tmps := #[Value.agg #[Value.int IntKind.u32 x, Value.int IntKind.u32 y], Value.int IntKind.i64 ((m : Nat) : Int), Value.slice a n cap, Value.pointer (some ⟨w.heap.size, 0, none⟩), undef, undef, Value.pointer (some ⟨w.heap.size + 1, 0, none⟩), Value.pointer (some ⟨p, 0, none⟩), Value.int IntKind.i64 0, Value.pointer (some ⟨w5.heap.size, 0, none⟩), Value.bool true, Value.func (Fn.func 38) #[] #[Value.pointer (some ⟨pi, 0, none⟩)], Value.pointer (some ⟨w9.heap.size, 0, none⟩), Value.int IntKind.i64 ((i : Nat) : Int), Value.pointer (some ⟨g, 0, none⟩), undef, undef, undef, undef, undef, undef, Value.bool true, Value.bool false, u23, u24, u25, u26, u27, u28, u29, u30, u31, u32, u33, Value.tuple #[Value.agg #[Value.int IntKind.u32 x, Value.int IntKind.u32 y, Value.int IntKind.i64 ((n : Nat) : Int), Value.int IntKind.i64 ((m : Nat) : Int), Value.slice A' N C'], Value.bool true], Value.pointer (some ⟨w.heap.size, 0, none⟩), Value.int IntKind.u32 x, Value.pointer (some ⟨w.heap.size, 1, none⟩), Value.int IntKind.u32 y, Value.int IntKind.i64 ((m : Nat) : Int), Value.slice a n cap, Value.tuple #[Value.agg #[Value.int IntKind.u32 x, Value.int IntKind.u32 y, Value.int IntKind.i64 ((n : Nat) : Int), Value.int IntKind.i64 ((m : Nat) : Int), Value.slice A' N C'], Value.bool true], Value.agg #[Value.int IntKind.u32 x, Value.int IntKind.u32 y, Value.int IntKind.i64 ((n : Nat) : Int), Value.int IntKind.i64 ((m : Nat) : Int), Value.slice A' N C'], Value.bool true, Value.bool true, Value.bool false, undef, undef, undef, undef, undef, undef, undef, undef, Value.int IntKind.i64 0, Value.bool false, Value.bool false, Value.agg #[Value.int IntKind.u32 x, Value.int IntKind.u32 y, Value.int IntKind.i64 ((n : Nat) : Int), Value.int IntKind.i64 ((m : Nat) : Int), Value.slice A N C], Value.agg #[Value.int IntKind.u32 x, Value.int IntKind.u32 y, Value.int IntKind.i64 ((n : Nat) : Int), Value.int IntKind.i64 ((m : Nat) : Int), Value.slice A N C], Value.agg #[Value.int IntKind.u32 x, Value.int IntKind.u32 y, Value.int IntKind.i64 ((n : Nat) : Int), Value.int IntKind.i64 ((m : Nat) : Int), Value.slice A' N C'], Value.bool true, Value.bool false, Value.bool false, Value.agg #[Value.int IntKind.u32 x, Value.int IntKind.u32 y, Value.int IntKind.i64 ((n : Nat) : Int), Value.int IntKind.i64 ((m : Nat) : Int), Value.slice A N C], Value.func (Fn.func 38) #[] #[Value.pointer (some ⟨pi, 0, none⟩)], Value.func (Fn.func 38) #[] #[Value.pointer (some ⟨pi, 0, none⟩)], Value.bool false, Value.func (Fn.func 38) #[] #[Value.pointer (some ⟨pi, 0, none⟩)], Value.int IntKind.i64 ((i : Nat) : Int), dgw (kd17 n i) x y ((n : Nat) : Int) ((m : Nat) : Int) ((i : Nat) : Int) (some ⟨z.1, 0, none⟩) z.2, undef, undef, undef, undef, undef, undef, undef, undef, undef, undef, undef, undef, undef, undef, undef, undef, undef, undef, undef, undef, undef, undef, undef, undef, undef, undef, undef, undef, undef, undef, undef, undef, undef, undef, undef, undef, undef, undef, undef, undef, undef, undef, undef, undef, undef, undef, undef, undef, undef, undef, undef, undef, undef, undef, undef, undef, undef, undef, undef, undef, undef, undef], defers := [] }) ?assign ?body ?done
    case assign =>
      intro l i z A K hK
      dsimp only [dgw, dgo] at hK ⊢
      gi_wp2
      exact hK
    case body =>
      intro l0 i z g B hi hB hg hob hMz
      have hs12 : (w9.alloc (.cells #[.int .i64 0] 3)).heap.size = w9.heap.size + 1 := by simp
      rw [hs12] at hB hg
      have hl9 : Lies B g 0 _ := dgo_lies B g _ _ _ _ _ _ _ _ hob
      have HBV : Hid (Below (w9.heap.size + 1) (w9.alloc (.cells #[.int .i64 (i : Nat)] 3)) B) := Lib.hid hB
      obtain ⟨hB6, hbx⟩ := HSL.out i B hB
      obtain ⟨rb, rA, _, _, _, _, _, _, rg, ro, rc, rcell, rc2, rcm, rrw⟩ := (HR6.out B hB6).2.2.2.1.cp.at_ i hi
      have HU : Hid (∀ u, Below B.heap.size B u → u.cell? ⟨w9.heap.size, 0, none⟩ = some (.int .i64 (i : Nat)) ∧ Lies u g 0 #[.int .i64 (kd17 n i), .int .u32 0, .int .u32 0, .int .i64 0, .int .u32 0, .int .u32 x, .int .u32 y, .int .i64 (n : Nat), .int .i64 (m : Nat), .int .i64 (i : Nat), .slice (some ⟨z.1, 0, none⟩) 2 z.2] ∧ Rw u z.1 0 (G17 Z n i) ∧ Rw u rg ro (G17 Z n i) ∧ u.cell? ⟨rb, i, none⟩ = some (.slice (some ⟨rg, ro, none⟩) 2 rc) ∧ Below W6.heap.size W6 u) := Lib.hid (fun u hu => by
        exact ⟨(hu.cell (p := ⟨w9.heap.size, 0, none⟩) hbx.lt).trans hbx.cell, hl9.below hu hl9.lt, hMz.2.2.below hu (Nat.le_refl _), rrw.below hu (Nat.le_refl _), (hu.cell (p := ⟨rb, i, none⟩) (World.block_lt_of_cell? B _ rcell)).trans rcell, hB6.trans (hu.mono hB6.size)⟩)
      have HGD : Hid (Calls Try.prog 14 #[.agg #[.int .u32 x, .int .u32 y, .int .i64 (n : Nat), .int .i64 (m : Nat), .slice A N C], .int .i64 (i : Nat)] B fun e w' => ∃ g' c', e = .returned (.tuple #[.agg #[.int .i64 (kd17 n i), .int .u32 0, .int .u32 0, .int .i64 0, .int .u32 0, .int .u32 x, .int .u32 y, .int .i64 (n : Nat), .int .i64 (m : Nat), .int .i64 (i : Nat), .slice (some ⟨g', 0, none⟩) 2 c'], .int .i64 0]) ∧ Hid (2 ≤ c' ∧ c' ≤ maxLen ∧ B.heap.size ≤ g' ∧ Rw w' g' 0 (G17 Z n i) ∧ Below B.heap.size B w')) := Lib.hid (gdg_yes x y n m A N C i (G17 Z n i) B (by obtain ⟨_, _, _, _, h, _⟩ := (HR6.out B hB6).2.1.cp.at_ i hi; exact h) HN1.out.2 hi ((HR6.out B hB6).2.1.cp.at17 i hi))
      have HRB : Hid (rb < B.heap.size ∧ A' = some ⟨rb, 0, none⟩ ∧ N ≤ C') := Lib.hid ⟨World.block_lt_of_cell? B _ rcell, rA, by obtain ⟨_, _, _, _, h, _⟩ := (HR6.out B hB6).2.2.2.1.cp.at_ i hi; exact h⟩
      have HI := Lib.hid hi
      have hi2 : (i : Int) < (N : Int) := by omega
      have hi3 : decide ((N : Int) ≤ (i : Int)) = false := decide_eq_false (by omega)
      have hi5 : i < N := hi
      have HZ2 : Hid (2 ≤ z.2 ∧ z.2 ≤ maxLen) := Lib.hid ⟨hMz.1, hMz.2.1⟩
      obtain ⟨x0, x1, x2, x3, x4⟩ := (HR6.out B hB6).1.cells
      have HN2 : Hid (N ≤ 1000) := Lib.hid HN1.out.2
      clear hB hg hob hMz hl9 hbx rcell rc2 rcm rrw hB6 rA hi
      have HS12 := Lib.hid hs12
      clear hs12
      dsimp only [dgw, dgo]
      gi_wp2_with (first
        | (refine ⟨trivial, ?_⟩; gi_at_call 14; refine (CallsIn.inRound l0 (callsIn_wide.2 HGD.out)).mono ?_; rintro e w16 ⟨g', c', rfl, H16⟩)
        | fail "arm16")
      clear x0 x1 x2 x3 x4
      obtain ⟨W16, hW16⟩ : ∃ W16, W16 = w16.alloc (dgo (kd17 n i) x y (n : Nat) (m : Nat) (i : Nat) (some ⟨g', 0, none⟩) c') := ⟨_, rfl⟩
      have hb16 : Below B.heap.size B W16 := by rw [hW16]; exact H16.out.2.2.2.2.alloc H16.out.2.2.2.2.size _
      have hl16 : Lies W16 w16.heap.size 0 #[.int .i64 (kd17 n i), .int .u32 0, .int .u32 0, .int .i64 0, .int .u32 0, .int .u32 x, .int .u32 y, .int .i64 (n : Nat), .int .i64 (m : Nat), .int .i64 (i : Nat), .slice (some ⟨g', 0, none⟩) 2 c'] := by rw [hW16]; exact dgo_lies _ _ _ _ _ _ _ _ _ _ (World.alloc_heap_new _ _)
      have hr16 : Rw W16 g' 0 (G17 Z n i) := by rw [hW16]; exact H16.out.2.2.2.1.keep (Below.heap_alloc _ _ _ H16.out.2.2.2.1.lt)
      have HB16 := Lib.hid hb16
      have HU2 : Hid (∀ u, Below W16.heap.size W16 u → Below B.heap.size B u ∧ Lies u w16.heap.size 0 #[.int .i64 (kd17 n i), .int .u32 0, .int .u32 0, .int .i64 0, .int .u32 0, .int .u32 x, .int .u32 y, .int .i64 (n : Nat), .int .i64 (m : Nat), .int .i64 (i : Nat), .slice (some ⟨g', 0, none⟩) 2 c'] ∧ Rw u g' 0 (G17 Z n i)) := Lib.hid (fun u hu => ⟨hb16.trans (hu.mono hb16.size), hl16.below hu hl16.lt, hr16.below hu (Nat.le_refl _)⟩)
      have HW16 := Lib.hid hW16
      clear hb16 hl16 hr16
      unfold dgo at hW16
      rw [← hW16]
      clear hW16
      have CR17 : Hid (∀ u, Below W16.heap.size W16 u → Calls Try.prog 16 #[.agg #[.int .u32 x, .int .u32 y, .int .i64 (n : Nat), .int .i64 (m : Nat), .slice A' N C'], .int .i64 (i : Nat)] u fun e u' => e = .returned (dgw (kd17 n i) x y (n : Nat) (m : Nat) (i : Nat) (some ⟨rg, ro, none⟩) rc) ∧ Below W16.heap.size W16 u') := Lib.hid (fun u hu => by
        have h := rdg_any x y n m A' N C' i rb 0 rg ro rc u HRB.out.2.2 HN2.out HI.out HRB.out.2.1 (by have := (HU.out u (HU2.out u hu).1).2.2.2.2.1; simpa using this) (Nat.lt_of_lt_of_le HRB.out.1 (HU2.out u hu).1.size)
        refine h.mono fun e u' h2 => ⟨?_, hu.trans (h2.2.out.mono hu.size)⟩
        rw [h2.1]
        show Ending.returned (dgv x y (n : Nat) m (i : Nat) _ _).val = _
        rw [dgv_dgw])
      have CS1 : Hid (∀ u, Below W16.heap.size W16 u → Calls Try.prog 15 #[dgw (kd17 n i) x y (n : Nat) (m : Nat) (i : Nat) (some ⟨z.1, 0, none⟩) z.2, dgw (kd17 n i) x y (n : Nat) (m : Nat) (i : Nat) (some ⟨rg, ro, none⟩) rc] u fun e u' => e = .returned (.bool true) ∧ Below W16.heap.size W16 u') := Lib.hid (fun u hu => (rsame7_true (kd17 n i) 0 0 0 0 x y n m i _ _ 2 z.2 rc (two (G17 Z n i)) u (HU.out u (HU2.out u hu).1).2.2.1.bytes (HU.out u (HU2.out u hu).1).2.2.2.1.bytes).mono fun e u' h => ⟨h.1, hu.trans (h.2.mono hu.size)⟩)
      have CS2 : Hid (∀ u, Below W16.heap.size W16 u → Calls Try.prog 15 #[dgw (kd17 n i) x y (n : Nat) (m : Nat) (i : Nat) (some ⟨g', 0, none⟩) c', dgw (kd17 n i) x y (n : Nat) (m : Nat) (i : Nat) (some ⟨z.1, 0, none⟩) z.2] u fun e u' => e = .returned (.bool true) ∧ Below W16.heap.size W16 u') := Lib.hid (fun u hu => (rsame7_true (kd17 n i) 0 0 0 0 x y n m i _ _ 2 c' z.2 (two (G17 Z n i)) u (HU2.out u hu).2.2.bytes (HU.out u (HU2.out u hu).1).2.2.1.bytes).mono fun e u' h => ⟨h.1, hu.trans (h.2.mono hu.size)⟩)
      refine wpIn_round_class (fun w' => Below W16.heap.size W16 w') (Below.refl _ _).drew (by kernel_rfl) (by kernel_rfl) (by kernel_rfl) ?_
      (refine wpQuietIn_step (fun _ _ _ _ => trivial) (fun K hK => ?_); go_simp; refine ⟨_, fun _ _ => rfl, hK _ ?_⟩; clear hK K)
      refine wpQ_readw (.int .i64 ((i : Nat) : Int)) (fun _ _ _ _ => trivial) rfl (fun w' hw => ?_) ?_
      · obtain ⟨c0, _⟩ := (HU.out w' (HU2.out w' hw).1)
        unfold Oper.quietAtIn
        go_simp
      simp only [Act.put, List.setIfInBounds_toArray, List.set_cons_zero, List.set_cons_succ]
      (refine wpQuietIn_step (fun _ _ _ _ => trivial) (fun K hK => ?_); go_simp; refine ⟨_, fun _ _ => rfl, hK _ ?_⟩; clear hK K)
      (refine wpQuietIn_step (fun _ _ _ _ => trivial) (fun K hK => ?_); go_simp; refine ⟨_, fun _ _ => rfl, hK _ ?_⟩; clear hK K)
      refine wpQ_readw (.int .i64 ((i : Nat) : Int)) (fun _ _ _ _ => trivial) rfl (fun w' hw => ?_) ?_
      · obtain ⟨c0, _⟩ := (HU.out w' (HU2.out w' hw).1)
        unfold Oper.quietAtIn
        go_simp
      simp only [Act.put, List.setIfInBounds_toArray, List.set_cons_zero, List.set_cons_succ]
      (refine wpQuietIn_step (fun _ _ _ _ => trivial) (fun K hK => ?_); go_simp; refine ⟨_, fun _ _ => rfl, hK _ ?_⟩; clear hK K)
      refine wpQ_readw (.slice A' N C') (fun _ _ _ _ => trivial) rfl (fun w' hw => ?_) ?_
      · obtain ⟨c0, c1, c2, c3, c4⟩ := ((HR6.out w' (HU.out w' (HU2.out w' hw).1).2.2.2.2.2).2.2.1.cells)
        unfold Oper.quietAtIn
        go_simp
      simp only [Act.put, List.setIfInBounds_toArray, List.set_cons_zero, List.set_cons_succ]
      (refine wpQuietIn_step (fun _ _ _ _ => trivial) (fun K hK => ?_); go_simp; refine ⟨_, fun _ _ => rfl, hK _ ?_⟩; clear hK K)
      refine wpQ_readw (.bool false) (fun _ _ _ _ => trivial) rfl (fun w' hw => ?_) ?_
      · unfold Oper.quietAtIn
        (try go_simp)
        (try (rw [hi3]))
      simp only [Act.put, List.setIfInBounds_toArray, List.set_cons_zero, List.set_cons_succ]
      (refine wpQuietIn_step (fun _ _ _ _ => trivial) (fun K hK => ?_); go_simp; refine ⟨_, fun _ _ => rfl, hK _ ?_⟩; clear hK K)
      (refine wpQuietIn_step (fun _ _ _ _ => trivial) (fun K hK => ?_); go_simp; refine ⟨_, fun _ _ => rfl, hK _ ?_⟩; clear hK K)
      (refine wpQuietIn_step (fun _ _ _ _ => trivial) (fun K hK => ?_); go_simp; refine ⟨_, fun _ _ => rfl, hK _ ?_⟩; clear hK K)
      (refine wpQuietIn_step (fun _ _ _ _ => trivial) (fun K hK => ?_); go_simp; refine ⟨_, fun _ _ => rfl, hK _ ?_⟩; clear hK K)
      (refine wpQuietIn_step (fun _ _ _ _ => trivial) (fun K hK => ?_); go_simp; refine ⟨_, fun _ _ => rfl, hK _ ?_⟩; clear hK K)
      (refine wpQuietIn_step (fun _ _ _ _ => trivial) (fun K hK => ?_); go_simp; refine ⟨_, fun _ _ => rfl, hK _ ?_⟩; clear hK K)
      refine wpQ_readw (dgw (kd17 n i) x y (n : Nat) (m : Nat) (i : Nat) (some ⟨z.1, 0, none⟩) z.2) (fun _ _ _ _ => trivial) rfl (fun w' hw => ?_) ?_
      · exact quiet_loadAt 44 (.tmp 14) _ rfl rfl (dgo_load w' g (kd17 n i) x y n m i _ _ (HU.out w' (HU2.out w' hw).1).2.1)
      simp only [Act.put, List.setIfInBounds_toArray, List.set_cons_zero, List.set_cons_succ]
      refine wpQ_readw (.agg #[.int .u32 x, .int .u32 y, .int .i64 (n : Nat), .int .i64 (m : Nat), .slice A' N C']) (fun _ _ _ _ => trivial) rfl (fun w' hw => ?_) ?_
      · obtain ⟨c0, c1, c2, c3, c4⟩ := ((HR6.out w' (HU.out w' (HU2.out w' hw).1).2.2.2.2.2).2.2.1.cells)
        unfold Oper.quietAtIn
        go_simp
      simp only [Act.put, List.setIfInBounds_toArray, List.set_cons_zero, List.set_cons_succ]
      (refine wpQuietIn_step (fun _ _ _ _ => trivial) (fun K hK => ?_); go_simp; refine ⟨_, fun _ _ => rfl, hK _ ?_⟩; clear hK K)
      refine wpQuietIn_step (fun _ _ _ _ => trivial) (fun K hK => ?_)
      go_simp
      refine ⟨dgw (kd17 n i) x y (n : Nat) (m : Nat) (i : Nat) (some ⟨rg, ro, none⟩) rc, fun w' hw => CallsIn.inRound l0 (callsIn_wide.2 (CR17.out w' hw)), hK _ ?_⟩
      clear hK K
      refine wpQuietIn_step (fun _ _ _ _ => trivial) (fun K hK => ?_)
      go_simp
      refine ⟨.bool true, fun w' hw => CallsIn.inRound l0 (callsIn_wide.2 (CS1.out w' hw)), hK _ ?_⟩
      clear hK K
      (refine wpQuietIn_step (fun _ _ _ _ => trivial) (fun K hK => ?_); go_simp; refine ⟨_, fun _ _ => rfl, hK _ ?_⟩; clear hK K)
      (refine wpQuietIn_step (fun _ _ _ _ => trivial) (fun K hK => ?_); go_simp; refine ⟨_, fun _ _ => rfl, hK _ ?_⟩; clear hK K)
      (refine wpQuietIn_step (fun _ _ _ _ => trivial) (fun K hK => ?_); go_simp; refine ⟨_, fun _ _ => rfl, hK _ ?_⟩; clear hK K)
      refine wpQ_readw (dgw (kd17 n i) x y (n : Nat) (m : Nat) (i : Nat) (some ⟨g', 0, none⟩) c') (fun _ _ _ _ => trivial) rfl (fun w' hw => ?_) ?_
      · exact quiet_loadAt 44 (.tmp 15) _ rfl rfl (dgo_load w' w16.heap.size (kd17 n i) x y n m i _ _ (HU2.out w' hw).2.1)
      simp only [Act.put, List.setIfInBounds_toArray, List.set_cons_zero, List.set_cons_succ]
      refine wpQ_readw (dgw (kd17 n i) x y (n : Nat) (m : Nat) (i : Nat) (some ⟨z.1, 0, none⟩) z.2) (fun _ _ _ _ => trivial) rfl (fun w' hw => ?_) ?_
      · exact quiet_loadAt 44 (.tmp 14) _ rfl rfl (dgo_load w' g (kd17 n i) x y n m i _ _ (HU.out w' (HU2.out w' hw).1).2.1)
      simp only [Act.put, List.setIfInBounds_toArray, List.set_cons_zero, List.set_cons_succ]
      refine wpQuietIn_step (fun _ _ _ _ => trivial) (fun K hK => ?_)
      go_simp
      refine ⟨.bool true, fun w' hw => CallsIn.inRound l0 (callsIn_wide.2 (CS2.out w' hw)), hK _ ?_⟩
      clear hK K
      (refine wpQuietIn_step (fun _ _ _ _ => trivial) (fun K hK => ?_); go_simp; refine ⟨_, fun _ _ => rfl, hK _ ?_⟩; clear hK K)
      (refine wpQuietIn_step (fun _ _ _ _ => trivial) (fun K hK => ?_); go_simp; refine ⟨_, fun _ _ => rfl, hK _ ?_⟩; clear hK K)
      refine wpQuietIn_nil ?_
      rintro w17 hw17
      have H17 := Lib.hid hw17
      have c17 := (HU.out w17 (HU2.out w17 hw17).1).1
      have f17 : w17.frozen? ⟨w9.heap.size, 0, none⟩ = false := (Boxed.below18 (HSL.out i B HBV.out).2 (HU2.out w17 hw17).1).frozen
      clear hw17
      gi_wp2
      have hst := box_step (by rw [World.size_alloc]; exact HBV.out) (HU2.out w17 H17.out).1 ((i : Int) + 1) (by omega)
      rw [← HS12.out] at hst
      exact hst
    case done =>
      rintro D E hD hE hDf
      have hs12 : (w9.alloc (.cells #[.int .i64 0] 3)).heap.size = w9.heap.size + 1 := by simp
      rw [hs12] at hE hD
      obtain ⟨hB6, hbx⟩ := HSL.out N E hE
      have HDW : Hid (w9.heap.size < D ∧ D < E.heap.size) := Lib.hid ⟨hD, (Array.getElem?_eq_some_iff.1 hDf).1⟩
      have HALL : Hid (∀ u, Below E.heap.size E u → u.cell? ⟨w9.heap.size, 0, none⟩ = some (.int .i64 (N : Nat)) ∧ B5 28 u p (.int .u32 x) (.int .u32 y) (.int .i64 (n : Nat)) (.int .i64 (m : Nat)) (.slice A N C) ∧ B5 34 u w5.heap.size (.int .u32 x) (.int .u32 y) (.int .i64 (n : Nat)) (.int .i64 (m : Nat)) (.slice A' N C') ∧ Boxed u (w.heap.size + 1) 4 (.bool false) ∧ Below w.heap.size w u ∧ u.heap[D]? = some (.deferred (some []))) := Lib.hid (fun u hu => by
        have h6 := hB6.trans (hu.mono hB6.size)
        obtain ⟨a1, _, a3, _, a5⟩ := HR6.out u h6
        exact ⟨(hu.cell (p := ⟨w9.heap.size, 0, none⟩) hbx.lt).trans hbx.cell, a1, a3, HL.out u a5, HWC.out.trans (a5.mono HWC.out.size), (hu.block _ (Array.getElem?_eq_some_iff.1 hDf).1).trans hDf⟩)
      have C1 : Hid (∀ u : World, Calls Try.prog 14 #[.agg #[.int .u32 x, .int .u32 y, .int .i64 (n : Nat), .int .i64 (m : Nat), .slice A N C], .int .i64 (-1)] u fun e w' => e = .returned (.tuple #[.agg #[.int .i64 0, .int .u32 0, .int .u32 0, .int .i64 0, .int .u32 0, .int .u32 0, .int .u32 0, .int .i64 0, .int .i64 0, .int .i64 0, .slice none 0 0], .int .i64 62]) ∧ Hid (Below u.heap.size u w')) := Lib.hid (fun u => gdg_no x y n m (-1) A N C u (.inl (by omega)))
      have C2 : Hid (∀ u : World, Calls Try.prog 14 #[.agg #[.int .u32 x, .int .u32 y, .int .i64 (n : Nat), .int .i64 (m : Nat), .slice A N C], .int .i64 (N : Nat)] u fun e w' => e = .returned (.tuple #[.agg #[.int .i64 0, .int .u32 0, .int .u32 0, .int .i64 0, .int .u32 0, .int .u32 0, .int .u32 0, .int .i64 0, .int .i64 0, .int .i64 0, .slice none 0 0], .int .i64 62]) ∧ Hid (Below u.heap.size u w')) := Lib.hid (fun u => gdg_no x y n m (N : Nat) A N C u (.inr (Int.le_refl _)))
      obtain ⟨_, hp0, hr0, _⟩ := HALL.out E (Below.refl _ _)
      obtain ⟨x0, x1, x2, x3, x4⟩ := hp0.cells
      clear hB6 hbx hE hD hDf hp0 hr0 HSL HYS
      dsimp only
      go_upto_region 21 with (first
        | (go_at_call 14; (with_reducible refine (C1.out _).mono ?_); rintro e w20 ⟨rfl, HB20⟩)
        | fail "arm20")
      obtain ⟨E2, hE2⟩ : ∃ E2, E2 = w20.alloc (.cells #[.int .i64 0, .int .u32 0, .int .u32 0, .int .i64 0, .int .u32 0, .int .u32 0, .int .u32 0, .int .i64 0, .int .i64 0, .int .i64 0, .slice none 0 0] 44) := ⟨_, rfl⟩
      have HE2 : Hid (Below E.heap.size E E2) := Lib.hid (by rw [hE2]; exact HB20.out.alloc HB20.out.size _)
      rw [← hE2]
      obtain ⟨_, hp0, hr0, _⟩ := HALL.out E2 HE2.out
      clear x0 x1 x2 x3 x4 hE2
      obtain ⟨x0, x1, x2, x3, x4⟩ := hp0.cells
      obtain ⟨y0, y1, y2, y3, y4⟩ := hr0.cells
      clear hp0 hr0
      go_upto_region 22 with (first
        | (go_at_call 14; (with_reducible refine (C2.out _).mono ?_); rintro e w21 ⟨rfl, HB21⟩)
        | fail "arm21")
      obtain ⟨E3, hE3⟩ : ∃ E3, E3 = w21.alloc (.cells #[.int .i64 0, .int .u32 0, .int .u32 0, .int .i64 0, .int .u32 0, .int .u32 0, .int .u32 0, .int .i64 0, .int .i64 0, .int .i64 0, .slice none 0 0] 44) := ⟨_, rfl⟩
      have HE3 : Hid (Below E.heap.size E E3) := Lib.hid (by rw [hE3]; exact HE2.out.trans ((HB21.out.alloc HB21.out.size _).mono HE2.out.size))
      rw [← hE3]
      obtain ⟨cn, _, hr0, hres, _⟩ := HALL.out E3 HE3.out
      clear x0 x1 x2 x3 x4 y0 y1 y2 y3 y4 hE3
      obtain ⟨y0, y1, y2, y3, y4⟩ := hr0.cells
      have cR := hres.cell
      have fR := hres.frozen
      have HRS := Lib.hid hres
      clear hr0 hres
      go_wp2
      have hK1 : (E3.setCell ⟨w.heap.size + 1, 0, none⟩ (.bool true)).heap[D]? = some (.deferred (some [])) := by
        have := (HALL.out E3 HE3.out).2.2.2.2.2
        simp only [World.setCell, Array.getElem?_modify]
        rw [if_neg (by have := HSZ.out; have := HB1.out.size; have := HA.out.size; have := HB6.out.size; have := H69.out.size; have := HDW.out.1; omega)]
        exact this
      have hDw1 : w.heap.size ≤ D := by have := HSZ.out; have := HB1.out.size; have := HA.out.size; have := HB6.out.size; have := H69.out.size; have := HDW.out.1; omega
      refine ⟨by simp, .inl ⟨_, _, rfl, run_takeDeferred hK1, ?_⟩⟩
      have hc6 := cell_kept (HRS.out.set (.bool true)).cell (grownBy_putObj' _ D (.deferred none)) (fun r e => by cases e; exact ⟨_, hK1, rfl⟩)
      refine ⟨.bool true, ?_, rfl, ((HALL.out E3 HE3.out).2.2.2.2.1.setCell (p := ⟨w.heap.size + 1, 0, none⟩) (by show _ ≤ w.heap.size + 1; omega) _).trans (belowK_b (w := w) (Nat.le_refl _) _ D _ _ hDw1 hK1 rfl rfl)⟩
      simp [results, Try.f3, go_sem, hc6]
end Go.Proofs.Ytjcbcdjfhcnhcaa
