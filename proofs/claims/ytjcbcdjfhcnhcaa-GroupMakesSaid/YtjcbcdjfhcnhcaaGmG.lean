/-
  Own text: layer 17 (group): a pair of words by value; a region in a round at a class of worlds; law GroupMakes where no group is made.
-/
import Derived.Test.YtjcbcdjfhcnhcaaGmF
import Derived.Test.YtjcbcdjfhcnhcaaGmC
import Derived.Test.YtjcbcdjfhcnhcaaGrI
import Derived.Test.YtjcbcdjfhcnhcaaRoundQ
import Derived.OrdersHeld
import Derived.Deep.RegionHeld3
namespace Go.Proofs.Ytjcbcdjfhcnhcaa
open Go.RowKit

/-- In a round: a region whose operations each yield one value in every world of a class. -/
theorem wpIn_round_class {F : Fence} {r : Nat} {P : Program} {id : Nat} {Q : Exit → Act → World → Prop} {a : Act} {w : World} {l : List Oper} (C : World → Prop) (hC : C w.drew) (hm : P.follows .mixedOrders = true) (hA : plainB l = true) (hB : Region.lexB .any l.toArray = true)
    (h : wpQuietIn F r P l.toArray C (fun a' => ∀ w', C w' → Q .normal a' w') l a) : (Code.region id l.toArray true).wpIn F r P Q a w := by
  have hnd : ∀ (j : Nat) (o : Oper), l.toArray[j]? = some o → ∀ c, o.op ≠ .defer c := fun j o ho c e => by
    unfold plainB at hA
    rw [List.all_eq_true] at hA
    have := hA o (by simpa using List.mem_of_getElem? (by simpa using ho))
    rw [e] at this
    simp at this
  simp only [Region.lexB, Bool.and_eq_true] at hB
  refine wpIn_region_any hm (any_here (C := C) (Q := fun a' => ∀ w', C w' → Q .normal a' w') hnd (fun _ w' hw' h => h w' hw') _ _ _ _ hC ?_)
  have := wpAnyQIn_lex (F := F) (n := r) (P := P) (C := C) (md := .any) hB.1 l 0 (Array.replicate l.length false) a (by simp) (by simpa using hB.2) h
  simpa using this
theorem array2u {cs : Array Value} (h : cs.size = 2) : ∃ x y, cs = #[x, y] := by
  obtain ⟨l⟩ := cs
  match l, h with
  | [x, y], _ => exact ⟨x, y, rfl⟩
set_option maxRecDepth 100000 in
theorem pair32_arg {H : Type} {enc : TypeId × Value → H} {W : World} {base : Nat} {v : Value} {d : DataW H} {ps : List MemPlace} (hval : Value.okWide Try.prog W .any base 23 v) (h : DataW.Trod enc Try.prog W 0 (fun _ => true) true 23 v d ps) :
    ∃ x y : Int, v = .agg #[.int .u32 x, .int .u32 y] := by
  unfold Value.okWide at hval
  rw [Try.underlying23] at hval
  obtain ⟨cs, rfl, hs, _⟩ := hval
  have ce : Try.prog.cellsOf 23 = 2 := by kernel_rfl
  have ci : Try.prog.cellsOf 22 = 1 := by kernel_rfl
  rw [ce] at hs
  obtain ⟨c0, c1, rfl⟩ := array2u hs
  obtain ⟨fuel, hf⟩ := h
  obtain ⟨xs, k, _, _, _, hxl, hf⟩ := DataW.trod_array Try.underlying23 hf
  match xs, hxl with
  | [y0, y1], _ =>
    have g0 := hf 0 (by omega)
    have g1 := hf 1 (by omega)
    simp [ci, Value.cells] at g0 g1
    obtain ⟨z0, e0, _⟩ := DataW.trod_int Try.underlying22 g0
    obtain ⟨z1, e1, _⟩ := DataW.trod_int Try.underlying22 g1
    simp at e0 e1
    subst e0 e1
    exact ⟨z0, z1, rfl⟩
/-- The pair's box and the answer's. -/
theorem two17 (w : World) (x y : Int) {W : World} (hW : W = (w.alloc (.cells #[.int .u32 x, .int .u32 y] 23)).alloc (.cells #[.bool false] 4)) : Below w.heap.size w W ∧ W.heap.size = w.heap.size + 2 ∧
    (∀ u, Below W.heap.size W u → u.cell? ⟨w.heap.size, 0, none⟩ = some (.int .u32 x) ∧ u.cell? ⟨w.heap.size, 1, none⟩ = some (.int .u32 y)) ∧ Boxed W (w.heap.size + 1) 4 (.bool false) := by
  have hs : (w.alloc (.cells #[.int .u32 x, .int .u32 y] 23)).heap.size = w.heap.size + 1 := by simp
  have h1 : W.heap[w.heap.size]? = some (.cells #[.int .u32 x, .int .u32 y] 23 (0, 0)) := by
    rw [hW, Below.heap_alloc _ _ _ (by rw [hs]; exact Nat.lt_succ_self _)]
    exact Go.Deep.blk_alloc_new w _
  refine ⟨by rw [hW]; exact ((Below.refl w.heap.size w).alloc (Nat.le_refl _) _).alloc (by simp) _, by rw [hW]; simp, fun u hu => ?_, ?_⟩
  · have h2 : u.heap[w.heap.size]? = some (.cells #[.int .u32 x, .int .u32 y] 23 (0, 0)) := (hu.block _ (Array.getElem?_eq_some_iff.1 h1).1).trans h1
    simp [World.cell?, h2]
  · rw [hW, ← hs]
    exact Boxed.new _ _ _
set_option maxRecDepth 100000 in
set_option maxHeartbeats 4000000 in
theorem makes17_bad (x y m : Int) (a : Option Addr) (n cap : Nat) (w : World) (h : ¬ (1 ≤ n ∧ n ≤ 16 ∧ 0 ≤ m ∧ m ≤ 16)) :
    Calls Try.prog 3 #[.agg #[.int .u32 x, .int .u32 y], .int .i64 m, .slice a n cap] w fun e w' => e = .returned (.bool true) ∧ Below w.heap.size w w' := by
  have C0 := Lib.hid (fun w => awake17_any w)
  have CN := Lib.hid (fun w => new_any w)
  have CG := Lib.hid (fun p w => gmake_no p x y m n cap a w h)
  have CR := Lib.hid (fun w => rgmake_no x y m n cap a w h)
  have CF := Lib.hid (fun w => ref17_any 0 0 0 0 none 0 0 w)
  have CS := Lib.hid (fun w => rsame17_true 0 0 0 0 none none 0 0 0 0 0 (fun _ _ => 0) (fun _ _ => 0) w (Shs.nil _ _ _) (Shs.nil _ _ _) (by omega) (fun _ _ _ _ => rfl))
  obtain ⟨W, hW⟩ : ∃ W, W = (w.alloc (.cells #[.int .u32 x, .int .u32 y] 23)).alloc (.cells #[.bool false] 4) := ⟨_, rfl⟩
  obtain ⟨hb, hsz, hcell, hbox⟩ := two17 w x y hW
  have HBW := Lib.hid hb
  have HSZ := Lib.hid hsz
  have HC := Lib.hid hcell
  have HX := Lib.hid hbox
  clear h hb hsz hcell hbox
  go_enter Try.func3, Try.ntmps3
  go_upto_region 1 with fail
  rw [← hW]
  clear hW
  go_upto_region 3 with (first
    | (go_at_call 7; (with_reducible refine (C0.out _).mono ?_); rintro e w1 ⟨rfl, HB1⟩)
    | fail)
  have HC1 : Hid (∀ u, Below w1.heap.size w1 u → u.cell? ⟨w.heap.size, 0, none⟩ = some (.int .u32 x) ∧ u.cell? ⟨w.heap.size, 1, none⟩ = some (.int .u32 y)) := Lib.hid (fun u hu => HC.out u (HB1.out.trans (hu.mono HB1.out.size)))
  have HZW : Hid (∀ u : World, B5 28 (u.alloc (.cells #[.int .u32 0, .int .u32 0, .int .i64 0, .int .i64 0, .slice none 0 0] 28)) u.heap.size (.int .u32 0) (.int .u32 0) (.int .i64 0) (.int .i64 0) (.slice none 0 0)) := Lib.hid (fun u => B5.new _ _ _ _ _ _ _)
  have HZD : Hid (∀ u : World, B5 28 (u.alloc (.cells #[.int .u32 0, .int .u32 0, .int .i64 0, .int .i64 0, .slice none 0 0] 28)).drew u.heap.size (.int .u32 0) (.int .u32 0) (.int .i64 0) (.int .i64 0) (.slice none 0 0)) := Lib.hid (fun u => (B5.new u _ _ _ _ _ _).keep rfl)
  go_cut [7, 8] (fun s7 s8 wx => s8 = .int .i64 60 ∧ ∃ p : Nat, s7 = .pointer (some ⟨p, 0, none⟩) ∧ Hid (Below w1.heap.size w1 wx) ∧ Hid (B5 28 wx p (.int .u32 0) (.int .u32 0) (.int .i64 0) (.int .i64 0) (.slice none 0 0)))
  case first =>
    have cc : Below w1.heap.size w1 w1.drew := (Below.refl _ _).drew
    go_region_held3 (fun u => u.cell? ⟨w.heap.size, 0, none⟩ = some (.int .u32 x) ∧ u.cell? ⟨w.heap.size, 1, none⟩ = some (.int .u32 y))
      (first
        | exact HC1.out _ cc
        | exact HC1.out _ (cc.alloc cc.size _)
        | exact HC1.out _ ((Below.refl w1.heap.size w1).alloc (Nat.le_refl _) _).drew
        | exact HC1.out _ (below_put5 cc hpg _ _ _ _ _)
        | exact HC1.out _ (below_put5 (cc.alloc cc.size _) cc.size _ _ _ _ _)
        | fail "keep")
      (first
        | (go_at_call 9; (with_reducible refine (CN.out w1.drew).mono ?_); rintro e w2 ⟨rfl, _, hb⟩; replace cc := cc.trans (hb.mono cc.size); clear hb)
        | (go_at_call 9; (with_reducible refine (CN.out (w1.alloc _).drew).mono ?_); rintro e w2 ⟨rfl, _, hb⟩; have hpg : w1.heap.size ≤ w1.heap.size := Nat.le_refl _; have HP2 := Lib.hid ((HZD.out w1).below hb (HZD.out w1).lt); have cq := ((Below.refl w1.heap.size w1).alloc (Nat.le_refl _) (.cells #[.int .u32 0, .int .u32 0, .int .i64 0, .int .i64 0, .slice none 0 0] 28)).drew; replace cc := cq.trans (hb.mono cq.size); clear hb cq)
        | (go_at_call 8; (with_reducible refine (CG.out _ w2).mono ?_); rintro e w3 ⟨rfl, HB3⟩; have HP3 := Lib.hid (HP2.out.below HB3.out HP2.out.lt); replace cc := cc.trans (HB3.out.mono cc.size); obtain ⟨x0, x1, x2, x3, x4⟩ := HP3.out.cells; have f0 := HP3.out.frozen 0; have f1 := HP3.out.frozen 1; have f2 := HP3.out.frozen 2; have f3 := HP3.out.frozen 3; have f4 := HP3.out.frozen 4)
        | (go_at_call 8; (with_reducible refine (CG.out _ w2).mono ?_); rintro e w3 ⟨rfl, HB3⟩; replace cc := cc.trans (HB3.out.mono cc.size))
        | (go_at_call 8; (with_reducible refine (CG.out _ (w2.alloc _)).mono ?_); rintro e w3 ⟨rfl, HB3⟩; have hpg : w1.heap.size ≤ w2.heap.size := cc.size; have HP3 := Lib.hid ((HZW.out w2).below HB3.out (HZW.out w2).lt); replace cc := (cc.alloc cc.size _).trans (HB3.out.mono (Nat.le_trans cc.size (by simp))); obtain ⟨x0, x1, x2, x3, x4⟩ := HP3.out.cells; have f0 := HP3.out.frozen 0; have f1 := HP3.out.frozen 1; have f2 := HP3.out.frozen 2; have f3 := HP3.out.frozen 3; have f4 := HP3.out.frozen 4)
        | fail "arm")
    · have HR := Lib.hid (HZW.out w3)
      have HA := Lib.hid (cc.alloc cc.size (.cells #[.int .u32 0, .int .u32 0, .int .i64 0, .int .i64 0, .slice none 0 0] 28))
      clear cc HB3
      go_wp2_with fail
      go_meet
      exact ⟨rfl, _, rfl, HA, HR⟩
    all_goals
      have HR := Lib.hid (HP3.out.put (.int .u32 0) (.int .u32 0) (.int .i64 0) (.int .i64 0) (.slice none 0 0))
      have HA := Lib.hid (below_put5 cc hpg (.int .u32 0) (.int .u32 0) (.int .i64 0) (.int .i64 0) (.slice none 0 0))
      clear cc HB3 HP3 x0 x1 x2 x3 x4 f0 f1 f2 f3 f4
      go_wp2_with fail
      go_meet
      exact ⟨rfl, _, rfl, HA, HR⟩
  case rest =>
    obtain ⟨rfl, p, rfl, HA, HR⟩ := hcut
    obtain ⟨y0, y1⟩ := HC1.out wc HA.out
    have HL : Hid (∀ u, Below wc.heap.size wc u → Boxed u (w.heap.size + 1) 4 (.bool false) ∧ Below w.heap.size w u) := Lib.hid (fun u hu => by
      have h1 := HB1.out.trans ((HA.out.trans (hu.mono HA.out.size)).mono HB1.out.size)
      exact ⟨(h1.block _ (by have := HSZ.out; omega)).trans HX.out, HBW.out.trans (h1.mono HBW.out.size)⟩)
    clear HC1 HZW HZD CG CN C0
    go_upto_region 6 with (first
      | (go_at_call 10; (with_reducible refine (CR.out _).mono ?_); rintro e w5 ⟨rfl, HB5⟩)
      | fail "arm")
    obtain ⟨W6, hW6⟩ : ∃ W6, W6 = w5.alloc (.cells #[.int .u32 0, .int .u32 0, .int .i64 0, .int .i64 0, .slice none 0 0] 34) := ⟨_, rfl⟩
    have HB6 : Hid (Below wc.heap.size wc W6) := Lib.hid (by rw [hW6]; exact HB5.out.alloc HB5.out.size _)
    rw [← hW6]
    obtain ⟨x0, x1, x2, x3, x4⟩ := (HR.out.below HB6.out HR.out.lt).cells
    clear hW6 y0 y1
    go_wp2_with (first
      | (go_at_call 12; (with_reducible refine (CF.out _).mono ?_); rintro e w7 ⟨rfl, HB7⟩)
      | (go_at_call 11; (with_reducible refine (CS.out _).mono ?_); rintro e w8 ⟨rfl, HB8⟩; have HB9 := Lib.hid ((HB6.out.trans (HB7.out.mono HB6.out.size)).trans (HB8.out.mono (Nat.le_trans HB6.out.size HB7.out.size))); have c9 := (HL.out _ HB9.out).1.cell; have f9 := (HL.out _ HB9.out).1.frozen)
      | fail "arm2")
    have z0 := World.cell?_setCell_same _ _ (.bool true) c9
    refine bodyPost_ret (v := .bool true) (by simp [results, Try.results3, go_sem, z0]) rfl ?_
    exact ⟨rfl, (HL.out _ HB9.out).2.setCell (p := ⟨w.heap.size + 1, 0, none⟩) (Nat.le_succ _) _⟩
end Go.Proofs.Ytjcbcdjfhcnhcaa
