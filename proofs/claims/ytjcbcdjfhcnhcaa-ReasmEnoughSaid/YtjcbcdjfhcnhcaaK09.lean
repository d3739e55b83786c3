/-
  Own text: slices.Repeat of one number, walked.
    numbers of shards, in order. Plain lists.
    places of package rs, walked.
    numbers and slices in rows of the call's own, side by side.
    ordered of package rs, walked.
-/
import Derived.Test.YtjcbcdjfhcnhcaaK08
import Derived.Test.YtjcbcdjfhcnhcaaK01
import Derived.Test.YtjcbcdjfhcnhcaaK07
import Derived.Laws.MathBits
import Derived.StillTailTactics
import Derived.Laws.CopyOwn
namespace Go.Proofs.Ytjcbcdjfhcnhcaa
open Go.RowKit

theorem splice_get {α : Type} (L : List α) (off : Nat) (v : α) (c i : Nat) (h : off + c ≤ L.length) : (splice L off (List.replicate c v))[i]? = if off ≤ i ∧ i < off + c then some v else L[i]? := by
  unfold splice
  have ht : (L.take off).length = off := by rw [List.length_take]; omega
  rw [List.length_replicate]
  by_cases h1 : i < off
  · rw [if_neg (by omega), List.getElem?_append_left (by omega), List.getElem?_take, if_pos h1]
  · rw [List.getElem?_append_right (by omega), ht]
    by_cases h2 : i < off + c
    · rw [if_pos (by omega), List.getElem?_append_left (by rw [List.length_replicate]; omega), List.getElem?_replicate, if_pos (by omega)]
    · rw [if_neg (by omega), List.getElem?_append_right (by rw [List.length_replicate]; omega), List.length_replicate, List.getElem?_drop]
      congr 1
      omega
/-- A copy of so many cells that all hold one number. -/
theorem wpList_copy_one {w : World} {ops : Array Oper} {rest : List Oper} {o : Oper} {a : Act} {Q : Exit → Act → World → Prop} (hgd : o.guard = none) (d s : Operand)
    (ho : o.op = .call { callee := .builtin .copy, args := #[d, s], argTypes := #[63, 63] })
    (g off dLen dCap : Nat) (b : Nat) (sLen sCap : Nat) (hd : a.eval d = .slice (some ⟨g, off, none⟩) dLen dCap) (hs : a.eval s = .slice (some ⟨b, 0, none⟩) sLen sCap)
    (n : Nat) (f : Nat → Value) (hg : w.rowIs g 3 n f) (z : Int) (hsrc : ∀ j, j < sLen → w.cell? ⟨b, j, none⟩ = some (.int .i64 z)) (c : Nat) (hc : c = Nat.min sLen dLen) (hfit : off + c ≤ n) (base : Nat) (w0 : World) (hb : Below base w0 w) (hbase : base ≤ g)
    (h : ∀ w', w'.rowIs g 3 n (fun i => if off ≤ i ∧ i < off + c then .int .i64 z else f i) → Below base w0 w' → wpList Try.prog ops Q rest (a.put o.dst (goInt c)) w') :
    wpList Try.prog ops Q (o :: rest) a w := by
  obtain ⟨cur, hcur, hsz, hcell⟩ := hg
  have ec : (List.replicate c (Value.int .i64 z)).length = c := List.length_replicate
  refine wpList_copy_own hgd d s _ _ ho 3 Try.underlying63 (by kernel_rfl) g off dLen dCap ⟨b, 0, none⟩ sLen sCap hd hs cur 3 hcur (List.replicate c (.int .i64 z)) (by rw [ec, hc]) (fun j v hv => ?_) (by rw [ec]; omega) (fun v hv => ?_) ?_
  · rw [List.getElem?_replicate] at hv
    split at hv
    · have hj : j < sLen := by have := Nat.min_le_left sLen dLen; have e : c = min sLen dLen := hc; omega
      rw [onto_any, Nat.zero_add, hsrc j hj]
      exact hv
    · exact absurd hv (by simp)
  · rw [(List.mem_replicate.1 hv).2]
    rfl
  · have e := h (w.setRow g (cur.toList.take off ++ (List.replicate c (Value.int .i64 z) ++ cur.toList.drop (off + (List.replicate c (Value.int .i64 z)).length))).toArray) ?_ (below_setRow hb hbase _)
    · rw [ec] at e ⊢; exact e
    · refine ⟨_, setRow_heap w g _ _ 3 (0, 0) hcur, ?_, fun i hi => ?_⟩
      · have := length_splice cur.toList off (List.replicate c (Value.int .i64 z)) (by rw [ec]; simpa [hsz] using hfit)
        simp only [splice] at this
        simpa [hsz] using this
      · have := splice_get cur.toList off (Value.int .i64 z) c i (by simpa [hsz] using hfit)
        simp only [splice] at this
        have e2 := hcell i hi
        rw [List.getElem?_toArray, this]
        dsimp only
        split
        · rfl
        · simpa using e2
/-- The same as one step of a region that draws. -/
theorem step_copy_one {w : World} {ops : Array Oper} {o : Oper} {a : Act} {K : Act → World → Prop} {Q : Exit → Act → World → Prop} {E : Prop} (hgd : o.guard = none) (d s : Operand)
    (ho : o.op = .call { callee := .builtin .copy, args := #[d, s], argTypes := #[63, 63] })
    (g off dLen dCap : Nat) (b : Nat) (sLen sCap : Nat) (hd : a.eval d = .slice (some ⟨g, off, none⟩) dLen dCap) (hs : a.eval s = .slice (some ⟨b, 0, none⟩) sLen sCap)
    (n : Nat) (f : Nat → Value) (hg : w.rowIs g 3 n f) (z : Int) (hsrc : ∀ j, j < sLen → w.cell? ⟨b, j, none⟩ = some (.int .i64 z)) (c : Nat) (hc : c = Nat.min sLen dLen) (hfit : off + c ≤ n) (base : Nat) (w0 : World) (hb : Below base w0 w) (hbase : base ≤ g)
    (h : ∀ w', w'.rowIs g 3 n (fun i => if off ≤ i ∧ i < off + c then .int .i64 z else f i) → Below base w0 w' → K (a.put o.dst (.int .i64 (c : Int))) w') :
    if Region.wanted o (yielded ops a.tmps) = true then Oper.wp Try.prog o a w K Q else E := by
  obtain ⟨cur, hcur, hsz, hcell⟩ := hg
  have ec : (List.replicate c (Value.int .i64 z)).length = c := List.length_replicate
  refine step_copy_splice hgd d s _ _ ho 3 Try.underlying63 (by kernel_rfl) (some ⟨g, off, none⟩) (some ⟨b, 0, none⟩) dLen dCap sLen sCap hd hs g off cur.toList 3 (by simpa using hcur) (List.replicate c (.int .i64 z)) (by rw [ec, hc]) (fun _ => ⟨rfl, ⟨b, 0, none⟩, rfl, fun j v hv => ?_⟩) (by rw [ec]; simpa [hsz] using hfit) (fun v hv => ?_) base w0 hb hbase (fun w' h1 h2 => ?_)
  · rw [List.getElem?_replicate] at hv
    split at hv
    · have hj : j < sLen := by have := Nat.min_le_left sLen dLen; have e : c = min sLen dLen := hc; omega
      rw [onto_any, Nat.zero_add, hsrc j hj]
      exact hv
    · exact absurd hv (by simp)
  · rw [(List.mem_replicate.1 hv).2]
    rfl
  · rw [ec]
    refine h w' ⟨_, h1.out, ?_, fun i hi => ?_⟩ h2
    · have := length_splice cur.toList off (List.replicate c (Value.int .i64 z)) (by rw [ec]; simpa [hsz] using hfit)
      simpa [hsz] using this
    · have := splice_get cur.toList off (Value.int .i64 z) c i (by simpa [hsz] using hfit)
      have e2 := hcell i hi
      rw [List.getElem?_toArray, this]
      dsimp only
      split
      · rfl
      · simpa using e2
theorem and_low6 (x : Int) (h0 : 0 ≤ x) (h1 : x ≤ 18446744073709551615) : bits .and .u64 x 4294967295 = x % 4294967296 := by
  obtain ⟨X, rfl⟩ : ∃ X : Nat, x = X := ⟨x.toNat, by omega⟩
  have m1 : ((X : Int) % ((2 ^ IntKind.u64.bits : Nat) : Int)).toNat = X := by
    show ((X : Int) % 18446744073709551616).toNat = X
    omega
  have m2 : ((4294967295 : Int) % ((2 ^ IntKind.u64.bits : Nat) : Int)).toNat = 2 ^ 32 - 1 := by decide
  simp only [bits, BitVec.toNat_and, BitVec.toNat_ofInt, m1, m2, Nat.and_two_pow_sub_one_eq_mod]
  rw [IntKind.wrap_u64]
  omega
theorem wrap_lo6 (n : Int) : 0 ≤ IntKind.u64.wrap n ∧ IntKind.u64.wrap n ≤ 18446744073709551615 := by rw [IntKind.wrap_u64]; omega
theorem ret_two6 {k k' : IntKind} {a b a' b' : Int} (h : a = a') (h' : b = b') : Ending.returned (.tuple #[.int k a, .int k' b]) = .returned (.tuple #[.int k a', .int k' b']) := by rw [h, h']
set_option maxRecDepth 100000 in
theorem mul64_any6 (x y : Int) (w : World) (hx0 : 0 ≤ x) (hx : x ≤ 18446744073709551615) (hy0 : 0 ≤ y) (hy : y ≤ 18446744073709551615) :
    Calls Try.prog 133 #[.int .u64 x, .int .u64 y] w fun e w' => e = .returned (.tuple #[.int .u64 (x * y / 18446744073709551616), .int .u64 (x * y % 18446744073709551616)]) ∧ w = w' := by
  go_enter Try.func133, Try.ntmps133
  go_wp2
  go_ret2
  refine ⟨ret_two6 ?_ (by rw [IntKind.wrap_u64]), rfl⟩
  rw [and_low6 x hx0 hx, and_low6 y hy0 hy, and_low6 _ (wrap_lo6 _).1 (wrap_lo6 _).2]
  simp only [IntKind.wrap_u64]
  exact mul64_arith x y hx0 (by omega) hy0 (by omega)
theorem mul_one_any (n : Nat) (hn : n ≤ 1000) (w : World) : Calls Try.prog 128 #[.int .u64 1, .int .u64 n] w fun e w' => e = .returned (.tuple #[.int .u64 0, .int .u64 n]) ∧ w = w' := by
  have hc := mul64_any6 1 n w (by omega) (by omega) (by omega) (by omega)
  have e1 : (1 : Int) * n / 18446744073709551616 = 0 := by omega
  have e2 : (1 : Int) * n % 18446744073709551616 = n := by omega
  rw [e1, e2] at hc
  have HC := Lib.hid hc
  clear hc e1 e2
  go_enter Try.func128, Try.ntmps128
  go_wp2_with (go_at_call 133; refine HC.out.mono ?_; rintro e w1 ⟨rfl, rfl⟩)
  go_ret2
  exact ⟨rfl, rfl⟩
/-- All numbers are one. -/
def AllOne (z : Int) (n : Nat) (w : World) (e : Ending) (w' : World) : Prop :=
  ∃ g, e = .returned (.slice (some ⟨g, 0, none⟩) n n) ∧ w.heap.size ≤ g ∧ w'.rowIs g 3 n (fun _ => .int .i64 z) ∧ Below w.heap.size w w'
def repV (z : Int) (k i : Nat) : Value := if i < k then .int .i64 z else .int .i64 0
set_option maxRecDepth 100000 in
set_option maxHeartbeats 1000000 in
theorem repeat_any (b n : Nat) (z : Int) (h1 : 1 ≤ n) (hn : n ≤ 1000) (w : World) (hb : w.cell? ⟨b, 0, none⟩ = some (.int .i64 z)) (hbl : b < w.heap.size) :
    Calls Try.prog 119 #[.slice (some ⟨b, 0, none⟩) 1 1, .int .i64 n] w (AllOne z n w) := by
  have hmk := fun w => run_make_row' (P := Try.prog) 63 3 (.int .i64 0) 8 Try.underlying63 info_i64 rfl .i64 .i64 n (by omega) (by omega) w
  have HM := Lib.hid (fun w => mul_one_any n hn w)
  have HC0 : Hid ((w.alloc (.cells (madeCells #[.int .i64 0] n) 3)).rowIs w.heap.size 3 n (repV z 0)) := Lib.hid ((World.rowIs_made w (.int .i64 0) n 3).congr (fun i _ => by unfold repV; rw [if_neg (by omega)]))
  have HB0 : Hid (Below w.heap.size w (w.alloc (.cells (madeCells #[.int .i64 0] n) 3))) := Lib.hid (below_put w _)
  have HS : Hid (∀ w', Below w.heap.size w w' → ∀ j, j < 1 → w'.cell? ⟨b, j, none⟩ = some (.int .i64 z)) := Lib.hid (fun w' h j hj => by
    obtain rfl : j = 0 := by omega
    exact (h.cell (p := ⟨b, 0, none⟩) hbl).trans hb)
  have hw1 : IntKind.u64.wrap (n : Int) = n := by rw [IntKind.wrap_u64]; omega
  have hw2 : IntKind.i64.wrap (n : Int) = n := IntWalk.i64_in _ (by omega)
  have hw3 : IntKind.u64.wrap (1 : Int) = 1 := by rw [IntKind.wrap_u64]; omega
  have hM1 : Hid (1 = Nat.min 1 n) := Lib.hid (by show 1 = min 1 n; omega)
  clear hb hbl
  unfold AllOne
  go_enter Try.func119, Try.ntmps119
  go_wp2_with first
    | (go_at_call 128; refine (HM.out _).mono ?_; rintro e w1 ⟨rfl, rfl⟩)
    | ((with_reducible refine wpList_copy_one rfl (.tmp 31) (.tmp 32) rfl w.heap.size 0 n n b 1 1 rfl rfl n (repV z 0) HC0.out z (HS.out _ HB0.out) 1 hM1.out (by omega) w.heap.size w HB0.out (Nat.le_refl _) ?_); intro w2 hr2 hb2; have HR2 := Lib.hid hr2; have HB2 := Lib.hid hb2; clear hr2 hb2)
  clear hmk HM HC0 HB0 hw1 hw2 hw3 hM1
  have HR : Hid (w2.rowIs w.heap.size 3 n (repV z 1)) := Lib.hid (HR2.out.congr (fun i _ => by
    unfold repV
    by_cases h : i < 1
    · rw [if_pos (by omega), if_pos h]
    · rw [if_neg (by omega), if_neg (by omega), if_neg h]))
  clear HR2
  have HG : Hid (w.heap.size ≤ w.heap.size) := Lib.hid (Nat.le_refl _)
  generalize hg : w.heap.size = g at HR ⊢
  have HGE := Lib.hid hg
  rw [hg] at HG HB2
  clear hg
  go_loopw [8] (fun i wr => ∃ k : Nat, 1 ≤ k ∧ k ≤ n ∧ i = .int .i64 (k : Nat) ∧ Hid (wr.rowIs g 3 n (repV z k)) ∧ Hid (Below g w wr)) (fun i _ => n - (intOf i).toNat)
  case atStart => exact ⟨1, by omega, by omega, rfl, HR, HB2⟩
  case round =>
    obtain ⟨k, hk1, hk, rfl, HRk, HBk⟩ := hrel
    obtain ⟨wo, ho⟩ : ∃ wo, wo = wr := ⟨_, rfl⟩
    subst ho
    by_cases hlt : k < n
    · have hkn : ¬ n = k := by omega
      have k0 : (0 : Int) ≤ k := by omega
      have k2 : (k : Int) ≤ n := by omega
      go_upto_region 9 with fail
      obtain ⟨c, hc⟩ : ∃ c, c = Nat.min k (n - k) := ⟨_, rfl⟩
      have hc2 : c = min k (n - k) := hc
      have hc3 : 1 ≤ c ∧ k + c ≤ n := by omega
      have HCC := Lib.hid hc
      have hwr : IntKind.i64.wrap ((k : Int) + c) = ((k + c : Nat) : Int) := by rw [IntWalk.i64_in _ (by omega)]; omega
      have HRd : Hid (wo.drew.rowIs g 3 n (repV z k)) := Lib.hid (HRk.out.of_block rfl)
      have HSd : Hid (∀ j, j < k → wo.drew.cell? ⟨g, j, none⟩ = some (.int .i64 z)) := Lib.hid (fun j hj => by
        have := HRd.out.cell (show j < n by omega)
        unfold repV at this
        rwa [if_pos hj] at this)
      have HBd : Hid (Below g w wo.drew) := Lib.hid HBk.out.drew
      clear hc hc2
      go_region_law (refine step_copy_one (w := wo.drew) rfl (.tmp 41) (.tmp 44) rfl g k (n - k) (n - k) g k n (by simp [Act.eval, Act.put]) (by simp [Act.eval, Act.put]) n (repV z k) HRd.out z HSd.out c HCC.out hc3.2 g w HBd.out (Nat.le_refl _) ?_; intro w3 hr3 hb3)
      all_goals
        have HR3 : Hid (w3.rowIs g 3 n (repV z (k + c))) := Lib.hid (hr3.congr (fun i _ => by
          unfold repV
          by_cases h : i < k + c
          · rw [if_pos h]
            by_cases h2 : k ≤ i
            · rw [if_pos ⟨h2, h⟩]
            · rw [if_neg (by omega), if_pos (by omega)]
          · rw [if_neg (by omega), if_neg (by omega), if_neg h]))
        have HB3 := Lib.hid hb3
        clear hr3 hb3
        simp only [Act.put, List.getElem_toArray, List.getElem_cons_succ, List.getElem_cons_zero, List.setIfInBounds_toArray, List.set_cons_zero, List.set_cons_succ]
        go_wp2
        go_roundw
        case rel => exact ⟨k + c, by omega, by omega, by go_num, HR3, HB3⟩
        case measure => simp [intOf]; omega
    · obtain rfl : k = n := by omega
      go_wp2
      go_ret
      exact ⟨g, rfl, HGE.out ▸ Nat.le_refl _, HRk.out.congr (fun i hi => by unfold repV; rw [if_pos hi]), HGE.out ▸ HBk.out⟩
end Go.Proofs.Ytjcbcdjfhcnhcaa
namespace Go.Proofs.Ytjcbcdjfhcnhcaa

/-- Where a number stands among the first ones of a list; -1: nowhere. -/
def whr (I : Nat → Int) : Nat → Int → Int
  | 0, _ => -1
  | n + 1, v => if I n = v then (n : Int) else whr I n v
theorem whr_spec (I : Nat → Int) (v : Int) : ∀ n, (whr I n v = -1 ∧ ∀ i, i < n → I i ≠ v) ∨ ∃ i : Nat, i < n ∧ whr I n v = i ∧ I i = v
  | 0 => .inl ⟨rfl, fun i h => absurd h (by omega)⟩
  | n + 1 => by
    unfold whr
    by_cases h : I n = v
    · rw [if_pos h]; exact .inr ⟨n, by omega, rfl, h⟩
    · rw [if_neg h]
      rcases whr_spec I v n with ⟨h1, h2⟩ | ⟨i, hi, h1, h2⟩
      · exact .inl ⟨h1, fun i hi => by
          by_cases e : i = n
          · rw [e]; exact h
          · exact h2 i (by omega)⟩
      · exact .inr ⟨i, by omega, h1, h2⟩
/-- All below a bound, none twice. -/
def GoodIx (I : Nat → Int) (N n : Nat) : Prop := ∀ i, i < n → 0 ≤ I i ∧ I i < N ∧ ∀ j, j < i → I j ≠ I i
theorem GoodIx.mono {I : Nat → Int} {N n m : Nat} (h : GoodIx I N n) (hm : m ≤ n) : GoodIx I N m := fun i hi => h i (by omega)
theorem GoodIx.only {I : Nat → Int} {N n i j : Nat} (h : GoodIx I N n) (hi : i < n) (hj : j < n) (e : I i = I j) : i = j := by
  rcases Nat.lt_trichotomy i j with g | g | g
  · exact absurd e ((h j hj).2.2 i g)
  · exact g
  · exact absurd e.symm ((h i hi).2.2 j g)
theorem GoodIx.whr {I : Nat → Int} {N n i : Nat} (h : GoodIx I N n) (hi : i < n) : whr I n (I i) = i := by
  rcases whr_spec I (I i) n with ⟨_, h2⟩ | ⟨j, hj, h1, h2⟩
  · exact absurd rfl (h2 i hi)
  · rw [h1, h.only hj hi h2]
/-- The numbers below a bound that stand there, from the least on. -/
def ordL (I : Nat → Int) (n : Nat) : Nat → List Nat
  | 0 => []
  | v + 1 => if 0 ≤ whr I n v then ordL I n v ++ [v] else ordL I n v
theorem ordL_mem (I : Nat → Int) (n : Nat) (u : Nat) : ∀ V, u ∈ ordL I n V ↔ u < V ∧ 0 ≤ whr I n u
  | 0 => by unfold ordL; simp
  | V + 1 => by
    unfold ordL
    by_cases h : 0 ≤ whr I n V
    · rw [if_pos h, List.mem_append, ordL_mem I n u V, List.mem_singleton]
      constructor
      · rintro (⟨h1, h2⟩ | rfl)
        · exact ⟨by omega, h2⟩
        · exact ⟨by omega, h⟩
      · rintro ⟨h1, h2⟩
        by_cases e : u = V
        · exact .inr e
        · exact .inl ⟨by omega, h2⟩
    · rw [if_neg h, ordL_mem I n u V]
      constructor
      · rintro ⟨h1, h2⟩; exact ⟨by omega, h2⟩
      · rintro ⟨h1, h2⟩
        refine ⟨?_, h2⟩
        by_cases e : u = V
        · rw [e] at h2; exact absurd h2 h
        · omega
theorem ordL_sorted (I : Nat → Int) (n : Nat) : ∀ V, (ordL I n V).Pairwise (fun x y => x < y)
  | 0 => by unfold ordL; exact List.Pairwise.nil
  | V + 1 => by
    unfold ordL
    split
    · rw [List.pairwise_append]
      refine ⟨ordL_sorted I n V, List.pairwise_singleton _ _, fun x hx y hy => ?_⟩
      rw [List.mem_singleton] at hy
      rw [hy]
      exact ((ordL_mem I n x V).1 hx).1
    · exact ordL_sorted I n V
theorem ordL_len {I : Nat → Int} {N : Nat} : ∀ (n : Nat), GoodIx I N n → (ordL I n N).length = n := by
  have key : ∀ n, GoodIx I N (n + 1) → ∀ V, (ordL I (n + 1) V).length = (ordL I n V).length + (if I n < V then 1 else 0) := by
    intro n h V
    induction V with
    | zero => unfold ordL; rw [if_neg (by have := (h n (by omega)).1; omega)]; rfl
    | succ V ih =>
      have e1 : ordL I (n + 1) (V + 1) = if 0 ≤ whr I (n + 1) V then ordL I (n + 1) V ++ [V] else ordL I (n + 1) V := rfl
      have e2 : ordL I n (V + 1) = if 0 ≤ whr I n V then ordL I n V ++ [V] else ordL I n V := rfl
      have e3 : whr I (n + 1) V = if I n = V then (n : Int) else whr I n V := rfl
      rw [e1, e2, e3]
      by_cases g : I n = V
      · have g2 : ¬ 0 ≤ whr I n V := by
          rcases whr_spec I V n with ⟨h1, _⟩ | ⟨i, hi, _, h2⟩
          · omega
          · exact absurd (h2.trans g.symm) ((h n (by omega)).2.2 i hi)
        rw [if_pos g, if_pos (by omega), if_neg g2, List.length_append, ih, if_neg (by omega), if_pos (by omega)]
        rfl
      · rw [if_neg g]
        have hiff : (if I n < ((V + 1 : Nat) : Int) then 1 else 0) = if I n < (V : Int) then 1 else 0 := by
          by_cases g2 : I n < (V : Int)
          · rw [if_pos g2, if_pos (by omega)]
          · rw [if_neg g2, if_neg (by omega)]
        rw [hiff]
        split
        · rw [List.length_append, List.length_append, ih]
          show _ + 1 = _ + 1 + _
          omega
        · exact ih
  intro n
  induction n with
  | zero =>
    intro _
    have : ∀ V, ordL I 0 V = [] := fun V => by
      induction V with
      | zero => rfl
      | succ V ih => rw [ordL, if_neg (by unfold whr; omega), ih]
    rw [this]; rfl
  | succ n ih =>
    intro h
    rw [key n h N, ih (h.mono (by omega)), if_pos (h n (by omega)).2.1]
/-- The q-th of them, and where it stands. -/
def nth (I : Nat → Int) (n V q : Nat) : Nat := (ordL I n V).getD q 0
def std (I : Nat → Int) (n V q : Nat) : Nat := (whr I n (nth I n V q)).toNat
theorem nth_mem {I : Nat → Int} {n V q : Nat} (h : q < (ordL I n V).length) : nth I n V q ∈ ordL I n V := by
  unfold nth
  rw [List.getD_eq_getElem?_getD, List.getElem?_eq_getElem h]
  exact List.getElem_mem h
theorem nth_lt {I : Nat → Int} {n V q : Nat} (h : q < (ordL I n V).length) : nth I n V q < V := ((ordL_mem I n _ V).1 (nth_mem h)).1
theorem nth_mono {I : Nat → Int} {n V p q : Nat} (h1 : p < q) (h2 : q < (ordL I n V).length) : nth I n V p < nth I n V q := by
  have := List.pairwise_iff_getElem.1 (ordL_sorted I n V) p q (by omega) h2 h1
  unfold nth
  rwa [List.getD_eq_getElem?_getD, List.getD_eq_getElem?_getD, List.getElem?_eq_getElem h2, List.getElem?_eq_getElem (show p < _ by omega)]
theorem std_spec {I : Nat → Int} {n V q : Nat} (h : q < (ordL I n V).length) : std I n V q < n ∧ I (std I n V q) = nth I n V q ∧ whr I n (nth I n V q) = std I n V q := by
  have h0 := ((ordL_mem I n _ V).1 (nth_mem h)).2
  rcases whr_spec I (nth I n V q) n with ⟨h1, _⟩ | ⟨i, hi, h1, h2⟩
  · omega
  · unfold std
    rw [h1, Int.toNat_natCast]
    exact ⟨hi, h2, rfl⟩
theorem nth_of {I : Nat → Int} {N n i : Nat} (h : GoodIx I N n) (hi : i < n) : ∃ q, q < (ordL I n N).length ∧ (nth I n N q : Int) = I i ∧ std I n N q = i := by
  obtain ⟨h0, h1, _⟩ := h i hi
  have hm : (I i).toNat ∈ ordL I n N := (ordL_mem I n _ N).2 ⟨by omega, by rw [show (((I i).toNat : Nat) : Int) = I i by omega, h.whr hi]; omega⟩
  obtain ⟨q, hq, e⟩ := List.mem_iff_getElem.1 hm
  have hn : nth I n N q = (I i).toNat := by unfold nth; rw [List.getD_eq_getElem?_getD, List.getElem?_eq_getElem hq]; exact e
  refine ⟨q, hq, by rw [hn]; omega, ?_⟩
  unfold std
  rw [hn, show (((I i).toNat : Nat) : Int) = I i by omega, h.whr hi, Int.toNat_natCast]
end Go.Proofs.Ytjcbcdjfhcnhcaa
namespace Go.Proofs.Ytjcbcdjfhcnhcaa
open Go.RowKit

/-- Shards that came in: their numbers, their bytes. -/
structure ShardsIn (w : World) (a : Option Addr) (n cap : Nat) (I : Nat → Int) (A : Nat → Option Addr) (L C : Nat → Nat) (X : Nat → List Int) : Prop where
  fits : n ≤ cap
  top : cap ≤ 9223372036854775807
  nilc : a = none → cap = 0
  num : ∀ r, r < n → -9223372036854775808 ≤ I r ∧ I r ≤ 9223372036854775807
  cells : ∀ r, r < n → ∃ b off, a = some ⟨b, off, none⟩ ∧ b < w.heap.size ∧ w.cell? ⟨b, off + r * 2, none⟩ = some (.int .i64 (I r)) ∧ w.cell? ⟨b, off + r * 2 + 1, none⟩ = some (.slice (A r) (L r) (C r))
  data : ∀ r, r < n → Sl w (A r) (L r) (C r) (X r)
theorem ShardsIn.below {w w' : World} {a : Option Addr} {n cap B : Nat} {I : Nat → Int} {A : Nat → Option Addr} {L C : Nat → Nat} {X : Nat → List Int} (h : ShardsIn w a n cap I A L C X) (hb : Below B w w') (hB : w.heap.size ≤ B) : ShardsIn w' a n cap I A L C X :=
  ⟨h.fits, h.top, h.nilc, h.num, fun r hr => by
    obtain ⟨b, off, e, hl, h1, h2⟩ := h.cells r hr
    exact ⟨b, off, e, Nat.lt_of_lt_of_le hl hb.size, (hb.cell (p := ⟨b, off + r * 2, none⟩) (by show b < B; omega)).trans h1, (hb.cell (p := ⟨b, off + r * 2 + 1, none⟩) (by show b < B; omega)).trans h2⟩, fun r hr => (h.data r hr).below hb hB⟩
/-- What places answers. -/
def PlacedTo (I : Nat → Int) (N n : Nat) (w : World) (e : Ending) (w' : World) : Prop :=
  (¬ GoodIx I N n ∧ Barred 62 w e w') ∨
  (GoodIx I N n ∧ ∃ g, e = .returned (.tuple #[.slice (some ⟨g, 0, none⟩) N N, .int .i64 0]) ∧ w.heap.size ≤ g ∧ w'.rowIs g 3 N (fun v => .int .i64 (whr I n v)) ∧ Below w.heap.size w w')
set_option maxRecDepth 100000 in
set_option maxHeartbeats 1000000 in
theorem places_any (b t k m n cap : Nat) (a : Option Addr) (I : Nat → Int) (A : Nat → Option Addr) (L C : Nat → Nat) (X : Nat → List Int) (w : World) (h : IsCode w b t k m) (hs : ShardsIn w a n cap I A L C X) :
    Calls Try.prog 112 #[.pointer (some ⟨b, 0, none⟩), .slice a n cap] w (PlacedTo I (k + m) n w) := by
  have hk := h.high
  have hk1 := h.low
  have htop := hs.top
  have hcap := hs.fits
  have HCD : Hid (∀ w', Below w.heap.size w w' → w'.cell? ⟨b, 1, none⟩ = some (.int .i64 k) ∧ w'.cell? ⟨b, 2, none⟩ = some (.int .i64 m)) := Lib.hid (fun w' hb => by
    obtain ⟨g, l, ⟨_, c1, c2, _, _, _⟩, _⟩ := (h.below hb).cells rfl rfl
    exact ⟨c1, c2⟩)
  have HSH := Lib.hid hs
  obtain ⟨N, hN⟩ : ∃ N, k + m = N := ⟨_, rfl⟩
  have hNi : (k : Int) + m = (N : Nat) := by rw [← hN]; omega
  rw [hN]
  have hN1 : 1 ≤ N ∧ N ≤ 255 := by omega
  have HRP := Lib.hid (repeat_any w.heap.size N (-1) hN1.1 (by omega) (w.alloc (.cells #[.int .i64 (-1)] 3)).drew (new_box w (.int .i64 (-1)) 3) (alloc_lt w _))
  have hwr : IntKind.i64.wrap (N : Int) = N := IntWalk.i64_in _ (by omega)
  unfold AllOne at HRP
  unfold PlacedTo Barred
  clear h hs hN hk
  go_enter Try.func112, Try.ntmps112
  go_wp2
  go_cut [0, 1, 6] (fun s0 s1 s wx => s0 = .pointer (some ⟨b, 0, none⟩) ∧ s1 = .slice a n cap ∧ ∃ g : Nat, s = .slice (some ⟨g, 0, none⟩) N N ∧ Hid (w.heap.size ≤ g ∧ wx.rowIs g 3 N (fun _ => .int .i64 (-1)) ∧ Below w.heap.size w wx))
  case first =>
    have HS : Hid (∀ w', Below w.heap.size w w' → Below w.heap.size w w' ∧ w'.cell? ⟨b, 1, none⟩ = some (.int .i64 k) ∧ w'.cell? ⟨b, 2, none⟩ = some (.int .i64 m)) := Lib.hid (fun w' h => ⟨h, HCD.out _ h⟩)
    have cc : Below w.heap.size w (w.alloc (.cells #[.int .i64 (-1)] 3)).drew := (below_put w _).drew
    go_region_held3 (fun w' => Below w.heap.size w w' ∧ w'.cell? ⟨b, 1, none⟩ = some (.int .i64 k) ∧ w'.cell? ⟨b, 2, none⟩ = some (.int .i64 m))
      (first
        | exact HS.out _ cc
        | exact HS.out _ (below_put w _)
        | exact HS.out _ (below_put w _).drew
        | exact HS.out _ (Below.refl _ _)
        | exact HS.out _ (Below.refl _ _).drew
        | fail "keep")
      (first
        | (go_at_call 119; (with_reducible refine HRP.out.mono ?_); rintro e w1 ⟨g, rfl, hg, hr, hb⟩; replace hg := Nat.le_trans cc.size hg; replace cc := b_on cc hb; clear hb)
        | fail "arm")
    all_goals
      have HF := Lib.hid (And.intro hg (And.intro hr cc))
      clear hg hr cc
      go_wp2_with fail
      go_meet
      exact ⟨rfl, rfl, _, rfl, HF⟩
  case rest =>
    obtain ⟨rfl, rfl, g, rfl, HF⟩ := hcut
    have HG := Lib.hid HF.out.1
    have HR0 : Hid (wc.rowIs g 3 N (fun v => .int .i64 (whr I 0 v))) := Lib.hid HF.out.2.1
    have HB0 := Lib.hid HF.out.2.2
    have hntop := Nat.le_trans hcap htop
    clear HF HRP HCD
    go_wp2
    go_loopw [7, 8, 22] (fun _ _ i wr => ∃ j : Nat, j ≤ n ∧ i = .int .i64 (j : Nat) ∧ Hid (GoodIx I N j) ∧ Hid (wr.rowIs g 3 N (fun v => .int .i64 (whr I j v))) ∧ Hid (Below w.heap.size w wr)) (fun _ _ i _ => n - (intOf i).toNat)
    case atStart => exact ⟨0, by omega, rfl, Lib.hid (fun i h => absurd h (by omega)), HR0, HB0⟩
    case round =>
      clear HR0 HB0
      obtain ⟨j, hj, rfl, HGI, HR, HB⟩ := hrel
      obtain ⟨wo, ho⟩ : ∃ wo, wo = wr := ⟨_, rfl⟩
      subst ho
      by_cases hlt : j < n
      · obtain ⟨lb, lo, rfl, hlb, c1, c2⟩ := (HSH.out.below HB.out (Nat.le_refl _)).cells j hlt
        have hnum := HSH.out.num j hlt
        obtain ⟨x, hx⟩ : ∃ x, x = I j := ⟨_, rfl⟩
        rw [← hx] at c1 hnum
        have HX := Lib.hid hx
        have HLB := Lib.hid hlb
        have k0 : (0 : Int) ≤ j := by omega
        have k1 : (j : Int) < n := by omega
        have HBO : Hid (∀ o, Below w.heap.size w (wo.alloc o)) := Lib.hid (fun o => b_put HB.out o)
        clear hx hlb
        by_cases h1 : x < 0
        · have hbad : Hid (¬ GoodIx I N n) := Lib.hid (fun h => by have := (h j hlt).1; rw [← HX.out] at this; omega)
          go_wp2
          go_ret2
          exact .inl ⟨hbad.out, rfl, HBO.out _⟩
        by_cases h2 : (N : Int) ≤ x
        · have hbad : Hid (¬ GoodIx I N n) := Lib.hid (fun h => by have := (h j hlt).2.1; rw [← HX.out] at this; omega)
          go_wp2
          go_ret2
          exact .inl ⟨hbad.out, rfl, HBO.out _⟩
        obtain ⟨q, rfl⟩ : ∃ q : Nat, x = q := ⟨x.toNat, by omega⟩
        have hq : q < N := by omega
        have hqi : (q : Int) < N := by omega
        have HRO : Hid (∀ o, (wo.alloc o).rowIs g 3 N (fun v => .int .i64 (whr I j v))) := Lib.hid (fun o => HR.out.of_block (Below.heap_alloc _ _ _ HR.out.lt))
        have ci := fun o => (HRO.out o).cell hq
        have cf := fun o => (HRO.out o).frozen q
        have HGL : Hid (g < wo.heap.size) := Lib.hid HR.out.lt
        clear h1 h2
        have hsp := whr_spec I q j
        by_cases h3 : whr I j q = -1
        case neg =>
          obtain ⟨p, hp, hw, hpe⟩ : ∃ p : Nat, p < j ∧ whr I j q = p ∧ I p = q := by
            rcases hsp with ⟨e, _⟩ | h
            · exact absurd e h3
            · exact h
          have hbad : Hid (¬ GoodIx I N n) := Lib.hid (fun h => (h j hlt).2.2 p hp (hpe.trans HX.out))
          rw [hw] at ci
          clear hsp h3 hw hpe
          have hp0 : (0 : Int) ≤ p := by omega
          go_wp2
          go_ret2
          exact .inl ⟨hbad.out, rfl, HBO.out _⟩
        case pos =>
          have hfree : Hid (∀ i, i < j → I i ≠ q) := Lib.hid (by
            rcases hsp with ⟨_, h⟩ | ⟨i, _, e, _⟩
            · exact h
            · rw [h3] at e; omega)
          rw [h3] at ci
          clear hsp h3
          go_wp2
          go_roundw
          case rel =>
            refine ⟨j + 1, by omega, by go_num, Lib.hid (fun i hi => ?_), Lib.hid ?_, Lib.hid ?_⟩
            · by_cases e : i = j
              · rw [e, ← HX.out]
                exact ⟨by omega, by omega, fun i hi => hfree.out i hi⟩
              · exact HGI.out i (by omega)
            · refine ((HRO.out _).set q _).congr (fun i hi => ?_)
              show _ = Value.int .i64 (if I j = i then (j : Int) else whr I j i)
              rw [← HX.out]
              by_cases e : i = q
              · rw [if_pos e, if_pos (by rw [e])]
              · rw [if_neg e, if_neg (by omega)]
            · exact (HBO.out _).setCell (p := ⟨g, q, none⟩) HG.out _
          case measure => simp [intOf]; omega
      · obtain rfl : j = n := by omega
        go_wp2
        go_ret2
        exact .inr ⟨HGI.out, g, rfl, HG.out, HR.out, HB.out⟩
end Go.Proofs.Ytjcbcdjfhcnhcaa
namespace Go.Proofs.Ytjcbcdjfhcnhcaa
open Go.RowKit

/-- Slices in a row of the call's own. -/
def OwnS (w : World) (base : Nat) (v : Value) (n : Nat) (l : List Value) : Prop := w.ownsRow base 42 1 v n l
theorem OwnS.none (w : World) (base : Nat) : OwnS w base (.slice none 0 0) 0 [] := ⟨rfl, .inl ⟨rfl, rfl⟩⟩
theorem row_other {w w' : World} {base : Nat} {e e' : TypeId} {s s' : Nat} {v v' : Value} {n n' : Nat} {l l' : List Value} (h : w.ownsRow base e s v n l) (h' : w.ownsRow base e' s' v' n' l') (hne : e ≠ e') (hg : w.grownBy w' v.ownBlock) : w'.ownsRow base e' s' v' n' l' := by
  refine ⟨h'.1, h'.2.imp id ?_⟩
  rintro ⟨g', cap', cur', e1, h1, hg', h2⟩
  refine ⟨g', cap', cur', e1, h1, ?_, h2⟩
  rw [hg.block g' (Array.getElem?_eq_some_iff.1 hg').1 (fun hk => ?_)]
  · exact hg'
  · rcases h.2 with ⟨rfl, _⟩ | ⟨g, cap, cur, rfl, _, hh, _⟩
    · exact absurd hk (by simp [Value.ownBlock])
    · have hk2 : g' = g := by simpa [Value.ownBlock] using hk
      rw [hk2, hh] at hg'
      simp only [Option.some.injEq, Obj.cells.injEq] at hg'
      exact hne hg'.2.1
theorem row_alloc {w : World} {base : Nat} {e : TypeId} {s : Nat} {v : Value} {n : Nat} {l : List Value} (h : w.ownsRow base e s v n l) (o : Obj) : (w.alloc o).ownsRow base e s v n l := by
  refine ⟨h.1, h.2.imp id ?_⟩
  rintro ⟨g', cap', cur', e1, h1, hg', h2⟩
  exact ⟨g', cap', cur', e1, h1, (Below.heap_alloc _ _ _ (Array.getElem?_eq_some_iff.1 hg').1).trans hg', h2⟩
theorem row_below {w w' : World} {base B : Nat} {e : TypeId} {s : Nat} {v : Value} {n : Nat} {l : List Value} (h : w.ownsRow base e s v n l) (hb : Below B w w') (hB : w.heap.size ≤ B) : w'.ownsRow base e s v n l := by
  refine ⟨h.1, h.2.imp id ?_⟩
  rintro ⟨g', cap', cur', e1, h1, hg', h2⟩
  exact ⟨g', cap', cur', e1, h1, (hb.block g' (Nat.lt_of_lt_of_le (Array.getElem?_eq_some_iff.1 hg').1 hB)).trans hg', h2⟩
theorem row_grown {w w' w0 : World} {B base : Nat} {e : TypeId} {s : Nat} {v : Value} {n : Nat} {l : List Value} (h : w.ownsRow base e s v n l) (hg : w.grownBy w' v.ownBlock) (hb : Below B w0 w) (hB : B ≤ base) (hw : B ≤ w.heap.size) : Below B w0 w' := by
  refine below_grown hb hg hw (fun k hk => ?_)
  rcases h.2 with ⟨rfl, _⟩ | ⟨g, cap, cur, rfl, h5, _⟩
  · exact absurd hk (by simp [Value.ownBlock])
  · have : g = k := by simpa [Value.ownBlock] using hk
    omega
theorem row_slice {w : World} {base : Nat} {e : TypeId} {v : Value} {n : Nat} {l : List Value} (h : w.ownsRow base e 1 v n l) : ∃ A C, v = .slice A n C ∧ n ≤ C ∧ C ≤ maxLen ∧ (A = none → C = 0) := by
  rcases h.2 with ⟨rfl, rfl⟩ | ⟨g, cap, cur, rfl, h1, h2, h3, h4, _⟩
  · exact ⟨none, 0, rfl, by omega, by omega, fun _ => rfl⟩
  · exact ⟨_, _, rfl, h3, h4, fun h => nomatch h⟩
theorem wpList_append_int2 {w : World} {ops : Array Oper} {rest : List Oper} {o : Oper} {a : Act} {Q : Exit → Act → World → Prop} (hgd : o.guard = none) (s x : Operand)
    (ho : o.op = .call { callee := .builtin .append, args := #[s, x], argTypes := #[63, 63] })
    (base : Nat) (v : Value) (n : Nat) (hs : a.eval s = v) (l : List Int) (hown : OwnI w base v n l)
    (g : Nat) (hx : a.eval x = .slice (some ⟨g, 0, none⟩) 1 1) (z : Int) (hy : w.cell? ⟨g, 0, none⟩ = some (.int .i64 z)) (hb : n + 1 ≤ 100000) (hbase : base ≤ w.heap.size)
    (h : ∀ v' w', OwnI w' base v' (n + 1) (l ++ [z]) → w.grownBy w' v.ownBlock → wpList Try.prog ops Q rest (a.put o.dst v') w') :
    wpList Try.prog ops Q (o :: rest) a w := by
  refine wpList_plain hgd fun K hK => ?_
  obtain ⟨i, hi, hzz⟩ := Option.map_eq_some_iff.1 info_i64
  simp only [Prod.mk.injEq] at hzz
  obtain ⟨hz, hsz, hby⟩ := hzz
  refine wp_append_own w s x 63 ho base 3 i (.int .i64 0) 1 8 Try.underlying63 hi hz hsz hby rfl (by omega) _ n _ hs hown ⟨g, 0, none⟩ 1 1 [.int .i64 z] hx rfl ?_ ?_ (by unfold maxLen; omega) (by omega) hbase ?_
  · intro j u hu
    cases j with
    | zero => simp at hu; subst hu; rw [onto_any]; exact hy
    | succ j => simp at hu
  · intro u hu
    simp at hu
    subst hu
    rfl
  · intro v' w' h1 h2 _
    have h3 : OwnI w' base v' (n + 1) (l ++ [z]) := by unfold OwnI; rw [List.map_append]; exact h1
    exact hK _ _ (h v' w' h3 h2)
theorem wpList_append_sl {w : World} {ops : Array Oper} {rest : List Oper} {o : Oper} {a : Act} {Q : Exit → Act → World → Prop} (hgd : o.guard = none) (s x : Operand)
    (ho : o.op = .call { callee := .builtin .append, args := #[s, x], argTypes := #[26, 26] })
    (base : Nat) (v : Value) (n : Nat) (hs : a.eval s = v) (l : List Value) (hown : OwnS w base v n l)
    (g : Nat) (hx : a.eval x = .slice (some ⟨g, 0, none⟩) 1 1) (A : Option Addr) (L C : Nat) (hy : w.cell? ⟨g, 0, none⟩ = some (.slice A L C)) (hb : n + 1 ≤ 100000) (hbase : base ≤ w.heap.size)
    (h : ∀ v' w', OwnS w' base v' (n + 1) (l ++ [.slice A L C]) → w.grownBy w' v.ownBlock → wpList Try.prog ops Q rest (a.put o.dst v') w') :
    wpList Try.prog ops Q (o :: rest) a w := by
  refine wpList_plain hgd fun K hK => ?_
  obtain ⟨i, hi, hzz⟩ := Option.map_eq_some_iff.1 info_row
  simp only [Prod.mk.injEq] at hzz
  obtain ⟨hz, hsz, hby⟩ := hzz
  refine wp_append_own w s x 26 ho base 42 i (.slice none 0 0) 1 24 Try.underlying26 hi hz hsz hby rfl (by omega) _ n _ hs hown ⟨g, 0, none⟩ 1 1 [.slice A L C] hx rfl ?_ ?_ (by unfold maxLen; omega) (by omega) hbase ?_
  · intro j u hu
    cases j with
    | zero => simp at hu; subst hu; rw [onto_any]; exact hy
    | succ j => simp at hu
  · intro u hu
    simp at hu
    subst hu
    rfl
  · intro v' w' h1 h2 _
    exact hK _ _ (h v' w' h1 h2)
/-- Such a row of numbers read. -/
theorem OwnI.ints {w : World} {base n C : Nat} {A : Option Addr} {l : List Int} (h : OwnI w base (.slice A n C) n l) : Ints w A n (fun i => l.getD i 0) := by
  have hlen : l.length = n := by have := h.1; simpa using this
  rcases h.2 with ⟨e, h0⟩ | ⟨g, cap, cur, e, _, hg, _, _, _, _⟩
  · exact .inl h0
  · simp only [Value.slice.injEq, true_and] at e
    obtain ⟨rfl, rfl⟩ := e
    refine .inr ⟨g, 0, rfl, (Array.getElem?_eq_some_iff.1 hg).1, fun i hi => ?_⟩
    have := World.ownsRow.cellAt h i (by omega)
    rw [Nat.zero_add, this, List.getElem?_map]
    show Option.map (Value.int IntKind.i64) l[i]? = some (Value.int IntKind.i64 (l.getD i 0))
    rw [List.getD_eq_getElem?_getD, List.getElem?_eq_getElem (by omega)]
    rfl
theorem OwnS.cols {w : World} {base n C0 : Nat} {A0 : Option Addr} {l : List Value} (A : Nat → Option Addr) (L C : Nat → Nat) (X : Nat → List Int) (h : OwnS w base (.slice A0 n C0) n l) (hl : ∀ i, i < n → l[i]? = some (.slice (A i) (L i) (C i))) (hs : ∀ i, i < n → Sl w (A i) (L i) (C i) (X i)) : ColsIn w A0 n C0 A L C X := by
  rcases h.2 with ⟨e, h0⟩ | ⟨g, cap, cur, e, _, hg, h1, h2, _, _⟩
  · simp only [Value.slice.injEq] at e
    obtain ⟨rfl, rfl, rfl⟩ := e
    exact ⟨by omega, by omega, fun _ => rfl, fun r hr => absurd hr (by omega)⟩
  · simp only [Value.slice.injEq, true_and] at e
    obtain ⟨rfl, rfl⟩ := e
    refine ⟨h1, by unfold maxLen at h2; omega, (fun h => nomatch h), fun r hr => ⟨⟨g, 0, rfl, (Array.getElem?_eq_some_iff.1 hg).1, ?_⟩, hs r hr⟩⟩
    have := World.ownsRow.cellAt h r (by omega)
    rw [Nat.zero_add, this]
    exact hl r hr
end Go.Proofs.Ytjcbcdjfhcnhcaa
namespace Go.Proofs.Ytjcbcdjfhcnhcaa
open Go.RowKit

/-- The numbers, and the shards, in order, as they lie in memory. -/
def numsV (I : Nat → Int) (n V : Nat) : List Int := (ordL I n V).map (fun u : Nat => (u : Int))
def datV (I : Nat → Int) (A : Nat → Option Addr) (L C : Nat → Nat) (n V : Nat) : List Value := (ordL I n V).map (fun u : Nat => .slice (A (whr I n u).toNat) (L (whr I n u).toNat) (C (whr I n u).toNat))
theorem numsV_yes {I : Nat → Int} {n V : Nat} (h : 0 ≤ whr I n V) : numsV I n (V + 1) = numsV I n V ++ [(V : Int)] := by
  unfold numsV
  rw [show ordL I n (V + 1) = ordL I n V ++ [V] by rw [ordL, if_pos h], List.map_append]
  rfl
theorem datV_yes {I : Nat → Int} {A : Nat → Option Addr} {L C : Nat → Nat} {n V p : Nat} (h : whr I n V = p) : datV I A L C n (V + 1) = datV I A L C n V ++ [.slice (A p) (L p) (C p)] := by
  unfold datV
  rw [show ordL I n (V + 1) = ordL I n V ++ [V] by rw [ordL, if_pos (by omega)], List.map_append]
  simp [h]
theorem ord_yes {I : Nat → Int} {n V : Nat} (h : 0 ≤ whr I n V) : (ordL I n (V + 1)).length = (ordL I n V).length + 1 := by rw [ordL, if_pos h, List.length_append]; rfl
theorem ord_no {I : Nat → Int} {n V : Nat} (h : ¬ 0 ≤ whr I n V) : ordL I n (V + 1) = ordL I n V := by rw [ordL, if_neg h]
theorem ord_le (I : Nat → Int) (n : Nat) : ∀ V, (ordL I n V).length ≤ V
  | 0 => Nat.le_refl _
  | V + 1 => by
    have := ord_le I n V
    rw [ordL]
    split
    · rw [List.length_append]; show _ + 1 ≤ _; omega
    · omega
theorem numsV_get {I : Nat → Int} {n V q : Nat} (h : q < (ordL I n V).length) : (numsV I n V).getD q 0 = (nth I n V q : Int) := by
  unfold numsV nth
  rw [List.getD_eq_getElem?_getD, List.getElem?_map, List.getD_eq_getElem?_getD, List.getElem?_eq_getElem h]
  rfl
theorem datV_get {I : Nat → Int} {A : Nat → Option Addr} {L C : Nat → Nat} {n V q : Nat} (h : q < (ordL I n V).length) : (datV I A L C n V)[q]? = some (.slice (A (std I n V q)) (L (std I n V q)) (C (std I n V q))) := by
  unfold datV std nth
  rw [List.getElem?_map, List.getD_eq_getElem?_getD, List.getElem?_eq_getElem h]
  rfl
/-- What is the matter with a list of shards? -/
inductive Ordered (I : Nat → Int) (A : Nat → Option Addr) (L C : Nat → Nat) (X : Nat → List Int) (k N n : Nat) (w : World) (e : Ending) (w' : World) : Prop
  | index (h : ¬ GoodIx I N n) (he : e = .returned (.tuple #[.slice none 0 0, .slice none 0 0, .int .i64 62])) (hb : Below w.heap.size w w') : Ordered I A L C X k N n w e w'
  | few (h : GoodIx I N n) (hn : n < k) (he : e = .returned (.tuple #[.slice none 0 0, .slice none 0 0, .int .i64 63])) (hb : Below w.heap.size w w') : Ordered I A L C X k N n w e w'
  | length (h : GoodIx I N n) (hn : k ≤ n) (hl : ¬ EvenL n (fun q => L (std I n N q))) (he : e = .returned (.tuple #[.slice none 0 0, .slice none 0 0, .int .i64 61])) (hb : Below w.heap.size w w') : Ordered I A L C X k N n w e w'
  | good (h : GoodIx I N n) (hn : k ≤ n) (hl : EvenL n (fun q => L (std I n N q))) (A1 A2 : Option Addr) (C1 C2 : Nat) (he : e = .returned (.tuple #[.slice A1 n C1, .slice A2 n C2, .int .i64 0])) (hc1 : n ≤ C1 ∧ C1 ≤ 9223372036854775807 ∧ (A1 = none → C1 = 0))
      (h1 : Ints w' A1 n (fun q => (nth I n N q : Nat))) (h2 : ColsIn w' A2 n C2 (fun q => A (std I n N q)) (fun q => L (std I n N q)) (fun q => C (std I n N q)) (fun q => X (std I n N q))) (hb : Below w.heap.size w w') : Ordered I A L C X k N n w e w'
set_option maxRecDepth 100000 in
set_option maxHeartbeats 2000000 in
theorem ordered_any (b t k m n cap : Nat) (a : Option Addr) (I : Nat → Int) (A : Nat → Option Addr) (L C : Nat → Nat) (X : Nat → List Int) (w : World) (h : IsCode w b t k m) (hs : ShardsIn w a n cap I A L C X) :
    Calls Try.prog 94 #[.pointer (some ⟨b, 0, none⟩), .slice a n cap] w (Ordered I A L C X k (k + m) n w) := by
  have hk := h.high
  have hk1 := h.low
  have htop := Nat.le_trans hs.fits hs.top
  have HPL := Lib.hid (places_any b t k m n cap a I A L C X w h hs)
  have HCD : Hid (∀ w', Below w.heap.size w w' → w'.cell? ⟨b, 1, none⟩ = some (.int .i64 k) ∧ w'.cell? ⟨b, 2, none⟩ = some (.int .i64 m)) := Lib.hid (fun w' hb => by
    obtain ⟨g, l, ⟨_, c1, c2, _, _, _⟩, _⟩ := (h.below hb).cells rfl rfl
    exact ⟨c1, c2⟩)
  have HSH := Lib.hid hs
  obtain ⟨N, hN⟩ : ∃ N, k + m = N := ⟨_, rfl⟩
  have hNi : (k : Int) + m = (N : Nat) := by rw [← hN]; omega
  rw [hN] at HPL ⊢
  have hN1 : 1 ≤ N ∧ N ≤ 255 := by omega
  have HEV : Hid (∀ w' A2 C2, ColsIn w' A2 n C2 (fun q => A (std I n N q)) (fun q => L (std I n N q)) (fun q => C (std I n N q)) (fun q => X (std I n N q)) → n ≤ 1000 → ∀ v : Bool, (v = true → EvenL n (fun q => L (std I n N q))) → (v = false → ¬ EvenL n (fun q => L (std I n N q))) →
      Calls Try.prog 65 #[.slice A2 n C2] w' fun e w'' => e = .returned (.bool v) ∧ Below w'.heap.size w' w'') :=
    Lib.hid (fun w' A2 C2 hc hn v h1 h2 => even_any n C2 A2 _ _ _ _ w' hc hn v h1 (fun e => (evenL_dec _ _).resolve_left (h2 e)))
  clear h hs hN hk
  unfold PlacedTo Barred at HPL
  by_cases hgi : GoodIx I N n
  case neg =>
    have HPB : Hid (Calls Try.prog 112 #[.pointer (some ⟨b, 0, none⟩), .slice a n cap] w fun e w' => e = .returned (.tuple #[.slice none 0 0, .int .i64 62]) ∧ Below w.heap.size w w') := Lib.hid (HPL.out.mono fun e w' h => by
      rcases h with ⟨_, h⟩ | ⟨h, _⟩
      · exact h
      · exact absurd h hgi)
    have HGI := Lib.hid hgi
    clear HPL hgi
    go_enter Try.func94, Try.ntmps94
    go_wp2_with (go_at_call 112; refine HPB.out.mono ?_; rintro e w1 ⟨rfl, hb⟩; have HB := Lib.hid hb; clear hb)
    go_returns
    exact .index HGI.out rfl HB.out
  case pos =>
  have HPG : Hid (Calls Try.prog 112 #[.pointer (some ⟨b, 0, none⟩), .slice a n cap] w fun e w' => ∃ g, e = .returned (.tuple #[.slice (some ⟨g, 0, none⟩) N N, .int .i64 0]) ∧ w.heap.size ≤ g ∧ w'.rowIs g 3 N (fun v => .int .i64 (whr I n v)) ∧ Below w.heap.size w w') := Lib.hid (HPL.out.mono fun e w' h => by
    rcases h with ⟨h, _⟩ | ⟨_, h⟩
    · exact absurd hgi h
    · exact h)
  have HGI := Lib.hid hgi
  have hlen := ordL_len n hgi
  clear HPL hgi
  by_cases hnk : n < k
  case pos =>
    have hnki : (n : Int) < k := by omega
    go_enter Try.func94, Try.ntmps94
    go_wp2_with (go_at_call 112; refine HPG.out.mono ?_; rintro e w1 ⟨g, rfl, hg, hr, hb⟩; have HB := Lib.hid hb; clear hg hr hb; obtain ⟨c1, c2⟩ := HCD.out _ HB.out)
    go_returns
    exact .few HGI.out hnk rfl HB.out
  case neg =>
  have hnki : ¬ (n : Int) < k := by omega
  have hn255 : n ≤ 255 := by
    have h1 := ord_le I n N
    omega
  have HLEN := Lib.hid hlen
  clear hlen
  go_enter Try.func94, Try.ntmps94
  go_wp2_with (go_at_call 112; refine HPG.out.mono ?_; rintro e w1 ⟨g, rfl, hg, hr, hb⟩; have HR := Lib.hid hr; have HB := Lib.hid hb; clear hg hr hb; obtain ⟨c1, c2⟩ := HCD.out _ HB.out)
  go_quiet (fail)
  clear c1 c2
  generalize hw2 : w1.drewN nq = w2
  have HALL : Hid (∀ w', Below w2.heap.size w2 w' → w'.rowIs g 3 N (fun v => .int .i64 (whr I n v)) ∧ ShardsIn w' a n cap I A L C X ∧ Below w.heap.size w w') := Lib.hid (fun w' h => by
    have hb2 : Below w1.heap.size w1 w2 := by rw [← hw2]; exact below_drewN (Below.refl _ _) nq
    have hb3 := b_on hb2 h
    exact ⟨HR.out.of_block (hb3.block _ HR.out.lt), HSH.out.below (b_on HB.out hb3) (Nat.le_refl _), b_on HB.out hb3⟩)
  clear hw2 HPG HR HB HSH HCD
  go_wp2
  go_loopw [9, 10, 11, 37] (fun x y _ i wr => ∃ (V : Nat) (A1 A2 : Option Addr) (C1 C2 : Nat), V ≤ N ∧ i = .int .i64 (V : Nat) ∧ x = .slice A1 (ordL I n V).length C1 ∧ y = .slice A2 (ordL I n V).length C2 ∧ Hid (OwnI wr w2.heap.size (.slice A1 (ordL I n V).length C1) (ordL I n V).length (numsV I n V)) ∧ Hid (OwnS wr w2.heap.size (.slice A2 (ordL I n V).length C2) (ordL I n V).length (datV I A L C n V)) ∧ Hid (Below w2.heap.size w2 wr)) (fun _ _ _ i _ => N - (intOf i).toNat)
  case atStart => exact ⟨0, none, none, 0, 0, by omega, rfl, rfl, rfl, Lib.hid (OwnI.none _ _), Lib.hid (OwnS.none _ _), Lib.hid (Below.refl _ _)⟩
  case round =>
    obtain ⟨V, A1, A2, C1, C2, hV, rfl, rfl, rfl, HX, HY, HB⟩ := hrel
    obtain ⟨wo, ho⟩ : ∃ wo, wo = wr := ⟨_, rfl⟩
    subst ho
    have HLV := Lib.hid (ord_le I n V)
    by_cases hlt : V < N
    · have cw := (HALL.out _ HB.out).1.cell hlt
      have V0 : (0 : Int) ≤ V := by omega
      have V1 : (V : Int) < N := by omega
      rcases whr_spec I V n with ⟨hw, _⟩ | ⟨p, hp, hw, hpe⟩
      · rw [hw] at cw
        have HNO := Lib.hid (ord_no (I := I) (n := n) (V := V) (by omega))
        have HVV : Hid (numsV I n (V + 1) = numsV I n V ∧ datV I A L C n (V + 1) = datV I A L C n V) := Lib.hid (by unfold numsV datV; rw [HNO.out]; exact ⟨rfl, rfl⟩)
        clear hw
        go_wp2
        go_roundw
        case rel =>
          refine ⟨V + 1, A1, A2, C1, C2, by omega, by go_num, ?_, ?_, Lib.hid ?_, Lib.hid ?_, HB⟩
          · rw [HNO.out]
          · rw [HNO.out]
          · rw [HNO.out, HVV.out.1]; exact HX.out
          · rw [HNO.out, HVV.out.2]; exact HY.out
        case measure => simp [intOf]; omega
      · rw [hw] at cw
        have HYES := Lib.hid (ord_yes (I := I) (n := n) (V := V) (by omega))
        have HNV := Lib.hid (numsV_yes (I := I) (n := n) (V := V) (by omega))
        have HDV := Lib.hid (datV_yes (A := A) (L := L) (C := C) hw)
        obtain ⟨lb, lo, rfl, hlb, d1, d2⟩ := (HALL.out _ HB.out).2.1.cells p hp
        have HCW : Hid (∀ w', Below w2.heap.size w2 w' → w'.cell? ⟨g, V, none⟩ = some (.int .i64 p) ∧ w'.cell? ⟨lb, lo + p * 2 + 1, none⟩ = some (.slice (A p) (L p) (C p))) := Lib.hid (fun w' h => by
          have e1 := (HALL.out _ h).1.cell hlt
          rw [hw] at e1
          obtain ⟨lb', lo', e, _, _, e2⟩ := (HALL.out _ h).2.1.cells p hp
          cases e
          exact ⟨e1, e2⟩)
        have HN1 : Hid (w2.heap.size ≤ wo.heap.size) := Lib.hid HB.out.size
        have p0 : (0 : Int) ≤ p := by omega
        have p1 : (p : Int) < n := by omega
        have HLT : Hid ((ordL I n V).length + 1 ≤ 100000) := Lib.hid (by have := HLV.out; omega)
        clear hw hpe d1 d2 hlb
        generalize (ordL I n V).length = q at *
        have HXA : Hid (∀ o, OwnI (wo.alloc o) w2.heap.size (.slice A1 q C1) q (numsV I n V)) := Lib.hid (fun o => row_alloc HX.out o)
        have HNA : Hid (∀ o, w2.heap.size ≤ (wo.alloc o).heap.size) := Lib.hid (fun o => Nat.le_trans HN1.out (Nat.le_of_lt (alloc_lt _ _)))
        go_wp2_with first
          | ((with_reducible refine wpList_append_int2 (w := wo.alloc _) rfl (.tmp 45) (.tmp 47) rfl w2.heap.size _ q rfl (numsV I n V) (HXA.out _) wo.heap.size rfl V (new_box wo _ _) HLT.out (HNA.out _) ?_); intro v3 w3 hx3 hg3; obtain ⟨A3, C3, rfl, _⟩ := row_slice hx3; have HX3 := Lib.hid hx3; have HY3 := Lib.hid (row_other (row_alloc HX.out _) (row_alloc HY.out _) (by decide) hg3); have HB3 := Lib.hid (row_grown (row_alloc HX.out _) hg3 (b_put HB.out _) (Nat.le_refl _) (Nat.le_trans HN1.out (Nat.le_of_lt (alloc_lt _ _)))); clear hx3 hg3; have HYA3 : Hid (∀ o, OwnS (w3.alloc o) w2.heap.size (.slice A2 q C2) q (datV I A L C n V)) := Lib.hid (fun o => row_alloc HY3.out o); have HNA3 : Hid (∀ o, w2.heap.size ≤ (w3.alloc o).heap.size) := Lib.hid (fun o => Nat.le_trans HB3.out.size (Nat.le_of_lt (alloc_lt _ _))); obtain ⟨f1, f2⟩ := HCW.out _ HB3.out)
          | ((with_reducible refine wpList_append_sl (w := w3.alloc _) rfl (.tmp 49) (.tmp 58) rfl w2.heap.size _ q rfl (datV I A L C n V) (HYA3.out _) w3.heap.size rfl (A p) (L p) (C p) (new_box w3 _ _) HLT.out (HNA3.out _) ?_); intro v4 w4 hy4 hg4; obtain ⟨A4, C4, rfl, _⟩ := row_slice hy4; have HY4 := Lib.hid hy4; have HX4 := Lib.hid (row_other (row_alloc HY3.out _) (row_alloc HX3.out _) (by decide) hg4); have HB4 := Lib.hid (row_grown (row_alloc HY3.out _) hg4 (b_put HB3.out _) (Nat.le_refl _) (Nat.le_trans HB3.out.size (Nat.le_of_lt (alloc_lt _ _)))); clear hy4 hg4 f1 f2)
        go_roundw
        case rel =>
          refine ⟨V + 1, A3, A4, C3, C4, by omega, by go_num, ?_, ?_, Lib.hid ?_, Lib.hid ?_, HB4⟩
          · rw [HYES.out]
          · rw [HYES.out]
          · rw [HYES.out, HNV.out]; exact HX4.out
          · rw [HYES.out, HDV.out]; exact HY4.out
        case measure => simp [intOf]; omega
    · obtain rfl : V = N := by omega
      have hle := HLEN.out
      have HI1 : Hid (∀ w', Below wo.heap.size wo w' → Ints w' A1 n (fun q => (nth I n V q : Nat))) := Lib.hid (fun w' h => by
        have h1 := OwnI.ints (row_below HX.out h (Nat.le_refl _))
        rw [hle] at h1
        rcases h1 with h0 | ⟨b', o', e, hl, hc⟩
        · exact .inl h0
        · exact .inr ⟨b', o', e, hl, fun i hi => by rw [hc i hi]; exact congrArg (fun z => some (Value.int .i64 z)) (numsV_get (by omega))⟩)
      have HI2 : Hid (∀ w', Below wo.heap.size wo w' → ColsIn w' A2 n C2 (fun q => A (std I n V q)) (fun q => L (std I n V q)) (fun q => C (std I n V q)) (fun q => X (std I n V q))) := Lib.hid (fun w' h => by
        have h1 := row_below HY.out h (Nat.le_refl _)
        rw [hle] at h1
        refine OwnS.cols _ _ _ _ h1 (fun i hi => datV_get (by omega)) (fun i hi => ?_)
        exact (HALL.out _ (b_on HB.out h)).2.1.data _ (std_spec (by omega)).1)
      have HC1 : Hid (n ≤ C1 ∧ C1 ≤ 9223372036854775807 ∧ (A1 = none → C1 = 0)) := Lib.hid (by
        obtain ⟨A', C', e, h1, h2, h3⟩ := row_slice HX.out
        cases e
        exact ⟨by omega, by unfold maxLen at h2; omega, h3⟩)
      have HBW := Lib.hid (HALL.out _ HB.out).2.2
      have hkn : k ≤ n := by omega
      rw [hle]
      clear hle HX HY HLV HLEN HALL HB
      by_cases hev : EvenL n (fun q => L (std I n V q))
      · have HE := Lib.hid (HEV.out wo A2 C2 (HI2.out _ (Below.refl _ _)) (by omega) true (fun _ => hev) (fun h => nomatch h))
        have HEE := Lib.hid hev
        clear HEV hev
        go_wp2_with (go_at_call 65; refine HE.out.mono ?_; rintro e w3 ⟨rfl, hb⟩; have HB3 := Lib.hid hb; clear hb)
        go_returns
        exact .good HGI.out hkn HEE.out A1 A2 C1 C2 rfl HC1.out (HI1.out _ HB3.out) (HI2.out _ HB3.out) (b_on HBW.out HB3.out)
      · have HE := Lib.hid (HEV.out wo A2 C2 (HI2.out _ (Below.refl _ _)) (by omega) false (fun h => nomatch h) (fun _ => hev))
        have HEE := Lib.hid hev
        clear HEV hev
        go_wp2_with (go_at_call 65; refine HE.out.mono ?_; rintro e w3 ⟨rfl, hb⟩; have HB3 := Lib.hid hb; clear hb)
        go_returns
        exact .length HGI.out hkn HEE.out rfl (b_on HBW.out HB3.out)
end Go.Proofs.Ytjcbcdjfhcnhcaa
