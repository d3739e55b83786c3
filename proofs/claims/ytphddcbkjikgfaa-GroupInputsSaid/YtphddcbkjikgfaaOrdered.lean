/-
  Own text: slices.Repeat of one number, walked.
  numbers of shards, in order. Plain lists.
  places of package rs, walked.
  numbers and slices in rows of the call's own, side by side.
  ordered of package rs, walked.
-/
import Derived.Test.YtphddcbkjikgfaaCode
import Derived.Test.YtphddcbkjikgfaaByteA
import Derived.Test.YtphddcbkjikgfaaStr
import Derived.Laws.MathBits
import Derived.StillTailTactics
import Derived.Laws.CopyOwn
namespace Go.Proofs.Ytphddcbkjikgfaa
open Go.RowKit

theorem splice_get {α : Type} (L : List α) (off : Nat) (v : α) (c i : Nat) (h : off + c ≤ L.length) : (splice L off (List.replicate c v))[i]? = if off ≤ i ∧ i < off + c then some v else L[i]? := by
  unfold splice
  have ht : (L.take off).length = off := by rw [List.length_take]; omega
  rw [List.length_replicate]
  by_cases h1 : i < off
  · rw [if_neg (by omega), List.getElem?_append_left (by omega), List.getElem?_take, if_pos h1]
  · rw [List.getElem?_append_right (by omega), ht]
    by_cases h2 : i < off + c
    · rw [if_pos (by omega), List.getElem?_append_left (by rw [List.length_replicate]; omega), List.getElem?_replicate, if_pos (by omega)]
    · rw [if_neg (by omega), List.getElem?_append_right (by rw [List.length_replicate]; omega), List.length_replicate, List.getElem?_drop]
      congr 1
      omega
/-- A copy of so many cells that all hold one number. -/
theorem wpList_copy_one {w : World} {ops : Array Oper} {rest : List Oper} {o : Oper} {a : Act} {Q : Exit → Act → World → Prop} (hgd : o.guard = none) (d s : Operand)
    (ho : o.op = .call { callee := .builtin .copy, args := #[d, s], argTypes := #[112, 112] })
    (g off dLen dCap : Nat) (b : Nat) (sLen sCap : Nat) (hd : a.eval d = .slice (some ⟨g, off, none⟩) dLen dCap) (hs : a.eval s = .slice (some ⟨b, 0, none⟩) sLen sCap)
    (n : Nat) (f : Nat → Value) (hg : w.rowIs g 3 n f) (z : Int) (hsrc : ∀ j, j < sLen → w.cell? ⟨b, j, none⟩ = some (.int .i64 z)) (c : Nat) (hc : c = Nat.min sLen dLen) (hfit : off + c ≤ n) (base : Nat) (w0 : World) (hb : Below base w0 w) (hbase : base ≤ g)
    (h : ∀ w', w'.rowIs g 3 n (fun i => if off ≤ i ∧ i < off + c then .int .i64 z else f i) → Below base w0 w' → wpList Try.prog ops Q rest (a.put o.dst (goInt c)) w') :
    wpList Try.prog ops Q (o :: rest) a w := by
  obtain ⟨cur, hcur, hsz, hcell⟩ := hg
  have ec : (List.replicate c (Value.int .i64 z)).length = c := List.length_replicate
  refine wpList_copy_own hgd d s _ _ ho 3 Try.underlying112 (by kernel_rfl) g off dLen dCap ⟨b, 0, none⟩ sLen sCap hd hs cur 3 hcur (List.replicate c (.int .i64 z)) (by rw [ec, hc]) (fun j v hv => ?_) (by rw [ec]; omega) (fun v hv => ?_) ?_
  · rw [List.getElem?_replicate] at hv
    split at hv
    · have hj : j < sLen := by have := Nat.min_le_left sLen dLen; have e : c = min sLen dLen := hc; omega
      rw [onto_any, Nat.zero_add, hsrc j hj]
      exact hv
    · exact absurd hv (by simp)
  · rw [(List.mem_replicate.1 hv).2]
    rfl
  · have e := h (w.setRow g (cur.toList.take off ++ (List.replicate c (Value.int .i64 z) ++ cur.toList.drop (off + (List.replicate c (Value.int .i64 z)).length))).toArray) ?_ (below_setRow hb hbase _)
    · rw [ec] at e ⊢; exact e
    · refine ⟨_, setRow_heap w g _ _ 3 (0, 0) hcur, ?_, fun i hi => ?_⟩
      · have := length_splice cur.toList off (List.replicate c (Value.int .i64 z)) (by rw [ec]; simpa [hsz] using hfit)
        simp only [splice] at this
        simpa [hsz] using this
      · have := splice_get cur.toList off (Value.int .i64 z) c i (by simpa [hsz] using hfit)
        simp only [splice] at this
        have e2 := hcell i hi
        rw [List.getElem?_toArray, this]
        dsimp only
        split
        · rfl
        · simpa using e2
/-- The same as one step of a region that draws. -/
theorem step_copy_one {w : World} {ops : Array Oper} {o : Oper} {a : Act} {K : Act → World → Prop} {Q : Exit → Act → World → Prop} {E : Prop} (hgd : o.guard = none) (d s : Operand)
    (ho : o.op = .call { callee := .builtin .copy, args := #[d, s], argTypes := #[112, 112] })
    (g off dLen dCap : Nat) (b : Nat) (sLen sCap : Nat) (hd : a.eval d = .slice (some ⟨g, off, none⟩) dLen dCap) (hs : a.eval s = .slice (some ⟨b, 0, none⟩) sLen sCap)
    (n : Nat) (f : Nat → Value) (hg : w.rowIs g 3 n f) (z : Int) (hsrc : ∀ j, j < sLen → w.cell? ⟨b, j, none⟩ = some (.int .i64 z)) (c : Nat) (hc : c = Nat.min sLen dLen) (hfit : off + c ≤ n) (base : Nat) (w0 : World) (hb : Below base w0 w) (hbase : base ≤ g)
    (h : ∀ w', w'.rowIs g 3 n (fun i => if off ≤ i ∧ i < off + c then .int .i64 z else f i) → Below base w0 w' → K (a.put o.dst (.int .i64 (c : Int))) w') :
    if Region.wanted o (yielded ops a.tmps) = true then Oper.wp Try.prog o a w K Q else E := by
  obtain ⟨cur, hcur, hsz, hcell⟩ := hg
  have ec : (List.replicate c (Value.int .i64 z)).length = c := List.length_replicate
  refine step_copy_splice hgd d s _ _ ho 3 Try.underlying112 (by kernel_rfl) (some ⟨g, off, none⟩) (some ⟨b, 0, none⟩) dLen dCap sLen sCap hd hs g off cur.toList 3 (by simpa using hcur) (List.replicate c (.int .i64 z)) (by rw [ec, hc]) (fun _ => ⟨rfl, ⟨b, 0, none⟩, rfl, fun j v hv => ?_⟩) (by rw [ec]; simpa [hsz] using hfit) (fun v hv => ?_) base w0 hb hbase (fun w' h1 h2 => ?_)
  · rw [List.getElem?_replicate] at hv
    split at hv
    · have hj : j < sLen := by have := Nat.min_le_left sLen dLen; have e : c = min sLen dLen := hc; omega
      rw [onto_any, Nat.zero_add, hsrc j hj]
      exact hv
    · exact absurd hv (by simp)
  · rw [(List.mem_replicate.1 hv).2]
    rfl
  · rw [ec]
    refine h w' ⟨_, h1.out, ?_, fun i hi => ?_⟩ h2
    · have := length_splice cur.toList off (List.replicate c (Value.int .i64 z)) (by rw [ec]; simpa [hsz] using hfit)
      simpa [hsz] using this
    · have := splice_get cur.toList off (Value.int .i64 z) c i (by simpa [hsz] using hfit)
      have e2 := hcell i hi
      rw [List.getElem?_toArray, this]
      dsimp only
      split
      · rfl
      · simpa using e2
theorem and_low6 (x : Int) (h0 : 0 ≤ x) (h1 : x ≤ 18446744073709551615) : bits .and .u64 x 4294967295 = x % 4294967296 := by
  obtain ⟨X, rfl⟩ : ∃ X : Nat, x = X := ⟨x.toNat, by omega⟩
  have m1 : ((X : Int) % ((2 ^ IntKind.u64.bits : Nat) : Int)).toNat = X := by
    show ((X : Int) % 18446744073709551616).toNat = X
    omega
  have m2 : ((4294967295 : Int) % ((2 ^ IntKind.u64.bits : Nat) : Int)).toNat = 2 ^ 32 - 1 := by decide
  simp only [bits, BitVec.toNat_and, BitVec.toNat_ofInt, m1, m2, Nat.and_two_pow_sub_one_eq_mod]
  rw [IntKind.wrap_u64]
  omega
theorem wrap_lo6 (n : Int) : 0 ≤ IntKind.u64.wrap n ∧ IntKind.u64.wrap n ≤ 18446744073709551615 := by rw [IntKind.wrap_u64]; omega
theorem ret_two6 {k k' : IntKind} {a b a' b' : Int} (h : a = a') (h' : b = b') : Ending.returned (.tuple #[.int k a, .int k' b]) = .returned (.tuple #[.int k a', .int k' b']) := by rw [h, h']
set_option maxRecDepth 100000 in
theorem mul64_any6 (x y : Int) (w : World) (hx0 : 0 ≤ x) (hx : x ≤ 18446744073709551615) (hy0 : 0 ≤ y) (hy : y ≤ 18446744073709551615) :
    Calls Try.prog 95 #[.int .u64 x, .int .u64 y] w fun e w' => e = .returned (.tuple #[.int .u64 (x * y / 18446744073709551616), .int .u64 (x * y % 18446744073709551616)]) ∧ w = w' := by
  go_enter Try.func95, Try.ntmps95
  go_wp2
  go_ret2
  refine ⟨ret_two6 ?_ (by rw [IntKind.wrap_u64]), rfl⟩
  rw [and_low6 x hx0 hx, and_low6 y hy0 hy, and_low6 _ (wrap_lo6 _).1 (wrap_lo6 _).2]
  simp only [IntKind.wrap_u64]
  exact mul64_arith x y hx0 (by omega) hy0 (by omega)
/-- All numbers are one. -/
def AllOne (z : Int) (n : Nat) (w : World) (e : Ending) (w' : World) : Prop :=
  ∃ g, e = .returned (.slice (some ⟨g, 0, none⟩) n n) ∧ w.heap.size ≤ g ∧ w'.rowIs g 3 n (fun _ => .int .i64 z) ∧ Below w.heap.size w w'
def repV (z : Int) (k i : Nat) : Value := if i < k then .int .i64 z else .int .i64 0
end Go.Proofs.Ytphddcbkjikgfaa
namespace Go.Proofs.Ytphddcbkjikgfaa

/-- Where a number stands among the first ones of a list; -1: nowhere. -/
def whr (I : Nat → Int) : Nat → Int → Int
  | 0, _ => -1
  | n + 1, v => if I n = v then (n : Int) else whr I n v
theorem whr_spec (I : Nat → Int) (v : Int) : ∀ n, (whr I n v = -1 ∧ ∀ i, i < n → I i ≠ v) ∨ ∃ i : Nat, i < n ∧ whr I n v = i ∧ I i = v
  | 0 => .inl ⟨rfl, fun i h => absurd h (by omega)⟩
  | n + 1 => by
    unfold whr
    by_cases h : I n = v
    · rw [if_pos h]; exact .inr ⟨n, by omega, rfl, h⟩
    · rw [if_neg h]
      rcases whr_spec I v n with ⟨h1, h2⟩ | ⟨i, hi, h1, h2⟩
      · exact .inl ⟨h1, fun i hi => by
          by_cases e : i = n
          · rw [e]; exact h
          · exact h2 i (by omega)⟩
      · exact .inr ⟨i, by omega, h1, h2⟩
/-- All below a bound, none twice. -/
def GoodIx (I : Nat → Int) (N n : Nat) : Prop := ∀ i, i < n → 0 ≤ I i ∧ I i < N ∧ ∀ j, j < i → I j ≠ I i
theorem GoodIx.mono {I : Nat → Int} {N n m : Nat} (h : GoodIx I N n) (hm : m ≤ n) : GoodIx I N m := fun i hi => h i (by omega)
theorem GoodIx.only {I : Nat → Int} {N n i j : Nat} (h : GoodIx I N n) (hi : i < n) (hj : j < n) (e : I i = I j) : i = j := by
  rcases Nat.lt_trichotomy i j with g | g | g
  · exact absurd e ((h j hj).2.2 i g)
  · exact g
  · exact absurd e.symm ((h i hi).2.2 j g)
theorem GoodIx.whr {I : Nat → Int} {N n i : Nat} (h : GoodIx I N n) (hi : i < n) : whr I n (I i) = i := by
  rcases whr_spec I (I i) n with ⟨_, h2⟩ | ⟨j, hj, h1, h2⟩
  · exact absurd rfl (h2 i hi)
  · rw [h1, h.only hj hi h2]
/-- The numbers below a bound that stand there, from the least on. -/
def ordL (I : Nat → Int) (n : Nat) : Nat → List Nat
  | 0 => []
  | v + 1 => if 0 ≤ whr I n v then ordL I n v ++ [v] else ordL I n v
theorem ordL_mem (I : Nat → Int) (n : Nat) (u : Nat) : ∀ V, u ∈ ordL I n V ↔ u < V ∧ 0 ≤ whr I n u
  | 0 => by unfold ordL; simp
  | V + 1 => by
    unfold ordL
    by_cases h : 0 ≤ whr I n V
    · rw [if_pos h, List.mem_append, ordL_mem I n u V, List.mem_singleton]
      constructor
      · rintro (⟨h1, h2⟩ | rfl)
        · exact ⟨by omega, h2⟩
        · exact ⟨by omega, h⟩
      · rintro ⟨h1, h2⟩
        by_cases e : u = V
        · exact .inr e
        · exact .inl ⟨by omega, h2⟩
    · rw [if_neg h, ordL_mem I n u V]
      constructor
      · rintro ⟨h1, h2⟩; exact ⟨by omega, h2⟩
      · rintro ⟨h1, h2⟩
        refine ⟨?_, h2⟩
        by_cases e : u = V
        · rw [e] at h2; exact absurd h2 h
        · omega
theorem ordL_sorted (I : Nat → Int) (n : Nat) : ∀ V, (ordL I n V).Pairwise (fun x y => x < y)
  | 0 => by unfold ordL; exact List.Pairwise.nil
  | V + 1 => by
    unfold ordL
    split
    · rw [List.pairwise_append]
      refine ⟨ordL_sorted I n V, List.pairwise_singleton _ _, fun x hx y hy => ?_⟩
      rw [List.mem_singleton] at hy
      rw [hy]
      exact ((ordL_mem I n x V).1 hx).1
    · exact ordL_sorted I n V
theorem ordL_prefix (I : Nat → Int) (n : Nat) (v : Nat) : ∀ V, v ≤ V → ordL I n v <+: ordL I n V
  | 0, h => by
    obtain rfl : v = 0 := by omega
    exact List.prefix_rfl
  | V + 1, h => by
    by_cases e : v = V + 1
    · rw [e]; exact List.prefix_rfl
    · have := ordL_prefix I n v V (by omega)
      show _ <+: ordL I n (V + 1)
      rw [ordL]
      split
      · exact this.trans (List.prefix_append _ _)
      · exact this
theorem ordL_len {I : Nat → Int} {N : Nat} : ∀ (n : Nat), GoodIx I N n → (ordL I n N).length = n := by
  have key : ∀ n, GoodIx I N (n + 1) → ∀ V, (ordL I (n + 1) V).length = (ordL I n V).length + (if I n < V then 1 else 0) := by
    intro n h V
    induction V with
    | zero => unfold ordL; rw [if_neg (by have := (h n (by omega)).1; omega)]; rfl
    | succ V ih =>
      have e1 : ordL I (n + 1) (V + 1) = if 0 ≤ whr I (n + 1) V then ordL I (n + 1) V ++ [V] else ordL I (n + 1) V := rfl
      have e2 : ordL I n (V + 1) = if 0 ≤ whr I n V then ordL I n V ++ [V] else ordL I n V := rfl
      have e3 : whr I (n + 1) V = if I n = V then (n : Int) else whr I n V := rfl
      rw [e1, e2, e3]
      by_cases g : I n = V
      · have g2 : ¬ 0 ≤ whr I n V := by
          rcases whr_spec I V n with ⟨h1, _⟩ | ⟨i, hi, _, h2⟩
          · omega
          · exact absurd (h2.trans g.symm) ((h n (by omega)).2.2 i hi)
        rw [if_pos g, if_pos (by omega), if_neg g2, List.length_append, ih, if_neg (by omega), if_pos (by omega)]
        rfl
      · rw [if_neg g]
        have hiff : (if I n < ((V + 1 : Nat) : Int) then 1 else 0) = if I n < (V : Int) then 1 else 0 := by
          by_cases g2 : I n < (V : Int)
          · rw [if_pos g2, if_pos (by omega)]
          · rw [if_neg g2, if_neg (by omega)]
        rw [hiff]
        split
        · rw [List.length_append, List.length_append, ih]
          show _ + 1 = _ + 1 + _
          omega
        · exact ih
  intro n
  induction n with
  | zero =>
    intro _
    have : ∀ V, ordL I 0 V = [] := fun V => by
      induction V with
      | zero => rfl
      | succ V ih => rw [ordL, if_neg (by unfold whr; omega), ih]
    rw [this]; rfl
  | succ n ih =>
    intro h
    rw [key n h N, ih (h.mono (by omega)), if_pos (h n (by omega)).2.1]
/-- The q-th of them, and where it stands. -/
def nth (I : Nat → Int) (n V q : Nat) : Nat := (ordL I n V).getD q 0
def std (I : Nat → Int) (n V q : Nat) : Nat := (whr I n (nth I n V q)).toNat
theorem nth_mem {I : Nat → Int} {n V q : Nat} (h : q < (ordL I n V).length) : nth I n V q ∈ ordL I n V := by
  unfold nth
  rw [List.getD_eq_getElem?_getD, List.getElem?_eq_getElem h]
  exact List.getElem_mem h
theorem nth_lt {I : Nat → Int} {n V q : Nat} (h : q < (ordL I n V).length) : nth I n V q < V := ((ordL_mem I n _ V).1 (nth_mem h)).1
theorem nth_mono {I : Nat → Int} {n V p q : Nat} (h1 : p < q) (h2 : q < (ordL I n V).length) : nth I n V p < nth I n V q := by
  have := List.pairwise_iff_getElem.1 (ordL_sorted I n V) p q (by omega) h2 h1
  unfold nth
  rwa [List.getD_eq_getElem?_getD, List.getD_eq_getElem?_getD, List.getElem?_eq_getElem h2, List.getElem?_eq_getElem (show p < _ by omega)]
theorem std_spec {I : Nat → Int} {n V q : Nat} (h : q < (ordL I n V).length) : std I n V q < n ∧ I (std I n V q) = nth I n V q ∧ whr I n (nth I n V q) = std I n V q := by
  have h0 := ((ordL_mem I n _ V).1 (nth_mem h)).2
  rcases whr_spec I (nth I n V q) n with ⟨h1, _⟩ | ⟨i, hi, h1, h2⟩
  · omega
  · unfold std
    rw [h1, Int.toNat_natCast]
    exact ⟨hi, h2, rfl⟩
theorem nth_of {I : Nat → Int} {N n i : Nat} (h : GoodIx I N n) (hi : i < n) : ∃ q, q < (ordL I n N).length ∧ (nth I n N q : Int) = I i ∧ std I n N q = i := by
  obtain ⟨h0, h1, _⟩ := h i hi
  have hm : (I i).toNat ∈ ordL I n N := (ordL_mem I n _ N).2 ⟨by omega, by rw [show (((I i).toNat : Nat) : Int) = I i by omega, h.whr hi]; omega⟩
  obtain ⟨q, hq, e⟩ := List.mem_iff_getElem.1 hm
  have hn : nth I n N q = (I i).toNat := by unfold nth; rw [List.getD_eq_getElem?_getD, List.getElem?_eq_getElem hq]; exact e
  refine ⟨q, hq, by rw [hn]; omega, ?_⟩
  unfold std
  rw [hn, show (((I i).toNat : Nat) : Int) = I i by omega, h.whr hi, Int.toNat_natCast]
theorem nth_prefix {I : Nat → Int} {n v V q : Nat} (h : v ≤ V) (hq : q < (ordL I n v).length) : nth I n v q = nth I n V q := by
  obtain ⟨t, ht⟩ := ordL_prefix I n v V h
  unfold nth
  rw [← ht, List.getD_eq_getElem?_getD, List.getD_eq_getElem?_getD, List.getElem?_append_left hq]
theorem std_prefix {I : Nat → Int} {n v V q : Nat} (h : v ≤ V) (hq : q < (ordL I n v).length) : std I n v q = std I n V q := by
  unfold std; rw [nth_prefix h hq]
end Go.Proofs.Ytphddcbkjikgfaa
namespace Go.Proofs.Ytphddcbkjikgfaa
open Go.RowKit

/-- Shards that came in: their numbers, their bytes. -/
structure ShardsIn (w : World) (a : Option Addr) (n cap : Nat) (I : Nat → Int) (A : Nat → Option Addr) (L C : Nat → Nat) (X : Nat → List Int) : Prop where
  fits : n ≤ cap
  top : cap ≤ 9223372036854775807
  nilc : a = none → cap = 0
  num : ∀ r, r < n → -9223372036854775808 ≤ I r ∧ I r ≤ 9223372036854775807
  cells : ∀ r, r < n → ∃ b off, a = some ⟨b, off, none⟩ ∧ b < w.heap.size ∧ w.cell? ⟨b, off + r * 2, none⟩ = some (.int .i64 (I r)) ∧ w.cell? ⟨b, off + r * 2 + 1, none⟩ = some (.slice (A r) (L r) (C r))
  data : ∀ r, r < n → Sl w (A r) (L r) (C r) (X r)
theorem ShardsIn.below {w w' : World} {a : Option Addr} {n cap B : Nat} {I : Nat → Int} {A : Nat → Option Addr} {L C : Nat → Nat} {X : Nat → List Int} (h : ShardsIn w a n cap I A L C X) (hb : Below B w w') (hB : w.heap.size ≤ B) : ShardsIn w' a n cap I A L C X :=
  ⟨h.fits, h.top, h.nilc, h.num, fun r hr => by
    obtain ⟨b, off, e, hl, h1, h2⟩ := h.cells r hr
    exact ⟨b, off, e, Nat.lt_of_lt_of_le hl hb.size, (hb.cell (p := ⟨b, off + r * 2, none⟩) (by show b < B; omega)).trans h1, (hb.cell (p := ⟨b, off + r * 2 + 1, none⟩) (by show b < B; omega)).trans h2⟩, fun r hr => (h.data r hr).below hb hB⟩
/-- What places answers. -/
def PlacedTo (I : Nat → Int) (N n : Nat) (w : World) (e : Ending) (w' : World) : Prop :=
  (¬ GoodIx I N n ∧ Barred 62 w e w') ∨
  (GoodIx I N n ∧ ∃ g, e = .returned (.tuple #[.slice (some ⟨g, 0, none⟩) N N, .int .i64 0]) ∧ w.heap.size ≤ g ∧ w'.rowIs g 3 N (fun v => .int .i64 (whr I n v)) ∧ Below w.heap.size w w')
end Go.Proofs.Ytphddcbkjikgfaa
namespace Go.Proofs.Ytphddcbkjikgfaa
open Go.RowKit

/-- Slices in a row of the call's own. -/
def OwnS (w : World) (base : Nat) (v : Value) (n : Nat) (l : List Value) : Prop := w.ownsRow base 42 1 v n l
theorem OwnS.none (w : World) (base : Nat) : OwnS w base (.slice none 0 0) 0 [] := ⟨rfl, .inl ⟨rfl, rfl⟩⟩
theorem row_other {w w' : World} {base : Nat} {e e' : TypeId} {s s' : Nat} {v v' : Value} {n n' : Nat} {l l' : List Value} (h : w.ownsRow base e s v n l) (h' : w.ownsRow base e' s' v' n' l') (hne : e ≠ e') (hg : w.grownBy w' v.ownBlock) : w'.ownsRow base e' s' v' n' l' := by
  refine ⟨h'.1, h'.2.imp id ?_⟩
  rintro ⟨g', cap', cur', e1, h1, hg', h2⟩
  refine ⟨g', cap', cur', e1, h1, ?_, h2⟩
  rw [hg.block g' (Array.getElem?_eq_some_iff.1 hg').1 (fun hk => ?_)]
  · exact hg'
  · rcases h.2 with ⟨rfl, _⟩ | ⟨g, cap, cur, rfl, _, hh, _⟩
    · exact absurd hk (by simp [Value.ownBlock])
    · have hk2 : g' = g := by simpa [Value.ownBlock] using hk
      rw [hk2, hh] at hg'
      simp only [Option.some.injEq, Obj.cells.injEq] at hg'
      exact hne hg'.2.1
theorem row_alloc {w : World} {base : Nat} {e : TypeId} {s : Nat} {v : Value} {n : Nat} {l : List Value} (h : w.ownsRow base e s v n l) (o : Obj) : (w.alloc o).ownsRow base e s v n l := by
  refine ⟨h.1, h.2.imp id ?_⟩
  rintro ⟨g', cap', cur', e1, h1, hg', h2⟩
  exact ⟨g', cap', cur', e1, h1, (Below.heap_alloc _ _ _ (Array.getElem?_eq_some_iff.1 hg').1).trans hg', h2⟩
theorem row_below {w w' : World} {base B : Nat} {e : TypeId} {s : Nat} {v : Value} {n : Nat} {l : List Value} (h : w.ownsRow base e s v n l) (hb : Below B w w') (hB : w.heap.size ≤ B) : w'.ownsRow base e s v n l := by
  refine ⟨h.1, h.2.imp id ?_⟩
  rintro ⟨g', cap', cur', e1, h1, hg', h2⟩
  exact ⟨g', cap', cur', e1, h1, (hb.block g' (Nat.lt_of_lt_of_le (Array.getElem?_eq_some_iff.1 hg').1 hB)).trans hg', h2⟩
theorem row_grown {w w' w0 : World} {B base : Nat} {e : TypeId} {s : Nat} {v : Value} {n : Nat} {l : List Value} (h : w.ownsRow base e s v n l) (hg : w.grownBy w' v.ownBlock) (hb : Below B w0 w) (hB : B ≤ base) (hw : B ≤ w.heap.size) : Below B w0 w' := by
  refine below_grown hb hg hw (fun k hk => ?_)
  rcases h.2 with ⟨rfl, _⟩ | ⟨g, cap, cur, rfl, h5, _⟩
  · exact absurd hk (by simp [Value.ownBlock])
  · have : g = k := by simpa [Value.ownBlock] using hk
    omega
theorem row_slice {w : World} {base : Nat} {e : TypeId} {v : Value} {n : Nat} {l : List Value} (h : w.ownsRow base e 1 v n l) : ∃ A C, v = .slice A n C ∧ n ≤ C ∧ C ≤ maxLen ∧ (A = none → C = 0) := by
  rcases h.2 with ⟨rfl, rfl⟩ | ⟨g, cap, cur, rfl, h1, h2, h3, h4, _⟩
  · exact ⟨none, 0, rfl, by omega, by omega, fun _ => rfl⟩
  · exact ⟨_, _, rfl, h3, h4, fun h => nomatch h⟩
theorem wpList_append_int2 {w : World} {ops : Array Oper} {rest : List Oper} {o : Oper} {a : Act} {Q : Exit → Act → World → Prop} (hgd : o.guard = none) (s x : Operand)
    (ho : o.op = .call { callee := .builtin .append, args := #[s, x], argTypes := #[112, 112] })
    (base : Nat) (v : Value) (n : Nat) (hs : a.eval s = v) (l : List Int) (hown : OwnI w base v n l)
    (g : Nat) (hx : a.eval x = .slice (some ⟨g, 0, none⟩) 1 1) (z : Int) (hy : w.cell? ⟨g, 0, none⟩ = some (.int .i64 z)) (hb : n + 1 ≤ 100000) (hbase : base ≤ w.heap.size)
    (h : ∀ v' w', OwnI w' base v' (n + 1) (l ++ [z]) → w.grownBy w' v.ownBlock → wpList Try.prog ops Q rest (a.put o.dst v') w') :
    wpList Try.prog ops Q (o :: rest) a w := by
  refine wpList_plain hgd fun K hK => ?_
  obtain ⟨i, hi, hzz⟩ := Option.map_eq_some_iff.1 info_i64
  simp only [Prod.mk.injEq] at hzz
  obtain ⟨hz, hsz, hby⟩ := hzz
  refine wp_append_own w s x 112 ho base 3 i (.int .i64 0) 1 8 Try.underlying112 hi hz hsz hby rfl (by omega) _ n _ hs hown ⟨g, 0, none⟩ 1 1 [.int .i64 z] hx rfl ?_ ?_ (by unfold maxLen; omega) (by omega) hbase ?_
  · intro j u hu
    cases j with
    | zero => simp at hu; subst hu; rw [onto_any]; exact hy
    | succ j => simp at hu
  · intro u hu
    simp at hu
    subst hu
    rfl
  · intro v' w' h1 h2 _
    have h3 : OwnI w' base v' (n + 1) (l ++ [z]) := by unfold OwnI; rw [List.map_append]; exact h1
    exact hK _ _ (h v' w' h3 h2)
theorem wpList_append_sl {w : World} {ops : Array Oper} {rest : List Oper} {o : Oper} {a : Act} {Q : Exit → Act → World → Prop} (hgd : o.guard = none) (s x : Operand)
    (ho : o.op = .call { callee := .builtin .append, args := #[s, x], argTypes := #[26, 26] })
    (base : Nat) (v : Value) (n : Nat) (hs : a.eval s = v) (l : List Value) (hown : OwnS w base v n l)
    (g : Nat) (hx : a.eval x = .slice (some ⟨g, 0, none⟩) 1 1) (A : Option Addr) (L C : Nat) (hy : w.cell? ⟨g, 0, none⟩ = some (.slice A L C)) (hb : n + 1 ≤ 100000) (hbase : base ≤ w.heap.size)
    (h : ∀ v' w', OwnS w' base v' (n + 1) (l ++ [.slice A L C]) → w.grownBy w' v.ownBlock → wpList Try.prog ops Q rest (a.put o.dst v') w') :
    wpList Try.prog ops Q (o :: rest) a w := by
  refine wpList_plain hgd fun K hK => ?_
  obtain ⟨i, hi, hzz⟩ := Option.map_eq_some_iff.1 info_row
  simp only [Prod.mk.injEq] at hzz
  obtain ⟨hz, hsz, hby⟩ := hzz
  refine wp_append_own w s x 26 ho base 42 i (.slice none 0 0) 1 24 Try.underlying26 hi hz hsz hby rfl (by omega) _ n _ hs hown ⟨g, 0, none⟩ 1 1 [.slice A L C] hx rfl ?_ ?_ (by unfold maxLen; omega) (by omega) hbase ?_
  · intro j u hu
    cases j with
    | zero => simp at hu; subst hu; rw [onto_any]; exact hy
    | succ j => simp at hu
  · intro u hu
    simp at hu
    subst hu
    rfl
  · intro v' w' h1 h2 _
    exact hK _ _ (h v' w' h1 h2)
/-- Such a row of numbers read. -/
theorem OwnI.ints {w : World} {base n C : Nat} {A : Option Addr} {l : List Int} (h : OwnI w base (.slice A n C) n l) : Ints w A n (fun i => l.getD i 0) := by
  have hlen : l.length = n := by have := h.1; simpa using this
  rcases h.2 with ⟨e, h0⟩ | ⟨g, cap, cur, e, _, hg, _, _, _, _⟩
  · exact .inl h0
  · simp only [Value.slice.injEq, true_and] at e
    obtain ⟨rfl, rfl⟩ := e
    refine .inr ⟨g, 0, rfl, (Array.getElem?_eq_some_iff.1 hg).1, fun i hi => ?_⟩
    have := World.ownsRow.cellAt h i (by omega)
    rw [Nat.zero_add, this, List.getElem?_map]
    show Option.map (Value.int IntKind.i64) l[i]? = some (Value.int IntKind.i64 (l.getD i 0))
    rw [List.getD_eq_getElem?_getD, List.getElem?_eq_getElem (by omega)]
    rfl
theorem OwnS.cols {w : World} {base n C0 : Nat} {A0 : Option Addr} {l : List Value} (A : Nat → Option Addr) (L C : Nat → Nat) (X : Nat → List Int) (h : OwnS w base (.slice A0 n C0) n l) (hl : ∀ i, i < n → l[i]? = some (.slice (A i) (L i) (C i))) (hs : ∀ i, i < n → Sl w (A i) (L i) (C i) (X i)) : ColsIn w A0 n C0 A L C X := by
  rcases h.2 with ⟨e, h0⟩ | ⟨g, cap, cur, e, _, hg, h1, h2, _, _⟩
  · simp only [Value.slice.injEq] at e
    obtain ⟨rfl, rfl, rfl⟩ := e
    exact ⟨by omega, by omega, fun _ => rfl, fun r hr => absurd hr (by omega)⟩
  · simp only [Value.slice.injEq, true_and] at e
    obtain ⟨rfl, rfl⟩ := e
    refine ⟨h1, by unfold maxLen at h2; omega, (fun h => nomatch h), fun r hr => ⟨⟨g, 0, rfl, (Array.getElem?_eq_some_iff.1 hg).1, ?_⟩, hs r hr⟩⟩
    have := World.ownsRow.cellAt h r (by omega)
    rw [Nat.zero_add, this]
    exact hl r hr
end Go.Proofs.Ytphddcbkjikgfaa
namespace Go.Proofs.Ytphddcbkjikgfaa
open Go.RowKit

/-- The numbers, and the shards, in order, as they lie in memory. -/
def numsV (I : Nat → Int) (n V : Nat) : List Int := (ordL I n V).map (fun u : Nat => (u : Int))
def datV (I : Nat → Int) (A : Nat → Option Addr) (L C : Nat → Nat) (n V : Nat) : List Value := (ordL I n V).map (fun u : Nat => .slice (A (whr I n u).toNat) (L (whr I n u).toNat) (C (whr I n u).toNat))
theorem numsV_yes {I : Nat → Int} {n V : Nat} (h : 0 ≤ whr I n V) : numsV I n (V + 1) = numsV I n V ++ [(V : Int)] := by
  unfold numsV
  rw [show ordL I n (V + 1) = ordL I n V ++ [V] by rw [ordL, if_pos h], List.map_append]
  rfl
theorem datV_yes {I : Nat → Int} {A : Nat → Option Addr} {L C : Nat → Nat} {n V p : Nat} (h : whr I n V = p) : datV I A L C n (V + 1) = datV I A L C n V ++ [.slice (A p) (L p) (C p)] := by
  unfold datV
  rw [show ordL I n (V + 1) = ordL I n V ++ [V] by rw [ordL, if_pos (by omega)], List.map_append]
  simp [h]
theorem ord_yes {I : Nat → Int} {n V : Nat} (h : 0 ≤ whr I n V) : (ordL I n (V + 1)).length = (ordL I n V).length + 1 := by rw [ordL, if_pos h, List.length_append]; rfl
theorem ord_no {I : Nat → Int} {n V : Nat} (h : ¬ 0 ≤ whr I n V) : ordL I n (V + 1) = ordL I n V := by rw [ordL, if_neg h]
theorem ord_le (I : Nat → Int) (n : Nat) : ∀ V, (ordL I n V).length ≤ V
  | 0 => Nat.le_refl _
  | V + 1 => by
    have := ord_le I n V
    rw [ordL]
    split
    · rw [List.length_append]; show _ + 1 ≤ _; omega
    · omega
theorem numsV_get {I : Nat → Int} {n V q : Nat} (h : q < (ordL I n V).length) : (numsV I n V).getD q 0 = (nth I n V q : Int) := by
  unfold numsV nth
  rw [List.getD_eq_getElem?_getD, List.getElem?_map, List.getD_eq_getElem?_getD, List.getElem?_eq_getElem h]
  rfl
theorem datV_get {I : Nat → Int} {A : Nat → Option Addr} {L C : Nat → Nat} {n V q : Nat} (h : q < (ordL I n V).length) : (datV I A L C n V)[q]? = some (.slice (A (std I n V q)) (L (std I n V q)) (C (std I n V q))) := by
  unfold datV std nth
  rw [List.getElem?_map, List.getD_eq_getElem?_getD, List.getElem?_eq_getElem h]
  rfl
/-- What is the matter with a list of shards? -/
inductive Ordered (I : Nat → Int) (A : Nat → Option Addr) (L C : Nat → Nat) (X : Nat → List Int) (k N n : Nat) (w : World) (e : Ending) (w' : World) : Prop
  | index (h : ¬ GoodIx I N n) (he : e = .returned (.tuple #[.slice none 0 0, .slice none 0 0, .int .i64 62])) (hb : Below w.heap.size w w') : Ordered I A L C X k N n w e w'
  | few (h : GoodIx I N n) (hn : n < k) (he : e = .returned (.tuple #[.slice none 0 0, .slice none 0 0, .int .i64 63])) (hb : Below w.heap.size w w') : Ordered I A L C X k N n w e w'
  | length (h : GoodIx I N n) (hn : k ≤ n) (hl : ¬ EvenL n (fun q => L (std I n N q))) (he : e = .returned (.tuple #[.slice none 0 0, .slice none 0 0, .int .i64 61])) (hb : Below w.heap.size w w') : Ordered I A L C X k N n w e w'
  | good (h : GoodIx I N n) (hn : k ≤ n) (hl : EvenL n (fun q => L (std I n N q))) (A1 A2 : Option Addr) (C1 C2 : Nat) (he : e = .returned (.tuple #[.slice A1 n C1, .slice A2 n C2, .int .i64 0])) (hc1 : n ≤ C1 ∧ C1 ≤ 9223372036854775807 ∧ (A1 = none → C1 = 0))
      (h1 : Ints w' A1 n (fun q => (nth I n N q : Nat))) (h2 : ColsIn w' A2 n C2 (fun q => A (std I n N q)) (fun q => L (std I n N q)) (fun q => C (std I n N q)) (fun q => X (std I n N q))) (hb : Below w.heap.size w w') : Ordered I A L C X k N n w e w'
end Go.Proofs.Ytphddcbkjikgfaa
