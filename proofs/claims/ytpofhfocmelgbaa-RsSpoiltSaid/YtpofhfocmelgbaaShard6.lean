/-
  Own text: shards in rows of the call's own; lists put together; the arithmetic of what was encoded.
-/
import Derived.Test.YtpofhfocmelgbaaRDec6
import Derived.Test.YtpofhfocmelgbaaOpen6
namespace Go.Proofs.Ytpofhfocmelgbaa
open Go.RowKit

theorem info_shard : (Try.prog.info? 47).map (fun i => (i.zero, i.size, i.bytes)) = some (some (.agg #[.int .i64 0, .slice none 0 0]), 2, 32) := by kernel_rfl
/-- Shards in a row of the call's own. -/
def OwnH (w : World) (base : Nat) (v : Value) (n : Nat) (l : List Value) : Prop := w.ownsRow base 47 2 v n l
theorem OwnH.none (w : World) (base : Nat) : OwnH w base (.slice none 0 0) 0 [] := ⟨rfl, .inl ⟨rfl, rfl⟩⟩
/-- Their cells. -/
def shV (I : Nat → Int) (A : Nat → Option Addr) (L C : Nat → Nat) : Nat → List Value
  | 0 => []
  | q + 1 => shV I A L C q ++ [.int .i64 (I q), .slice (A q) (L q) (C q)]
theorem shV_len (I : Nat → Int) (A : Nat → Option Addr) (L C : Nat → Nat) : ∀ q, (shV I A L C q).length = q * 2
  | 0 => rfl
  | q + 1 => by show (shV I A L C q ++ _).length = _; rw [List.length_append, shV_len I A L C q]; show q * 2 + 2 = (q + 1) * 2; omega
theorem shV_get (I : Nat → Int) (A : Nat → Option Addr) (L C : Nat → Nat) : ∀ q i, i < q → (shV I A L C q)[i * 2]? = some (.int .i64 (I i)) ∧ (shV I A L C q)[i * 2 + 1]? = some (.slice (A i) (L i) (C i))
  | 0, i, h => absurd h (by omega)
  | q + 1, i, h => by
    have hl := shV_len I A L C q
    show (shV I A L C q ++ [.int .i64 (I q), .slice (A q) (L q) (C q)])[i * 2]? = _ ∧ (shV I A L C q ++ [.int .i64 (I q), .slice (A q) (L q) (C q)])[i * 2 + 1]? = _
    by_cases e : i = q
    · rw [List.getElem?_append_right (by omega), List.getElem?_append_right (by omega), hl, e, show q * 2 - q * 2 = 0 by omega, show q * 2 + 1 - q * 2 = 1 by omega]
      exact ⟨rfl, rfl⟩
    · rw [List.getElem?_append_left (by omega), List.getElem?_append_left (by omega)]
      exact shV_get I A L C q i (by omega)
theorem shV_congr {I I' : Nat → Int} {A A' : Nat → Option Addr} {L L' C C' : Nat → Nat} : ∀ q, (∀ i, i < q → I i = I' i ∧ A i = A' i ∧ L i = L' i ∧ C i = C' i) → shV I A L C q = shV I' A' L' C' q
  | 0, _ => rfl
  | q + 1, h => by
    obtain ⟨h1, h2, h3, h4⟩ := h q (by omega)
    show shV I A L C q ++ _ = shV I' A' L' C' q ++ _
    rw [shV_congr q (fun i hi => h i (by omega)), h1, h2, h3, h4]
theorem wpList_append_sh {w : World} {ops : Array Oper} {rest : List Oper} {o : Oper} {a : Act} {Q : Exit → Act → World → Prop} (hgd : o.guard = Option.none) (s x : Operand)
    (ho : o.op = .call { callee := .builtin .append, args := #[s, x], argTypes := #[45, 45] })
    (base : Nat) (v : Value) (n : Nat) (hs : a.eval s = v) (l : List Value) (hown : OwnH w base v n l)
    (g : Nat) (hx : a.eval x = .slice (some ⟨g, 0, Option.none⟩) 1 1) (z : Int) (A : Option Addr) (L C : Nat) (hy : w.heap[g]? = some (.cells #[.int .i64 z, .slice A L C] 47 (0, 0))) (hb : n + 1 ≤ 100000) (hbase : base ≤ w.heap.size)
    (h : ∀ v' w', OwnH w' base v' (n + 1) (l ++ [.int .i64 z, .slice A L C]) → w.grownBy w' v.ownBlock → wpList Try.prog ops Q rest (a.put o.dst v') w') :
    wpList Try.prog ops Q (o :: rest) a w := by
  refine wpList_plain hgd fun K hK => ?_
  obtain ⟨i, hi, hzz⟩ := Option.map_eq_some_iff.1 info_shard
  simp only [Prod.mk.injEq] at hzz
  obtain ⟨hz, hsz, hby⟩ := hzz
  refine wp_append_own w s x 45 ho base 47 i (.agg #[.int .i64 0, .slice Option.none 0 0]) 2 32 Try.underlying45 hi hz hsz hby rfl (by omega) _ n _ hs hown ⟨g, 0, Option.none⟩ 1 1 [.int .i64 z, .slice A L C] hx rfl ?_ ?_ (by unfold maxLen; omega) (by omega) hbase ?_
  · intro j u hu
    rw [add_any]
    match j with
    | 0 => simp at hu; subst hu; simp only [World.cell?, hy]; rfl
    | 1 => simp at hu; subst hu; simp only [World.cell?, hy]; rfl
    | j + 2 => simp at hu
  · intro u hu
    simp at hu
    rcases hu with rfl | rfl <;> rfl
  · intro v' w' h1 h2 _
    exact hK _ _ (h v' w' h1 h2)
theorem new_shard (W : World) (z : Int) (A : Option Addr) (L C : Nat) : (W.alloc (.cells #[.int .i64 z, .slice A L C] 47)).heap[W.heap.size]? = some (.cells #[.int .i64 z, .slice A L C] 47 (0, 0)) := Go.Deep.blk_alloc_new _ _
theorem OwnH.slice {w : World} {base : Nat} {v : Value} {n : Nat} {l : List Value} (h : OwnH w base v n l) : ∃ A C, v = .slice A n C ∧ n ≤ C ∧ C ≤ maxLen ∧ (A = Option.none → C = 0) := by
  rcases h.2 with ⟨rfl, rfl⟩ | ⟨g, cap, cur, rfl, h1, h2, h3, h4, _⟩
  · exact ⟨Option.none, 0, rfl, by omega, by omega, fun _ => rfl⟩
  · exact ⟨_, _, rfl, h3, h4, fun h => nomatch h⟩
/-- Such a row read. -/
theorem OwnH.shards {w : World} {base n C0 : Nat} {A0 : Option Addr} (I : Nat → Int) (A : Nat → Option Addr) (L C : Nat → Nat) (X : Nat → List Int) (h : OwnH w base (.slice A0 n C0) n (shV I A L C n)) (hI : ∀ i, i < n → -9223372036854775808 ≤ I i ∧ I i ≤ 9223372036854775807) (hs : ∀ i, i < n → Sl w (A i) (L i) (C i) (X i)) : ShardsIn w A0 n C0 I A L C X := by
  obtain ⟨A', C', e, h1, h2, h3⟩ := h.slice
  cases e
  refine ⟨h1, by unfold maxLen at h2; omega, h3, hI, fun r hr => ?_, hs⟩
  rcases h.2 with ⟨e, h0⟩ | ⟨g, cap, cur, e, _, hg, _, _, hsz, hcur⟩
  · omega
  · cases e
    obtain ⟨g1, g2⟩ := shV_get I A L C n r hr
    rw [← hcur] at g1 g2
    rw [List.getElem?_take, if_pos (by omega)] at g1 g2
    refine ⟨g, 0, rfl, (Array.getElem?_eq_some_iff.1 hg).1, ?_, ?_⟩
    · rw [Nat.zero_add]; simp only [World.cell?, hg]; simpa using g1
    · rw [Nat.zero_add]; simp only [World.cell?, hg]; simpa using g2
/-- Several slices more. -/
theorem wpList_append_sls {w : World} {ops : Array Oper} {rest : List Oper} {o : Oper} {a : Act} {Q : Exit → Act → World → Prop} (hgd : o.guard = Option.none) (s x : Operand)
    (ho : o.op = .call { callee := .builtin .append, args := #[s, x], argTypes := #[37, 37] })
    (base : Nat) (v : Value) (n : Nat) (hs : a.eval s = v) (l : List Value) (hown : OwnS w base v n l)
    (xa : Option Addr) (m c : Nat) (hx : a.eval x = .slice xa m c) (A : Nat → Option Addr) (L C : Nat → Nat) (X : Nat → List Int) (hy : ColsIn w xa m c A L C X) (hxa : xa ≠ Option.none) (hb : n + m ≤ 100000) (hbase : base ≤ w.heap.size)
    (h : ∀ v' w', OwnS w' base v' (n + m) (l ++ datR A L C m) → w.grownBy w' v.ownBlock → wpList Try.prog ops Q rest (a.put o.dst v') w') :
    wpList Try.prog ops Q (o :: rest) a w := by
  refine wpList_plain hgd fun K hK => ?_
  obtain ⟨i, hi, hzz⟩ := Option.map_eq_some_iff.1 info_row
  simp only [Prod.mk.injEq] at hzz
  obtain ⟨hz, hsz, hby⟩ := hzz
  obtain ⟨ad, rfl⟩ := Option.ne_none_iff_exists'.1 hxa
  refine wp_append_own w s x 37 ho base 31 i (.slice Option.none 0 0) 1 24 Try.underlying37 hi hz hsz hby rfl (by omega) _ n _ hs hown ad m c (datR A L C m) hx (by unfold datR; simp) ?_ ?_ (by unfold maxLen; omega) (by omega) hbase ?_
  · intro j u hu
    have hj : j < m := by
      rcases Nat.lt_or_ge j m with g | g
      · exact g
      · rw [List.getElem?_eq_none (by unfold datR; simpa using g)] at hu; simp at hu
    rw [datR_get hj] at hu
    cases hu
    obtain ⟨⟨b, off, e, _, hc⟩, _⟩ := hy.2.2.2 j hj
    cases e
    rw [add_any]
    exact hc
  · intro u hu
    unfold datR at hu
    obtain ⟨r, _, rfl⟩ := List.mem_map.1 hu
    rfl
  · intro v' w' h1 h2 _
    exact hK _ _ (h v' w' h1 h2)
theorem OwnS.lit (w : World) (base : Nat) (h : base ≤ w.heap.size) : OwnS (w.alloc (.cells #[] 31)) base (.slice (some ⟨w.heap.size, 0, Option.none⟩) 0 0) 0 [] :=
  ⟨rfl, .inr ⟨w.heap.size, 0, #[], rfl, h, Go.Deep.blk_alloc_new _ _, by omega, by omega, rfl, rfl⟩⟩
/-- The code word of data: its value at a place. -/
def wordE (D : Nat → List Int) (k x c : Nat) : Nat := xs (fun j => mu (lagw nid k j x) (co (D j) c)) k
theorem word_first {D : Nat → List Int} {k x : Nat} (hk : k ≤ 256) (hD : ∀ j, By (D j)) (hx : x < k) (c : Nat) : wordE D k x c = co (D x) c := weights_first hk (fun j => co (D j) c) (fun j => (hD j).lt c) hx
theorem wordE_congr {D D' : Nat → List Int} {k x c : Nat} (h : ∀ j, j < k → co (D j) c = co (D' j) c) : wordE D k x c = wordE D' k x c :=
  xs_congr k (fun j hj => by show mu (lagw nid k j x) (co (D j) c) = mu (lagw nid k j x) (co (D' j) c); rw [h j hj])
theorem word_first2 {D : Nat → List Int} {k x : Nat} (hk : k ≤ 256) (hD : ∀ j, j < k → By (D j)) (hx : x < k) (c : Nat) : wordE D k x c = co (D x) c := by
  have h := word_first (D := fun j => if j < k then D j else []) hk (fun j => by
    by_cases g : j < k
    · show By (if j < k then D j else []); rw [if_pos g]; exact hD j g
    · show By (if j < k then D j else []); rw [if_neg g]; exact By.nil) hx c
  rw [wordE_congr (D' := D) (fun j hj => by show co (if j < k then D j else []) c = _; rw [if_pos hj])] at h
  rw [h]
  show co (if x < k then D x else []) c = _
  rw [if_pos hx]
theorem whr_congr {I I' : Nat → Int} (v : Int) : ∀ n, (∀ i, i < n → I i = I' i) → whr I n v = whr I' n v
  | 0, _ => rfl
  | n + 1, h => by
    show (if I n = v then (n : Int) else whr I n v) = if I' n = v then (n : Int) else whr I' n v
    rw [h n (by omega), whr_congr v n (fun i hi => h i (by omega))]
theorem tmod_in (a : Int) (n : Nat) (h : 0 < n) : -(n : Int) < a.tmod n ∧ a.tmod n < n := ⟨Int.lt_tmod_of_pos _ (by omega), Int.tmod_lt_of_pos _ (by omega)⟩
/-- What shards of it tell of another place. -/
theorem dec_word {I : Nat → Int} {X D : Nat → List Int} {k N n z len : Nat} (hN : N ≤ 255) (hg : GoodIx I N n) (hk : k ≤ n) (hX : ∀ i, i < n → ∀ c, c < len → co (X i) c = wordE D k (I i).toNat c) (hz : z < 256) {c : Nat} (hc : c < len) : decE I X k N n z c = wordE D k z c := by
  have hlen := ordL_len n hg
  have hle := ord_le I n N
  unfold decE wordE
  rw [← weights_tell (P := nth I n N) (k := k) (by omega) (fun i hi => by have : nth I n N i < N := nth_lt (by omega); omega) (fun i j h1 h2 => Nat.ne_of_lt (nth_mono h1 (by omega))) (fun j => co (D j) c) hz]
  refine xs_congr k (fun j hj => ?_)
  obtain ⟨h1, h2, _⟩ := std_spec (I := I) (n := n) (V := N) (q := j) (by omega)
  have h3 := hX _ h1 c hc
  rw [h2, Int.toNat_natCast] at h3
  show mu (lagw (nth I n N) k j z) (co (X (std I n N j)) c) = mu (lagw (nth I n N) k j z) _
  rw [h3]
  rfl
theorem fit_word {I : Nat → Int} {L : Nat → Nat} {X D : Nat → List Int} {k N n len : Nat} (hN : N ≤ 255) (hg : GoodIx I N n) (hk : k ≤ n) (hX : ∀ i, i < n → ∀ c, c < len → co (X i) c = wordE D k (I i).toNat c) (hL : L (std I n N 0) = len) : FitL I L X k N n := by
  rw [fit_all hg]
  intro i hi c hc
  rw [hL] at hc
  have := hg i hi
  rw [dec_word hN hg hk hX (by omega) hc, hX i hi c hc]
end Go.Proofs.Ytpofhfocmelgbaa
