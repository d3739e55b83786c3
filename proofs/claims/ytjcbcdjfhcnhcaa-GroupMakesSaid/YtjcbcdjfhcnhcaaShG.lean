/-
  Own text: several slices appended; the code word of data. (Parts of Check6 and Shard6 until round 18.)
-/
import Derived.Test.YtjcbcdjfhcnhcaaREncode
namespace Go.Proofs.Ytjcbcdjfhcnhcaa
open Go.RowKit

/-- The shards' bytes, as they stand. -/
def datR (A : Nat → Option Addr) (L C : Nat → Nat) (q : Nat) : List Value := (List.range q).map (fun r : Nat => .slice (A r) (L r) (C r))
theorem datR_succ (A : Nat → Option Addr) (L C : Nat → Nat) (q : Nat) : datR A L C (q + 1) = datR A L C q ++ [.slice (A q) (L q) (C q)] := by unfold datR; rw [List.range_succ, List.map_append]; rfl
theorem datR_get {A : Nat → Option Addr} {L C : Nat → Nat} {q i : Nat} (h : i < q) : (datR A L C q)[i]? = some (.slice (A i) (L i) (C i)) := by unfold datR; simp [h]
/-- Several slices more. -/
theorem wpList_append_sls {w : World} {ops : Array Oper} {rest : List Oper} {o : Oper} {a : Act} {Q : Exit → Act → World → Prop} (hgd : o.guard = Option.none) (s x : Operand)
    (ho : o.op = .call { callee := .builtin .append, args := #[s, x], argTypes := #[26, 26] })
    (base : Nat) (v : Value) (n : Nat) (hs : a.eval s = v) (l : List Value) (hown : OwnS w base v n l)
    (xa : Option Addr) (m c : Nat) (hx : a.eval x = .slice xa m c) (A : Nat → Option Addr) (L C : Nat → Nat) (X : Nat → List Int) (hy : ColsIn w xa m c A L C X) (hxa : xa ≠ Option.none) (hb : n + m ≤ 100000) (hbase : base ≤ w.heap.size)
    (h : ∀ v' w', OwnS w' base v' (n + m) (l ++ datR A L C m) → w.grownBy w' v.ownBlock → wpList Try.prog ops Q rest (a.put o.dst v') w') :
    wpList Try.prog ops Q (o :: rest) a w := by
  refine wpList_plain hgd fun K hK => ?_
  obtain ⟨i, hi, hzz⟩ := Option.map_eq_some_iff.1 info_row
  simp only [Prod.mk.injEq] at hzz
  obtain ⟨hz, hsz, hby⟩ := hzz
  obtain ⟨ad, rfl⟩ := Option.ne_none_iff_exists'.1 hxa
  refine wp_append_own w s x 26 ho base 42 i (.slice Option.none 0 0) 1 24 Try.underlying26 hi hz hsz hby rfl (by omega) _ n _ hs hown ad m c (datR A L C m) hx (by unfold datR; simp) ?_ ?_ (by unfold maxLen; omega) (by omega) hbase ?_
  · intro j u hu
    have hj : j < m := by
      rcases Nat.lt_or_ge j m with g | g
      · exact g
      · rw [List.getElem?_eq_none (by unfold datR; simpa using g)] at hu; simp at hu
    rw [datR_get hj] at hu
    cases hu
    obtain ⟨⟨b, off, e, _, hc⟩, _⟩ := hy.2.2.2 j hj
    cases e
    rw [onto_any]
    exact hc
  · intro u hu
    unfold datR at hu
    obtain ⟨r, _, rfl⟩ := List.mem_map.1 hu
    rfl
  · intro v' w' h1 h2 _
    exact hK _ _ (h v' w' h1 h2)
theorem OwnS.lit (w : World) (base : Nat) (h : base ≤ w.heap.size) : OwnS (w.alloc (.cells #[] 42)) base (.slice (some ⟨w.heap.size, 0, Option.none⟩) 0 0) 0 [] :=
  ⟨rfl, .inr ⟨w.heap.size, 0, #[], rfl, h, Go.Deep.blk_alloc_new _ _, by omega, by omega, rfl, rfl⟩⟩
/-- The code word of data: its value at a place. -/
def wordE (D : Nat → List Int) (k x c : Nat) : Nat := xs (fun j => mu (lagw nid k j x) (co (D j) c)) k
theorem word_first {D : Nat → List Int} {k x : Nat} (hk : k ≤ 256) (hD : ∀ j, By (D j)) (hx : x < k) (c : Nat) : wordE D k x c = co (D x) c := weights_first hk (fun j => co (D j) c) (fun j => (hD j).lt c) hx
theorem wordE_congr {D D' : Nat → List Int} {k x c : Nat} (h : ∀ j, j < k → co (D j) c = co (D' j) c) : wordE D k x c = wordE D' k x c :=
  xs_congr k (fun j hj => by show mu (lagw nid k j x) (co (D j) c) = mu (lagw nid k j x) (co (D' j) c); rw [h j hj])
theorem word_first2 {D : Nat → List Int} {k x : Nat} (hk : k ≤ 256) (hD : ∀ j, j < k → By (D j)) (hx : x < k) (c : Nat) : wordE D k x c = co (D x) c := by
  have h := word_first (D := fun j => if j < k then D j else []) hk (fun j => by
    by_cases g : j < k
    · show By (if j < k then D j else []); rw [if_pos g]; exact hD j g
    · show By (if j < k then D j else []); rw [if_neg g]; exact By.nil) hx c
  rw [wordE_congr (D' := D) (fun j hj => by show co (if j < k then D j else []) c = _; rw [if_pos hj])] at h
  rw [h]
  show co (if x < k then D x else []) c = _
  rw [if_pos hx]
end Go.Proofs.Ytjcbcdjfhcnhcaa
