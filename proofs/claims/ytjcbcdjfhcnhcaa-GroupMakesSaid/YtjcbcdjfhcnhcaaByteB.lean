/-
  Own text: slices of bytes that the call itself made, and what is appended to them.
-/
import Derived.Test.YtjcbcdjfhcnhcaaByteA
import Derived.Laws.AppendOwn
import Derived.Laws.AppendOwnNone
import Derived.Deep.RegionHeld3
import Derived.StillTailTactics
namespace Go.Proofs.Ytjcbcdjfhcnhcaa
open Go.RowKit

/-- A slice of bytes of the call's own, in a block from 'base' on. -/
def Own8 (w : World) (base : Nat) (v : Value) (n : Nat) (l : List Int) : Prop := w.ownsRow base 5 1 v n (l.map (Value.int .u8))
theorem Own8.length {w : World} {base : Nat} {v : Value} {n : Nat} {l : List Int} (h : Own8 w base v n l) : l.length = n := by
  have := h.1; simpa using this
theorem Own8.slice {w : World} {base : Nat} {v : Value} {n : Nat} {l : List Int} (h : Own8 w base v n l) : ∃ A C, v = .slice A n C ∧ n ≤ C ∧ C ≤ maxLen := by
  rcases h.2 with ⟨rfl, rfl⟩ | ⟨g, cap, cur, rfl, _, _, h1, h2, _⟩
  · exact ⟨_, _, rfl, Nat.le_refl _, Nat.zero_le _⟩
  · exact ⟨_, _, rfl, h1, h2⟩
theorem Own8.bytes {w : World} {base : Nat} {A : Option Addr} {n C : Nat} {l : List Int} (h : Own8 w base (.slice A n C) n l) (hz : ∀ z ∈ l, 0 ≤ z ∧ z ≤ 255) : Bytes w A n l := by
  have hl := h.length
  have hn : n ≤ 9223372036854775807 := by
    obtain ⟨A', C', e, h1, h2⟩ := h.slice
    unfold maxLen at h2
    simp at e
    omega
  refine ⟨hl, hn, fun i hi => ?_, ?_⟩
  · rw [List.getD_eq_getElem?_getD, List.getElem?_eq_getElem (by omega)]; exact hz _ (List.getElem_mem _)
  · by_cases h0 : n = 0
    · exact .inl h0
    · rcases h.2 with ⟨e, rfl⟩ | ⟨g, cap, cur, e, _, hg, _, _, _, _⟩
      · omega
      · simp only [Value.slice.injEq, true_and] at e
        obtain ⟨rfl, rfl⟩ := e
        refine .inr ⟨by omega, g, 0, rfl, ?_, fun i hi => ?_⟩
        · obtain ⟨h1, _⟩ := Array.getElem?_eq_some_iff.1 hg
          exact h1
        · have := World.ownsRow.cellAt h i (by omega)
          rw [Nat.zero_add, this, List.getElem?_map, List.getD_eq_getElem?_getD, List.getElem?_eq_getElem (by omega)]
          rfl
theorem Own8.lit (w : World) (base : Nat) (h : base ≤ w.heap.size) : Own8 (w.alloc (.cells #[] 5)) base (.slice (some ⟨w.heap.size, 0, none⟩) 0 0) 0 [] :=
  World.ownsRow_lit (base := base) (e := 5) (size := 1) w #[] 0 h (Nat.zero_le _) rfl
theorem Own8.row {w : World} {base b n : Nat} {l : List Int} (h : Row8 w b 5 l) (hb : base ≤ b) (hn : l.length = n) (hm : n ≤ maxLen) : Own8 w base (.slice (some ⟨b, 0, none⟩) n n) n l :=
  ⟨by simp [hn], .inr ⟨b, n, _, rfl, hb, h, Nat.le_refl _, hm, by simp [hn], by rw [List.take_of_length_le (by simp [hn])]⟩⟩
theorem Own8.below {w w' : World} {base B : Nat} {v : Value} {n : Nat} {l : List Int} (h : Own8 w base v n l) (hb : Below B w w') (hB : w.heap.size ≤ B) : Own8 w' base v n l := by
  refine ⟨h.1, h.2.imp id ?_⟩
  rintro ⟨g, cap, cur, e, h1, hg, h2⟩
  refine ⟨g, cap, cur, e, h1, ?_, h2⟩
  obtain ⟨h3, _⟩ := Array.getElem?_eq_some_iff.1 hg
  rw [hb.block g (by omega)]
  exact hg
theorem below_grown {B : Nat} {w0 w w' : World} {row : Option Nat} (h : Below B w0 w) (hg : w.grownBy w' row) (hB : B ≤ w.heap.size) (hr : ∀ k, row = some k → B ≤ k) : Below B w0 w' :=
  h.trans ⟨hg.os, hg.tape, hg.output, hg.size, fun k hk => hg.block k (by omega) (fun e => by have := hr k e.symm; omega)⟩
theorem Own8.ownBlock {w : World} {base : Nat} {v : Value} {n : Nat} {l : List Int} (h : Own8 w base v n l) : ∀ k, v.ownBlock = some k → base ≤ k := by
  intro k hk
  rcases h.2 with ⟨rfl, rfl⟩ | ⟨g, cap, cur, rfl, h1, _⟩
  · simp [Value.ownBlock] at hk
  · simp [Value.ownBlock] at hk; omega
theorem info_u8 : (Try.prog.info? 5).map (fun i => (i.zero, i.size, i.bytes)) = some (some (.int .u8 0), 1, 1) := by kernel_rfl
/-- Bytes are appended to a slice of the call's own. -/
theorem wp_append_bytes {w : World} {o : Oper} {a : Act} {K : Act → World → Prop} {Q : Exit → Act → World → Prop} (s x : Operand)
    (ho : o.op = .call { callee := .builtin .append, args := #[s, x], argTypes := #[42, 42] })
    (base : Nat) (dp : Option Addr) (n dC : Nat) (hs : a.eval s = .slice dp n dC) (l : List Int) (hown : Own8 w base (.slice dp n dC) n l)
    (sp : Option Addr) (m c : Nat) (hx : a.eval x = .slice sp m c) (y : List Int) (hy : Bytes w sp m y) (hnil : sp = none → c = 0) (hb : n + m ≤ 1000000) (B : Nat) (w0 : World) (hB : Below B w0 w) (hBb : B ≤ base) (hbase : base ≤ w.heap.size)
    (N : Nat) (hN : N = n + m) (L : List Int) (hL : L = l ++ y) (h : ∀ A C w', Hid (Own8 w' base (.slice A N C) N L) → Below B w0 w' → K (a.put o.dst (.slice A N C)) w') :
    o.wp Try.prog a w K Q := by
  subst hN hL
  obtain ⟨i, hi, hzz⟩ := Option.map_eq_some_iff.1 info_u8
  simp only [Prod.mk.injEq] at hzz
  obtain ⟨hz, hsz, hby⟩ := hzz
  cases sp with
  | none =>
    have hm : m = 0 := by
      rcases hy.cell with h | ⟨_, b, off, e, _⟩
      · exact h
      · simp at e
    subst hm
    have hc : c = 0 := hnil rfl
    subst hc
    have hy0 : y = [] := List.eq_nil_of_length_eq_zero hy.size
    subst hy0
    have hrun := run_append_owned_none (P := Try.prog) (w := w) base 42 o.type 5 i 1 Try.underlying42 hi _ n _ hown
    unfold Oper.wp
    simp [execOp, ho, resolve, invoke, builtin, hs, hx, hrun, Result.andThen]
    have h1 := h dp dC w (Lib.hid (by simpa using hown)) hB
    rw [Nat.add_zero] at h1
    exact h1
  | some ad =>
    have sy := hy.size
    refine wp_append_own w s x 42 ho base 5 i (.int .u8 0) 1 1 Try.underlying42 hi hz hsz hby rfl (by omega) _ n _ hs hown ad m c (y.map (Value.int .u8)) hx (by simp [sy]) ?_ ?_ (by unfold maxLen; omega) (by omega) hbase ?_
    · intro j u hu
      have hj : j < m := by
        rcases Nat.lt_or_ge j m with g | g
        · exact g
        · rw [List.getElem?_eq_none (by simp [sy]; exact g)] at hu; simp at hu
      rcases hy.cell with h | ⟨_, b, off, e, _, hc⟩
      · omega
      · simp only [Option.some.injEq] at e
        subst e
        have e : (⟨b, off, none⟩ : Addr).add j = ⟨b, off + j, none⟩ := by unfold Addr.add; split <;> simp_all
        rw [e, hc j hj, ← hu, List.getElem?_map, List.getD_eq_getElem?_getD, List.getElem?_eq_getElem (by omega)]
        rfl
    · intro u hu
      obtain ⟨z, _, rfl⟩ := List.mem_map.1 hu
      rfl
    · intro v' w' h1 h2 _
      have h3 : Own8 w' base v' (n + m) (l ++ y) := by unfold Own8; rw [List.map_append]; exact h1
      obtain ⟨A, C, rfl, _, _⟩ := h3.slice
      exact h A C w' (Lib.hid h3) (below_grown hB h2 (by omega) (fun k hk => Nat.le_trans hBb (hown.ownBlock k hk)))
theorem wpList_append_bytes {w : World} {ops : Array Oper} {rest : List Oper} {o : Oper} {a : Act} {Q : Exit → Act → World → Prop} (hgd : o.guard = none) (s x : Operand)
    (ho : o.op = .call { callee := .builtin .append, args := #[s, x], argTypes := #[42, 42] })
    (base : Nat) (dp : Option Addr) (n dC : Nat) (hs : a.eval s = .slice dp n dC) (l : List Int) (hown : Own8 w base (.slice dp n dC) n l)
    (sp : Option Addr) (m c : Nat) (hx : a.eval x = .slice sp m c) (y : List Int) (hy : Bytes w sp m y) (hnil : sp = none → c = 0) (hb : n + m ≤ 1000000) (B : Nat) (w0 : World) (hB : Below B w0 w) (hBb : B ≤ base) (hbase : base ≤ w.heap.size)
    (N : Nat) (hN : N = n + m) (L : List Int) (hL : L = l ++ y) (h : ∀ A C w', Hid (Own8 w' base (.slice A N C) N L) → Below B w0 w' → wpList Try.prog ops Q rest (a.put o.dst (.slice A N C)) w') :
    wpList Try.prog ops Q (o :: rest) a w :=
  wpList_plain hgd fun _ hK => wp_append_bytes s x ho base dp n dC hs l hown sp m c hx y hy hnil hb B w0 hB hBb hbase N hN L hL fun A C w' h1 h2 => hK _ _ (h A C w' h1 h2)
theorem step_append_bytes {w : World} {ops : Array Oper} {o : Oper} {a : Act} {K : Act → World → Prop} {Q : Exit → Act → World → Prop} {E : Prop} (hgd : o.guard = none) (s x : Operand)
    (ho : o.op = .call { callee := .builtin .append, args := #[s, x], argTypes := #[42, 42] })
    (base : Nat) (dp : Option Addr) (n dC : Nat) (hs : a.eval s = .slice dp n dC) (l : List Int) (hown : Own8 w base (.slice dp n dC) n l)
    (sp : Option Addr) (m c : Nat) (hx : a.eval x = .slice sp m c) (y : List Int) (hy : Bytes w sp m y) (hnil : sp = none → c = 0) (hb : n + m ≤ 1000000) (B : Nat) (w0 : World) (hB : Below B w0 w) (hBb : B ≤ base) (hbase : base ≤ w.heap.size)
    (N : Nat) (hN : N = n + m) (L : List Int) (hL : L = l ++ y) (h : ∀ A C w', Hid (Own8 w' base (.slice A N C) N L) → Below B w0 w' → K (a.put o.dst (.slice A N C)) w') :
    if Region.wanted o (yielded ops a.tmps) = true then Oper.wp Try.prog o a w K Q else E := by
  have hw : Region.wanted o (yielded ops a.tmps) = true := by simp [Region.wanted, hgd]
  rw [if_pos hw]
  exact wp_append_bytes s x ho base dp n dC hs l hown sp m c hx y hy hnil hb B w0 hB hBb hbase N hN L hL h
end Go.Proofs.Ytjcbcdjfhcnhcaa
