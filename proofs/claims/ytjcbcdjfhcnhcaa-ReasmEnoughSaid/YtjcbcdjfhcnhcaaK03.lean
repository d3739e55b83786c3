/-
  Own text: slices of bytes that the call itself made, and what is appended to them.
  Own text: Scale, walked.
    lists whose first places take sums (Mix), and rows of the call's own that are stored into. Plain lists.
  Own text: lists of bytes by their elements. Plain lists.
    the small ones of package matrix, walked: fits, Right, has, New.
    rows of a list of bytes, cut: each a slice of its own; walked.
    lists of numbers, those of the call's own.
    a block of bytes of the call's own, of which one knows the front part; what is copied and mixed into it.
    Mix into a part of a block of the call's own, walked: all other blocks are as they were.
-/
import Derived.Test.YtjcbcdjfhcnhcaaK01
import Derived.Test.YtjcbcdjfhcnhcaaK02
import Derived.Laws.AppendOwn
import Derived.Laws.AppendOwnNone
import Derived.Deep.RegionHeld3
import Derived.StillTailTactics
import Derived.Lib.Hide
import Derived.Handy
import Derived.Deep.RegionLaw
namespace Go.Proofs.Ytjcbcdjfhcnhcaa
open Go.RowKit

/-- A slice of bytes of the call's own, in a block from 'base' on. -/
def Own8 (w : World) (base : Nat) (v : Value) (n : Nat) (l : List Int) : Prop := w.ownsRow base 5 1 v n (l.map (Value.int .u8))
theorem Own8.length {w : World} {base : Nat} {v : Value} {n : Nat} {l : List Int} (h : Own8 w base v n l) : l.length = n := by
  have := h.1; simpa using this
theorem Own8.slice {w : World} {base : Nat} {v : Value} {n : Nat} {l : List Int} (h : Own8 w base v n l) : ∃ A C, v = .slice A n C ∧ n ≤ C ∧ C ≤ maxLen := by
  rcases h.2 with ⟨rfl, rfl⟩ | ⟨g, cap, cur, rfl, _, _, h1, h2, _⟩
  · exact ⟨_, _, rfl, Nat.le_refl _, Nat.zero_le _⟩
  · exact ⟨_, _, rfl, h1, h2⟩
theorem Own8.bytes {w : World} {base : Nat} {A : Option Addr} {n C : Nat} {l : List Int} (h : Own8 w base (.slice A n C) n l) (hz : ∀ z ∈ l, 0 ≤ z ∧ z ≤ 255) : Bytes w A n l := by
  have hl := h.length
  have hn : n ≤ 9223372036854775807 := by
    obtain ⟨A', C', e, h1, h2⟩ := h.slice
    unfold maxLen at h2
    simp at e
    omega
  refine ⟨hl, hn, fun i hi => ?_, ?_⟩
  · rw [List.getD_eq_getElem?_getD, List.getElem?_eq_getElem (by omega)]; exact hz _ (List.getElem_mem _)
  · by_cases h0 : n = 0
    · exact .inl h0
    · rcases h.2 with ⟨e, rfl⟩ | ⟨g, cap, cur, e, _, hg, _, _, _, _⟩
      · omega
      · simp only [Value.slice.injEq, true_and] at e
        obtain ⟨rfl, rfl⟩ := e
        refine .inr ⟨by omega, g, 0, rfl, ?_, fun i hi => ?_⟩
        · obtain ⟨h1, _⟩ := Array.getElem?_eq_some_iff.1 hg
          exact h1
        · have := World.ownsRow.cellAt h i (by omega)
          rw [Nat.zero_add, this, List.getElem?_map, List.getD_eq_getElem?_getD, List.getElem?_eq_getElem (by omega)]
          rfl
theorem Own8.lit (w : World) (base : Nat) (h : base ≤ w.heap.size) : Own8 (w.alloc (.cells #[] 5)) base (.slice (some ⟨w.heap.size, 0, none⟩) 0 0) 0 [] :=
  World.ownsRow_lit (base := base) (e := 5) (size := 1) w #[] 0 h (Nat.zero_le _) rfl
theorem Own8.row {w : World} {base b n : Nat} {l : List Int} (h : Row8 w b 5 l) (hb : base ≤ b) (hn : l.length = n) (hm : n ≤ maxLen) : Own8 w base (.slice (some ⟨b, 0, none⟩) n n) n l :=
  ⟨by simp [hn], .inr ⟨b, n, _, rfl, hb, h, Nat.le_refl _, hm, by simp [hn], by rw [List.take_of_length_le (by simp [hn])]⟩⟩
theorem Own8.below {w w' : World} {base B : Nat} {v : Value} {n : Nat} {l : List Int} (h : Own8 w base v n l) (hb : Below B w w') (hB : w.heap.size ≤ B) : Own8 w' base v n l := by
  refine ⟨h.1, h.2.imp id ?_⟩
  rintro ⟨g, cap, cur, e, h1, hg, h2⟩
  refine ⟨g, cap, cur, e, h1, ?_, h2⟩
  obtain ⟨h3, _⟩ := Array.getElem?_eq_some_iff.1 hg
  rw [hb.block g (by omega)]
  exact hg
theorem below_grown {B : Nat} {w0 w w' : World} {row : Option Nat} (h : Below B w0 w) (hg : w.grownBy w' row) (hB : B ≤ w.heap.size) (hr : ∀ k, row = some k → B ≤ k) : Below B w0 w' :=
  h.trans ⟨hg.os, hg.tape, hg.output, hg.size, fun k hk => hg.block k (by omega) (fun e => by have := hr k e.symm; omega)⟩
theorem Own8.ownBlock {w : World} {base : Nat} {v : Value} {n : Nat} {l : List Int} (h : Own8 w base v n l) : ∀ k, v.ownBlock = some k → base ≤ k := by
  intro k hk
  rcases h.2 with ⟨rfl, rfl⟩ | ⟨g, cap, cur, rfl, h1, _⟩
  · simp [Value.ownBlock] at hk
  · simp [Value.ownBlock] at hk; omega
theorem info_u8 : (Try.prog.info? 5).map (fun i => (i.zero, i.size, i.bytes)) = some (some (.int .u8 0), 1, 1) := by kernel_rfl
/-- Bytes are appended to a slice of the call's own. -/
theorem wp_append_bytes {w : World} {o : Oper} {a : Act} {K : Act → World → Prop} {Q : Exit → Act → World → Prop} (s x : Operand)
    (ho : o.op = .call { callee := .builtin .append, args := #[s, x], argTypes := #[42, 42] })
    (base : Nat) (dp : Option Addr) (n dC : Nat) (hs : a.eval s = .slice dp n dC) (l : List Int) (hown : Own8 w base (.slice dp n dC) n l)
    (sp : Option Addr) (m c : Nat) (hx : a.eval x = .slice sp m c) (y : List Int) (hy : Bytes w sp m y) (hnil : sp = none → c = 0) (hb : n + m ≤ 1000000) (B : Nat) (w0 : World) (hB : Below B w0 w) (hBb : B ≤ base) (hbase : base ≤ w.heap.size)
    (N : Nat) (hN : N = n + m) (L : List Int) (hL : L = l ++ y) (h : ∀ A C w', Hid (Own8 w' base (.slice A N C) N L) → Below B w0 w' → K (a.put o.dst (.slice A N C)) w') :
    o.wp Try.prog a w K Q := by
  subst hN hL
  obtain ⟨i, hi, hzz⟩ := Option.map_eq_some_iff.1 info_u8
  simp only [Prod.mk.injEq] at hzz
  obtain ⟨hz, hsz, hby⟩ := hzz
  cases sp with
  | none =>
    have hm : m = 0 := by
      rcases hy.cell with h | ⟨_, b, off, e, _⟩
      · exact h
      · simp at e
    subst hm
    have hc : c = 0 := hnil rfl
    subst hc
    have hy0 : y = [] := List.eq_nil_of_length_eq_zero hy.size
    subst hy0
    have hrun := run_append_owned_none (P := Try.prog) (w := w) base 42 o.type 5 i 1 Try.underlying42 hi _ n _ hown
    unfold Oper.wp
    simp [execOp, ho, resolve, invoke, builtin, hs, hx, hrun, Result.andThen]
    have h1 := h dp dC w (Lib.hid (by simpa using hown)) hB
    rw [Nat.add_zero] at h1
    exact h1
  | some ad =>
    have sy := hy.size
    refine wp_append_own w s x 42 ho base 5 i (.int .u8 0) 1 1 Try.underlying42 hi hz hsz hby rfl (by omega) _ n _ hs hown ad m c (y.map (Value.int .u8)) hx (by simp [sy]) ?_ ?_ (by unfold maxLen; omega) (by omega) hbase ?_
    · intro j u hu
      have hj : j < m := by
        rcases Nat.lt_or_ge j m with g | g
        · exact g
        · rw [List.getElem?_eq_none (by simp [sy]; exact g)] at hu; simp at hu
      rcases hy.cell with h | ⟨_, b, off, e, _, hc⟩
      · omega
      · simp only [Option.some.injEq] at e
        subst e
        have e : (⟨b, off, none⟩ : Addr).add j = ⟨b, off + j, none⟩ := by unfold Addr.add; split <;> simp_all
        rw [e, hc j hj, ← hu, List.getElem?_map, List.getD_eq_getElem?_getD, List.getElem?_eq_getElem (by omega)]
        rfl
    · intro u hu
      obtain ⟨z, _, rfl⟩ := List.mem_map.1 hu
      rfl
    · intro v' w' h1 h2 _
      have h3 : Own8 w' base v' (n + m) (l ++ y) := by unfold Own8; rw [List.map_append]; exact h1
      obtain ⟨A, C, rfl, _, _⟩ := h3.slice
      exact h A C w' (Lib.hid h3) (below_grown hB h2 (by omega) (fun k hk => Nat.le_trans hBb (hown.ownBlock k hk)))
theorem wpList_append_bytes {w : World} {ops : Array Oper} {rest : List Oper} {o : Oper} {a : Act} {Q : Exit → Act → World → Prop} (hgd : o.guard = none) (s x : Operand)
    (ho : o.op = .call { callee := .builtin .append, args := #[s, x], argTypes := #[42, 42] })
    (base : Nat) (dp : Option Addr) (n dC : Nat) (hs : a.eval s = .slice dp n dC) (l : List Int) (hown : Own8 w base (.slice dp n dC) n l)
    (sp : Option Addr) (m c : Nat) (hx : a.eval x = .slice sp m c) (y : List Int) (hy : Bytes w sp m y) (hnil : sp = none → c = 0) (hb : n + m ≤ 1000000) (B : Nat) (w0 : World) (hB : Below B w0 w) (hBb : B ≤ base) (hbase : base ≤ w.heap.size)
    (N : Nat) (hN : N = n + m) (L : List Int) (hL : L = l ++ y) (h : ∀ A C w', Hid (Own8 w' base (.slice A N C) N L) → Below B w0 w' → wpList Try.prog ops Q rest (a.put o.dst (.slice A N C)) w') :
    wpList Try.prog ops Q (o :: rest) a w :=
  wpList_plain hgd fun _ hK => wp_append_bytes s x ho base dp n dC hs l hown sp m c hx y hy hnil hb B w0 hB hBb hbase N hN L hL fun A C w' h1 h2 => hK _ _ (h A C w' h1 h2)
end Go.Proofs.Ytjcbcdjfhcnhcaa
namespace Go.Proofs.Ytjcbcdjfhcnhcaa
open Go.RowKit

/-- Bytes, each by an element. -/
def sc (a : Nat) (l : List Int) : List Int := l.map (fun z => ((gm a z.toNat : Nat) : Int))
/-- Behind so many rounds. -/
def scK (a : Nat) (l : List Int) (k : Nat) : List Int := sc a (l.take k) ++ List.replicate (l.length - k) 0
theorem sc_length (a : Nat) (l : List Int) : (sc a l).length = l.length := by simp [sc]
theorem scK_length (a : Nat) (l : List Int) (k : Nat) (h : k ≤ l.length) : (scK a l k).length = l.length := by simp [scK, sc]; omega
theorem scK_zero (a : Nat) (l : List Int) : scK a l 0 = List.replicate l.length 0 := by simp [scK, sc]
theorem scK_all (a : Nat) (l : List Int) : scK a l l.length = sc a l := by simp [scK]
theorem scK_step (a : Nat) (l : List Int) (k : Nat) (h : k < l.length) : (scK a l k).set k ((gm a (l.getD k 0).toNat : Nat) : Int) = scK a l (k + 1) := by
  unfold scK sc
  have e : (List.map (fun z => ((gm a z.toNat : Nat) : Int)) (List.take k l)).length = k := by simp; omega
  rw [List.set_append_right _ _ (by omega), e, Nat.sub_self, List.take_succ_eq_append_getElem h, List.map_append, List.append_assoc]
  congr 1
  rw [show l.length - k = (l.length - (k + 1)) + 1 by omega, List.replicate_succ, List.set_cons_zero, List.getD_eq_getElem?_getD, List.getElem?_eq_getElem h]
  rfl
theorem sc_range (a : Nat) (ha : a < 256) (l : List Int) (hl : ∀ z ∈ l, 0 ≤ z ∧ z ≤ 255) : ∀ z ∈ sc a l, 0 ≤ z ∧ z ≤ 255 := by
  intro z hz
  obtain ⟨y, hy, rfl⟩ := List.mem_map.1 hz
  have h := hl y hy
  have := gm_lt ha (show y.toNat < 256 by omega)
  omega
/-- What Scale leaves: a new block. -/
def Scaled (a n : Nat) (l : List Int) (w : World) (e : Ending) (w' : World) : Prop :=
  ∃ g, e = .returned (.slice (some ⟨g, 0, none⟩) n n) ∧ w.heap.size ≤ g ∧ Row8 w' g 5 (sc a l) ∧ Below w.heap.size w w'
set_option maxRecDepth 100000 in
theorem scale_any (t a : Nat) (x : Option Addr) (n cap : Nat) (l : List Int) (w : World) (ha : a < 256) (ht : IsTab w t) (hl : Bytes w x n l) (hn : n ≤ 100000) :
    Calls Try.prog 127 #[.pointer (some ⟨t, 0, none⟩), .int .u8 a, .slice x n cap] w (Scaled a n l w) := by
  have hmk : ∀ w : World, (Instr.makeSlice 42 (.int .i64 (n : Int)) (.int .i64 (n : Int))).run Try.prog w = .ok (.slice (some ⟨w.heap.size, 0, none⟩) n n) (w.alloc (.cells (madeCells #[.int .u8 0] n) 5)) := fun w =>
    run_make_row' (P := Try.prog) 42 5 (.int .u8 0) 1 Try.underlying42 (by kernel_rfl) rfl .i64 .i64 n (by omega) (by omega) w
  have HM := Lib.hid (fun w => made_row w n 5)
  have hsz := hl.size
  have HSZ := Lib.hid hsz
  have hlt := ht.lt
  have HL := Lib.hid hl
  have HT := Lib.hid ht
  clear hl ht hsz
  generalize madeCells #[Value.int .u8 0] n = M at *
  have H0 : Hid (Row8 (w.alloc (.cells M 5)) w.heap.size 5 (scK a l 0)) := Lib.hid (by rw [scK_zero, HSZ.out]; exact HM.out w)
  have HB0 : Hid (Below w.heap.size w (w.alloc (.cells M 5))) := Lib.hid ((Below.refl _ _).alloc (Nat.le_refl _) _)
  clear HM
  have HLT := Lib.hid hlt
  clear hlt
  go_enter Try.func127, Try.ntmps127
  go_wp2
  generalize w.alloc (.cells M 5) = W at *
  go_loopw [8, 9, 15] (fun _ _ i wr => ∃ k : Nat, k ≤ n ∧ i = .int .i64 k ∧ Hid (Row8 wr w.heap.size 5 (scK a l k)) ∧ Hid (Below w.heap.size w wr)) (fun _ _ i _ => n - (intOf i).toNat)
  case atStart => exact ⟨0, by omega, rfl, H0, HB0⟩
  case round =>
    obtain ⟨k, hk, rfl, HR, HB⟩ := hrel
    obtain ⟨wo, ho⟩ : ∃ wo, wo = wr := ⟨_, rfl⟩
    subst ho
    by_cases hlt : k < n
    · have h1 := HL.out.below HB.out (Nat.le_refl _)
      obtain ⟨b, off, rfl, c⟩ : ∃ b off, x = some ⟨b, off, none⟩ ∧ wo.cell? ⟨b, off + k, none⟩ = some (.int .u8 (l.getD k 0)) := by
        rcases h1.cell with h | ⟨_, b, off, e, _, h⟩
        · omega
        · exact ⟨b, off, e, h k hlt⟩
      obtain ⟨z0, z1⟩ := HL.out.byte k hlt
      have c2 := HR.out.cell k (by rw [scK_length _ _ _ (by rw [HSZ.out]; omega), HSZ.out]; exact hlt)
      have f2 := HR.out.frozen k
      have HS := Lib.hid (scK_step a l k (by rw [HSZ.out]; exact hlt))
      clear h1
      generalize l.getD k 0 = z at *
      obtain ⟨y, rfl⟩ : ∃ y : Nat, z = y := ⟨z.toNat, by omega⟩
      have CM := Lib.hid (fun (w : World) (ht : IsTab w t) => gmul_any t a y ha (by omega) w ht)
      have HT2 := Lib.hid (HT.out.below HB.out HLT.out)
      go_wp2_with (go_at_call 131; refine (CM.out _ HT2.out).mono ?_; rintro e w3 ⟨rfl, q, rfl⟩)
      go_roundw
      case rel =>
        refine ⟨k + 1, by omega, by go_num, ?_, ?_⟩
        · have h : Row8 (wo.drewN q) w.heap.size 5 (scK a l k) := HR.out
          have h2 := h.set k ((gm a y : Nat) : Int)
          have e := HS.out
          rw [Int.toNat_natCast] at e
          rw [e] at h2
          exact Lib.hid h2
        · exact Lib.hid ((below_drewN HB.out q).setCell (p := ⟨w.heap.size, k, none⟩) (Nat.le_refl _) _)
      case measure => simp [intOf]; omega
    · obtain rfl : k = n := by omega
      go_wp2
      go_ret
      refine ⟨w.heap.size, rfl, Nat.le_refl _, ?_, HB.out⟩
      have h := HR.out
      rw [← HSZ.out, scK_all] at h
      exact h
end Go.Proofs.Ytjcbcdjfhcnhcaa
namespace Go.Proofs.Ytjcbcdjfhcnhcaa
open Go.RowKit

/-- The first k places, each with what the other list has there. -/
def mixL (l s : List Int) (k : Nat) : List Int := l.mapIdx (fun i z => if i < k then ((z.toNat ^^^ (s.getD i 0).toNat : Nat) : Int) else z)
theorem set_get (l : List Int) (k i : Nat) (z : Int) (h : i < l.length) : (l.set k z).getD i 0 = if i = k then z else l.getD i 0 := by
  rw [List.getD_eq_getElem?_getD, List.getElem?_set, List.getD_eq_getElem?_getD]
  by_cases e : i = k
  · subst e; simp [h]
  · rw [if_neg (fun h => e h.symm), if_neg e]
theorem sc_get (a : Nat) (l : List Int) (i : Nat) (h : i < l.length) : (sc a l).getD i 0 = ((gm a (l.getD i 0).toNat : Nat) : Int) := by
  unfold sc
  simp [List.getD_eq_getElem?_getD, List.getElem?_eq_getElem h]
/-- Where a row of the call's own has an element: its block, and the element there. -/
theorem Own8.at_ {w : World} {base : Nat} {A : Option Addr} {n C : Nat} {l : List Int} (h : Own8 w base (.slice A n C) n l) (hn : 0 < n) :
    ∃ g, A = some ⟨g, 0, none⟩ ∧ base ≤ g ∧ g < w.heap.size ∧ (∀ i, i < n → w.cell? ⟨g, i, none⟩ = some (.int .u8 (l.getD i 0))) ∧ (∀ i, w.frozen? ⟨g, i, none⟩ = false) ∧
      ∀ i z, Own8 (w.setCell ⟨g, i, none⟩ (.int .u8 z)) base (.slice A n C) n (l.set i z) := by
  have hl := h.length
  rcases h.2 with ⟨e, rfl⟩ | ⟨g, cap, cur, e, h1, hg, _⟩
  · omega
  · simp only [Value.slice.injEq, true_and] at e
    obtain ⟨rfl, rfl⟩ := e
    obtain ⟨h2, _⟩ := Array.getElem?_eq_some_iff.1 hg
    refine ⟨g, rfl, h1, h2, fun i hi => ?_, fun i => World.ownsRow.frozenAt h i, fun i z => ?_⟩
    · rw [World.ownsRow.cellAt h i (by omega), List.getElem?_map, List.getD_eq_getElem?_getD, List.getElem?_eq_getElem (by omega)]; rfl
    · have := (World.ownsRow.stored h i (.int .u8 z)).1
      unfold Own8
      rw [List.map_set]
      exact this
theorem Own8.drewN {w : World} {base : Nat} {v : Value} {n : Nat} {l : List Int} (h : Own8 w base v n l) (k : Nat) : Own8 (w.drewN k) base v n l := h
end Go.Proofs.Ytjcbcdjfhcnhcaa
namespace Go.Proofs.Ytjcbcdjfhcnhcaa
open Go.RowKit

/-- A coefficient. -/
def co (l : List Int) (i : Nat) : Nat := (l.getD i 0).toNat
/-- Bytes. -/
def By (l : List Int) : Prop := ∀ z ∈ l, 0 ≤ z ∧ z ≤ 255
theorem By.at_ {l : List Int} (h : By l) (i : Nat) : 0 ≤ l.getD i 0 ∧ l.getD i 0 ≤ 255 := by
  by_cases g : i < l.length
  · rw [List.getD_eq_getElem?_getD, List.getElem?_eq_getElem g]; exact h _ (List.getElem_mem _)
  · rw [List.getD_eq_getElem?_getD, List.getElem?_eq_none (by omega)]; simp
theorem By.get {l : List Int} (h : By l) (i : Nat) : l.getD i 0 = (co l i : Int) := by have := h.at_ i; unfold co; omega
theorem By.lt {l : List Int} (h : By l) (i : Nat) : co l i < 256 := by have := h.at_ i; unfold co; omega
theorem By.zero {l : List Int} (h : By l) (i : Nat) : l.getD i 0 = 0 ↔ co l i = 0 := by have := h.at_ i; unfold co; omega
theorem By.take {l : List Int} (h : By l) (k : Nat) : By (l.take k) := fun z hz => h z (List.mem_of_mem_take hz)
theorem By.nil : By [] := fun _ h => by simp at h
theorem list_co {x y : List Int} (hx : By x) (hy : By y) (hn : x.length = y.length) (h : ∀ i, i < x.length → co x i = co y i) : x = y :=
  same_getD hn (fun i hi => by rw [hx.get, hy.get, h i hi])
/-- A list by its coefficients. -/
def ofF (f : Nat → Nat) (n : Nat) : List Int := (List.range n).map (fun i => (f i : Int))
end Go.Proofs.Ytjcbcdjfhcnhcaa
namespace Go.Proofs.Ytjcbcdjfhcnhcaa
open Go.RowKit

theorem fits_yes (n : Nat) (hn : n ≤ 255) (w : World) : Calls Try.prog 102 #[.int .i64 n] w fun e w' => e = .returned (.bool true) ∧ w = w' := by
  go_enter Try.func102, Try.ntmps102
  go_wp2
  go_ret
  exact ⟨ret_bool (decide_eq_true (by omega)), rfl⟩
/-- Is it right? -/
def RightM (r c : Int) (n : Nat) : Prop := (0 ≤ r ∧ r ≤ 255) ∧ (0 ≤ c ∧ c ≤ 255) ∧ (n : Int) = r * c
instance (r c : Int) (n : Nat) : Decidable (RightM r c n) := by unfold RightM; infer_instance
theorem right_yes (r c n : Nat) (hr : r ≤ 255) (hc : c ≤ 255) (hn : n = r * c) (a : Option Addr) (cap : Nat) (w : World) :
    Calls Try.prog 101 #[.agg #[.int .i64 r, .int .i64 c, .slice a n cap]] w fun e w' => e = .returned (.bool true) ∧ Below w.heap.size w w' := by
  have hm : r * c ≤ 65025 := Nat.mul_le_mul hr hc
  obtain ⟨m, hmm⟩ : ∃ m : Nat, r * c = m := ⟨_, rfl⟩
  have hmi : (r : Int) * c = m := by rw [← hmm]; omega
  rw [hmm] at hm hn
  subst hn
  have F1 := Lib.hid (fits_yes r hr)
  have F2 := Lib.hid (fits_yes c hc)
  clear hmm
  go_enter Try.func101, Try.ntmps101
  go_wp2_with first
    | ((with_reducible refine (F1.out _).mono ?_); rintro e w1 ⟨rfl, rfl⟩)
    | ((with_reducible refine (F2.out _).mono ?_); rintro e w1 ⟨rfl, rfl⟩)
  go_ret
  exact ⟨rfl, (Below.refl _ _).alloc (Nat.le_refl _) _⟩
theorem has_any (r c i : Int) (n : Nat) (a : Option Addr) (cap : Nat) (w : World) :
    Calls Try.prog 103 #[.agg #[.int .i64 r, .int .i64 c, .slice a n cap], .int .i64 i] w fun e w' => e = .returned (.bool (decide (0 ≤ i ∧ i < r))) ∧ Below w.heap.size w w' := by
  rcases Int.lt_or_le i 0 with h | h
  · go_enter Try.func103, Try.ntmps103
    go_wp2
    go_ret
    refine ⟨ret_bool ?_, (Below.refl _ _).alloc (Nat.le_refl _) _⟩
    show false = _
    symm
    simp
    omega
  · go_enter Try.func103, Try.ntmps103
    go_wp2
    go_ret
    refine ⟨ret_bool ?_, (Below.refl _ _).alloc (Nat.le_refl _) _⟩
    show decide (i < r) = _
    congr 1
    simp [h]
/-- New's answer: a matrix of noughts in a block of its own. -/
def Newed (r c : Nat) (w : World) (e : Ending) (w' : World) : Prop :=
  ∃ g, e = .returned (.tuple #[.agg #[.int .i64 r, .int .i64 c, .slice (some ⟨g, 0, none⟩) (r * c) (r * c)], .int .i64 0]) ∧ w.heap.size ≤ g ∧ Row8 w' g 5 (List.replicate (r * c) 0) ∧ Below w.heap.size w w'
/-- Nothing, and why. -/
def Refused (k : Int) (w : World) (e : Ending) (w' : World) : Prop :=
  e = .returned (.tuple #[.agg #[.int .i64 0, .int .i64 0, .slice none 0 0], .int .i64 k]) ∧ Below w.heap.size w w'
theorem made_row' (W : World) (n : Nat) (t : TypeId) (b : Nat) (hb : b = W.heap.size) : Row8 (W.alloc (.cells (madeCells #[.int .u8 0] n) t)) b t (List.replicate n 0) := by rw [hb]; exact made_row W n t
theorem new_some (r c : Nat) (hr : r ≤ 255) (hc : c ≤ 255) (w : World) : Calls Try.prog 98 #[.int .i64 r, .int .i64 c] w (Newed r c w) := by
  have hm : r * c ≤ 65025 := Nat.mul_le_mul hr hc
  unfold Newed
  obtain ⟨m, hmm⟩ : ∃ m : Nat, r * c = m := ⟨_, rfl⟩
  have hmi : (r : Int) * c = m := by rw [← hmm]; omega
  rw [hmm] at hm ⊢
  clear hmm
  have F1 := Lib.hid (fits_yes r hr)
  have F2 := Lib.hid (fits_yes c hc)
  have hmk := fun w => run_make_row' (P := Try.prog) 42 5 (.int .u8 0) 1 Try.underlying42 info_u8 rfl .i64 .i64 m (by omega) (by omega) w
  go_enter Try.func98, Try.ntmps98
  go_wp2_with first
    | ((with_reducible refine (F1.out _).mono ?_); rintro e w1 ⟨rfl, rfl⟩)
    | ((with_reducible refine (F2.out _).mono ?_); rintro e w1 ⟨rfl, rfl⟩)
  go_returns
  refine ⟨_, rfl, by omega, made_row' _ _ _ _ (by simp), by go_grown⟩
end Go.Proofs.Ytjcbcdjfhcnhcaa
namespace Go.Proofs.Ytjcbcdjfhcnhcaa
open Go.RowKit

/-- An address, so many places on. -/
def onA (a : Option Addr) (o : Nat) : Option Addr := a.map fun x => x.add o
theorem onto_any (b off k : Nat) : (⟨b, off, none⟩ : Addr).add k = ⟨b, off + k, none⟩ := by unfold Addr.add; split <;> simp_all
theorem add_none (x : Addr) : x.add 0 = x := by unfold Addr.add; split <;> simp_all
theorem onA_at (b off k : Nat) : onA (some ⟨b, off, none⟩) k = some ⟨b, off + k, none⟩ := by unfold onA; rw [Option.map_some, onto_any]
/-- A list of slices, in a block: slice i lies at A i. -/
def Lst (w : World) (h cnt len : Nat) (A : Nat → Option Addr) : Prop := w.rowIs h 42 cnt (fun i => .slice (A i) len len)
theorem info_row : (Try.prog.info? 42).map (fun i => (i.zero, i.size, i.bytes)) = some (some (.slice none 0 0), 1, 24) := by kernel_rfl
/-- What cut answers. -/
def CutTo (cnt len : Nat) (a : Option Addr) (w : World) (e : Ending) (w' : World) : Prop :=
  ∃ h, e = .returned (.slice (some ⟨h, 0, none⟩) cnt cnt) ∧ w.heap.size ≤ h ∧ Lst w' h cnt len (fun i => onA a (i * len)) ∧ Below w.heap.size w w'
/-- So far as it has come. -/
def cutV (_cnt len k : Nat) (a : Option Addr) (j : Nat) : Value := if j < k then .slice (onA a (j * len)) len len else .slice none 0 0
theorem cut_zero (w : World) (cnt len : Nat) (a : Option Addr) : (w.alloc (.cells (madeCells #[.slice none 0 0] cnt) 42)).rowIs w.heap.size 42 cnt (cutV cnt len 0 a) :=
  (World.rowIs_made w (.slice none 0 0) cnt 42).congr (fun i _ => by unfold cutV; rw [if_neg (by omega)])
theorem cut_step {w : World} {h cnt len k : Nat} {a : Option Addr} (H : w.rowIs h 42 cnt (cutV cnt len k a)) : (w.setCell ⟨h, k, none⟩ (.slice (onA a (k * len)) len len)).rowIs h 42 cnt (cutV cnt len (k + 1) a) :=
  (H.set k _).congr (fun i _ => by
    unfold cutV
    by_cases e : i = k
    · rw [if_pos e, if_pos (by omega), e]
    · rw [if_neg e]
      by_cases g : i < k
      · rw [if_pos g, if_pos (by omega)]
      · rw [if_neg g, if_neg (by omega)])
theorem cut_end {w : World} {h cnt len : Nat} {a : Option Addr} (H : w.rowIs h 42 cnt (cutV cnt len cnt a)) : Lst w h cnt len (fun i => onA a (i * len)) :=
  H.congr (fun i hi => by unfold cutV; rw [if_pos hi])
set_option maxRecDepth 100000 in
theorem cut_none (cnt len : Nat) (hc : cnt ≤ 1000) (h0 : cnt * len = 0) (w : World) :
    Calls Try.prog 110 #[.slice none 0 0, .int .i64 cnt, .int .i64 len] w (CutTo cnt len none w) := by
  have hmk := fun w => run_make_row' (P := Try.prog) 26 42 (.slice none 0 0) 24 Try.underlying26 info_row rfl .i64 .i64 cnt (by omega) (by omega) w
  have HC0 := Lib.hid (cut_zero w cnt len none)
  have HB0 : Hid (Below w.heap.size w (w.alloc (.cells (madeCells #[.slice none 0 0] cnt) 42))) := Lib.hid (by go_grown)
  have hL : cnt = 0 ∨ len = 0 := by rcases Nat.eq_zero_or_pos cnt with h | h; exact .inl h; exact .inr (by rcases Nat.eq_zero_or_pos len with g | g; exact g; have := Nat.mul_pos h g; omega)
  clear h0
  go_enter Try.func110, Try.ntmps110
  go_wp2
  clear hmk
  generalize w.alloc (.cells (madeCells #[.slice none 0 0] cnt) 42) = w1 at *
  have HH : Hid (w.heap.size ≤ w.heap.size) := Lib.hid (Nat.le_refl _)
  generalize hh : w.heap.size = h at HC0 ⊢
  rw [hh] at HB0 HH
  go_loopw [8, 9, 10, 15] (fun _ _ _ i wr => ∃ k : Nat, k ≤ cnt ∧ i = .int .i64 k ∧ Hid (wr.rowIs h 42 cnt (cutV cnt len k none)) ∧ Hid (Below h w wr)) (fun _ _ _ i _ => cnt - (intOf i).toNat)
  case atStart => exact ⟨0, by omega, rfl, HC0, HB0⟩
  case round =>
    obtain ⟨k, hk, rfl, HO, HB⟩ := hrel
    obtain ⟨wo, ho⟩ : ∃ wo, wo = wr := ⟨_, rfl⟩
    subst ho
    by_cases hlt : k < cnt
    · obtain rfl : len = 0 := by omega
      have c0 := HO.out.cell hlt
      have f0 := HO.out.frozen k
      unfold cutV at c0
      rw [if_neg (by omega)] at c0
      go_wp2
      go_roundw
      case rel => exact ⟨k + 1, by omega, by go_num, Lib.hid (cut_step (a := none) HO.out), Lib.hid (HB.out.setCell (p := ⟨h, k, none⟩) (Nat.le_refl _) _)⟩
      case measure => simp [intOf]; omega
    · obtain rfl : k = cnt := by omega
      go_wp2
      go_ret
      exact ⟨h, rfl, by omega, cut_end HO.out, by rw [hh]; exact HB.out⟩
set_option maxRecDepth 100000 in
theorem cut_some (x : Addr) (n c cnt len : Nat) (hc : cnt ≤ 1000) (hnc : n ≤ c) (h0 : cnt * len ≤ n) (hcap : n ≤ 1000000) (w : World) :
    Calls Try.prog 110 #[.slice (some x) n c, .int .i64 cnt, .int .i64 len] w (CutTo cnt len (some x) w) := by
  have hmk := fun w => run_make_row' (P := Try.prog) 26 42 (.slice none 0 0) 24 Try.underlying26 info_row rfl .i64 .i64 cnt (by omega) (by omega) w
  have HC0 := Lib.hid (cut_zero w cnt len (some x))
  have HB0 : Hid (Below w.heap.size w (w.alloc (.cells (madeCells #[.slice none 0 0] cnt) 42))) := Lib.hid (by go_grown)
  have HM : Hid (∀ k, k < cnt → (k + 1) * len ≤ n) := Lib.hid (fun k hk => Nat.le_trans (Nat.mul_le_mul_right len (show k + 1 ≤ cnt from hk)) h0)
  clear h0
  go_enter Try.func110, Try.ntmps110
  go_wp2
  clear hmk
  generalize w.alloc (.cells (madeCells #[.slice none 0 0] cnt) 42) = w1 at *
  have HH : Hid (w.heap.size ≤ w.heap.size) := Lib.hid (Nat.le_refl _)
  generalize hh : w.heap.size = h at HC0 ⊢
  rw [hh] at HB0 HH
  go_loopw [8, 9, 10, 15] (fun _ _ _ i wr => ∃ k : Nat, k ≤ cnt ∧ i = .int .i64 k ∧ Hid (wr.rowIs h 42 cnt (cutV cnt len k (some x))) ∧ Hid (Below h w wr)) (fun _ _ _ i _ => cnt - (intOf i).toNat)
  case atStart => exact ⟨0, by omega, rfl, HC0, HB0⟩
  case round =>
    obtain ⟨k, hk, rfl, HO, HB⟩ := hrel
    obtain ⟨wo, ho⟩ : ∃ wo, wo = wr := ⟨_, rfl⟩
    subst ho
    by_cases hlt : k < cnt
    · have c0 := HO.out.cell hlt
      have f0 := HO.out.frozen k
      unfold cutV at c0
      rw [if_neg (by omega)] at c0
      have hq1 := HM.out k hlt
      have HS := Lib.hid (cut_step HO.out)
      have e1 : (k + 1) * len = k * len + len := Nat.succ_mul k len
      obtain ⟨q, hq⟩ : ∃ q, k * len = q := ⟨_, rfl⟩
      rw [e1] at hq1
      rw [hq] at hq1 e1 HS
      have i1 : (k : Int) * len = q := by rw [← hq]; omega
      have i2 : ((k : Int) + 1) * len = ((q + len : Nat) : Int) := by rw [← e1, Int.natCast_mul, Int.natCast_add]; rfl
      have HE : Hid ((if len = 0 then some x else some (x.add q)) = onA (some x) q) := Lib.hid (by
        by_cases e : len = 0
        · rw [if_pos e]
          have : q = 0 := by rw [← hq, e]; exact Nat.mul_zero k
          rw [this]
          exact congrArg some (add_none x).symm
        · rw [if_neg e]; rfl)
      clear hq e1
      go_wp2
      go_roundw
      case rel => 
        rw [HE.out]
        exact ⟨k + 1, by omega, by go_num, HS, Lib.hid (HB.out.setCell (p := ⟨h, k, none⟩) (Nat.le_refl _) _)⟩
      case measure => simp [intOf]; omega
    · obtain rfl : k = cnt := by omega
      go_wp2
      go_ret
      exact ⟨h, rfl, by omega, cut_end HO.out, by rw [hh]; exact HB.out⟩
theorem cut_any' (a : Option Addr) (n c cnt len : Nat) (hc : cnt ≤ 1000) (hn : n ≤ c) (h0 : cnt * len ≤ n) (hcap : n ≤ 1000000) (h1 : a = none → c = 0) (w : World) :
    Calls Try.prog 110 #[.slice a n c, .int .i64 cnt, .int .i64 len] w (CutTo cnt len a w) := by
  cases a with
  | none =>
    obtain rfl : c = 0 := h1 rfl
    obtain rfl : n = 0 := by omega
    exact cut_none cnt len hc (by omega) w
  | some x => exact cut_some x n c cnt len hc hn h0 hcap w
theorem parts_any (a : Option Addr) (n c cnt len : Nat) (hc : cnt ≤ 1000) (hn : n ≤ c) (h0 : cnt * len ≤ n) (hcap : n ≤ 1000000) (h1 : a = none → c = 0) (w : World) :
    Calls Try.prog 99 #[.agg #[.int .i64 cnt, .int .i64 len, .slice a n c]] w (CutTo cnt len a w) := by
  have HC := Lib.hid (cut_any' a n c cnt len hc hn h0 hcap h1)
  clear hc hn h0 hcap h1
  go_enter Try.func99, Try.ntmps99
  go_wp2_with ((with_reducible refine (HC.out _).mono ?_); rintro e w1 ⟨h, rfl, hh, hl, hb⟩; have HH := Lib.hid hh; have HL := Lib.hid hl; have HB := Lib.hid hb; clear hh hl hb)
  go_ret
  refine ⟨h, rfl, ?_, HL.out, ?_⟩
  · have := HH.out; simp at this; omega
  · exact (show Below w.heap.size w (w.alloc _) by go_grown).trans (HB.out.mono (by simp))
end Go.Proofs.Ytjcbcdjfhcnhcaa
namespace Go.Proofs.Ytjcbcdjfhcnhcaa
open Go.RowKit

/-- A slice that reads as so many numbers. -/
def Nums (w : World) (a : Option Addr) (n : Nat) (P : Nat → Nat) : Prop := n = 0 ∨ ∃ b off, a = some ⟨b, off, none⟩ ∧ b < w.heap.size ∧ ∀ i, i < n → w.cell? ⟨b, off + i, none⟩ = some (.int .i64 ((P i : Nat) : Int))
theorem Nums.below {w w' : World} {a : Option Addr} {n B : Nat} {P : Nat → Nat} (h : Nums w a n P) (hb : Below B w w') (hB : w.heap.size ≤ B) : Nums w' a n P :=
  h.imp id fun ⟨b, off, e, hl, hc⟩ => ⟨b, off, e, Nat.lt_of_lt_of_le hl hb.size, fun i hi => (hb.cell (p := ⟨b, off + i, none⟩) (by show b < B; omega)).trans (hc i hi)⟩
theorem info_i64 : (Try.prog.info? 3).map (fun i => (i.zero, i.size, i.bytes)) = some (some (.int .i64 0), 1, 8) := by kernel_rfl
/-- Numbers in a slice of the call's own. -/
def OwnI (w : World) (base : Nat) (v : Value) (n : Nat) (l : List Int) : Prop := w.ownsRow base 3 1 v n (l.map (Value.int .i64))
theorem OwnI.none (w : World) (base : Nat) : OwnI w base (.slice none 0 0) 0 [] := ⟨rfl, .inl ⟨rfl, rfl⟩⟩
theorem OwnI.below {w w' : World} {base B : Nat} {v : Value} {n : Nat} {l : List Int} (h : OwnI w base v n l) (hb : Below B w w') (hB : w.heap.size ≤ B) : OwnI w' base v n l := by
  refine ⟨h.1, h.2.imp id ?_⟩
  rintro ⟨g, cap, cur, e, h1, hg, h2⟩
  refine ⟨g, cap, cur, e, h1, ?_, h2⟩
  obtain ⟨h3, _⟩ := Array.getElem?_eq_some_iff.1 hg
  rw [hb.block g (by omega)]
  exact hg
end Go.Proofs.Ytjcbcdjfhcnhcaa
namespace Go.Proofs.Ytjcbcdjfhcnhcaa
open Go.RowKit

theorem grown_refl (w : World) (row : Option Nat) : w.grownBy w row := ⟨rfl, rfl, rfl, Nat.le_refl _, fun _ _ _ => rfl⟩
theorem grown_trans {A B C : World} {row : Option Nat} (h : A.grownBy B row) (k : B.grownBy C row) : A.grownBy C row :=
  ⟨k.os.trans h.os, k.tape.trans h.tape, k.output.trans h.output, Nat.le_trans h.size k.size, fun i hi hr => (k.block i (Nat.lt_of_lt_of_le hi h.size) hr).trans (h.block i hi hr)⟩
theorem grown_below {A B : World} (h : Below A.heap.size A B) (row : Option Nat) : A.grownBy B row := ⟨h.os, h.tape, h.output, h.size, fun i hi _ => h.block i hi⟩
theorem grown_set (W : World) (b o : Nat) (v : Value) : W.grownBy (W.setCell ⟨b, o, none⟩ v) (some b) :=
  ⟨rfl, rfl, rfl, by simp, fun k _ hk => Below.heap_setCell _ _ _ k (fun e => hk (by rw [e]))⟩
theorem grown_drew {A B : World} {row : Option Nat} (h : A.grownBy B row) (n : Nat) : A.grownBy (B.drewN n) row := ⟨h.os, h.tape, h.output, h.size, h.block⟩
theorem grown_from_drew {A B : World} {row : Option Nat} (h : A.drew.grownBy B row) : A.grownBy B row := ⟨h.os, h.tape, h.output, h.size, h.block⟩
theorem below_grows {A B : World} {g base : Nat} (h : A.grownBy B (some g)) (h1 : base ≤ g) (h2 : base ≤ A.heap.size) : Below base A B :=
  below_grown (Below.refl base A) h h2 (fun k e => by cases e; exact h1)
/-- A part of a list. -/
def seg (l : List Int) (o m : Nat) : List Int := (l.drop o).take m
theorem seg_length (l : List Int) (o m : Nat) (h : o + m ≤ l.length) : (seg l o m).length = m := by unfold seg; rw [List.length_take, List.length_drop]; omega
theorem seg_by {l : List Int} (h : By l) (o m : Nat) : By (seg l o m) := fun z hz => h z (List.mem_of_mem_drop (List.mem_of_mem_take hz))
theorem seg_get (l : List Int) (o m i : Nat) (h : i < m) : (seg l o m).getD i 0 = l.getD (o + i) 0 := by
  unfold seg; simp [List.getD_eq_getElem?_getD, h, List.getElem?_drop]
theorem seg_co (l : List Int) (o m i : Nat) (h : i < m) : co (seg l o m) i = co l (o + i) := by unfold co; rw [seg_get l o m i h]
/-- A block whose first n places read as a list of bytes. -/
structure Dat (w : World) (g n : Nat) (l : List Int) : Prop where
  by_ : By l
  size : l.length = n
  mem : ∃ cur : List Value, w.heap[g]? = some (.cells cur.toArray 5 (0, 0)) ∧ n ≤ cur.length ∧ cur.take n = l.map (Value.int .u8)
theorem Row8.dat {w : World} {g : Nat} {l : List Int} (h : Row8 w g 5 l) (hl : By l) : Dat w g l.length l :=
  ⟨hl, rfl, _, h, by simp, List.take_of_length_le (by simp)⟩
theorem Dat.lt {w : World} {g n : Nat} {l : List Int} (h : Dat w g n l) : g < w.heap.size := by
  obtain ⟨cur, hg, _⟩ := h.mem
  exact (Array.getElem?_eq_some_iff.1 hg).1
theorem Dat.keep {w w' : World} {g n : Nat} {l : List Int} (h : Dat w g n l) (e : w'.heap[g]? = w.heap[g]?) : Dat w' g n l := by
  obtain ⟨cur, hg, h1⟩ := h.mem
  exact ⟨h.by_, h.size, cur, e.trans hg, h1⟩
theorem Dat.below {w w' : World} {g n B : Nat} {l : List Int} (h : Dat w g n l) (hb : Below B w w') (hB : g < B) : Dat w' g n l := h.keep (hb.block g hB)
theorem Dat.grown {w w' : World} {g n : Nat} {row : Option Nat} {l : List Int} (h : Dat w g n l) (hb : w.grownBy w' row) (hr : some g ≠ row) : Dat w' g n l := h.keep (hb.block g h.lt hr)
theorem Dat.cell {w : World} {g n : Nat} {l : List Int} (h : Dat w g n l) (i : Nat) (hi : i < n) : w.cell? ⟨g, i, none⟩ = some (.int .u8 (co l i : Int)) := by
  obtain ⟨cur, hg, hn, hc⟩ := h.mem
  have hs := h.size
  have e : cur[i]? = some (.int .u8 (l.getD i 0)) := by
    have : (cur.take n)[i]? = cur[i]? := by rw [List.getElem?_take, if_pos hi]
    rw [← this, hc, List.getElem?_map, List.getD_eq_getElem?_getD, List.getElem?_eq_getElem (by omega)]
    rfl
  simp only [World.cell?, hg]
  rw [h.by_.get] at e
  simpa using e
theorem Dat.frozen {w : World} {g n : Nat} {l : List Int} (h : Dat w g n l) (i : Nat) : w.frozen? ⟨g, i, none⟩ = false := by
  obtain ⟨cur, hg, _⟩ := h.mem
  simp [World.frozen?, hg]
theorem Dat.bytes {w : World} {g n : Nat} {l : List Int} (h : Dat w g n l) (o m : Nat) (ho : o + m ≤ n) (hm : m ≤ 9223372036854775807) : Bytes w (some ⟨g, o, none⟩) m (seg l o m) := by
  have hs := h.size
  refine ⟨seg_length l o m (by omega), hm, fun i _ => (seg_by h.by_ o m).at_ i, ?_⟩
  by_cases h0 : m = 0
  · exact .inl h0
  · exact .inr ⟨by omega, g, o, rfl, h.lt, fun i hi => by rw [seg_get l o m i hi, h.by_.get]; exact h.cell _ (by omega)⟩
theorem Dat.set {w : World} {g n : Nat} {l : List Int} (h : Dat w g n l) (i v : Nat) (hv : v < 256) : Dat (w.setCell ⟨g, i, none⟩ (.int .u8 (v : Int))) g n (l.set i (v : Int)) := by
  obtain ⟨cur, hg, hn, hc⟩ := h.mem
  refine ⟨fun z hz => ?_, by rw [List.length_set]; exact h.size, cur.set i (.int .u8 (v : Int)), ?_, by simpa using hn, ?_⟩
  · rcases List.mem_or_eq_of_mem_set hz with g | g
    · exact h.by_ z g
    · rw [g]; omega
  · simp [World.setCell, Array.getElem?_modify, hg]
  · rw [List.map_set, ← hc, List.take_set]
theorem co_set (l : List Int) (i v j : Nat) (h : i < l.length) : co (l.set i (v : Int)) j = if j = i then v else co l j := by
  unfold co
  by_cases g : j < l.length
  · rw [set_get l i j _ g]; split <;> simp
  · rw [if_neg (by omega), List.getD_eq_getElem?_getD, List.getD_eq_getElem?_getD, List.getElem?_eq_none (by simp; omega), List.getElem?_eq_none (by omega)]
theorem map_splice (l : List Int) (o : Nat) (x : List Int) : (splice l o x).map (Value.int .u8) = splice (l.map (Value.int .u8)) o (x.map (Value.int .u8)) := splice_map.symm
theorem splice_take {α : Type} (L : List α) (o : Nat) (x : List α) (n : Nat) (h : o + x.length ≤ n) : (splice L o x).take n = splice (L.take n) o x := by
  unfold splice
  have e1 : (L.take n).take o = L.take o := by rw [List.take_take]; congr 1; omega
  rw [e1]
  by_cases hL : n ≤ L.length
  · rw [List.take_append, List.take_append, List.take_of_length_le (show (L.take o).length ≤ n by rw [List.length_take]; omega), List.take_of_length_le (show x.length ≤ n - (L.take o).length by rw [List.length_take]; omega), List.drop_take]
    congr 3
    rw [List.length_take]; omega
  · rw [List.take_of_length_le (show L.length ≤ n by omega), List.take_of_length_le]
    simp only [List.length_append, List.length_take, List.length_drop]
    omega
theorem splice_co (l : List Int) (o : Nat) (x : List Int) (i : Nat) (h : o + x.length ≤ l.length) : co (splice l o x) i = if o ≤ i ∧ i < o + x.length then co x (i - o) else co l i := by
  unfold co splice
  simp only [List.getD_eq_getElem?_getD]
  have ht : (l.take o).length = o := by rw [List.length_take]; omega
  by_cases h1 : i < o
  · rw [if_neg (by omega), List.getElem?_append_left (by omega), List.getElem?_take, if_pos h1]
  · rw [List.getElem?_append_right (by omega), ht]
    by_cases h2 : i < o + x.length
    · rw [if_pos (by omega), List.getElem?_append_left (by omega)]
    · rw [if_neg (by omega), List.getElem?_append_right (by omega), List.getElem?_drop]
      congr 3
      omega
/-- A copy of bytes into such a block. -/
theorem wpList_copy_dat {w : World} {ops : Array Oper} {rest : List Oper} {o : Oper} {a : Act} {Q : Exit → Act → World → Prop} (hgd : o.guard = none) (d s : Operand)
    (ho : o.op = .call { callee := .builtin .copy, args := #[d, s], argTypes := #[42, 42] })
    (dp sp : Option Addr) (dLen dCap sLen sCap : Nat) (hd : a.eval d = .slice dp dLen dCap) (hs : a.eval s = .slice sp sLen sCap)
    (g off n : Nat) (Z : List Int) (hg : Dat w g n Z) (l : List Int) (hl : Bytes w sp sLen l) (hk : sLen = dLen) (hpos : 0 < sLen → dp = some ⟨g, off, none⟩) (hfit : off + sLen ≤ n)
    (h : ∀ w', Dat w' g n (splice Z off l) → w.grownBy w' (some g) → wpList Try.prog ops Q rest (a.put o.dst (goInt sLen)) w') :
    wpList Try.prog ops Q (o :: rest) a w := by
  have sl := hl.size
  have hZ := hg.size
  subst hk
  have hby : By (splice Z off l) := fun z hz => by
    unfold splice at hz
    rcases List.mem_append.1 hz with g1 | g1
    · exact hg.by_ z (List.mem_of_mem_take g1)
    · rcases List.mem_append.1 g1 with g2 | g2
      · exact hl.range z g2
      · exact hg.by_ z (List.mem_of_mem_drop g2)
  by_cases h0 : sLen = 0
  · obtain rfl : l = [] := List.eq_nil_of_length_eq_zero (by omega)
    refine wpList_copy_nothing hgd d s _ _ ho 5 Try.underlying42 (by kernel_rfl) dp sp sLen dCap sLen sCap hd hs (by rw [h0]; rfl) ?_
    have := h w (by simpa [splice] using hg) (grown_refl w _)
    rw [h0] at this
    exact this
  · obtain ⟨cur, hc, hn, ht⟩ := hg.mem
    obtain rfl := hpos (by omega)
    rcases hl.cell with h1 | ⟨_, b, p, rfl, _, hcs⟩
    · exact absurd h1 h0
    have ecs : (l.map (Value.int .u8)).length = sLen := by rw [List.length_map, sl]
    refine wpList_copy_own hgd d s _ _ ho 5 Try.underlying42 (by kernel_rfl) g off sLen dCap ⟨b, p, none⟩ sLen sCap hd hs cur.toArray 5 hc (l.map (Value.int .u8)) (by rw [ecs]; exact (Nat.min_self _).symm) (fun j v hv => ?_) (by rw [ecs]; simp; omega) (fun v hv => ?_) ?_
    · have hj : j < sLen := by
        rcases Nat.lt_or_ge j sLen with g | g
        · exact g
        · rw [List.getElem?_eq_none (by rw [ecs]; exact g)] at hv; simp at hv
      rw [onto_any, hcs j hj, ← hv, List.getElem?_map, List.getD_eq_getElem?_getD, List.getElem?_eq_getElem (by omega)]
      rfl
    · obtain ⟨z, _, rfl⟩ := List.mem_map.1 hv
      rfl
    · rw [ecs]
      refine h _ ⟨hby, by rw [length_splice _ _ _ (by omega)]; exact hZ, splice cur off (l.map (Value.int .u8)), ?_, ?_, ?_⟩ ⟨rfl, rfl, rfl, by simp [World.setRow], fun k _ hk => setRow_other w g k _ (fun e => hk (by rw [e]))⟩
      · rw [setRow_heap w g _ _ 5 (0, 0) hc]
        unfold splice
        rw [ecs]
      · rw [length_splice _ _ _ (by rw [ecs]; omega)]; exact hn
      · rw [splice_take _ _ _ _ (by rw [ecs]; omega), ht, map_splice]
end Go.Proofs.Ytjcbcdjfhcnhcaa
namespace Go.Proofs.Ytjcbcdjfhcnhcaa
open Go.RowKit

/-- From a place on, so many places take what another list has. -/
def mixO (l : List Int) (off : Nat) (s : List Int) (k : Nat) : List Int := l.mapIdx (fun i z => if off ≤ i ∧ i < off + k then ((z.toNat ^^^ (s.getD (i - off) 0).toNat : Nat) : Int) else z)
theorem mixO_length (l : List Int) (off : Nat) (s : List Int) (k : Nat) : (mixO l off s k).length = l.length := by simp [mixO]
theorem mixO_get (l : List Int) (off : Nat) (s : List Int) (k i : Nat) (h : i < l.length) : (mixO l off s k).getD i 0 = if off ≤ i ∧ i < off + k then (((l.getD i 0).toNat ^^^ (s.getD (i - off) 0).toNat : Nat) : Int) else l.getD i 0 := by
  unfold mixO
  simp [List.getD_eq_getElem?_getD, List.getElem?_eq_getElem h]
theorem mixO_zero (l : List Int) (off : Nat) (s : List Int) : mixO l off s 0 = l := by
  refine same_getD (mixO_length _ _ _ _) (fun i hi => ?_)
  rw [mixO_get _ _ _ _ _ (by rwa [mixO_length] at hi), if_neg (by omega)]
theorem mixO_step (l : List Int) (off : Nat) (s : List Int) (k : Nat) (_h : off + k < l.length) : (mixO l off s k).set (off + k) (((l.getD (off + k) 0).toNat ^^^ (s.getD k 0).toNat : Nat) : Int) = mixO l off s (k + 1) := by
  refine same_getD (by rw [List.length_set, mixO_length, mixO_length]) (fun i hi => ?_)
  rw [List.length_set, mixO_length] at hi
  rw [set_get _ _ _ _ (by rw [mixO_length]; exact hi), mixO_get _ _ _ _ _ hi, mixO_get _ _ _ _ _ hi]
  by_cases e : i = off + k
  · subst e; rw [if_pos rfl, if_pos (by omega), show off + k - off = k by omega]
  · rw [if_neg e]
    by_cases g : off ≤ i ∧ i < off + k
    · rw [if_pos g, if_pos (by omega)]
    · rw [if_neg g, if_neg (by omega)]
theorem mixO_co (l : List Int) (off : Nat) (s : List Int) (k i : Nat) (h : i < l.length) : co (mixO l off s k) i = if off ≤ i ∧ i < off + k then co l i ^^^ co s (i - off) else co l i := by
  unfold co
  rw [mixO_get _ _ _ _ _ h]
  split
  · rw [Int.toNat_natCast]
  · rfl
theorem row8_far {w : World} {b : Nat} {t : TypeId} {Z : List Int} (h : Row8 w b t Z) {p : Addr} (hp : b ≠ p.block) (u : Value) : Row8 (w.setCell p u) b t Z := (Below.heap_setCell w p u b hp).trans h
/-- What Mix leaves. -/
def MixedD (g n : Nat) (L : List Int) (w : World) (e : Ending) (w' : World) : Prop :=
  e = .returned (.tuple #[]) ∧ Dat w' g n L ∧ w.grownBy w' (some g)
set_option maxRecDepth 100000 in
set_option maxHeartbeats 1000000 in
theorem mixd_any (t a g off n m C' : Nat) (A : Option Addr) (l : List Int) (x : Option Addr) (cap : Nat) (X : List Int) (w : World) (ha : a < 256) (ht : IsTab w t) (ho : Dat w g n l)
    (hx : Bytes w x m X) (hmc : m ≤ cap) (hn : n ≤ 1000000) (hm5 : m ≤ 100000) (hoff : off + m ≤ n) (hA : 0 < m → A = some ⟨g, off, none⟩) :
    Calls Try.prog 118 #[.pointer (some ⟨t, 0, none⟩), .slice A m C', .int .u8 a, .slice x m cap] w (MixedD g n (mixO l off (sc a X) m) w) := by
  have HF := Lib.hid hx
  have HT := Lib.hid ht
  have HG := Lib.hid ho.lt
  have HO0 := Lib.hid ho
  have HSZ := Lib.hid ho.size
  have HFZ := Lib.hid hx.size
  have HR := Lib.hid (show By (sc a X) from sc_range a ha X hx.range)
  have HL := Lib.hid ho.by_
  have HZ := Lib.hid (sc_length a X)
  have HKK := Lib.hid hm5
  have HAA := Lib.hid hA
  clear hx ht ho hA
  go_enter Try.func118, Try.ntmps118
  go_wp2_with (go_at_call 127; refine (scale_any t a x _ _ _ _ ha HT.out HF.out HKK.out).mono ?_; rintro e w1 ⟨g0, rfl, hg0, hr0, hb1⟩; have HG0 := Lib.hid hg0; have HR0 := Lib.hid hr0; have HB1 := Lib.hid hb1; clear hg0 hr0 hb1)
  have HS0 : Hid (Dat w1 g n (mixO l off (sc a X) 0)) := Lib.hid (by rw [mixO_zero]; exact HO0.out.below HB1.out HG.out)
  have HW1 : Hid (w.grownBy w1 (some g)) := Lib.hid (grown_below HB1.out _)
  have HZ2 : Hid ((sc a X).length = m) := Lib.hid (HZ.out.trans HFZ.out)
  clear HB1
  generalize sc a X = s at *
  go_loopw [8, 9, 21] (fun _ _ i wr => ∃ k : Nat, k ≤ m ∧ i = .int .i64 k ∧ Hid (Dat wr g n (mixO l off s k)) ∧ Hid (Row8 wr g0 5 s) ∧ Hid (w.grownBy wr (some g))) (fun _ _ i _ => m - (intOf i).toNat)
  case atStart => exact ⟨0, by omega, rfl, HS0, HR0, HW1⟩
  case round =>
    obtain ⟨k, hk, rfl, HO, HR1, HB⟩ := hrel
    obtain ⟨wo, ho⟩ : ∃ wo, wo = wr := ⟨_, rfl⟩
    subst ho
    by_cases hlt : k < m
    · obtain rfl := HAA.out (by omega)
      have hne : g0 ≠ g := by have := HG0.out; have := HG.out; omega
      have c0 := HO.out.cell (off + k) (by omega)
      have f0 := HO.out.frozen (off + k)
      rw [mixO_co _ _ _ _ _ (by rw [HSZ.out]; omega), if_neg (by omega)] at c0
      have c1 := HR1.out.cell k (by rw [HZ2.out]; exact hlt)
      have HSS := Lib.hid (mixO_step l off s k (by rw [HSZ.out]; omega))
      rw [HR.out.get k] at c1
      rw [HL.out.get (off + k), HR.out.get k] at HSS
      have l1 := HL.out.lt (off + k)
      have l2 := HR.out.lt k
      have HNE := Lib.hid hne
      clear hne
      generalize co l (off + k) = u at *
      generalize co s k = v at *
      have bx := bits_u8 u v (by omega) (by omega)
      have HXL := Lib.hid (xor_lt l1 l2)
      have k0 : (0 : Int) ≤ k := by omega
      have k1 : (k : Int) < m := by omega
      go_wp2
      go_roundw
      case rel =>
        refine ⟨k + 1, by omega, by go_num, ?_, Lib.hid (row8_far HR1.out (p := ⟨g, off + k, none⟩) HNE.out _), Lib.hid (grown_trans HB.out (grown_set _ _ _ _))⟩
        have h := HO.out.set (off + k) (u ^^^ v) HXL.out
        have e := HSS.out
        rw [Int.toNat_natCast, Int.toNat_natCast] at e
        rw [e] at h
        exact Lib.hid h
      case measure => simp [intOf] <;> omega
    · obtain rfl : k = m := by omega
      go_wp2
      go_end0
      exact ⟨rfl, HO.out, HB.out⟩
end Go.Proofs.Ytjcbcdjfhcnhcaa
