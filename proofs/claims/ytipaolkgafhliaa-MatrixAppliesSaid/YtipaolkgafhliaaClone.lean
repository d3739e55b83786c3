/-
  Own text: slices with their capacity; slices.Clone, walked.
-/
import Derived.Test.YtipaolkgafhliaaGfR3
import Derived.Lib.SliceRun
namespace Go.Proofs.Ytipaolkgafhliaa
open Go.RowKit

/-- A slice that reads as a list of bytes, its capacity too. -/
structure Sl (w : World) (a : Option Addr) (n c : Nat) (l : List Int) : Prop where
  bytes : Bytes w a n l
  cap : n ≤ c
  top : c ≤ 9223372036854775807
  nilc : a = none → c = 0
theorem Sl.below {w w' : World} {a : Option Addr} {n c : Nat} {l : List Int} (h : Sl w a n c l) {B : Nat} (hb : Below B w w') (hB : w.heap.size ≤ B) : Sl w' a n c l :=
  ⟨h.bytes.below hb hB, h.cap, h.top, h.nilc⟩
theorem Sl.nil (w : World) : Sl w none 0 0 [] := ⟨Bytes.nil w, Nat.le_refl _, by omega, fun _ => rfl⟩
theorem IsRow.sl {w : World} {a : Option Addr} {len cap : Nat} {zs : List Int} (h : IsRow .u8 w a len cap zs) : Sl w a len cap (zs.take len) :=
  ⟨h.bytes, h.bound.1, h.bound.2, h.nil_cap⟩
theorem Sl.front {w : World} {a : Option Addr} {n m c : Nat} {l : List Int} (h : Sl w a m c l) (hn : n ≤ m) : Sl w a n c (l.take n) :=
  ⟨h.bytes.front hn, by have := h.cap; omega, h.top, h.nilc⟩
/-- A slice is handed back that reads as a list; what was there is as it was. -/
def Sliced (L : List Int) (w : World) (e : Ending) (w' : World) : Prop := ∃ A n C, e = .returned (.slice A n C) ∧ Sl w' A n C L ∧ Below w.heap.size w w'
theorem Own8.sl {w : World} {base : Nat} {A : Option Addr} {n C : Nat} {l : List Int} (h : Own8 w base (.slice A n C) n l) (hz : ∀ z ∈ l, 0 ≤ z ∧ z ≤ 255) : Sl w A n C l := by
  obtain ⟨A', C', e, h1, h2⟩ := h.slice
  simp only [Value.slice.injEq, true_and] at e
  obtain ⟨rfl, rfl⟩ := e
  refine ⟨h.bytes hz, h1, by unfold maxLen at h2; omega, fun e => ?_⟩
  rcases h.2 with ⟨e2, _⟩ | ⟨g, cap, cur, e2, _⟩
  · simp at e2; omega
  · subst e; simp at e2
/-- A slice of the call's own is handed back. -/
def Cloned (n : Nat) (L : List Int) (w : World) (e : Ending) (w' : World) : Prop := ∃ A C, e = .returned (.slice A n C) ∧ Own8 w' w.heap.size (.slice A n C) n L ∧ Below w.heap.size w w'
theorem Own8.none (w : World) (base : Nat) : Own8 w base (.slice none 0 0) 0 [] := ⟨rfl, .inl ⟨rfl, rfl⟩⟩
set_option maxRecDepth 100000 in
theorem clone_any (a : Option Addr) (n c : Nat) (l : List Int) (w : World) (hl : Sl w a n c l) (hn : n ≤ 100000) :
    Calls Try.prog 38 #[.slice a n c] w (Cloned n l w) := by
  have hc := hl.cap
  have HL := Lib.hid hl
  have HN := Lib.hid hl.nilc
  have hs := hl.bytes.size
  have q : ∀ (w : World) (a : Option Addr) (n c n' c' : Nat), (binOp .eql 22 (.slice a n c) (.slice none n' c')).run Try.prog w = .ok (.bool a.isNone) w := fun w a n c n' c' => Lib.run_eql_slice_nil w _ _ a n c n' c' Try.underlying22
  clear hl
  cases a with
  | none =>
    obtain rfl : c = 0 := HN.out rfl
    obtain rfl : n = 0 := by omega
    obtain rfl : l = [] := List.eq_nil_of_length_eq_zero hs
    go_enter Try.func38, Try.ntmps38
    go_wp2
    go_ret
    exact ⟨_, _, rfl, Own8.none _ _, Below.refl _ _⟩
  | some x =>
    have HS := Lib.hid hs
    have HW := Lib.hid (Own8.lit w w.heap.size (Nat.le_refl _))
    have HB0 : Hid (Below w.heap.size w (w.alloc (.cells #[] 5))) := Lib.hid ((Below.refl _ w).alloc (Nat.le_refl _) _)
    have HY : Hid (Bytes (w.alloc (.cells #[] 5)) (some x) n l) := Lib.hid (HL.out.bytes.below HB0.out (Nat.le_refl _))
    have H6 : Hid (0 + n ≤ 1000000) := Lib.hid (by omega)
    have H7 : Hid (w.heap.size ≤ (w.alloc (.cells #[] 5)).heap.size) := Lib.hid (by simp)
    have H8 : Hid (n = 0 + n) := Lib.hid (by omega)
    have HX : Hid (some x = Option.none → c = 0) := HN
    clear hs HN
    go_enter Try.func38, Try.ntmps38
    go_wp2_with ((with_reducible refine wpList_append_bytes (w := w.alloc _) rfl (.tmp 5) (.tmp 6) rfl w.heap.size _ _ _ rfl [] HW.out _ _ _ rfl l HY.out HX.out H6.out w.heap.size w HB0.out (Nat.le_refl _) H7.out n H8.out l rfl ?_); intro A C w1 hown hb; have HO := hown; have HB := Lib.hid hb; clear hown hb)
    go_ret
    exact ⟨_, _, rfl, HO.out, HB.out⟩
end Go.Proofs.Ytipaolkgafhliaa
