/-
  Own text: slices.Clone of bytes, walked (cut out of MRank); wire.Size, walked.
-/
import Derived.Test.YtblnmddphichgaaByteB
import Derived.Test.YtblnmddphichgaaDgC
import Derived.Lib.SliceRun
namespace Go.Proofs.Ytblnmddphichgaa.Mp
open Go.RowKit

/-- A slice of the call's own is handed back. -/
def Cloned (n : Nat) (L : List Int) (w : World) (e : Ending) (w' : World) : Prop := ∃ A C, e = .returned (.slice A n C) ∧ Own8 w' w.heap.size (.slice A n C) n L ∧ Below w.heap.size w w'
theorem own8_none (w : World) (base : Nat) : Own8 w base (.slice none 0 0) 0 [] := ⟨rfl, .inl ⟨rfl, rfl⟩⟩
set_option maxRecDepth 100000 in
theorem clone8_any (a : Option Addr) (n c : Nat) (l : List Int) (w : World) (hl : Bytes w a n l) (hc : n ≤ c) (hnil : a = none → c = 0) (hn : n ≤ 100000) :
    Calls Try.prog 35 #[.slice a n c] w (Cloned n l w) := by
  have HL := Lib.hid hl
  have HN := Lib.hid hnil
  have hs := hl.size
  have q : ∀ (w : World) (a : Option Addr) (n c n' c' : Nat), (binOp .eql 33 (.slice a n c) (.slice none n' c')).run Try.prog w = .ok (.bool a.isNone) w := fun w a n c n' c' => Lib.run_eql_slice_nil w _ _ a n c n' c' Try.underlying33
  clear hl hnil
  cases a with
  | none =>
    obtain rfl : c = 0 := HN.out rfl
    obtain rfl : n = 0 := by omega
    obtain rfl : l = [] := List.eq_nil_of_length_eq_zero hs
    go_enter Try.func35, Try.ntmps35
    go_wp2
    go_ret
    exact ⟨_, _, rfl, own8_none _ _, Below.refl _ _⟩
  | some x =>
    have HW := Lib.hid (Own8.lit w w.heap.size (Nat.le_refl _))
    have HB0 : Hid (Below w.heap.size w (w.alloc (.cells #[] 5))) := Lib.hid ((Below.refl _ w).alloc (Nat.le_refl _) _)
    have HY : Hid (Bytes (w.alloc (.cells #[] 5)) (some x) n l) := Lib.hid (HL.out.below HB0.out (Nat.le_refl _))
    have H6 : Hid (0 + n ≤ 1000000) := Lib.hid (by omega)
    have H7 : Hid (w.heap.size ≤ (w.alloc (.cells #[] 5)).heap.size) := Lib.hid (by simp)
    have H8 : Hid (n = 0 + n) := Lib.hid (by omega)
    clear hs
    go_enter Try.func35, Try.ntmps35
    go_wp2_with ((with_reducible refine wpList_append_bytes (w := w.alloc _) rfl (.tmp 5) (.tmp 6) rfl w.heap.size _ _ _ rfl [] HW.out _ _ _ rfl l HY.out HN.out H6.out w.heap.size w HB0.out (Nat.le_refl _) H7.out n H8.out l rfl ?_); intro A C w1 hown hb; have HO := hown; have HB := Lib.hid hb; clear hown hb)
    go_ret
    exact ⟨_, _, rfl, HO.out, HB.out⟩
theorem size_any (d : Dg) (hd : d.dl ≤ 100000) (w : World) :
    Calls Try.prog 12 #[d.val] w fun e w' => e = .returned (.int .i64 (33 + (d.dl : Int))) ∧ Below w.heap.size w w' := by
  have h : (d.dl : Int) ≤ 100000 := by omega
  clear hd
  go_enter Try.func12, Try.ntmps12
  go_wp2
  go_ret
  exact ⟨rfl, (Below.refl w.heap.size w).alloc (Nat.le_refl _) _⟩
end Go.Proofs.Ytblnmddphichgaa.Mp
