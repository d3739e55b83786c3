/-
  Own text: Clone, walked.
-/
import Derived.Test.YtjkobejhbgjhlaaRgH
import Derived.Lib.SliceRun
namespace Go.Proofs.Ytjkobejhbgjhlaa
open Go.RowKit

theorem wpList_append_list {w : World} {ops : Array Oper} {rest : List Oper} {o : Oper} {a : Act} {Q : Exit → Act → World → Prop} (hgd : o.guard = none) (s x : Operand)
    (ho : o.op = .call { callee := .builtin .append, args := #[s, x], argTypes := #[25, 25] })
    (base : Nat) (dp : Option Addr) (n dC : Nat) (hs : a.eval s = .slice dp n dC) (l : List Int) (hown : OwnI w base (.slice dp n dC) n l)
    (g m c : Nat) (hx : a.eval x = .slice (some ⟨g, 0, none⟩) m c) (l2 : List Int) (h2 : OwnI w 0 (.slice (some ⟨g, 0, none⟩) m c) m l2) (hb : n + m ≤ 100000) (hbase : base ≤ w.heap.size) (_ : dp ≠ none)
    (h : ∀ A C w', Hid (OwnI w' base (.slice A (n + m) C) (n + m) (l ++ l2)) → Hid (Below base w w') → wpList Try.prog ops Q rest (a.put o.dst (.slice A (n + m) C)) w') :
    wpList Try.prog ops Q (o :: rest) a w := by
  refine wpList_plain hgd fun K hK => ?_
  obtain ⟨i, hi, hzz⟩ := Option.map_eq_some_iff.1 info_i64
  simp only [Prod.mk.injEq] at hzz
  obtain ⟨hz, hsz, hby⟩ := hzz
  have hl2 := h2.length
  refine wp_append_own w s x 25 ho base 3 i (.int .i64 0) 1 8 Try.underlying25 hi hz hsz hby rfl (by omega) _ n _ hs hown ⟨g, 0, none⟩ m c (l2.map (Value.int .i64)) hx (by simp [hl2]) ?_ ?_ (by unfold maxLen; omega) (by omega) hbase ?_
  · exact World.ownsRow.cells h2 rfl
  · intro u hu
    obtain ⟨z, _, rfl⟩ := List.mem_map.1 hu
    rfl
  · intro v' w' h1 h2 h3
    have h3 : OwnI w' base v' (n + m) (l ++ l2) := by unfold OwnI; rw [List.map_append]; exact h1
    have h4 : ∃ A C, v' = .slice A (n + m) C := by
      obtain ⟨A, C, e, _⟩ := h3.slice
      exact ⟨A, C, e⟩
    obtain ⟨A, C, rfl⟩ := h4
    exact hK _ _ (h A C w' (Lib.hid h3) (Lib.hid (below_grown (Below.refl base w) h2 hbase (fun k hk => (hown.lt k hk).1))))
set_option maxRecDepth 100000 in
theorem sclone_any (A : Option Addr) (n C : Nat) (l : List Int) (hn : n ≤ 90000) (w : World) (h : OwnI w 0 (.slice A n C) n l) :
    Calls Try.prog 37 #[.slice A n C] w fun e w' => (∃ A2 C2, e = .returned (.slice A2 n C2) ∧ Hid (OwnI w' w.heap.size (.slice A2 n C2) n l)) ∧ Hid (Below w.heap.size w w') := by
  cases A with
  | none =>
    rcases h.2 with ⟨e, h0⟩ | ⟨g, cap, cur, e, _⟩
    · simp only [Value.slice.injEq] at e
      obtain ⟨_, rfl, rfl⟩ := e
      obtain rfl : l = [] := List.eq_nil_of_length_eq_zero h.length
      have q : ∀ (w : World) (a : Option Addr) (n c n' c' : Nat), (binOp .eql 25 (.slice a n c) (.slice none n' c')).run Try.prog w = .ok (.bool a.isNone) w := fun w a n c n' c' => Lib.run_eql_slice_nil w _ _ a n c n' c' Try.underlying25
      go_enter Try.func37, Try.ntmps37
      go_wp2
      go_ret
      exact ⟨⟨none, 0, rfl, Lib.hid (OwnI.none _ _)⟩, Lib.hid (Below.refl _ _)⟩
    · simp at e
  | some a =>
    rcases h.2 with ⟨e, h0⟩ | ⟨g, cap, cur, e, _⟩
    · simp at e
    · simp only [Value.slice.injEq, Option.some.injEq, true_and] at e
      obtain ⟨rfl, _⟩ := e
      have q : ∀ (w : World) (a : Option Addr) (n c n' c' : Nat), (binOp .eql 25 (.slice a n c) (.slice none n' c')).run Try.prog w = .ok (.bool a.isNone) w := fun w a n c n' c' => Lib.run_eql_slice_nil w _ _ a n c n' c' Try.underlying25
      have HO := Lib.hid (h.below ((Below.refl w.heap.size w).alloc (Nat.le_refl _) (.cells #[] 3)) (Nat.le_refl _))
      have HI : Hid (OwnI (w.alloc (.cells #[] 3)) w.heap.size (.slice (some ⟨w.heap.size, 0, none⟩) 0 0) 0 []) := Lib.hid (World.ownsRow_lit (base := w.heap.size) (e := 3) (size := 1) w #[] 0 (Nat.le_refl _) (Nat.zero_le _) rfl)
      have HS : Hid (w.heap.size ≤ (w.alloc (.cells #[] 3)).heap.size) := Lib.hid (by simp)
      have HK : Hid (0 + n ≤ 100000) := Lib.hid (by omega)
      clear h
      go_enter Try.func37, Try.ntmps37
      go_wp2_with (first
        | ((with_reducible refine wpList_append_list rfl (.tmp 5) (.tmp 6) rfl w.heap.size (some ⟨w.heap.size, 0, none⟩) 0 0 rfl [] HI.out g n C rfl l HO.out HK.out HS.out (fun e => by cases e) ?_); intro A2 C2 w2 HL2 HB2)
        | fail)
      go_ret
      have h2 := HL2.out
      rw [Nat.zero_add, List.nil_append] at h2
      exact ⟨⟨A2, C2, by simp, Lib.hid h2⟩, Lib.hid (((Below.refl w.heap.size w).alloc (Nat.le_refl _) _).trans HB2.out)⟩
set_option maxRecDepth 100000 in
theorem clone9_any (b k : Nat) (R : Rn) (A : Option Addr) (C : Nat) (xs : List Int) (hf : R.fit k) (w : World) (h : RB w b R A C xs) :
    Calls Try.prog 30 #[.pointer (some ⟨b, 0, none⟩)] w fun e w' => e = .returned (.pointer (some ⟨w.heap.size, 0, none⟩)) ∧ Hid (From w' w.heap.size w.heap.size R) ∧ Hid (Below w.heap.size w w') := by
  obtain ⟨c0, c1, c2, c3⟩ := h.blk.cells
  have hle := h.le
  have hhi := hf.hi
  have HR := Lib.hid h
  have HB0 : Hid (RBlk (w.alloc (.cells #[.int .i64 (R.room : Int), .int .i64 (R.first : Int), .int .i64 (R.next : Int), .slice A xs.length C] 63)) w.heap.size R.room R.first R.next (.slice A xs.length C)) := Lib.hid (Go.Deep.blk_alloc_new w _)
  have HA0 : Hid (Below w.heap.size w (w.alloc (.cells #[.int .i64 (R.room : Int), .int .i64 (R.first : Int), .int .i64 (R.next : Int), .slice A xs.length C] 63))) := Lib.hid ((Below.refl w.heap.size w).alloc (Nat.le_refl _) _)
  have HLE := Lib.hid (show xs.length ≤ 90000 by omega)
  have HBL := Lib.hid h.blk.lt
  clear h hle hhi hf
  go_enter Try.func30, Try.ntmps30
  go_upto_region 2 with fail
  have HS0 : Hid ((w.alloc (.cells #[.int .i64 (R.room : Int), .int .i64 (R.first : Int), .int .i64 (R.next : Int), .slice A xs.length C] 63)).heap.size = w.heap.size + 1) := Lib.hid (by simp)
  generalize w.alloc (.cells #[.int .i64 (R.room : Int), .int .i64 (R.first : Int), .int .i64 (R.next : Int), .slice A xs.length C] 63) = W at *
  have HRW := Lib.hid (HR.out.below HA0.out (Nat.le_refl _))
  obtain ⟨d0, d1, d2, d3⟩ := HRW.out.blk.cells
  have CS := Lib.hid (sclone_any A xs.length C xs HLE.out W HRW.out.own)
  clear c0 c1 c2 c3
  go_wp2_with (first
    | (go_at_call 37; (with_reducible refine (CS.out).mono ?_); rintro e w1 ⟨⟨A2, C2, rfl, HL⟩, HB1⟩; have HX := Lib.hid (HB0.out.below HB1.out HB0.out.lt); obtain ⟨p0, p1, p2, p3⟩ := HX.out.cells; have pf := HX.out.frozen 3)
    | fail)
  go_ret
  have hs := HS0.out
  have h1 := HB1.out.size
  have hown := HL.out.far (p := ⟨w.heap.size, 3, none⟩) (by show w.heap.size < W.heap.size; omega) (.slice A2 xs.length C2)
  refine ⟨rfl, Lib.hid ⟨A2, C2, xs, ⟨HX.out.setSlots _, hown.low (Nat.zero_le _), HR.out.le, HR.out.spot⟩, Nat.le_refl _, by simp; omega, fun k hk => ?_⟩, Lib.hid ?_⟩
  · have := (hown.lt k hk).1
    omega
  · exact (HA0.out.trans (HB1.out.mono (by omega))).setCell (p := ⟨w.heap.size, 3, none⟩) (Nat.le_refl _) _
end Go.Proofs.Ytjkobejhbgjhlaa
