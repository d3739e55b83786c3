/-
  Own text: Join, walked.
-/
import Derived.Test.YtpllflmflfbnpaaShift
import Derived.Deep.WholeRow
namespace Go.Proofs.Ytpllflmflfbnpaa
open Go.RowKit

/-- A matrix is laid into a new block. -/
theorem wpList_store_new {ops : Array Oper} {rest : List Oper} {o : Oper} {a : Act} {Q : Exit → Act → World → Prop} (hgd : o.guard = none) (x y : Operand) (ho : o.op = .store 40 x y)
    (W : World) (hx : a.eval x = .pointer (some ⟨W.heap.size, 0, none⟩)) (m : Nat → BitVec 32) (hy : a.eval y = .agg (arr m))
    (h : wpList Try.prog ops Q rest (a.put o.dst undef) (W.alloc (.cells (arr m) 40))) :
    wpList Try.prog ops Q (o :: rest) a (W.alloc (.cells #[Value.int .u32 0, Value.int .u32 0, Value.int .u32 0, Value.int .u32 0, Value.int .u32 0, Value.int .u32 0, Value.int .u32 0, Value.int .u32 0, Value.int .u32 0, Value.int .u32 0, Value.int .u32 0, Value.int .u32 0, Value.int .u32 0, Value.int .u32 0, Value.int .u32 0, Value.int .u32 0, Value.int .u32 0, Value.int .u32 0, Value.int .u32 0, Value.int .u32 0, Value.int .u32 0, Value.int .u32 0, Value.int .u32 0, Value.int .u32 0, Value.int .u32 0, Value.int .u32 0, Value.int .u32 0, Value.int .u32 0, Value.int .u32 0, Value.int .u32 0, Value.int .u32 0, Value.int .u32 0] 40)) := by
  rw [zero_arr]
  refine wpList_store_row hgd 40 x y ho W.heap.size (arr m) hx hy 40 (arr fun _ => 0#32) (heap_alloc_new _ _) (mat_info m) (by rw [arr_size, arr_size]) (all_oneCell_toArray (arr_one m)) ?_
  rwa [World.setRow_alloc_new]
theorem wpList_load_mat {w : World} {ops : Array Oper} {rest : List Oper} {o : Oper} {a : Act} {Q : Exit → Act → World → Prop} (hgd : o.guard = none) (x : Operand) (ho : o.op = .load 40 x)
    (g : Nat) (hx : a.eval x = .pointer (some ⟨g, 0, none⟩)) (m : Nat → BitVec 32) (hg : Mat w g m)
    (h : wpList Try.prog ops Q rest (a.put o.dst (.agg (arr m))) w) : wpList Try.prog ops Q (o :: rest) a w :=
  wpList_load_row hgd 40 x ho g hx 40 (arr m) (0, 0) _ hg Try.underlying40 rfl (mat_info m) h
theorem wpList_store_mat {w : World} {ops : Array Oper} {rest : List Oper} {o : Oper} {a : Act} {Q : Exit → Act → World → Prop} (hgd : o.guard = none) (x y : Operand) (ho : o.op = .store 40 x y)
    (g : Nat) (hx : a.eval x = .pointer (some ⟨g, 0, none⟩)) (m : Nat → BitVec 32) (hy : a.eval y = .agg (arr m)) (m0 : Nat → BitVec 32) (hg : Mat w g m0)
    (h : ∀ w', Hid (Mat w' g m) → Hid (Below g w w') → w'.heap.size = w.heap.size → wpList Try.prog ops Q rest (a.put o.dst undef) w') : wpList Try.prog ops Q (o :: rest) a w :=
  wpList_store_row hgd 40 x y ho g (arr m) hx hy 40 (arr m0) hg (mat_info m) (by rw [arr_size, arr_size]) (all_oneCell_toArray (arr_one m))
    (h _ (Lib.hid (Mat.store hg)) (Lib.hid (below_setRow (Below.refl _ _) (Nat.le_refl _) _)) (size_setRow _ _ _))
theorem and_one (n : Nat) (h : n ≤ 9223372036854775807) : bits .and .i64 (n : Int) 1 = (n : Int) % 2 := by
  have m1 : ((n : Int) % ((2 ^ IntKind.i64.bits : Nat) : Int)).toNat = n := by
    show ((n : Int) % 18446744073709551616).toNat = n
    omega
  have m2 : ((1 : Int) % ((2 ^ IntKind.i64.bits : Nat) : Int)).toNat = 1 := rfl
  simp only [bits, BitVec.toNat_and, BitVec.toNat_ofInt, m1, m2, Nat.and_one_is_mod]
  rw [IntKind.wrap_i64]
  omega
theorem join_none (a b : BitVec 32) (n : Int) (w : World) (h : n ≤ 0) :
    Calls Try.prog 21 #[.int .u32 a.toNat, .int .u32 b.toNat, .int .i64 n] w fun e w' => e = .returned (.int .u32 a.toNat) ∧ Below w.heap.size w w' := by
  go_enter Try.func21, Try.ntmps21
  go_wp2
  go_ret
  exact ⟨rfl, Below.refl _ _⟩
set_option maxRecDepth 100000 in
theorem join_some (a b : BitVec 32) (n : Nat) (w : World) (h : 0 < n) (hm : n ≤ 9223372036854775807) :
    Calls Try.prog 21 #[.int .u32 a.toNat, .int .u32 b.toNat, .int .i64 n] w fun e w' => e = .returned (.int .u32 (ones (8 * n) a ^^^ b).toNat) ∧ Below w.heap.size w w' := by
  have h0 : ¬ (n : Int) ≤ 0 := by omega
  have cs := fun w => shift_any 8 8 (by decide) (by omega) w
  have CS := Lib.hid cs
  clear cs
  go_enter Try.func21, Try.ntmps21
  go_wp2_with (first
    | (go_at_call 22; refine (CS.out _).mono ?_; rintro e w1 ⟨rfl, hb1⟩; have HB1 := Lib.hid hb1; clear hb1)
    | (with_reducible refine wpList_store_new rfl (.tmp 7) (.tmp 11) rfl w1 rfl (matOf 8) rfl ?_))
  simp only [Act.put]
  have HB2 := Lib.hid (HB1.out.alloc HB1.out.size (.cells (arr (matOf 8)) 40))
  have HM := Lib.hid (Mat.new w1 (matOf 8))
  have HG := Lib.hid HB1.out.size
  clear h0
  generalize w1.alloc (.cells (arr (matOf 8)) 40) = W at *
  go_loopw [0, 2, 7] (fun av nv pv wr => ∃ (k : Nat) (A : BitVec 32) (g N : Nat), nv = .int .i64 k ∧ av = .int .u32 A.toNat ∧ pv = .pointer (some ⟨g, 0, none⟩) ∧ k ≤ 9223372036854775807 ∧ Hid (ones (N * k) A = ones (8 * n) a) ∧ Hid (Mat wr g (matOf N)) ∧ Hid (w.heap.size ≤ g) ∧ Hid (Below w.heap.size w wr)) (fun _ nv _ _ => (intOf nv).toNat)
  case atStart => exact ⟨n, a, _, 8, rfl, rfl, rfl, hm, Lib.hid rfl, HM, HG, HB2⟩
  case round =>
    clear HB2 HM HG
    obtain ⟨k, A, g, N, rfl, rfl, rfl, hk, HA, HM, HG, HB⟩ := hrel
    by_cases hz : k = 0
    · subst hz
      have e : A = ones (8 * n) a := HA.out
      subst e
      have bx := bits_xor (ones (8 * n) a) b
      clear HA
      go_wp2
      go_ret
      exact ⟨rfl, HB.out⟩
    · have k1 : (0 : Int) < k := by omega
      have ao := and_one k hk
      have ct := fun w => times_any (matOf N) A w
      rw [timesN_all] at ct
      have CT := Lib.hid ct
      clear ct
      cases hodd : ((k : Int) % 2 == 1)
      · have hev : k = k / 2 + k / 2 := by simp at hodd; omega
        have HA' : Hid (ones ((N + N) * (k / 2)) A = ones (8 * n) a) := Lib.hid (by rw [← HA.out, Nat.add_mul, ← Nat.mul_add, ← hev])
        clear hev
        go_wp2_with (first
          | (with_reducible refine wpList_load_mat rfl (.tmp 22) rfl g rfl (matOf N) HM.out ?_)
          | (with_reducible refine wpList_load_mat rfl (.tmp 7) rfl g rfl (matOf N) HM.out ?_)
          | (go_at_call 28; refine (twice_any N _).mono ?_; rintro e w2 ⟨rfl, hb2⟩; have HB2 := Lib.hid (HB.out.trans (hb2.mono HB.out.size)); have HM2 := Lib.hid (HM.out.below hb2 HM.out.lt); clear hb2)
          | (with_reducible refine wpList_store_mat rfl (.tmp 7) (.tmp 23) rfl g rfl (matOf (N + N)) rfl (matOf N) HM2.out ?_; intro w3 HM3 HB3 hs3; have HS3 := Lib.hid hs3; clear hs3)
          | (with_reducible refine wpList_load_mat rfl (.tmp 7) rfl g rfl (matOf (N + N)) HM3.out ?_)
          | (with_reducible refine wpList_store_new rfl (.tmp 7) (.tmp 24) rfl w3 rfl (matOf (N + N)) rfl ?_))
        refine ⟨⟨k / 2, A, w3.heap.size, N + N, congrArg _ (by simp), rfl, rfl, by omega, HA', Lib.hid (Mat.new _ _), Lib.hid ?_, Lib.hid ?_⟩, by simp [intOf]; omega⟩
        · rw [HS3.out]; exact HB2.out.size
        · exact (HB2.out.trans (HB3.out.mono HG.out)).alloc (by rw [HS3.out]; exact HB2.out.size) _
      · have hev : k = 1 + k / 2 + k / 2 := by simp at hodd; omega
        have HA' : Hid (ones ((N + N) * (k / 2)) (ones N A) = ones (8 * n) a) := Lib.hid (by
          rw [← HA.out, ← ones_add, Nat.add_mul, ← Nat.mul_add]
          congr 1
          conv => rhs; rw [hev, Nat.add_assoc, Nat.mul_add, Nat.mul_one])
        clear hev
        go_wp2_with (first
          | (go_at_call 27; refine (CT.out _).mono ?_; rintro e w1' ⟨rfl, hb1⟩; have HB1 := Lib.hid (HB.out.trans (hb1.mono HB.out.size)); have HM1 := Lib.hid (HM.out.below hb1 HM.out.lt); clear hb1)
          | (go_at_call 28; refine (twice_any N _).mono ?_; rintro e w2 ⟨rfl, hb2⟩; have HB2 := Lib.hid (HB1.out.trans (hb2.mono HB1.out.size)); have HM2 := Lib.hid (HM1.out.below hb2 HM1.out.lt); clear hb2)
          | (with_reducible refine wpList_load_mat rfl (.tmp 7) rfl g rfl (matOf N) HM.out ?_)
          | (with_reducible refine wpList_load_mat rfl (.tmp 7) rfl g rfl (matOf N) HM1.out ?_)
          | (with_reducible refine wpList_store_mat rfl (.tmp 7) (.tmp 23) rfl g rfl (matOf (N + N)) rfl (matOf N) HM2.out ?_; intro w3 HM3 HB3 hs3; have HS3 := Lib.hid hs3; clear hs3)
          | (with_reducible refine wpList_load_mat rfl (.tmp 7) rfl g rfl (matOf (N + N)) HM3.out ?_)
          | (with_reducible refine wpList_store_new rfl (.tmp 7) (.tmp 24) rfl w3 rfl (matOf (N + N)) rfl ?_))
        refine ⟨⟨k / 2, ones N A, w3.heap.size, N + N, congrArg _ (by simp), rfl, rfl, by omega, HA', Lib.hid (Mat.new _ _), Lib.hid ?_, Lib.hid ?_⟩, by simp [intOf]; omega⟩
        · rw [HS3.out]; exact HB2.out.size
        · exact (HB2.out.trans (HB3.out.mono HG.out)).alloc (by rw [HS3.out]; exact HB2.out.size) _
end Go.Proofs.Ytpllflmflfbnpaa
