/-
  Own text: the law WordGets, walked.
  Own text: words as bytes, the highest first; put, Put16, Put32, the document's Bytes and Get, walked.
  Own text: layer 17 (group): inputs and shards in lists of the call's own; what an append leaves.
  Own text: layer 17 (group): a group's shards in plain numbers; its box; Make, walked.
  Own text: layer 17 (group): Make of as many inputs as there may be, walked.
-/
import Derived.Test.YtjcbcdjfhcnhcaaK01
import Derived.Test.YtjcbcdjfhcnhcaaK03
import Derived.Test.YtjcbcdjfhcnhcaaK12
import Derived.Test.YtjcbcdjfhcnhcaaK10
import Derived.Maps.AppendAt
namespace Go.Proofs.Ytjcbcdjfhcnhcaa
open Go.RowKit

/-- The word of some bytes, the highest first. -/
def wordOf (l : List Int) : Int := l.foldl (fun w b => w * 256 + b) 0
theorem wordOf_snoc (zs : List Int) (k : Nat) (h : k < zs.length) : wordOf (zs.take (k + 1)) = wordOf (zs.take k) * 256 + zs.getD k 0 := by
  unfold wordOf
  rw [List.take_succ_eq_append_getElem h, List.foldl_append, List.getD_eq_getElem?_getD, List.getElem?_eq_getElem h]
  rfl
theorem wordOf_bound (zs : List Int) (len : Nat) (hl : len ≤ zs.length) (hz : ∀ i, i < len → 0 ≤ zs.getD i 0 ∧ zs.getD i 0 ≤ 255) : ∀ k, k ≤ len → 0 ≤ wordOf (zs.take k) ∧ wordOf (zs.take k) < 256 ^ k
  | 0, _ => by simp [wordOf]
  | k + 1, h => by
    have ih := wordOf_bound zs len hl hz k (by omega)
    have hb := hz k (by omega)
    rw [wordOf_snoc zs k (by omega), Int.pow_succ]
    omega
theorem wordOf_step {w : World} {b off len cap : Nat} {zs : List Int} (h : RowAt .u8 w b off len cap zs) (k : Nat) (hk : k < len) (h8 : k < 8) :
    0 ≤ wordOf (zs.take k) ∧ wordOf (zs.take k) ≤ 72057594037927935 ∧ 0 ≤ zs.getD k 0 ∧ zs.getD k 0 ≤ 255 ∧ wordOf (zs.take (k + 1)) = wordOf (zs.take k) * 256 + zs.getD k 0 := by
  have hs := h.size
  have hle := h.le
  have hz : ∀ i, i < len → 0 ≤ zs.getD i 0 ∧ zs.getD i 0 ≤ 255 := fun i hi => by
    have := h.wf i hi
    simp [Lit.wf, IntKind.min, IntKind.max, IntKind.bits, IntKind.signed] at this
    simpa using this
  obtain ⟨a, c⟩ := wordOf_bound zs len (by omega) hz k (by omega)
  refine ⟨a, ?_, (hz k hk).1, (hz k hk).2, wordOf_snoc zs k (by omega)⟩
  have : (256 : Int) ^ k ≤ 72057594037927936 := by
    rcases (show k = 0 ∨ k = 1 ∨ k = 2 ∨ k = 3 ∨ k = 4 ∨ k = 5 ∨ k = 6 ∨ k = 7 by omega) with rfl | rfl | rfl | rfl | rfl | rfl | rfl | rfl <;> decide
  omega

theorem or_byte (W b : Int) (h0 : 0 ≤ W) (h1 : W ≤ 72057594037927935) (h2 : 0 ≤ b) (h3 : b ≤ 255) : bits .or .u64 (W * 256) b = W * 256 + b := by
  obtain ⟨X, rfl⟩ : ∃ X : Nat, W = X := ⟨W.toNat, by omega⟩
  obtain ⟨Y, rfl⟩ : ∃ Y : Nat, b = Y := ⟨b.toNat, by omega⟩
  have m1 : (((X : Int) * 256) % ((2 ^ IntKind.u64.bits : Nat) : Int)).toNat = X * 256 := by
    show (((X : Int) * 256) % 18446744073709551616).toNat = X * 256
    omega
  have m2 : ((Y : Int) % ((2 ^ IntKind.u64.bits : Nat) : Int)).toNat = Y := by
    show ((Y : Int) % 18446744073709551616).toNat = Y
    omega
  have o : X * 256 ||| Y = X * 256 + Y := by
    rw [show X * 256 = X <<< 8 from (Nat.shiftLeft_eq X 8).symm, ← Nat.shiftLeft_add_eq_or_of_lt (by omega)]
  simp only [bits, BitVec.toNat_or, BitVec.toNat_ofInt, m1, m2, o]
  rw [IntKind.wrap_u64]
  omega

theorem get_any (b off len cap : Nat) (zs : List Int) (w : World) (h : RowAt .u8 w b off len cap zs) (hl : 0 < len) :
    Calls Try.prog 96 #[.slice (some ⟨b, off, none⟩) len cap] w fun e w' => e = .returned (.int .u64 (wordOf (zs.take (min len 8)))) ∧ w = w' := by
  have hc := h.max
  have hle := h.le
  by_cases h8 : len ≤ 8
  · go_enter Try.func96, Try.ntmps96
    go_wp2
    go_loop [3, 12] (fun v i => ∃ k : Nat, k ≤ len ∧ i = .int .i64 k ∧ v = .int .u64 (wordOf (zs.take k))) (fun _ i => len - (intOf i).toNat)
    case atStart => exact ⟨0, by omega, rfl, rfl⟩
    case round =>
      obtain ⟨k, hk, rfl, rfl⟩ := hrel
      by_cases h1 : k < len
      · have c := h.cell k (by omega)
        obtain ⟨a1, a2, a3, a4, a5⟩ := wordOf_step h k (by omega) (by omega)
        have A5 := Lib.hid a5
        have o := or_byte _ _ a1 a2 a3 a4
        rw [List.getD_eq_getElem?_getD] at c o a3 a4
        have A4 := Lib.hid o
        clear a5 o
        go_wp2
        go_round
        case rel =>
          refine ⟨k + 1, by omega, by go_num, congrArg _ ?_⟩
          rw [A5.out, A4.out, List.getD_eq_getElem?_getD]
        case measure => simp [intOf]; omega
      · obtain rfl : k = len := by omega
        clear hk h1
        go_wp2
        go_ret
        exact ⟨ret_int (by first | rfl | (rw [show min len 8 = 8 by omega])), rfl⟩
  · have e8 : max (8 : Int) 0 = 8 := by decide
    go_enter Try.func96, Try.ntmps96
    go_wp2
    clear e8
    go_loop [3, 12] (fun v i => ∃ k : Nat, k ≤ 8 ∧ i = .int .i64 k ∧ v = .int .u64 (wordOf (zs.take k))) (fun _ i => 8 - (intOf i).toNat)
    case atStart => exact ⟨0, by omega, rfl, rfl⟩
    case round =>
      obtain ⟨k, hk, rfl, rfl⟩ := hrel
      by_cases h1 : k < 8
      · have c := h.cell k (by omega)
        obtain ⟨a1, a2, a3, a4, a5⟩ := wordOf_step h k (by omega) (by omega)
        have A5 := Lib.hid a5
        have o := or_byte _ _ a1 a2 a3 a4
        rw [List.getD_eq_getElem?_getD] at c o a3 a4
        have A4 := Lib.hid o
        clear a5 o
        go_wp2
        go_round
        case rel =>
          refine ⟨k + 1, by omega, by go_num, congrArg _ ?_⟩
          rw [A5.out, A4.out, List.getD_eq_getElem?_getD]
        case measure => simp [intOf]; omega
      · obtain rfl : k = 8 := by omega
        clear hk h1
        go_wp2
        go_ret
        exact ⟨ret_int (by first | rfl | (rw [show min len 8 = 8 by omega])), rfl⟩

end Go.Proofs.Ytjcbcdjfhcnhcaa
namespace Go.Proofs.Ytjcbcdjfhcnhcaa
open Go.RowKit

/-- A byte of a word of k bytes. -/
def bt (k : Nat) (z : Int) (i : Nat) : Int := z / 256 ^ (k - 1 - i) % 256
/-- A word's bytes, the highest first. -/
def be (k : Nat) (z : Int) : List Int := (List.range k).map (bt k z)
theorem bt_range (k : Nat) (z : Int) (i : Nat) : 0 ≤ bt k z i ∧ bt k z i ≤ 255 := by unfold bt; omega
theorem be_length (k : Nat) (z : Int) : (be k z).length = k := by simp [be]
theorem be_range (k : Nat) (z : Int) : ∀ x ∈ be k z, 0 ≤ x ∧ x ≤ 255 := by
  intro x hx
  obtain ⟨i, _, rfl⟩ := List.mem_map.1 hx
  exact bt_range k z i
theorem be_two (z : Int) : be 2 z = [z / 256 % 256, z % 256] := by
  simp [be, bt, List.range_succ]
/-- A new block of bytes is answered. -/
def NewRow (n : Nat) (L : List Int) (w : World) (e : Ending) (w' : World) : Prop :=
  ∃ g, e = .returned (.slice (some ⟨g, 0, none⟩) n n) ∧ w.heap.size ≤ g ∧ Row8 w' g 5 L ∧ Below w.heap.size w w'
/-- The word as far as it is written. -/
def bes (k : Nat) (z : Int) (i : Nat) : List Int := (be k z).take i ++ List.replicate (k - i) 0
theorem NewRow.bytes {n : Nat} {l : List Int} {g : Nat} {w : World} (h : Row8 w g 5 l) (hn : l.length = n) (hm : n ≤ 200000) (hz : ∀ z ∈ l, 0 ≤ z ∧ z ≤ 255) : Bytes w (some ⟨g, 0, none⟩) n l := h.whole hz n hn.symm (by omega)

theorem Bytes.rowAt {w : World} {b off n cap : Nat} {l : List Int} (h : Bytes w (some ⟨b, off, none⟩) n l) (h0 : 0 < n) (hc : n ≤ cap) (hm : cap ≤ 9223372036854775807) : RowAt .u8 w b off n cap (l ++ List.replicate (cap - n) 0) := by
  have hs := h.size
  have e : ∀ i, i < n → (l ++ List.replicate (cap - n) 0).getD i 0 = l.getD i 0 := fun i hi => by
    rw [List.getD_eq_getElem?_getD, List.getElem?_append_left (by omega), List.getD_eq_getElem?_getD]
  refine ⟨hc, hm, by simp [hs]; omega, fun i hi => ?_, fun i hi => ?_⟩
  · rcases h.cell with g | ⟨_, b', off', e', _, g⟩
    · omega
    · simp only [Option.some.injEq, Addr.mk.injEq, and_true] at e'
      obtain ⟨rfl, rfl⟩ := e'
      rw [e i hi]
      exact g i hi
  · rw [e i hi]
    have := h.byte i hi
    simp [Lit.wf, IntKind.min, IntKind.max, IntKind.bits, IntKind.signed]
    simp at this
    omega
theorem take_pad (l : List Int) (n cap : Nat) (hs : l.length = n) (h8 : n ≤ 8) : (l ++ List.replicate (cap - n) 0).take (min n 8) = l := by
  rw [Nat.min_eq_left h8, List.take_append_of_le_length (by omega), List.take_of_length_le (by omega)]
theorem get7_any (a : Option Addr) (n cap : Nat) (l : List Int) (w : World) (h : Bytes w a n l) (h0 : 0 < n) (h8 : n ≤ 8) (hc : n ≤ cap) (hm : cap ≤ 9223372036854775807) :
    Calls Try.prog 96 #[.slice a n cap] w fun e w' => e = .returned (.int .u64 (wordOf l)) ∧ w = w' := by
  rcases h.cell with g | ⟨_, b, off, rfl, _, _⟩
  · omega
  · have := get_any b off n cap _ w (h.rowAt h0 hc hm) h0
    rwa [take_pad l n cap h.size h8] at this
end Go.Proofs.Ytjcbcdjfhcnhcaa
namespace Go.Proofs.Ytjcbcdjfhcnhcaa
open Go.RowKit

theorem info_in : (Try.prog.info? 79).map (fun i => (i.zero, i.size, i.bytes)) = some (some (.int .u16 0), 1, 2) := by kernel_rfl
/-- Inputs in a slice of the call's own. -/
def OwnU (w : World) (base : Nat) (v : Value) (n : Nat) (l : List Int) : Prop := w.ownsRow base 79 1 v n (l.map (Value.int .u16))
theorem OwnU.none (w : World) (base : Nat) : OwnU w base (.slice none 0 0) 0 [] := ⟨rfl, .inl ⟨rfl, rfl⟩⟩
theorem OwnU.length {w : World} {base : Nat} {v : Value} {n : Nat} {l : List Int} (h : OwnU w base v n l) : l.length = n := by
  have := h.1; simpa using this
theorem OwnU.slice {w : World} {base : Nat} {v : Value} {n : Nat} {l : List Int} (h : OwnU w base v n l) : ∃ A C, v = .slice A n C ∧ n ≤ C ∧ C ≤ maxLen := by
  rcases h.2 with ⟨rfl, rfl⟩ | ⟨g, cap, cur, rfl, _, _, h1, h2, _⟩
  · exact ⟨_, _, rfl, Nat.le_refl _, Nat.zero_le _⟩
  · exact ⟨_, _, rfl, h1, h2⟩
theorem OwnU.keep {w w' : World} {base : Nat} {v : Value} {n : Nat} {l : List Int} (h : OwnU w base v n l) (hk : ∀ g, v.ownBlock = some g → w'.heap[g]? = w.heap[g]?) : OwnU w' base v n l := by
  refine ⟨h.1, h.2.imp id ?_⟩
  rintro ⟨g, cap, cur, e, h1, hg, h2⟩
  exact ⟨g, cap, cur, e, h1, (hk g (by rw [e]; rfl)).trans hg, h2⟩
theorem OwnU.lt {w : World} {base : Nat} {v : Value} {n : Nat} {l : List Int} (h : OwnU w base v n l) : ∀ g, v.ownBlock = some g → base ≤ g ∧ g < w.heap.size := World.ownsRow.lt h
theorem OwnU.below {w w' : World} {base B : Nat} {v : Value} {n : Nat} {l : List Int} (h : OwnU w base v n l) (hb : Below B w w') (hB : w.heap.size ≤ B) : OwnU w' base v n l :=
  h.keep (fun g hg => hb.block g (Nat.lt_of_lt_of_le (h.lt g hg).2 hB))
theorem OwnU.low {w : World} {base b : Nat} {v : Value} {n : Nat} {l : List Int} (h : OwnU w base v n l) (hb : b ≤ base) : OwnU w b v n l := by
  refine ⟨h.1, h.2.imp id ?_⟩
  rintro ⟨g, cap, cur, e, h1, h2⟩
  exact ⟨g, cap, cur, e, by omega, h2⟩
/-- Where an element is: its block is no struct's. -/
theorem OwnU.at_ {w : World} {base : Nat} {A : Option Addr} {n C : Nat} {l : List Int} (h : OwnU w base (.slice A n C) n l) (i : Nat) (hi : i < n) :
    ∃ g, A = some ⟨g, 0, Option.none⟩ ∧ base ≤ g ∧ g < w.heap.size ∧ w.cell? ⟨g, i, Option.none⟩ = some (.int .u16 (l.getD i 0)) ∧ w.frozen? ⟨g, i, Option.none⟩ = false ∧ n ≤ C ∧ C ≤ maxLen ∧ (∃ cur : Array Value, w.heap[g]? = some (.cells cur 79 (0, 0))) := by
  have hl := h.length
  have hs := h.2
  rcases hs with ⟨e, h0⟩ | ⟨g, cap, cur, e, h1, hg, h3, h4, _⟩
  · omega
  · simp only [Value.slice.injEq, true_and] at e
    obtain ⟨rfl, rfl⟩ := e
    refine ⟨g, rfl, h1, (Array.getElem?_eq_some_iff.1 hg).1, ?_, World.ownsRow.frozenAt h i, h3, h4, cur, hg⟩
    rw [World.ownsRow.cellAt h i (by omega), List.getElem?_map, List.getD_eq_getElem?_getD, List.getElem?_eq_getElem (by omega)]
    rfl
theorem OwnU.cell {w : World} {base g : Nat} {n C : Nat} {l : List Int} (h : OwnU w base (.slice (some ⟨g, 0, Option.none⟩) n C) n l) (i : Nat) (hi : i < n) : w.cell? ⟨g, i, Option.none⟩ = some (.int .u16 (l.getD i 0)) := by
  obtain ⟨g', e, _, _, h, _⟩ := h.at_ i hi
  simp only [Option.some.injEq, Addr.mk.injEq, and_true] at e
  rw [e]; exact h
theorem OwnU.set {w : World} {base g : Nat} {n C : Nat} {l : List Int} (h : OwnU w base (.slice (some ⟨g, 0, Option.none⟩) n C) n l) (i : Nat) (z : Int) : OwnU (w.setCell ⟨g, i, Option.none⟩ (.int .u16 z)) base (.slice (some ⟨g, 0, Option.none⟩) n C) n (l.set i z) := by
  have := (World.ownsRow.stored h i (.int .u16 z)).1
  unfold OwnU
  rw [List.map_set]
  exact this
/-- Inputs that can be read. -/
def Ins (w : World) (a : Option Addr) (n : Nat) (l : List Int) : Prop := l.length = n ∧ (n = 0 ∨ ∃ b off, a = some ⟨b, off, none⟩ ∧ b < w.heap.size ∧ ∀ i, i < n → w.cell? ⟨b, off + i, none⟩ = some (.int .u16 (l.getD i 0)))
theorem Ins.below {w w' : World} {a : Option Addr} {n B : Nat} {l : List Int} (h : Ins w a n l) (hb : Below B w w') (hB : w.heap.size ≤ B) : Ins w' a n l :=
  ⟨h.1, h.2.imp id fun ⟨g, off, e, hl, hc⟩ => ⟨g, off, e, Nat.lt_of_lt_of_le hl hb.size, fun i hi => (hb.cell (p := ⟨g, off + i, none⟩) (by show g < B; omega)).trans (hc i hi)⟩⟩
theorem OwnU.ins {w : World} {base : Nat} {A : Option Addr} {n C : Nat} {l : List Int} (h : OwnU w base (.slice A n C) n l) : Ins w A n l := by
  refine ⟨h.length, ?_⟩
  rcases Nat.eq_zero_or_pos n with h0 | h0
  · exact .inl h0
  · obtain ⟨g, rfl, _, hg, _⟩ := h.at_ 0 h0
    exact .inr ⟨g, 0, rfl, hg, fun i hi => by rw [Nat.zero_add]; exact h.cell i hi⟩
/-- What stands behind a slice of the call's own. -/
theorem wp_append_rows {w : World} {o : Oper} {a : Act} {K : Act → World → Prop} {Q : Exit → Act → World → Prop} (s x : Operand) (t e : TypeId)
    (ho : o.op = .call { callee := .builtin .append, args := #[s, x], argTypes := #[t, t] })
    (z : Value) (bytes : Nat) (ht : Try.prog.underlying t = some (.slice e)) (hinfo : (Try.prog.info? e).map (fun i => (i.zero, i.size, i.bytes)) = some (some z, 1, bytes)) (hz : z.cells.size = 1) (hby : bytes ≤ 1000)
    (base : Nat) (A : Option Addr) (n C : Nat) (hs : a.eval s = .slice A n C) (xs : List Value) (hown : w.ownsRow base e 1 (.slice A n C) n xs)
    (B : Option Addr) (m c : Nat) (hx : a.eval x = .slice B m c) (ys : List Value) (hm : ys.length = m) (hy : ∀ j u, ys[j]? = some u → ∃ p, B = some p ∧ w.cell? (p.add j) = some u) (hnil : B = none → c = 0) (h1 : ∀ u ∈ ys, u.oneCell' = true) (hb : n + m ≤ 100000) (hbase : base ≤ w.heap.size)
    (N : Nat) (hN : N = n + m) (zs : List Value) (hzs : zs = xs ++ ys)
    (h : ∀ A' C' w', Hid (w'.ownsRow base e 1 (.slice A' N C') N zs) → Hid (w.grownBy w' (Value.slice A n C).ownBlock) → Hid ((Value.slice A' N C').ownBlock = (Value.slice A n C).ownBlock ∨ (Value.slice A' N C').ownBlock = some w.heap.size) → K (a.put o.dst (.slice A' N C')) w') :
    o.wp Try.prog a w K Q := by
  subst hN hzs
  obtain ⟨i, hi, hzz⟩ := Option.map_eq_some_iff.1 hinfo
  simp only [Prod.mk.injEq] at hzz
  obtain ⟨hz0, hsz, hby0⟩ := hzz
  cases B with
  | none =>
    have hc : c = 0 := hnil rfl
    have h0 : ys = [] := by
      cases ys with
      | nil => rfl
      | cons u ys =>
        obtain ⟨p, hp, _⟩ := hy 0 u rfl
        cases hp
    subst h0
    have hm0 : m = 0 := by simpa using hm.symm
    subst hm0 hc
    have hrun := run_append_owned_none (P := Try.prog) (w := w) base t o.type e i 1 ht hi _ n _ hown
    unfold Oper.wp
    simp [execOp, ho, resolve, invoke, builtin, hs, hx, hrun, Result.andThen]
    have h2 := h A C w (Lib.hid (by simpa using hown)) (Lib.hid ⟨rfl, rfl, rfl, Nat.le_refl _, fun _ _ _ => rfl⟩) (Lib.hid (.inl (by rw [Nat.add_zero])))
    rw [Nat.add_zero] at h2
    exact h2
  | some ad =>
    have hbm := Nat.mul_le_mul hb hby
    obtain ⟨v', w', hr, h2, h3, _, h5⟩ := run_append_own_at (P := Try.prog) w base t o.type e i z 1 bytes ht hi hz0 hsz hby0 hz (by omega) _ n _ hown ad m c ys (by omega) (fun j u hu => by
      obtain ⟨p, hp, hq⟩ := hy j u hu
      cases hp
      exact hq) h1 (by unfold maxLen; omega) (by omega) hbase
    have h4 : ∃ A C, v' = .slice A (n + m) C := by
      rcases h2.2 with ⟨rfl, h0⟩ | ⟨g, cap, cur, rfl, _⟩
      · exact ⟨none, 0, by rw [h0]⟩
      · exact ⟨_, _, rfl⟩
    obtain ⟨A', C', rfl⟩ := h4
    unfold Oper.wp execOp
    simp only [ho, resolve, invoke, builtin, Sem.run_bind, Sem.run_pure, Result.andThen_ok, List.map_toArray, List.map_cons, List.map_nil, hs, hx, hr]
    exact h A' C' w' (Lib.hid h2) (Lib.hid h3) (Lib.hid h5)
/-- Inputs behind inputs. -/
theorem wp_append_us {w : World} {o : Oper} {a : Act} {K : Act → World → Prop} {Q : Exit → Act → World → Prop} (s x : Operand)
    (ho : o.op = .call { callee := .builtin .append, args := #[s, x], argTypes := #[24, 24] })
    (base : Nat) (A : Option Addr) (n C : Nat) (hs : a.eval s = .slice A n C) (l : List Int) (hown : OwnU w base (.slice A n C) n l)
    (B : Option Addr) (m c : Nat) (hx : a.eval x = .slice B m c) (y : List Int) (hy : Ins w B m y) (hnil : B = none → c = 0) (hb : n + m ≤ 100000) (hbase : base ≤ w.heap.size)
    (N : Nat) (hN : N = n + m) (L : List Int) (hL : L = l ++ y)
    (h : ∀ A' C' w', Hid (OwnU w' base (.slice A' N C') N L) → Hid (w.grownBy w' (Value.slice A n C).ownBlock) → Hid ((Value.slice A' N C').ownBlock = (Value.slice A n C).ownBlock ∨ (Value.slice A' N C').ownBlock = some w.heap.size) → K (a.put o.dst (.slice A' N C')) w') :
    o.wp Try.prog a w K Q := by
  refine wp_append_rows s x 24 79 ho _ 2 Try.underlying24 info_in rfl (by omega) base A n C hs _ hown B m c hx (y.map (Value.int .u16)) (by simpa using hy.1) ?_ hnil ?_ hb hbase N hN (L.map (Value.int .u16)) (by rw [hL, List.map_append]) h
  · intro j u hu
    have hj : j < m := by have := (List.getElem?_eq_some_iff.1 hu).1; simpa [hy.1] using this
    rcases hy.2 with h0 | ⟨b, off, rfl, _, hc⟩
    · omega
    · refine ⟨_, rfl, ?_⟩
      rw [onto_any, hc j hj, ← hu, List.getElem?_map, List.getD_eq_getElem?_getD, List.getElem?_eq_getElem (by have := hy.1; omega)]
      rfl
  · intro u hu
    obtain ⟨z, _, rfl⟩ := List.mem_map.1 hu
    rfl
theorem step_append_us {w : World} {ops : Array Oper} {o : Oper} {a : Act} {K : Act → World → Prop} {Q : Exit → Act → World → Prop} {E : Prop} (hgd : o.guard = none) (s x : Operand)
    (ho : o.op = .call { callee := .builtin .append, args := #[s, x], argTypes := #[24, 24] })
    (base : Nat) (A : Option Addr) (n C : Nat) (hs : a.eval s = .slice A n C) (l : List Int) (hown : OwnU w base (.slice A n C) n l)
    (B : Option Addr) (m c : Nat) (hx : a.eval x = .slice B m c) (y : List Int) (hy : Ins w B m y) (hnil : B = none → c = 0) (hb : n + m ≤ 100000) (hbase : base ≤ w.heap.size)
    (N : Nat) (hN : N = n + m) (L : List Int) (hL : L = l ++ y)
    (h : ∀ A' C' w', Hid (OwnU w' base (.slice A' N C') N L) → Hid (w.grownBy w' (Value.slice A n C).ownBlock) → Hid ((Value.slice A' N C').ownBlock = (Value.slice A n C).ownBlock ∨ (Value.slice A' N C').ownBlock = some w.heap.size) → K (a.put o.dst (.slice A' N C')) w') :
    if Region.wanted o (yielded ops a.tmps) = true then Oper.wp Try.prog o a w K Q else E := by
  have hw : Region.wanted o (yielded ops a.tmps) = true := by simp [Region.wanted, hgd]
  rw [if_pos hw]
  exact wp_append_us s x ho base A n C hs l hown B m c hx y hy hnil hb hbase N hN L hL h
/-- Slices behind slices. -/
theorem wp_append_ss {w : World} {o : Oper} {a : Act} {K : Act → World → Prop} {Q : Exit → Act → World → Prop} (s x : Operand)
    (ho : o.op = .call { callee := .builtin .append, args := #[s, x], argTypes := #[26, 26] })
    (base : Nat) (A : Option Addr) (n C : Nat) (hs : a.eval s = .slice A n C) (l : List Value) (hown : OwnS w base (.slice A n C) n l)
    (base2 : Nat) (B : Option Addr) (m c : Nat) (hx : a.eval x = .slice B m c) (y : List Value) (hy : OwnS w base2 (.slice B m c) m y) (h1 : ∀ u ∈ y, u.oneCell' = true) (hb : n + m ≤ 100000) (hbase : base ≤ w.heap.size)
    (N : Nat) (hN : N = n + m) (L : List Value) (hL : L = l ++ y)
    (h : ∀ A' C' w', Hid (OwnS w' base (.slice A' N C') N L) → Hid (w.grownBy w' (Value.slice A n C).ownBlock) → Hid ((Value.slice A' N C').ownBlock = (Value.slice A n C).ownBlock ∨ (Value.slice A' N C').ownBlock = some w.heap.size) → K (a.put o.dst (.slice A' N C')) w') :
    o.wp Try.prog a w K Q := by
  refine wp_append_rows s x 26 42 ho _ 24 Try.underlying26 info_row rfl (by omega) base A n C hs _ hown B m c hx y (by have := hy.1; omega) ?_ ?_ h1 hb hbase N hN L hL h
  · intro j u hu
    have hj := (List.getElem?_eq_some_iff.1 hu).1
    have hl := hy.1
    rcases hy.2 with ⟨e, h0⟩ | ⟨g, cap, cur, e, _⟩
    · omega
    · simp only [Value.slice.injEq] at e
      obtain ⟨rfl, _⟩ := e
      exact ⟨_, rfl, World.ownsRow.cells hy rfl j u hu⟩
  · intro e
    obtain ⟨_, _, h2, _, _, h3⟩ := row_slice hy
    simp only [Value.slice.injEq] at h2
    obtain ⟨rfl, _, rfl⟩ := h2
    exact h3 e
theorem wpList_append_ss {w : World} {ops : Array Oper} {rest : List Oper} {o : Oper} {a : Act} {Q : Exit → Act → World → Prop} (hgd : o.guard = none) (s x : Operand)
    (ho : o.op = .call { callee := .builtin .append, args := #[s, x], argTypes := #[26, 26] })
    (base : Nat) (A : Option Addr) (n C : Nat) (hs : a.eval s = .slice A n C) (l : List Value) (hown : OwnS w base (.slice A n C) n l)
    (base2 : Nat) (B : Option Addr) (m c : Nat) (hx : a.eval x = .slice B m c) (y : List Value) (hy : OwnS w base2 (.slice B m c) m y) (h1 : ∀ u ∈ y, u.oneCell' = true) (hb : n + m ≤ 100000) (hbase : base ≤ w.heap.size)
    (N : Nat) (hN : N = n + m) (L : List Value) (hL : L = l ++ y)
    (h : ∀ A' C' w', Hid (OwnS w' base (.slice A' N C') N L) → Hid (w.grownBy w' (Value.slice A n C).ownBlock) → Hid ((Value.slice A' N C').ownBlock = (Value.slice A n C).ownBlock ∨ (Value.slice A' N C').ownBlock = some w.heap.size) → wpList Try.prog ops Q rest (a.put o.dst (.slice A' N C')) w') :
    wpList Try.prog ops Q (o :: rest) a w :=
  wpList_plain hgd fun _ hK => wp_append_ss s x ho base A n C hs l hown base2 B m c hx y hy h1 hb hbase N hN L hL (fun A' C' w' h1 h2 h3 => hK _ _ (h A' C' w' h1 h2 h3))
theorem step_append_ss {w : World} {ops : Array Oper} {o : Oper} {a : Act} {K : Act → World → Prop} {Q : Exit → Act → World → Prop} {E : Prop} (hgd : o.guard = none) (s x : Operand)
    (ho : o.op = .call { callee := .builtin .append, args := #[s, x], argTypes := #[26, 26] })
    (base : Nat) (A : Option Addr) (n C : Nat) (hs : a.eval s = .slice A n C) (l : List Value) (hown : OwnS w base (.slice A n C) n l)
    (base2 : Nat) (B : Option Addr) (m c : Nat) (hx : a.eval x = .slice B m c) (y : List Value) (hy : OwnS w base2 (.slice B m c) m y) (h1 : ∀ u ∈ y, u.oneCell' = true) (hb : n + m ≤ 100000) (hbase : base ≤ w.heap.size)
    (N : Nat) (hN : N = n + m) (L : List Value) (hL : L = l ++ y)
    (h : ∀ A' C' w', Hid (OwnS w' base (.slice A' N C') N L) → Hid (w.grownBy w' (Value.slice A n C).ownBlock) → Hid ((Value.slice A' N C').ownBlock = (Value.slice A n C).ownBlock ∨ (Value.slice A' N C').ownBlock = some w.heap.size) → K (a.put o.dst (.slice A' N C')) w') :
    if Region.wanted o (yielded ops a.tmps) = true then Oper.wp Try.prog o a w K Q else E := by
  have hw : Region.wanted o (yielded ops a.tmps) = true := by simp [Region.wanted, hgd]
  rw [if_pos hw]
  exact wp_append_ss s x ho base A n C hs l hown base2 B m c hx y hy h1 hb hbase N hN L hL h
/-- Shards of two bytes each: slices of the call's own, and where the bytes of each lie. -/
def Shs (w : World) (base : Nat) (v : Value) (n : Nat) (G : Nat → Nat → Nat) : Prop :=
  ∃ l, OwnS w base v n l ∧ ∀ i, i < n → ∃ g off N d, l[i]? = some (.slice (some ⟨g, off, none⟩) 2 2) ∧ Dat w g N d ∧ off + 2 ≤ N ∧ N ≤ 1000 ∧ ∀ c, c < 2 → co d (off + c) = G i c
theorem Shs.nil (w : World) (base : Nat) (G : Nat → Nat → Nat) : Shs w base (.slice none 0 0) 0 G := ⟨[], OwnS.none w base, fun i hi => absurd hi (by omega)⟩
/-- What becomes of blocks of other types is no matter. -/
theorem Shs.keep {w w' : World} {base : Nat} {v : Value} {n : Nat} {G : Nat → Nat → Nat} (h : Shs w base v n G) (hk : ∀ (k : Nat) (C : Array Value) (t : TypeId), w.heap[k]? = some (Obj.cells C t (0, 0)) → t = 42 ∨ t = 5 → w'.heap[k]? = w.heap[k]?) : Shs w' base v n G := by
  obtain ⟨l, h1, h2⟩ := h
  refine ⟨l, ⟨h1.1, h1.2.imp id ?_⟩, fun i hi => ?_⟩
  · rintro ⟨g, cap, cur, e, hb, hg, h3⟩
    exact ⟨g, cap, cur, e, hb, (hk g _ _ hg (.inl rfl)).trans hg, h3⟩
  · obtain ⟨g, off, N, d, e1, e2, e3⟩ := h2 i hi
    obtain ⟨cur, hm, _⟩ := e2.mem
    exact ⟨g, off, N, d, e1, e2.keep (hk g _ _ hm (.inr rfl)), e3⟩
theorem Shs.below {w w' : World} {base B : Nat} {v : Value} {n : Nat} {G : Nat → Nat → Nat} (h : Shs w base v n G) (hb : Below B w w') (hB : w.heap.size ≤ B) : Shs w' base v n G :=
  h.keep fun k _ _ hg _ => hb.block k (Nat.lt_of_lt_of_le (Array.getElem?_eq_some_iff.1 hg).1 hB)
theorem Shs.slice {w : World} {base : Nat} {v : Value} {n : Nat} {G : Nat → Nat → Nat} (h : Shs w base v n G) : ∃ A C, v = .slice A n C ∧ n ≤ C ∧ C ≤ maxLen ∧ (A = Option.none → C = 0) := by
  obtain ⟨l, h1, _⟩ := h
  exact row_slice h1
theorem Shs.low {w : World} {base b : Nat} {v : Value} {n : Nat} {G : Nat → Nat → Nat} (h : Shs w base v n G) (hb : b ≤ base) : Shs w b v n G := by
  obtain ⟨l, h1, h2⟩ := h
  exact ⟨l, ⟨h1.1, h1.2.imp id fun ⟨g, cap, cur, e, h3, h4⟩ => ⟨g, cap, cur, e, Nat.le_trans hb h3, h4⟩⟩, h2⟩
theorem Shs.congr {w : World} {base : Nat} {v : Value} {n : Nat} {G G' : Nat → Nat → Nat} (h : Shs w base v n G) (e : ∀ i c, i < n → c < 2 → G i c = G' i c) : Shs w base v n G' := by
  obtain ⟨l, h1, h2⟩ := h
  refine ⟨l, h1, fun i hi => ?_⟩
  obtain ⟨g, off, N, d, e1, e2, e3, e4, e5⟩ := h2 i hi
  exact ⟨g, off, N, d, e1, e2, e3, e4, fun c hc => (e5 c hc).trans (e i c hi hc)⟩
/-- Such shards, as columns. -/
theorem Shs.cols {w : World} {base n C0 : Nat} {A0 : Option Addr} {G : Nat → Nat → Nat} (h : Shs w base (.slice A0 n C0) n G) : ∃ (A : Nat → Option Addr) (Y : Nat → List Int), ColsIn w A0 n C0 A (fun _ => 2) (fun _ => 2) Y ∧ ∀ i, i < n → ∀ c, c < 2 → co (Y i) c = G i c := by
  obtain ⟨l, h1, h2⟩ := h
  have h2' : ∀ i, ∃ (p : Addr) (d : List Int), i < n → l[i]? = some (.slice (some p) 2 2) ∧ Sl w (some p) 2 2 d ∧ ∀ c, c < 2 → co d c = G i c := fun i => by
    by_cases hi : i < n
    · obtain ⟨g, off, N, d, e1, e2, e3, e4, e5⟩ := h2 i hi
      exact ⟨_, seg d off 2, fun _ => ⟨e1, ⟨e2.bytes off 2 e3 (by omega), by omega, by omega, fun h => nomatch h⟩, fun c hc => by rw [seg_co _ _ _ _ hc]; exact e5 c hc⟩⟩
    · exact ⟨⟨0, 0, Option.none⟩, [], fun e => absurd e hi⟩
  obtain ⟨P, hP⟩ := Classical.axiomOfChoice h2'
  obtain ⟨D, hD⟩ := Classical.axiomOfChoice hP
  exact ⟨fun i => some (P i), D, OwnS.cols _ _ _ _ h1 (fun i hi => (hD i hi).1) (fun i hi => (hD i hi).2.1), fun i hi => (hD i hi).2.2⟩
/-- A block of bytes that an append of slices leaves as it was. -/
theorem Shs.other {w w' : World} {base : Nat} {v : Value} {n : Nat} {l : List Value} {G : Nat → Nat → Nat} (h1 : OwnS w base v n l) (h2 : ∀ i, i < n → ∃ g off N d, l[i]? = some (.slice (some ⟨g, off, Option.none⟩) 2 2) ∧ Dat w g N d ∧ off + 2 ≤ N ∧ N ≤ 1000 ∧ ∀ c, c < 2 → co d (off + c) = G i c)
    {m : Nat} {y : List Value} {H : Nat → Nat → Nat} (h3 : ∀ i, i < m → ∃ g off N d, y[i]? = some (.slice (some ⟨g, off, Option.none⟩) 2 2) ∧ Dat w g N d ∧ off + 2 ≤ N ∧ N ≤ 1000 ∧ ∀ c, c < 2 → co d (off + c) = H i c)
    {v' : Value} {K : Nat → Nat → Nat} (h4 : OwnS w' base v' (n + m) (l ++ y)) (hg : w.grownBy w' v.ownBlock) (hK : ∀ i c, i < n → c < 2 → G i c = K i c) (hK2 : ∀ i c, i < m → c < 2 → H i c = K (n + i) c) : Shs w' base v' (n + m) K := by
  have hl : l.length = n := by have := h1.1; simpa using this
  refine ⟨_, h4, fun i hi => ?_⟩
  by_cases e : i < n
  · obtain ⟨g, off, N, d, e1, e2, e3, e4, e5⟩ := h2 i e
    exact ⟨g, off, N, d, by rw [List.getElem?_append_left (by omega)]; exact e1, dat_other h1 e2 hg, e3, e4, fun c hc => (e5 c hc).trans (hK i c e hc)⟩
  · obtain ⟨g, off, N, d, e1, e2, e3, e4, e5⟩ := h3 (i - n) (by omega)
    refine ⟨g, off, N, d, by rw [List.getElem?_append_right (by omega), hl]; exact e1, dat_other h1 e2 hg, e3, e4, fun c hc => (e5 c hc).trans ?_⟩
    rw [hK2 (i - n) c (by omega) hc, show n + (i - n) = i by omega]
/-- Shards alike. -/
theorem Shs.same {w : World} {base base' n C C' : Nat} {A A' : Option Addr} {G G' : Nat → Nat → Nat} (h : Shs w base (.slice A n C) n G) (h' : Shs w base' (.slice A' n C') n G') (hn : n ≤ 1000) (e : ∀ i c, i < n → c < 2 → G i c = G' i c) :
    Calls Try.prog 35 #[.slice A n C, .slice A' n C'] w fun e w' => e = .returned (.bool true) ∧ ∃ k, w' = w.drewN k := by
  obtain ⟨B, X, hX, hE⟩ := h.cols
  obtain ⟨B', Y, hY, hF⟩ := h'.cols
  refine rsame_lists _ _ n n C C' _ _ _ _ _ _ _ _ w hX hY hn hn true (fun _ => ⟨rfl, fun i hi => ?_⟩) (fun h => nomatch h)
  have hx := (hX.2.2.2 i hi).2.bytes
  have hy := (hY.2.2.2 i hi).2.bytes
  refine list_co hx.range hy.range (hx.size.trans hy.size.symm) (fun c hc => ?_)
  rw [hx.size] at hc
  rw [hE i hi c hc, hF i hi c hc, e i c hi hc]
end Go.Proofs.Ytjcbcdjfhcnhcaa
namespace Go.Proofs.Ytjcbcdjfhcnhcaa
open Go.RowKit

/-- The shards of so many inputs: place x, byte c. -/
def G17 (Z : List Int) (k x c : Nat) : Nat := wordE (fun j => be 2 (Z.getD j 0)) k x c
theorem G17_data (Z : List Int) {k x : Nat} (hk : k ≤ 256) (hx : x < k) (c : Nat) : G17 Z k x c = co (be 2 (Z.getD x 0)) c :=
  word_first2 (D := fun j => be 2 (Z.getD j 0)) hk (fun j _ => be_range 2 (Z.getD j 0)) hx c
theorem G17_more (Z : List Int) {k : Nat} (_hk : k ≤ 256) (X : Nat → List Int) (c : Nat) (h : ∀ j, j < k → co (X j) c = co (be 2 (Z.getD j 0)) c) (i : Nat) : xs (fun j => mu (lagw nid k j (k + i)) (co (X j) c)) k = G17 Z k (k + i) c :=
  xs_congr k (fun j hj => by show mu (lagw nid k j (k + i)) (co (X j) c) = mu (lagw nid k j (k + i)) (co (be 2 (Z.getD j 0)) c); rw [h j hj])
/-- A block of five cells. -/
def B5 (t : TypeId) (w : World) (b : Nat) (v0 v1 v2 v3 v4 : Value) : Prop := w.heap[b]? = some (.cells #[v0, v1, v2, v3, v4] t (0, 0))
section
variable {t : TypeId} {w : World} {b : Nat} {v0 v1 v2 v3 v4 : Value}
theorem B5.lt (h : B5 t w b v0 v1 v2 v3 v4) : b < w.heap.size := (Array.getElem?_eq_some_iff.1 h).1
theorem B5.cells (h : B5 t w b v0 v1 v2 v3 v4) : w.cell? ⟨b, 0, none⟩ = some v0 ∧ w.cell? ⟨b, 1, none⟩ = some v1 ∧ w.cell? ⟨b, 2, none⟩ = some v2 ∧ w.cell? ⟨b, 3, none⟩ = some v3 ∧ w.cell? ⟨b, 4, none⟩ = some v4 := by
  unfold B5 at h
  simp [World.cell?, h]
theorem B5.frozen (h : B5 t w b v0 v1 v2 v3 v4) (i : Nat) : w.frozen? ⟨b, i, none⟩ = false := by
  unfold B5 at h
  simp [World.frozen?, h]
theorem B5.keep {w' : World} (h : B5 t w b v0 v1 v2 v3 v4) (e : w'.heap[b]? = w.heap[b]?) : B5 t w' b v0 v1 v2 v3 v4 := e.trans h
theorem B5.below {w' : World} {B : Nat} (h : B5 t w b v0 v1 v2 v3 v4) (hb : Below B w w') (hB : b < B) : B5 t w' b v0 v1 v2 v3 v4 := h.keep (hb.block b hB)
theorem B5.set4 (h : B5 t w b v0 v1 v2 v3 v4) (u : Value) : B5 t (w.setCell ⟨b, 4, none⟩ u) b v0 v1 v2 v3 u := by
  unfold B5 at *
  simp [World.setCell, Array.getElem?_modify, h]
theorem B5.put (h : B5 t w b v0 v1 v2 v3 v4) (u0 u1 u2 u3 u4 : Value) : B5 t (((((w.setCell ⟨b, 0, none⟩ u0).setCell ⟨b, 1, none⟩ u1).setCell ⟨b, 2, none⟩ u2).setCell ⟨b, 3, none⟩ u3).setCell ⟨b, 4, none⟩ u4) b u0 u1 u2 u3 u4 := by
  unfold B5 at *
  simp [World.setCell, Array.getElem?_modify, h]
theorem B5.new (w : World) (t : TypeId) (v0 v1 v2 v3 v4 : Value) : B5 t (w.alloc (.cells #[v0, v1, v2, v3, v4] t)) w.heap.size v0 v1 v2 v3 v4 := Go.Deep.blk_alloc_new w _
end
theorem put5_cells {t : TypeId} {w : World} {b : Nat} {v0 v1 v2 v3 v4 : Value} (h : B5 t w b v0 v1 v2 v3 v4) (u0 u1 u2 u3 u4 : Value) {W : World} (hW : W = ((((w.setCell ⟨b, 0, none⟩ u0).setCell ⟨b, 1, none⟩ u1).setCell ⟨b, 2, none⟩ u2).setCell ⟨b, 3, none⟩ u3).setCell ⟨b, 4, none⟩ u4) :
    W.cell? ⟨b, 0, none⟩ = some u0 ∧ W.cell? ⟨b, 1, none⟩ = some u1 ∧ W.cell? ⟨b, 2, none⟩ = some u2 ∧ W.cell? ⟨b, 3, none⟩ = some u3 ∧ W.cell? ⟨b, 4, none⟩ = some u4 := by
  have h2 := h.put u0 u1 u2 u3 u4
  rw [← hW] at h2
  exact h2.cells
/-- Five stores into a block that is new leave what was there. -/
theorem below_put5 {B : Nat} {w0 w : World} (h : Below B w0 w) {b : Nat} (hb : B ≤ b) (u0 u1 u2 u3 u4 : Value) : Below B w0 (((((w.setCell ⟨b, 0, none⟩ u0).setCell ⟨b, 1, none⟩ u1).setCell ⟨b, 2, none⟩ u2).setCell ⟨b, 3, none⟩ u3).setCell ⟨b, 4, none⟩ u4) :=
  ((((h.setCell (p := ⟨b, 0, none⟩) hb _).setCell (p := ⟨b, 1, none⟩) hb _).setCell (p := ⟨b, 2, none⟩) hb _).setCell (p := ⟨b, 3, none⟩) hb _).setCell (p := ⟨b, 4, none⟩) hb _
/-- No stores into a block that holds no shards. -/
theorem Shs.put {w : World} {base n : Nat} {v : Value} {G : Nat → Nat → Nat} (h : Shs w base v n G) {t : TypeId} {b : Nat} {v0 v1 v2 v3 v4 : Value} (hB : B5 t w b v0 v1 v2 v3 v4) (h1 : t ≠ 42) (h2 : t ≠ 5) (u0 u1 u2 u3 u4 : Value) : Shs (((((w.setCell ⟨b, 0, none⟩ u0).setCell ⟨b, 1, none⟩ u1).setCell ⟨b, 2, none⟩ u2).setCell ⟨b, 3, none⟩ u3).setCell ⟨b, 4, none⟩ u4) base v n G :=
  h.keep fun k C t' hg ht => by
    have hne : k ≠ b := fun e => by
      rw [e, hB] at hg
      simp only [Option.some.injEq, Obj.cells.injEq] at hg
      rcases ht with rfl | rfl
      · exact h1 hg.2.1
      · exact h2 hg.2.1
    rw [Below.heap_setCell _ _ _ _ hne, Below.heap_setCell _ _ _ _ hne, Below.heap_setCell _ _ _ _ hne, Below.heap_setCell _ _ _ _ hne, Below.heap_setCell _ _ _ _ hne]
theorem Shs.set {w : World} {base n : Nat} {v : Value} {G : Nat → Nat → Nat} (h : Shs w base v n G) {t : TypeId} {b : Nat} {v0 v1 v2 v3 v4 : Value} (hB : B5 t w b v0 v1 v2 v3 v4) (h1 : t ≠ 42) (h2 : t ≠ 5) (i : Nat) (u : Value) : Shs (w.setCell ⟨b, i, Option.none⟩ u) base v n G :=
  h.keep fun k C t' hg ht => by
    have hne : k ≠ b := fun e => by
      rw [e, hB] at hg
      simp only [Option.some.injEq, Obj.cells.injEq] at hg
      rcases ht with rfl | rfl
      · exact h1 hg.2.1
      · exact h2 hg.2.1
    rw [Below.heap_setCell _ _ _ _ hne]
theorem Shs.setAt {w : World} {base n : Nat} {v : Value} {G : Nat → Nat → Nat} (h : Shs w base v n G) {t : TypeId} {b : Nat} {D : Array Value} (hB : w.heap[b]? = some (.cells D t (0, 0))) (h1 : t ≠ 42) (h2 : t ≠ 5) (i : Nat) (u : Value) : Shs (w.setCell ⟨b, i, Option.none⟩ u) base v n G :=
  h.keep fun k C t' hg ht => by
    have hne : k ≠ b := fun e => by
      rw [e, hB] at hg
      simp only [Option.some.injEq, Obj.cells.injEq] at hg
      rcases ht with rfl | rfl
      · exact h1 hg.2.1
      · exact h2 hg.2.1
    rw [Below.heap_setCell _ _ _ _ hne]
/-- The shards, as far as they are made. -/
def rowV (ad : Nat → Nat) (k j : Nat) : Value := if j < k then .slice (some ⟨ad j, 0, none⟩) 2 2 else .slice none 0 0
/-- What Make answers. -/
def MadeG (no fst : Int) (n m N : Nat) (ok : Value) (G : Nat → Nat → Nat) (w : World) (e : Ending) (w' : World) : Prop :=
  ∃ A C, e = .returned (.tuple #[.agg #[.int .u32 no, .int .u32 fst, .int .i64 (n : Nat), .int .i64 (m : Nat), .slice A N C], ok]) ∧ Hid (Shs w' w.heap.size (.slice A N C) N G) ∧ Hid (Below w.heap.size w w')
end Go.Proofs.Ytjcbcdjfhcnhcaa
namespace Go.Proofs.Ytjcbcdjfhcnhcaa
open Go.RowKit

end Go.Proofs.Ytjcbcdjfhcnhcaa
