/-
  Own text: words as bytes, the highest first; put, Put16, Put32, the document's Bytes and Get, walked.
-/
import Derived.Test.YtjcbcdjfhcnhcaaGets
import Derived.Test.YtjcbcdjfhcnhcaaByteB
namespace Go.Proofs.Ytjcbcdjfhcnhcaa
open Go.RowKit

/-- A byte of a word of k bytes. -/
def bt (k : Nat) (z : Int) (i : Nat) : Int := z / 256 ^ (k - 1 - i) % 256
/-- A word's bytes, the highest first. -/
def be (k : Nat) (z : Int) : List Int := (List.range k).map (bt k z)
theorem bt_range (k : Nat) (z : Int) (i : Nat) : 0 ≤ bt k z i ∧ bt k z i ≤ 255 := by unfold bt; omega
theorem be_length (k : Nat) (z : Int) : (be k z).length = k := by simp [be]
theorem be_range (k : Nat) (z : Int) : ∀ x ∈ be k z, 0 ≤ x ∧ x ≤ 255 := by
  intro x hx
  obtain ⟨i, _, rfl⟩ := List.mem_map.1 hx
  exact bt_range k z i
theorem be_one (z : Int) (h0 : 0 ≤ z) (h1 : z ≤ 255) : be 1 z = [z] := by
  simp [be, bt, List.range_succ]; omega
theorem be_two (z : Int) : be 2 z = [z / 256 % 256, z % 256] := by
  simp [be, bt, List.range_succ]
theorem be_four (z : Int) : be 4 z = [z / 16777216 % 256, z / 65536 % 256, z / 256 % 256, z % 256] := by
  simp [be, bt, List.range_succ]
theorem word_two (z : Int) (h0 : 0 ≤ z) (h1 : z ≤ 65535) : wordOf (be 2 z) = z := by rw [be_two]; simp [wordOf]; omega
theorem word_four (z : Int) (h0 : 0 ≤ z) (h1 : z ≤ 4294967295) : wordOf (be 4 z) = z := by rw [be_four]; simp [wordOf]; omega
/-- A new block of bytes is answered. -/
def NewRow (n : Nat) (L : List Int) (w : World) (e : Ending) (w' : World) : Prop :=
  ∃ g, e = .returned (.slice (some ⟨g, 0, none⟩) n n) ∧ w.heap.size ≤ g ∧ Row8 w' g 5 L ∧ Below w.heap.size w w'
/-- The word as far as it is written. -/
def bes (k : Nat) (z : Int) (i : Nat) : List Int := (be k z).take i ++ List.replicate (k - i) 0
theorem bes_step (k : Nat) (z : Int) (i : Nat) (h : i < k) (l : List Int) (m : Nat) (hl : l.length = m) : (l ++ bes k z i).set (m + i) (bt k z i) = l ++ bes k z (i + 1) := by
  subst hl
  rw [List.set_append, if_neg (by omega), Nat.add_sub_cancel_left]
  congr 1
  apply List.ext_getElem?
  intro j
  have hbl := be_length k z
  unfold bes
  rw [List.getElem?_set]
  by_cases hj : i = j
  · subst hj
    rw [if_pos rfl, if_pos (by rw [List.length_append, List.length_take, List.length_replicate, hbl]; omega)]
    rw [List.getElem?_append_left (by rw [List.length_take, hbl]; omega), List.getElem?_take, if_pos (by omega)]
    simp [be, h]
  · rw [if_neg hj]
    rcases Nat.lt_or_ge j i with g | g
    · rw [List.getElem?_append_left (by rw [List.length_take, hbl]; omega), List.getElem?_append_left (by rw [List.length_take, hbl]; omega), List.getElem?_take, List.getElem?_take, if_pos g, if_pos (by omega)]
    · rw [List.getElem?_append_right (by rw [List.length_take, hbl]; omega), List.getElem?_append_right (by rw [List.length_take, hbl]; omega), List.getElem?_replicate, List.getElem?_replicate, List.length_take, List.length_take, hbl]
      have e : (j - min i k < k - i) = (j - min (i + 1) k < k - (i + 1)) := by apply propext; omega
      simp only [e]
theorem bes_zero (k : Nat) (z : Int) : bes k z 0 = List.replicate k 0 := by simp [bes]
theorem bes_all (k : Nat) (z : Int) : bes k z k = be k z := by
  unfold bes
  rw [List.take_of_length_le (by rw [be_length]; exact Nat.le_refl _)]
  simp
set_option maxRecDepth 100000 in
theorem put_any (a : Option Addr) (m cap : Nat) (l : List Int) (z : Int) (k : Nat) (w : World) (hl : Bytes w a m l) (hm : m ≤ 100000) (hk : k = 2 ∨ k = 4) (_hz0 : 0 ≤ z) (_hz : z ≤ 4294967295) :
    Calls Try.prog 63 #[.slice a m cap, .int .u64 z, .int .i64 k] w (NewRow (m + k) (l ++ be k z) w) := by
  have hk4 : k ≤ 4 := by omega
  have hk1 : 1 ≤ k := by omega
  have hmk : ∀ w : World, (Instr.makeSlice 42 (.int .i64 ((m : Int) + (k : Int))) (.int .i64 ((m : Int) + (k : Int)))).run Try.prog w = .ok (.slice (some ⟨w.heap.size, 0, none⟩) (m + k) (m + k)) (w.alloc (.cells (madeCells #[.int .u8 0] (m + k)) 5)) := fun w => by
    have := run_make_row' (P := Try.prog) 42 5 (.int .u8 0) 1 Try.underlying42 (by kernel_rfl) rfl .i64 .i64 (m + k) (by omega) (by omega) w
    simpa using this
  have HL := Lib.hid hl
  have HS := Lib.hid hl.size
  clear hl
  have HM := Lib.hid (fun w => made_row w (m + k) 5)
  generalize madeCells #[Value.int .u8 0] (m + k) = M at *
  have HK := Lib.hid hk
  clear hk
  have n0 : (0 : Int) ≤ m := by omega
  have n4 : (m : Int) ≤ (m : Int) + k := by omega
  have n5 : (m : Int) + k ≤ 9223372036854775807 := by omega
  go_enter Try.func63, Try.ntmps63
  go_wp2_with (with_reducible refine wpList_copy_bytes (w := w.alloc _) rfl (.tmp 16) (.tmp 17) rfl _ _ _ _ _ _ rfl rfl w.heap.size 0 (List.replicate (m + k) 0) 5 (HM.out w) l ?hl m ?hk ?hp ?hf ?_)
  case hl => exact HL.out.below ((Below.refl w.heap.size w).alloc (Nat.le_refl _) _) (Nat.le_refl _)
  case hk => exact (Nat.min_eq_left (by omega)).symm
  case hf => simp
  intro w2 HG hb2
  have HB2 := Lib.hid hb2
  clear hb2
  have n6 : ¬ m + k = m := by omega
  go_wp2
  go_loopw [22] (fun i wr => ∃ j : Nat, j ≤ k ∧ i = .int .i64 j ∧ Hid (Row8 wr w.heap.size 5 (l ++ bes k z j)) ∧ Hid (Below w.heap.size w wr)) (fun i _ => k - (intOf i).toNat)
  case atStart =>
    refine ⟨0, by omega, rfl, Lib.hid ?_, Lib.hid (((Below.refl w.heap.size w).alloc (Nat.le_refl _) _).trans HB2.out)⟩
    have h := HG.out
    have e : splice (List.replicate (m + k) 0) 0 (l.take m) = l ++ bes k z 0 := by
      rw [List.take_of_length_le (by rw [HS.out]; exact Nat.le_refl _), bes_zero]
      unfold splice
      simp [HS.out]
    rwa [e] at h
  case round =>
    obtain ⟨j, hj, rfl, HR, HBW⟩ := hrel
    by_cases hlt : j < k
    case neg =>
      obtain rfl : j = k := by omega
      clear hlt hj
      go_wp2
      go_ret
      refine ⟨w.heap.size, rfl, Nat.le_refl _, ?_, HBW.out⟩
      have h := HR.out
      rwa [bes_all] at h
    case pos =>
      have hlen : (l ++ bes k z j).length = m + k := by
        rw [List.length_append, HS.out]
        unfold bes
        rw [List.length_append, List.length_take, be_length, List.length_replicate]
        omega
      have c := HR.out.cell (m + j) (by omega)
      have fz := HR.out.frozen (m + j)
      have HN : Hid (Row8 (wr.setCell ⟨w.heap.size, m + j, none⟩ (.int .u8 (bt k z j))) w.heap.size 5 (l ++ bes k z (j + 1))) := Lib.hid (by
        have h := HR.out.set (m + j) (bt k z j)
        rwa [bes_step k z j hlt l m HS.out] at h)
      have HB3 : Hid (Below w.heap.size w (wr.setCell ⟨w.heap.size, m + j, none⟩ (.int .u8 (bt k z j)))) := Lib.hid (HBW.out.setCell (Nat.le_refl _) _)
      obtain ⟨x, hx⟩ : ∃ x, x = (l ++ bes k z j).getD (m + j) 0 := ⟨_, rfl⟩
      rw [← hx] at c
      obtain ⟨v, hv⟩ : ∃ v, v = bt k z j := ⟨_, rfl⟩
      rw [← hv] at HN HB3
      unfold bt at hv
      have hjk : (j : Int) < k := by omega
      clear hx hlen HR HBW HM HL HG HB2
      rcases HK.out with rfl | rfl
      · rcases (show j = 0 ∨ j = 1 by omega) with rfl | rfl
        · rw [Nat.add_zero] at c fz HN HB3
          have hv2 : v = z / 256 % 256 := by rw [hv]; simp
          have HV := Lib.hid hv2
          have hz8 : IntKind.u8.wrap (z / 256) = v := by rw [hv2, IntKind.wrap_u8]
          clear hv hv2
          go_wp2
          go_roundw
          case rel => exact ⟨0 + 1, by omega, by go_num, HN, HB3⟩
          case measure => simp [intOf]
        · have hv2 : v = z % 256 := by rw [hv]; simp
          have HV := Lib.hid hv2
          have hz8 : IntKind.u8.wrap (z) = v := by rw [hv2, IntKind.wrap_u8]
          clear hv hv2
          go_wp2
          go_roundw
          case rel => exact ⟨1 + 1, by omega, by go_num, HN, HB3⟩
          case measure => simp [intOf]
      · rcases (show j = 0 ∨ j = 1 ∨ j = 2 ∨ j = 3 by omega) with rfl | rfl | rfl | rfl
        · rw [Nat.add_zero] at c fz HN HB3
          have hv2 : v = z / 16777216 % 256 := by rw [hv]; simp
          have HV := Lib.hid hv2
          have hz8 : IntKind.u8.wrap (z / 16777216) = v := by rw [hv2, IntKind.wrap_u8]
          clear hv hv2
          go_wp2
          go_roundw
          case rel => exact ⟨0 + 1, by omega, by go_num, HN, HB3⟩
          case measure => simp [intOf]
        · have hv2 : v = z / 65536 % 256 := by rw [hv]; simp
          have HV := Lib.hid hv2
          have hz8 : IntKind.u8.wrap (z / 65536) = v := by rw [hv2, IntKind.wrap_u8]
          clear hv hv2
          go_wp2
          go_roundw
          case rel => exact ⟨1 + 1, by omega, by go_num, HN, HB3⟩
          case measure => simp [intOf]
        · have hv2 : v = z / 256 % 256 := by rw [hv]; simp
          have HV := Lib.hid hv2
          have hz8 : IntKind.u8.wrap (z / 256) = v := by rw [hv2, IntKind.wrap_u8]
          clear hv hv2
          go_wp2
          go_roundw
          case rel => exact ⟨2 + 1, by omega, by go_num, HN, HB3⟩
          case measure => simp [intOf]
        · have hv2 : v = z % 256 := by rw [hv]; simp
          have HV := Lib.hid hv2
          have hz8 : IntKind.u8.wrap (z) = v := by rw [hv2, IntKind.wrap_u8]
          clear hv hv2
          go_wp2
          go_roundw
          case rel => exact ⟨3 + 1, by omega, by go_num, HN, HB3⟩
          case measure => simp [intOf]
theorem put16_any (a : Option Addr) (m cap : Nat) (l : List Int) (z : Int) (w : World) (hl : Bytes w a m l) (hm : m ≤ 100000) (hz0 : 0 ≤ z) (hz : z ≤ 65535) :
    Calls Try.prog 29 #[.slice a m cap, .int .u16 z] w (NewRow (m + 2) (l ++ be 2 z) w) := by
  have HL := Lib.hid hl
  clear hl
  go_enter Try.func29, Try.ntmps29
  go_wp2_with first
    | (go_at_call 63; refine (put_any a m cap l z 2 _ HL.out hm (.inl rfl) hz0 (by omega)).mono ?_; rintro e w1 ⟨g, rfl, hg, hr, hb⟩)
  go_ret
  exact ⟨g, rfl, hg, hr, hb⟩
theorem NewRow.bytes {n : Nat} {l : List Int} {g : Nat} {w : World} (h : Row8 w g 5 l) (hn : l.length = n) (hm : n ≤ 200000) (hz : ∀ z ∈ l, 0 ≤ z ∧ z ≤ 255) : Bytes w (some ⟨g, 0, none⟩) n l := h.whole hz n hn.symm (by omega)

/-- The document's bytes of a word. -/
theorem rbytes7_any (z : Int) (k : Nat) (w : World) (hk : k = 1 ∨ k = 2 ∨ k = 4) (hz0 : 0 ≤ z) (hz : z ≤ 4294967295) (hz1 : k = 1 → z ≤ 255) :
    Calls Try.prog 33 #[.int .u64 z, .int .i64 k] w fun e w' => e = .returned (.slice (some ⟨w.heap.size, 0, none⟩) k k) ∧ Bytes w' (some ⟨w.heap.size, 0, none⟩) k (be k z) ∧ Below w.heap.size w w' := by
  have HB : ∀ C : Array Value, C.toList = (be k z).map (Value.int .u8) → Bytes (w.alloc (.cells C 5)) (some ⟨w.heap.size, 0, none⟩) k (be k z) ∧ Below w.heap.size w (w.alloc (.cells C 5)) := fun C h =>
    ⟨new_block w C 5 (0, 0) _ rfl _ h (by rw [be_length]; omega) (be_range k z) k (be_length k z).symm, (Below.refl w.heap.size w).alloc (Nat.le_refl _) _⟩
  have HB := Lib.hid HB
  rcases hk with rfl | rfl | rfl
  · rw [be_one z hz0 (hz1 rfl)] at *
    have HZ := Lib.hid (hz1 rfl)
    clear hz1
    have hmk : ∀ w : World, (Instr.makeSlice 42 (.int .i64 1) (.int .i64 1)).run Try.prog w = .ok (.slice (some ⟨w.heap.size, 0, none⟩) 1 1) (w.alloc (.cells #[.int .u8 0] 5)) := fun _ => by kernel_rfl
    go_enter Try.func33, Try.ntmps33
    go_wp2
    refine wp_loop_rounds 2 ?_
    iterate 2 (rw [rounds_succ]; go_wp2)
    go_ret
    refine ⟨rfl, HB.out _ ?_⟩
    have := HZ.out
    simp
    omega
  · rw [be_two] at *
    clear hz1
    have hmk : ∀ w : World, (Instr.makeSlice 42 (.int .i64 2) (.int .i64 2)).run Try.prog w = .ok (.slice (some ⟨w.heap.size, 0, none⟩) 2 2) (w.alloc (.cells #[.int .u8 0, .int .u8 0] 5)) := fun _ => by kernel_rfl
    go_enter Try.func33, Try.ntmps33
    go_wp2
    refine wp_loop_rounds 3 ?_
    iterate 3 (rw [rounds_succ]; go_wp2)
    go_ret
    refine ⟨rfl, HB.out _ ?_⟩
    simp
  · rw [be_four] at *
    clear hz1
    have hmk : ∀ w : World, (Instr.makeSlice 42 (.int .i64 4) (.int .i64 4)).run Try.prog w = .ok (.slice (some ⟨w.heap.size, 0, none⟩) 4 4) (w.alloc (.cells #[.int .u8 0, .int .u8 0, .int .u8 0, .int .u8 0] 5)) := fun _ => by kernel_rfl
    go_enter Try.func33, Try.ntmps33
    go_wp2
    refine wp_loop_rounds 5 ?_
    iterate 5 (rw [rounds_succ]; go_wp2)
    go_ret
    refine ⟨rfl, HB.out _ ?_⟩
    simp
    omega
theorem Bytes.rowAt {w : World} {b off n cap : Nat} {l : List Int} (h : Bytes w (some ⟨b, off, none⟩) n l) (h0 : 0 < n) (hc : n ≤ cap) (hm : cap ≤ 9223372036854775807) : RowAt .u8 w b off n cap (l ++ List.replicate (cap - n) 0) := by
  have hs := h.size
  have e : ∀ i, i < n → (l ++ List.replicate (cap - n) 0).getD i 0 = l.getD i 0 := fun i hi => by
    rw [List.getD_eq_getElem?_getD, List.getElem?_append_left (by omega), List.getD_eq_getElem?_getD]
  refine ⟨hc, hm, by simp [hs]; omega, fun i hi => ?_, fun i hi => ?_⟩
  · rcases h.cell with g | ⟨_, b', off', e', _, g⟩
    · omega
    · simp only [Option.some.injEq, Addr.mk.injEq, and_true] at e'
      obtain ⟨rfl, rfl⟩ := e'
      rw [e i hi]
      exact g i hi
  · rw [e i hi]
    have := h.byte i hi
    simp [Lit.wf, IntKind.min, IntKind.max, IntKind.bits, IntKind.signed]
    simp at this
    omega
theorem take_pad (l : List Int) (n cap : Nat) (hs : l.length = n) (h8 : n ≤ 8) : (l ++ List.replicate (cap - n) 0).take (min n 8) = l := by
  rw [Nat.min_eq_left h8, List.take_append_of_le_length (by omega), List.take_of_length_le (by omega)]
theorem get7_any (a : Option Addr) (n cap : Nat) (l : List Int) (w : World) (h : Bytes w a n l) (h0 : 0 < n) (h8 : n ≤ 8) (hc : n ≤ cap) (hm : cap ≤ 9223372036854775807) :
    Calls Try.prog 96 #[.slice a n cap] w fun e w' => e = .returned (.int .u64 (wordOf l)) ∧ w = w' := by
  rcases h.cell with g | ⟨_, b, off, rfl, _, _⟩
  · omega
  · have := get_any b off n cap _ w (h.rowAt h0 hc hm) h0
    rwa [take_pad l n cap h.size h8] at this
theorem rget7_any (a : Option Addr) (n cap : Nat) (l : List Int) (w : World) (h : Bytes w a n l) (h0 : 0 < n) (h8 : n ≤ 8) (hc : n ≤ cap) (hm : cap ≤ 9223372036854775807) :
    Calls Try.prog 74 #[.slice a n cap] w fun e w' => e = .returned (.int .u64 (wordOf l)) ∧ w = w' := by
  rcases h.cell with g | ⟨_, b, off, rfl, _, _⟩
  · omega
  · have := rget_any b off n cap _ w (h.rowAt h0 hc hm)
    rwa [take_pad l n cap h.size h8] at this
end Go.Proofs.Ytjcbcdjfhcnhcaa
