/-
  Own text: Sum, the document's More, and that the page's example holds ('awake').
-/
import Derived.Test.YtpllflmflfbnpaaCrcB
import Derived.Lib.SlBytesConst
namespace Go.Proofs.Ytpllflmflfbnpaa
open Go.RowKit

theorem below_drewN {B : Nat} {a w : World} (h : Below B a w) (n : Nat) : Below B a (w.drewN n) := ⟨h.os, h.tape, h.output, h.size, h.block⟩
/-- The sum of bytes. -/
def sumB (l : List Int) : BitVec 32 := more 0#32 l
theorem sum_any (t : Nat) (a : Option Addr) (len cap : Nat) (l : List Int) (w : World) (ht : IsTab w t) (hl : Bytes w a len l) :
    Calls Try.prog 15 #[.pointer (some ⟨t, 0, none⟩), .slice a len cap] w fun e w' => e = .returned (.int .u32 (sumB l).toNat) ∧ w = w' := by
  have c := more_any t 0#32 a len cap l w ht hl
  rw [show ((0#32).toNat : Int) = 0 from rfl, show more 0#32 l = sumB l from rfl] at c
  generalize sumB l = s at *
  go_enter Try.func15, Try.ntmps15
  go_wp2_with (go_at_call 13; refine c.mono ?_; rintro e w' ⟨rfl, rfl⟩)
  go_ret
  exact ⟨rfl, rfl⟩

set_option maxRecDepth 100000 in
theorem rmore_any (s : BitVec 32) (a : Option Addr) (len cap : Nat) (l : List Int) (w : World) (hl : Bytes w a len l) :
    Calls Try.prog 14 #[.int .u32 s.toNat, .slice a len cap] w fun e w' => e = .returned (.int .u32 (more s l).toNat) ∧ w = w' := by
  have hm := hl.max
  have n1 := bits_not s
  obtain ⟨ns, hns⟩ : ∃ ns, ns = ~~~ s := ⟨_, rfl⟩
  obtain ⟨m, hm2⟩ : ∃ m, m = more s l := ⟨_, rfl⟩
  have HM : Hid (∀ f, f = fold ns l → m = ~~~ f) := Lib.hid (fun f e => by rw [hm2, e, hns]; rfl)
  rw [← hm2]
  clear hm2
  rw [← hns] at n1
  have HN := Lib.hid hns
  clear hns
  go_enter Try.func14, Try.ntmps14
  go_wp2
  clear n1
  go_loop [5, 6] (fun v i => ∃ k : Nat, k ≤ len ∧ i = .int .i64 k ∧ v = .int .u32 (fold ns (l.take k)).toNat) (fun _ i => len - (intOf i).toNat)
  case atStart => exact ⟨0, by omega, rfl, rfl⟩
  case round =>
    obtain ⟨k, hk, rfl, rfl⟩ := hrel
    by_cases hlt : k < len
    · obtain ⟨b, off, rfl, c⟩ : ∃ b off, a = some ⟨b, off, none⟩ ∧ w.cell? ⟨b, off + k, none⟩ = some (.int .u8 (l.getD k 0)) := by
        rcases hl.cell with h | ⟨_, b, off, e, _, h⟩
        · omega
        · exact ⟨b, off, e, h k hlt⟩
      have HS := Lib.hid (fold_snoc ns l k (by have := hl.size; omega))
      obtain ⟨z0, z1⟩ := hl.byte k hlt
      have HL := Lib.hid hl
      clear hl
      generalize fold ns (l.take k) = r at *
      generalize l.getD k 0 = z at *
      obtain ⟨b1, b2⟩ := byteB_small z z0 z1
      have cs := fun w => rstep_any r (byteB z) w b1
      rw [b2] at cs
      have CS := Lib.hid cs
      clear cs b1 b2
      go_wp2_with (go_at_call 12; refine (CS.out _).mono ?_; rintro e w' ⟨rfl, rfl⟩)
      go_round
      case rel => exact ⟨k + 1, by omega, by go_num, by rw [HS.out]⟩
      case measure => simp [intOf]; omega
    · obtain rfl : k = len := by omega
      have e : l.take k = l := List.take_of_length_le (by have := hl.size; omega)
      rw [e]
      have n2 := bits_not (fold ns l)
      rw [← HM.out _ rfl] at n2
      go_wp2
      go_ret
      exact ⟨rfl, rfl⟩

theorem digits_sum : sumB [49, 50, 51, 52, 53, 54, 55, 56, 57] = 3421780262#32 := by decide +kernel
theorem new_block (w : World) (C : Array Value) (e : TypeId) (fr : Nat × Nat) (b : Nat) (h : b = w.heap.size) (l : List Int) (hC : C.toList = l.map (Value.int .u8)) (hm : l.length ≤ 9223372036854775807) (hz : ∀ z ∈ l, 0 ≤ z ∧ z ≤ 255) (n : Nat) (hn : n = l.length) : Bytes (w.alloc (.cells C e fr)) (some ⟨b, 0, none⟩) n l := by
  subst h hn
  have hg : ∀ i, i < l.length → C[i]? = some (.int .u8 (l.getD i 0)) := fun i hi => by
    rw [← Array.getElem?_toList, hC, List.getElem?_map, List.getD_eq_getElem?_getD, List.getElem?_eq_getElem hi]; rfl
  refine ⟨rfl, hm, fun i hi => ?_, ?_⟩
  · rw [List.getD_eq_getElem?_getD, List.getElem?_eq_getElem hi]
    exact hz _ (List.getElem_mem _)
  · by_cases h0 : l.length = 0
    · exact .inl h0
    · refine .inr ⟨by omega, w.heap.size, 0, rfl, by simp, fun i hi => ?_⟩
      rw [Nat.zero_add, ← hg i hi]
      have hb := Go.Deep.blk_alloc_new w (.cells C e fr)
      simp only [World.cell?]
      rw [hb]
      rfl
theorem digits_block (w : World) : Bytes (w.alloc (.cells #[.int .u8 49, .int .u8 50, .int .u8 51, .int .u8 52, .int .u8 53, .int .u8 54, .int .u8 55, .int .u8 56, .int .u8 57] 5 (9, 10))) (some ⟨w.heap.size, 0, none⟩) 9 [49, 50, 51, 52, 53, 54, 55, 56, 57] :=
  new_block w _ _ _ _ rfl [49, 50, 51, 52, 53, 54, 55, 56, 57] rfl (by decide) (by decide) 9 rfl
theorem awake_any (w : World) :
    Calls Try.prog 9 #[] w fun e w' => e = .returned (.bool true) ∧ Below w.heap.size w w' := by
  have kc := fun (w : World) (C : Array Value) (n c : Nat) => Lib.run_convert_bytes_const (P := Try.prog) w 23 5 C n c Try.underlying23 Try.underlying5
  go_enter Try.func9, Try.ntmps9
  go_wp2_with (first
    | (go_at_call 10; refine (new_any _).mono ?_; rintro e w' ⟨rfl, ht, hb⟩; have HT := Lib.hid ht; clear ht; have hz := HT.out.lt)
    | (go_at_call 15; refine ((sum_any _ _ _ _ _ _ (HT.out.alloc _) (digits_block _)).mono ?_); rw [digits_sum, show ((3421780262#32).toNat : Int) = 3421780262 from rfl]; rintro e w'' ⟨rfl, rfl⟩))
  go_ret
  exact ⟨rfl, hb.alloc (by omega) _⟩
end Go.Proofs.Ytpllflmflfbnpaa
