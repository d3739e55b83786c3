/-
  Own text: the law CrcSums, walked.
-/
import Derived.Test.YtpllflmflfbnpaaCrcC
namespace Go.Proofs.Ytpllflmflfbnpaa
open Go.RowKit

theorem u32_lo {n : Int} (h : (Lit.int .u32 n).wf = true) : 0 ≤ n ∧ n ≤ 4294967295 := by
  simp [Lit.wf, IntKind.min, IntKind.max, IntKind.bits, IntKind.signed] at h; omega
theorem u8_lo {n : Int} (h : (Lit.int .u8 n).wf = true) : 0 ≤ n ∧ n ≤ 255 := by
  simp [Lit.wf, IntKind.min, IntKind.max, IntKind.bits, IntKind.signed] at h; omega
theorem bv_of {n : Int} (h0 : 0 ≤ n) (h1 : n ≤ 4294967295) : ∃ r : BitVec 32, n = (r.toNat : Int) := by
  refine ⟨BitVec.ofInt 32 n, ?_⟩
  rw [BitVec.toNat_ofInt]
  show n = ((n % 4294967296).toNat : Int)
  omega
theorem IsRow.bytes {w : World} {a : Option Addr} {len cap : Nat} {zs : List Int} (h : IsRow .u8 w a len cap zs) : Bytes w a len (zs.take len) := by
  have hb := h.bound
  rcases h.at_ with rfl | ⟨h0, b, off, rfl, g⟩
  · exact ⟨by simp, by omega, fun i hi => by omega, .inl rfl⟩
  · have e : ∀ i, i < len → (zs.take len).getD i 0 = zs.getD i 0 := fun i hi => by
      simp [List.getD_eq_getElem?_getD, List.getElem?_take, hi]
    have hs := g.size
    refine ⟨by rw [List.length_take]; omega, by omega, fun i hi => ?_, .inr ⟨h0, b, off, rfl, ?_, fun i hi => ?_⟩⟩
    · rw [e i hi]; exact u8_lo (g.wf i hi)
    · have c := g.cell 0 h0
      rcases Nat.lt_or_ge b w.heap.size with g | g
      · exact g
      · simp [World.cell?, Array.getElem?_eq_none g] at c
    · rw [e i hi]; exact g.cell i hi

theorem sums_walk (s : Int) (a : Option Addr) (len cap : Nat) (zs : List Int) (b : Int) (w : World) (h : IsRow .u8 w a len cap zs) (hs : (Lit.int .u32 s).wf = true) (hb : (Lit.int .u8 b).wf = true) :
    Calls Try.prog 3 #[.int .u32 s, .slice a len cap, .int .u8 b] w fun e w' => e = .returned (.bool true) ∧ Below w.heap.size w w' := by
  obtain ⟨s0, s1⟩ := u32_lo hs
  obtain ⟨b0, b1⟩ := u8_lo hb
  obtain ⟨r, rfl⟩ := bv_of s0 s1
  obtain ⟨y1, y2⟩ := byteB_small b b0 b1
  have hB := h.bytes
  have hm := hB.max
  generalize zs.take len = l at *
  have HB := Lib.hid hB
  have c1 := fun w => bstep_any r (byteB b) w y1
  have c2 := fun w => rstep_any r (byteB b) w y1
  rw [y2] at c1 c2
  have c3 : ∀ w, Bytes w a len l → Calls Try.prog 14 #[.int .u32 0, .slice a len cap] w fun e w' => e = .returned (.int .u32 (sumB l).toNat) ∧ w = w' := fun w hl => rmore_any 0#32 a len cap l w hl
  have c4 := fun w hl => rmore_any r a len cap l w hl
  have C4 := Lib.hid c4
  clear c4
  have C1 := Lib.hid c1
  have C2 := Lib.hid c2
  have C3 := Lib.hid c3
  clear h hs hb s0 s1 b0 b1 hB y1 y2 c1 c2 c3
  by_cases hbig : 2000 < len
  · go_enter Try.func3, Try.ntmps3
    go_wp2_with (go_at_call 9; refine (awake_any _).mono ?_; rintro e w' ⟨rfl, hb⟩)
    go_ret
    exact ⟨rfl, hb⟩
  · go_enter Try.func3, Try.ntmps3
    go_wp2_with (first
      | (go_at_call 9; refine (awake_any _).mono ?_; rintro e w1 ⟨rfl, hb1⟩)
      | (go_at_call 10; refine (new_any _).mono ?_; rintro e w2 ⟨rfl, ht, hb2⟩; have HT := Lib.hid ht; clear ht; have HL := Lib.hid (HB.out.below (hb1.trans (hb2.mono hb1.size)) (Nat.le_refl _)))
      | (go_at_call 11; refine (C1.out _).mono ?_; rintro e w' ⟨rfl, rfl⟩)
      | (go_at_call 12; refine (C2.out _).mono ?_; rintro e w' ⟨rfl, rfl⟩)
      | (go_at_call 13; refine (more_any _ _ _ _ _ _ _ HT.out HL.out).mono ?_; rintro e w' ⟨rfl, rfl⟩)
      | (go_at_call 15; refine (sum_any _ _ _ _ _ _ HT.out HL.out).mono ?_; rintro e w' ⟨rfl, rfl⟩)
      | (go_at_call 14; (with_reducible refine (C4.out _ HL.out).mono ?_); rintro e w' ⟨rfl, rfl⟩)
      | (go_at_call 14; (with_reducible refine (C3.out _ HL.out).mono ?_); rintro e w' ⟨rfl, rfl⟩))
    all_goals go_ret
    all_goals exact ⟨rfl, hb1.trans (hb2.mono hb1.size)⟩
end Go.Proofs.Ytpllflmflfbnpaa
