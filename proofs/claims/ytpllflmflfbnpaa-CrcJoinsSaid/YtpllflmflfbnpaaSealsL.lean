/-
  Own text: the law CrcSeals, walked.
-/
import Derived.Test.YtpllflmflfbnpaaOpensL
namespace Go.Proofs.Ytpllflmflfbnpaa
open Go.RowKit

theorem opensB_sealed (n : Nat) (l : List Int) (h : l.length = n) : opensB n (l ++ sealL (sumB l)) = true := by
  subst h
  unfold opensB sameB
  simp
theorem sealed_range {w : World} {a : Option Addr} {n : Nat} {l : List Int} (h : Bytes w a n l) : ∀ z ∈ l ++ sealL (sumB l), 0 ≤ z ∧ z ≤ 255 := by
  intro z hz
  rcases List.mem_append.1 hz with g | g
  · exact h.range z g
  · exact sealL_range _ z g
set_option maxRecDepth 100000 in
theorem seals_small (a : Option Addr) (n cap : Nat) (l : List Int) (w : World) (hl : Bytes w a n l) (hnil : a = none → cap = 0) (hn : n ≤ 2000) :
    Calls Try.prog 4 #[.slice a n cap] w fun e w' => e = .returned (.bool true) ∧ Below w.heap.size w w' := by
  have HL := Lib.hid hl
  have HS := Lib.hid hl.size
  have HR := Lib.hid hl.range
  have HG := Lib.hid (sealed_range hl)
  have HN := Lib.hid hnil
  have HO := Lib.hid (opensB_sealed n l hl.size)
  have HT4 : Hid ((l ++ sealL (sumB l)).take n = l) := Lib.hid (by rw [List.take_append_of_le_length (by rw [hl.size]; exact Nat.le_refl _), List.take_of_length_le (by rw [hl.size]; exact Nat.le_refl _)])
  have HLL : Hid ((l ++ sealL (sumB l)).length = n + 4) := Lib.hid (by rw [List.length_append, hl.size]; rfl)
  clear hl hnil
  go_enter Try.func4, Try.ntmps4
  go_wp2_with (first
    | (go_at_call 9; refine (awake_any _).mono ?_; rintro e w1 ⟨rfl, hb1⟩; have HB1 := Lib.hid hb1; clear hb1)
    | (go_at_call 10; refine (new_any _).mono ?_; rintro e w2 ⟨rfl, ht, hb2⟩; have HT := Lib.hid ht; have HB2 := Lib.hid (HB1.out.trans (hb2.mono HB1.out.size)); clear ht hb2; have HL2 := Lib.hid (HL.out.below HB2.out (Nat.le_refl _)); have HY := Lib.hid (HL2.out.below ((Below.refl w2.heap.size w2).alloc (Nat.le_refl _) (.cells #[] 5)) (Nat.le_refl _)); have HW := Lib.hid (Own8.lit w2 w2.heap.size (Nat.le_refl _)); have HX := Lib.hid ((Below.refl w2.heap.size w2).alloc (Nat.le_refl _) (.cells #[] 5)); have H6 := Lib.hid (show 0 + n ≤ 1000000 by omega); have H7 := Lib.hid (HX.out.size); have H8 : Hid (n = 0 + n) := Lib.hid (Nat.zero_add n).symm)
    | (with_reducible refine wpList_append_bytes (w := w2.alloc _) rfl (.tmp 14) (.tmp 15) rfl w2.heap.size _ _ _ rfl [] HW.out _ _ _ rfl l HY.out HN.out H6.out w2.heap.size w2 HX.out (Nat.le_refl _) H7.out n H8.out l rfl ?_; intro A C w3 hown hb3; have HQ : Hid (Bytes w3 A n l) := Lib.hid (hown.out.bytes HR.out); have HB3 := Lib.hid hb3; clear hown hb3)
    | (go_at_call 16; refine (seals_any _ _ _ _ _ _ (HT.out.below HB3.out HT.out.lt) HQ.out (by omega)).mono ?_; rintro e w4 ⟨g, rfl, hg, hr, hb4⟩; have HR4 := Lib.hid hr; have HB4 := Lib.hid (HB3.out.trans (hb4.mono HB3.out.size)); have HQ4 := Lib.hid (HQ.out.below hb4 (Nat.le_refl _)); clear hg hr hb4; have HS4 := Lib.hid (HR4.out.whole HG.out (n + 4) HLL.out.symm (by omega)))
    | (go_at_call 17; refine (open_good _ _ _ _ _ _ (HT.out.below HB4.out HT.out.lt) HS4.out (by omega) (Nat.le_refl _) HO.out).mono ?_; rintro e w5 ⟨g5, rfl, hg5, hr5, hb5⟩; have HR5 := Lib.hid hr5; have HB5 := Lib.hid (HB4.out.trans (hb5.mono HB4.out.size)); have HQ5 := Lib.hid (HQ4.out.below hb5 (Nat.le_refl _)); have HS5 := Lib.hid (HS4.out.below hb5 (Nat.le_refl _)); clear hg5 hr5 hb5; have HX5 : Hid (Bytes w5 (some ⟨g5, 0, none⟩) n l) := Lib.hid (by have h := HR5.out; rw [HT4.out] at h; exact h.whole HR.out n HS.out.symm (by omega)))
    | (go_at_call 19; refine (rseal_any _ _ _ _ _ (HL2.out.below HB5.out (Nat.le_refl _)) (by omega)).mono ?_; rintro e w6 ⟨A6, C6, rfl, hs6, hb6⟩; have HS6 := Lib.hid hs6; have HB6 := Lib.hid (HB5.out.trans (hb6.mono HB5.out.size)); have HQ6 := Lib.hid (HQ5.out.below hb6 (Nat.le_refl _)); have HX6 := Lib.hid (HX5.out.below hb6 (Nat.le_refl _)); have HT6 := Lib.hid (HS5.out.below hb6 (Nat.le_refl _)); have HL6 := Lib.hid (HL2.out.below HB6.out (Nat.le_refl _)); clear hs6 hb6)
    | (go_at_call 18; ((with_reducible refine (same_true (some ⟨g, 0, none⟩) A6 _ _ _ _ _ w6 HT6.out HS6.out).mono ?_); rintro e w7 ⟨rfl, hb7⟩; have HB7 := Lib.hid (HB6.out.trans (hb7.mono HB6.out.size)); have HQ7 := Lib.hid (HQ6.out.below hb7 (Nat.le_refl _)); have HX7 := Lib.hid (HX6.out.below hb7 (Nat.le_refl _)); have HL7 := Lib.hid (HL6.out.below hb7 (Nat.le_refl _)); clear hb7))
    | (go_at_call 18; ((with_reducible refine (same_true (some ⟨g5, 0, none⟩) _ _ _ _ _ _ w7 HX7.out HL7.out).mono ?_); rintro e w8 ⟨rfl, hb8⟩; have HB8 := Lib.hid (HB7.out.trans (hb8.mono HB7.out.size)); have HQ8 := Lib.hid (HQ7.out.below hb8 (Nat.le_refl _)); have HL8 := Lib.hid (HL7.out.below hb8 (Nat.le_refl _)); clear hb8))
    | (go_at_call 18; ((with_reducible refine (same_true A _ _ _ _ _ _ w8 HQ8.out HL8.out).mono ?_); rintro e w9 ⟨rfl, hb9⟩; have HB9 := Lib.hid (HB8.out.trans (hb9.mono HB8.out.size)); clear hb9)))
  go_ret
  exact ⟨rfl, HB2.out.trans (HB9.out.mono HB2.out.size)⟩
theorem seals_big (a : Option Addr) (len cap : Nat) (w : World) (hbig : 2000 < len) (hm : len ≤ 9223372036854775807) :
    Calls Try.prog 4 #[.slice a len cap] w fun e w' => e = .returned (.bool true) ∧ Below w.heap.size w w' := by
  go_enter Try.func4, Try.ntmps4
  go_wp2_with (go_at_call 9; refine (awake_any _).mono ?_; rintro e w' ⟨rfl, hb⟩)
  go_ret
  exact ⟨rfl, hb⟩
theorem IsRow.nil_cap {k : IntKind} {w : World} {a : Option Addr} {len cap : Nat} {zs : List Int} (h : IsRow k w a len cap zs) : a = none → cap = 0 := by
  rcases h with ⟨_, _, h, _⟩ | ⟨x, rfl, _⟩
  · exact fun _ => h
  · exact fun h => nomatch h
theorem seals_walk (a : Option Addr) (len cap : Nat) (zs : List Int) (w : World) (h : IsRow .u8 w a len cap zs) :
    Calls Try.prog 4 #[.slice a len cap] w fun e w' => e = .returned (.bool true) ∧ Below w.heap.size w w' := by
  have hb := h.bytes
  by_cases h1 : 2000 < len
  · exact seals_big a len cap w h1 hb.max
  · exact seals_small a len cap _ w hb h.nil_cap (by omega)
end Go.Proofs.Ytpllflmflfbnpaa
