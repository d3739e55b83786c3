/-
  Own text: a datagram is read from its own bytes; what Decode answers to them.
-/
import Derived.Test.YtfiacpbpfdencaaBoth7
import Derived.Test.YtfiacpbpfdencaaREnc7
namespace Go.Proofs.Ytfiacpbpfdencaa
open Go.RowKit

theorem opens_sealed7 (n : Nat) (l : List Int) (h : l.length = n) : opensB n (l ++ sealL (sumB l)) = true := by
  subst h
  unfold opensB sameB
  simp
theorem plainL_length (d : Dg) (l : List Int) : (plainL d l).length = 29 + l.length := by
  unfold plainL
  simp only [List.length_append, be_length, List.length_cons, List.length_nil]
theorem plainL_range {w : World} {d : Dg} {l : List Int} (hl : Bytes w d.da d.dl l) (hs : d.small) : ∀ z ∈ plainL d l, 0 ≤ z ∧ z ≤ 255 := by
  obtain ⟨⟨a1, a2⟩, ⟨a3, a4⟩, ⟨a5, a6⟩, ⟨a7, a8⟩, ⟨a9, a10⟩, a11⟩ := hs
  unfold plainL
  refine byl_app (byl_app (byl_app (byl_app (byl_app (byl_app (byl_app (byl_app (byl_app (be_range 2 _) ?_) (be_range 4 _)) (be_range 4 _)) (be_range 4 _)) (be_range 4 _)) (be_range 4 _)) ?_) (be_range 2 _)) hl.range
  · simp only [List.mem_cons, List.not_mem_nil, or_false]; rintro z (rfl | rfl) <;> omega
  · simp only [List.mem_cons, List.not_mem_nil, or_false]; rintro z (rfl | rfl | rfl) <;> omega
theorem sealed_range7 {w : World} {d : Dg} {l : List Int} (hl : Bytes w d.da d.dl l) (hs : d.small) : ∀ z ∈ plainL d l ++ sealL (sumB (plainL d l)), 0 ≤ z ∧ z ≤ 255 :=
  byl_app (plainL_range hl hs) (sealL_range _)
theorem plainL_list (d : Dg) (l : List Int) : plainL d l = 66 :: 107 :: d.kind :: d.path :: d.ses / 16777216 % 256 :: d.ses / 65536 % 256 :: d.ses / 256 % 256 :: d.ses % 256 :: d.seq / 16777216 % 256 :: d.seq / 65536 % 256 :: d.seq / 256 % 256 :: d.seq % 256 :: d.tick / 16777216 % 256 :: d.tick / 65536 % 256 :: d.tick / 256 % 256 :: d.tick % 256 :: d.A / 16777216 % 256 :: d.A / 65536 % 256 :: d.A / 256 % 256 :: d.A % 256 :: d.B / 16777216 % 256 :: d.B / 65536 % 256 :: d.B / 256 % 256 :: d.B % 256 :: d.K :: d.M :: d.ix :: (d.dl : Int) / 256 % 256 :: (d.dl : Int) % 256 :: l := by
  unfold plainL
  rw [be_four, be_four, be_four, be_four, be_four, be_two, be_two]
  simp
theorem word4 (z : Int) (h0 : 0 ≤ z) (h1 : z ≤ 4294967295) : wordOf [z / 16777216 % 256, z / 65536 % 256, z / 256 % 256, z % 256] = z := by
  rw [← be_four]; exact word_four z h0 h1
theorem back7 (d : Dg) (l : List Int) (hf : d.fit) (hs : d.small) (A : Option Addr) (C : Nat) :
    dgL (plainL d l) A d.dl C = ⟨d.kind, d.ses, d.seq, d.path, d.tick, d.A, d.B, d.K, d.M, d.ix, A, d.dl, C⟩ ∧ wordOf ((plainL d l).take 2) = 17003 ∧ wordOf (((plainL d l).drop 27).take 2) = d.dl ∧ (plainL d l).drop 29 = l := by
  have hdl := hs.dl
  have e2 : wordOf [(d.dl : Int) / 256 % 256, (d.dl : Int) % 256] = d.dl := by rw [← be_two]; exact word_two _ (by omega) (by omega)
  have e0 : wordOf [66, 107] = 17003 := by decide
  have o1 : ∀ z : Int, wordOf [z] = z := fun z => by simp [wordOf]
  rw [plainL_list]
  refine ⟨?_, ?_, ?_, ?_⟩
  · simp only [dgL, List.drop_succ_cons, List.drop_zero, List.take_succ_cons, List.take_zero, o1, word4 d.ses hf.ses.1 hf.ses.2, word4 d.seq hf.seq.1 hf.seq.2, word4 d.tick hf.tick.1 hf.tick.2, word4 d.A hf.A.1 hf.A.2, word4 d.B hf.B.1 hf.B.2]
  · simp only [List.take_succ_cons, List.take_zero, e0]
  · simp only [List.drop_succ_cons, List.drop_zero, List.take_succ_cons, List.take_zero, e2]
  · simp only [List.drop_succ_cons, List.drop_zero]
theorem chk_mine (d : Dg) (l : List Int) (A : Option Addr) (C : Nat) : chk ⟨d.kind, d.ses, d.seq, d.path, d.tick, d.A, d.B, d.K, d.M, d.ix, A, d.dl, C⟩ l = chk d l := rfl
/-- What a datagram's bytes are. -/
def wholeL (d : Dg) (l : List Int) : List Int := plainL d l ++ sealL (sumB (plainL d l))
theorem wholeL_length (d : Dg) (l : List Int) (h : l.length = d.dl) : (wholeL d l).length = 29 + d.dl + 4 := by
  unfold wholeL
  rw [List.length_append, plainL_length, h]
  rfl
theorem wholeL_take (d : Dg) (l : List Int) (h : l.length = d.dl) : (wholeL d l).take (29 + d.dl) = plainL d l := by
  unfold wholeL
  rw [List.take_append_of_le_length (by rw [plainL_length, h]; exact Nat.le_refl _), List.take_of_length_le (by rw [plainL_length, h]; exact Nat.le_refl _)]
theorem code_back (d : Dg) (l : List Int) (hf : d.fit) (hs : d.small) (h : l.length = d.dl) (hc : chk d l = 0) (o : Int) : decCode o (29 + d.dl + 4) (wholeL d l) = if o = d.ses then 0 else 71 := by
  obtain ⟨b1, b2, b3, b4⟩ := back7 d l hf hs none 0
  have hdl := hs.dl
  have ho : opensB (29 + d.dl) (wholeL d l) = true := opens_sealed7 _ _ (by rw [plainL_length, h])
  have hses : wordOf (((plainL d l).drop 4).take 4) = d.ses := congrArg Dg.ses b1
  unfold decCode
  rw [if_neg (by omega), if_neg (by omega), Nat.add_sub_cancel, ho, if_neg (by decide), wholeL_take d l h, b2, hses, b3, b4, show 29 + d.dl + 4 - 33 = d.dl by omega, b1]
  by_cases e : o = d.ses
  · rw [if_pos e, if_neg (by rw [e]; simp), if_neg (by simp), chk_mine, hc]
  · rw [if_neg e, if_pos (.inr (fun g => e g.symm))]
theorem decode_own (t : Nat) (d : Dg) (l : List Int) (a : Option Addr) (w : World) (ht : IsTab w t) (hl : Bytes w a (29 + d.dl + 4) (wholeL d l)) (hf : d.fit) (hs : d.small) (h : l.length = d.dl) (hc : chk d l = 0) :
    Calls Try.prog 16 #[.pointer (some ⟨t, 0, none⟩), .int .u32 d.ses, .slice a (29 + d.dl + 4) (29 + d.dl + 4)] w fun e w' => ∃ A C, e = .returned (.tuple #[.agg #[.int .i64 d.kind, .int .u32 d.ses, .int .u32 d.seq, .int .i64 d.path, .int .u32 d.tick, .int .u32 d.A, .int .u32 d.B, .int .i64 d.K, .int .i64 d.M, .int .i64 d.ix, .slice A d.dl C], .int .i64 0]) ∧ Bytes w' A d.dl l ∧ Below w.heap.size w w' := by
  refine (decode_any t d.ses a _ _ _ w ht hl (Nat.le_refl _)).mono ?_
  rintro e w' ⟨D, rfl, h0, _, hb⟩
  have hcode : decCode d.ses (29 + d.dl + 4) (wholeL d l) = 0 := by rw [code_back d l hf hs h hc, if_pos rfl]
  obtain ⟨A, C, hD, hx⟩ := h0 hcode
  rw [Nat.add_sub_cancel, wholeL_take d l h, show 29 + d.dl + 4 - 33 = d.dl by omega] at hD hx
  obtain ⟨b1, _, _, b4⟩ := back7 d l hf hs A C
  rw [b1] at hD
  rw [b4] at hx
  subst hD
  exact ⟨A, C, by rw [hcode], hx, hb⟩
theorem decode_other (t : Nat) (d : Dg) (l : List Int) (a : Option Addr) (o : Int) (w : World) (ht : IsTab w t) (hl : Bytes w a (29 + d.dl + 4) (wholeL d l)) (hf : d.fit) (hs : d.small) (h : l.length = d.dl) (hc : chk d l = 0) (ho : o ≠ d.ses) :
    Calls Try.prog 16 #[.pointer (some ⟨t, 0, none⟩), .int .u32 o, .slice a (29 + d.dl + 4) (29 + d.dl + 4)] w fun e w' => e = .returned (.tuple #[Dg.zero.val, .int .i64 71]) ∧ Below w.heap.size w w' := by
  refine (decode_any t o a _ _ _ w ht hl (Nat.le_refl _)).mono ?_
  rintro e w' ⟨D, rfl, _, h1, hb⟩
  have hcode : decCode o (29 + d.dl + 4) (wholeL d l) = 71 := by rw [code_back d l hf hs h hc, if_neg ho]
  have hD := h1 (by rw [hcode]; decide)
  subst hD
  exact ⟨by rw [hcode], hb⟩
theorem decode_shut (t : Nat) (m : Nat) (Z : List Int) (a : Option Addr) (o : Int) (w : World) (ht : IsTab w t) (hl : Bytes w a (m + 4) Z) (h29 : 29 ≤ m) (hm : m ≤ 1396) (ho : opensB m Z = false) :
    Calls Try.prog 16 #[.pointer (some ⟨t, 0, none⟩), .int .u32 o, .slice a (m + 4) (m + 4)] w fun e w' => e = .returned (.tuple #[Dg.zero.val, .int .i64 20]) ∧ Below w.heap.size w w' := by
  refine (decode_any t o a _ _ _ w ht hl (Nat.le_refl _)).mono ?_
  rintro e w' ⟨D, rfl, _, h1, hb⟩
  have hcode : decCode o (m + 4) Z = 20 := by
    unfold decCode
    rw [if_neg (by omega), if_neg (by omega), Nat.add_sub_cancel, if_pos ho]
  have hD := h1 (by rw [hcode]; decide)
  subst hD
  exact ⟨by rw [hcode], hb⟩
theorem chk_val (d : Dg) (l : List Int) (h : chk d l ≠ 0) : chk d l = 72 ∨ chk d l = 73 := by
  unfold chk at *
  split
  · exact .inl rfl
  · rename_i h1
    rw [if_neg h1] at h
    split
    · exact .inr rfl
    · rename_i h2
      exact absurd (if_neg h2) h
end Go.Proofs.Ytfiacpbpfdencaa
