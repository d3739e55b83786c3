/-
  Own text: Take, walked.
-/
import Derived.Test.YtopnceniihgkpaaSqC
namespace Go.Proofs.Ytopnceniihgkpaa
open Go.RowKit

/-- What a number that comes makes of it, and the error's number. -/
def Sn.take (s : Sn) (n : Nat) : Sn × Int :=
  if s.any = false then (⟨true, n, 1#64, 1, 0, 0⟩, 0)
  else if beh n s.top ≤ -64 then (s, 90)
  else if 0 < beh n s.top then ({ s.moved n (beh n s.top).toNat with bts := (s.bts <<< (beh n s.top).toNat) ||| 1#64, came := s.came + 1 }, 0)
  else if s.bts.getLsbD (dist s.top n) then ({ s with twice := s.twice + 1 }, 171)
  else ({ s with bts := s.bts ||| (1#64 <<< dist s.top n), came := s.came + 1 }, 0)
theorem and_bit (b : BitVec 64) (d : Nat) (hd : d < 64) : ((bits .and .u64 (b.toNat : Int) ((1#64 <<< d).toNat : Int)) != 0) = b.getLsbD d := by
  rw [and64 _ _ b.isLt (BitVec.isLt _), ← BitVec.toNat_and]
  rw [Bool.eq_iff_iff]
  constructor
  · intro h
    cases hb : b.getLsbD d with
    | true => rfl
    | false =>
      have e : b &&& (1#64 <<< d) = 0#64 := by
        apply BitVec.eq_of_getLsbD_eq
        intro i hi
        simp only [BitVec.getLsbD_and, BitVec.getLsbD_shiftLeft, BitVec.getLsbD_one, BitVec.getLsbD_zero]
        by_cases hid : i = d
        · subst hid; rw [hb]; rfl
        · have : i < d ∨ i - d ≠ 0 := by omega
          rcases this with g | g
          · simp [g]
          · simp [g]
      rw [e] at h
      simp at h
  · intro hb
    have e : (b &&& (1#64 <<< d)).getLsbD d = true := by
      simp [hb, hd]
    have : (b &&& (1#64 <<< d)).toNat ≠ 0 := by
      intro h0
      rw [← BitVec.testBit_toNat, h0] at e
      simp at e
    simp only [bne_iff_ne, ne_eq]
    omega
theorem bit_is (d : Nat) : (((1#64 <<< d).toNat : Int) == 0) = decide (64 ≤ d) := by
  rw [BitVec.toNat_shiftLeft, Nat.shiftLeft_eq]
  by_cases h : 64 ≤ d
  · rw [show d = 64 + (d - 64) by omega, Nat.pow_add]
    simp
  · have h2 : 2 ^ d < 2 ^ 64 := Nat.pow_lt_pow_right (by omega) (by omega)
    have h3 : 0 < 2 ^ d := Nat.pow_pos (by omega)
    rw [show (1#64).toNat = 1 from rfl, Nat.one_mul, Nat.mod_eq_of_lt h2]
    have : ¬ ((2 ^ d : Nat) : Int) = 0 := by omega
    simp only [h, decide_false]
    exact beq_eq_false_iff_ne.2 this
theorem orbv (a b : BitVec 64) : bits .or .u64 (a.toNat : Int) (b.toNat : Int) = ((a ||| b).toNat : Int) := by
  rw [or64 _ _ a.isLt b.isLt, BitVec.toNat_or]
theorem sn_blk_set {w : World} {b : Nat} {C : Array Value} {t : TypeId} {fr : Nat × Nat} (h : w.heap[b]? = some (.cells C t fr)) (i : Nat) (v : Value) : (w.setCell ⟨b, i, none⟩ v).heap[b]? = some (.cells (C.setIfInBounds i v) t fr) := by
  simp only [World.setCell, Array.getElem?_modify, h]
  simp
/-- A store of a whole one. -/
abbrev setSn (w : World) (b : Nat) (s : Sn) : World := (((((w.setCell ⟨b, 0, none⟩ (.bool s.any)).setCell ⟨b, 1, none⟩ (.int .u32 s.top)).setCell ⟨b, 2, none⟩ (.int .u64 s.bts.toNat)).setCell ⟨b, 3, none⟩ (.int .i64 s.came)).setCell ⟨b, 4, none⟩ (.int .i64 s.twice)).setCell ⟨b, 5, none⟩ (.int .i64 s.lost)
theorem SBlk.write {w : World} {b : Nat} {s : Sn} (h : SBlk w b s) (s' : Sn) : SBlk (setSn w b s') b s' := by
  unfold SBlk at *
  have h := sn_blk_set (sn_blk_set (sn_blk_set (sn_blk_set (sn_blk_set (sn_blk_set h 0 (.bool s'.any)) 1 (.int .u32 s'.top)) 2 (.int .u64 s'.bts.toNat)) 3 (.int .i64 s'.came)) 4 (.int .i64 s'.twice)) 5 (.int .i64 s'.lost)
  simp only [Sn.cells, List.setIfInBounds_toArray, List.set_cons_zero, List.set_cons_succ] at h
  exact h
theorem Only.write (b : Nat) (w : World) (s : Sn) : Only b w (setSn w b s) :=
  (((((Only.set b w 0 _).trans (Only.set _ _ 1 _)).trans (Only.set _ _ 2 _)).trans (Only.set _ _ 3 _)).trans (Only.set _ _ 4 _)).trans (Only.set _ _ 5 _)
set_option maxRecDepth 100000 in
theorem take_first (b : Nat) (s : Sn) (n : Nat) (hs : s.any = false) (w : World) (h : SBlk w b s) :
    Calls Try.prog 23 #[.pointer (some ⟨b, 0, none⟩), .int .u32 n] w fun e w' => e = .returned (.int .i64 0) ∧ Hid (SBlk w' b ⟨true, n, 1#64, 1, 0, 0⟩) ∧ Hid (Only b w w') := by
  have c0 : w.cell? ⟨b, 0, none⟩ = some (.bool s.any) := h.cell 0
  rw [hs] at c0
  have c1 : w.cell? ⟨b, 1, none⟩ = some (.int .u32 s.top) := h.cell 1
  have c2 : w.cell? ⟨b, 2, none⟩ = some (.int .u64 s.bts.toNat) := h.cell 2
  have c3 : w.cell? ⟨b, 3, none⟩ = some (.int .i64 s.came) := h.cell 3
  have c4 : w.cell? ⟨b, 4, none⟩ = some (.int .i64 s.twice) := h.cell 4
  have c5 : w.cell? ⟨b, 5, none⟩ = some (.int .i64 s.lost) := h.cell 5
  have f0 := h.frozen 0
  have f1 := h.frozen 1
  have f2 := h.frozen 2
  have f3 := h.frozen 3
  have f4 := h.frozen 4
  have f5 := h.frozen 5
  have H := Lib.hid h
  clear h
  go_enter Try.func23, Try.ntmps23
  go_wp2
  go_ret
  refine ⟨rfl, Lib.hid ?_, Lib.hid ?_⟩
  · exact H.out.write ⟨true, n, 1#64, 1, 0, 0⟩
  · exact Only.write b w ⟨true, n, 1#64, 1, 0, 0⟩
set_option maxRecDepth 100000 in
theorem take_old (b : Nat) (s : Sn) (n : Nat) (hs : s.any = true) (hn : n < 4294967296) (ht : s.top < 4294967296) (ho : beh n s.top ≤ -64) (w : World) (h : SBlk w b s) :
    Calls Try.prog 23 #[.pointer (some ⟨b, 0, none⟩), .int .u32 n] w fun e w' => e = .returned (.int .i64 90) ∧ w = w' := by
  have c0 : w.cell? ⟨b, 0, none⟩ = some (.bool s.any) := h.cell 0
  rw [hs] at c0
  have c1 : w.cell? ⟨b, 1, none⟩ = some (.int .u32 s.top) := h.cell 1
  have H := Lib.hid h
  have CB := Lib.hid (sbehind_any n s.top hn ht)
  have CI := Lib.hid (bit_any b s n hn ht)
  have bi := bit_is (dist s.top n)
  have hd : decide (64 ≤ dist s.top n) = true := by
    have := dist_old hn ht (by omega)
    exact decide_eq_true (by omega)
  rw [hd] at bi
  clear h hd
  generalize (1#64 <<< dist s.top n).toNat = v at *
  generalize beh n s.top = by_ at *
  go_enter Try.func23, Try.ntmps23
  go_wp2_with (first
    | (go_at_call 40; refine (CB.out _).mono ?_; rintro e w1 ⟨rfl, rfl⟩)
    | (go_at_call 42; refine (CI.out _ H.out).mono ?_; rintro e w2 ⟨rfl, rfl⟩))
  go_ret
  exact ⟨rfl, rfl⟩
set_option maxRecDepth 100000 in
theorem take_twice (b : Nat) (s : Sn) (n : Nat) (hs : s.any = true) (hn : n < 4294967296) (ht : s.top < 4294967296) (ho : -64 < beh n s.top) (hy : beh n s.top ≤ 0) (hb : s.bts.getLsbD (dist s.top n) = true) (hl : s.twice ≤ 1000000) (w : World) (h : SBlk w b s) :
    Calls Try.prog 23 #[.pointer (some ⟨b, 0, none⟩), .int .u32 n] w fun e w' => e = .returned (.int .i64 171) ∧ Hid (SBlk w' b { s with twice := s.twice + 1 }) ∧ Hid (Only b w w') := by
  have c0 : w.cell? ⟨b, 0, none⟩ = some (.bool s.any) := h.cell 0
  rw [hs] at c0
  have c1 : w.cell? ⟨b, 1, none⟩ = some (.int .u32 s.top) := h.cell 1
  have c2 : w.cell? ⟨b, 2, none⟩ = some (.int .u64 s.bts.toNat) := h.cell 2
  have c4 : w.cell? ⟨b, 4, none⟩ = some (.int .i64 s.twice) := h.cell 4
  have f4 := h.frozen 4
  have H := Lib.hid h
  have CB := Lib.hid (sbehind_any n s.top hn ht)
  have CI := Lib.hid (bit_any b s n hn ht)
  have hd0 : dist s.top n < 64 := by have := dist_old hn ht hy; omega
  have bi := bit_is (dist s.top n)
  have hd : decide (64 ≤ dist s.top n) = false := decide_eq_false (by omega)
  rw [hd] at bi
  have ab := and_bit s.bts (dist s.top n) hd0
  rw [hb] at ab
  clear h hd hd0 hb
  have hy2 : ¬ 0 < beh n s.top := by omega
  generalize (1#64 <<< dist s.top n).toNat = v at *
  generalize beh n s.top = by_ at *
  go_enter Try.func23, Try.ntmps23
  go_wp2_with (first
    | (go_at_call 40; refine (CB.out _).mono ?_; rintro e w1 ⟨rfl, rfl⟩)
    | (go_at_call 42; refine (CI.out _ H.out).mono ?_; rintro e w2 ⟨rfl, rfl⟩))
  go_ret
  exact ⟨rfl, Lib.hid (SBlk.set H.out 4 _ _ (by simp)), Lib.hid (Only.set _ _ _ _)⟩
set_option maxRecDepth 100000 in
theorem take_mid (b : Nat) (s : Sn) (n : Nat) (hs : s.any = true) (hn : n < 4294967296) (ht : s.top < 4294967296) (ho : -64 < beh n s.top) (hy : beh n s.top ≤ 0) (hb : s.bts.getLsbD (dist s.top n) = false) (hl : s.came ≤ 1000000) (w : World) (h : SBlk w b s) :
    Calls Try.prog 23 #[.pointer (some ⟨b, 0, none⟩), .int .u32 n] w fun e w' => e = .returned (.int .i64 0) ∧ Hid (SBlk w' b { s with bts := s.bts ||| (1#64 <<< dist s.top n), came := s.came + 1 }) ∧ Hid (Only b w w') := by
  have c0 : w.cell? ⟨b, 0, none⟩ = some (.bool s.any) := h.cell 0
  rw [hs] at c0
  have c1 : w.cell? ⟨b, 1, none⟩ = some (.int .u32 s.top) := h.cell 1
  have c2 : w.cell? ⟨b, 2, none⟩ = some (.int .u64 s.bts.toNat) := h.cell 2
  have c3 : w.cell? ⟨b, 3, none⟩ = some (.int .i64 s.came) := h.cell 3
  have f2 := h.frozen 2
  have f3 := h.frozen 3
  have H := Lib.hid h
  have CB := Lib.hid (sbehind_any n s.top hn ht)
  have CI := Lib.hid (bit_any b s n hn ht)
  have hd0 : dist s.top n < 64 := by have := dist_old hn ht hy; omega
  have bi := bit_is (dist s.top n)
  have hd : decide (64 ≤ dist s.top n) = false := decide_eq_false (by omega)
  rw [hd] at bi
  have ab := and_bit s.bts (dist s.top n) hd0
  rw [hb] at ab
  have ob := orbv s.bts (1#64 <<< dist s.top n)
  clear h hd hd0 hb
  have hy2 : ¬ 0 < beh n s.top := by omega
  have HV : Hid (s.bts ||| (1#64 <<< dist s.top n) = s.bts ||| (1#64 <<< dist s.top n)) := Lib.hid rfl
  generalize hB : s.bts ||| (1#64 <<< dist s.top n) = B at *
  generalize (1#64 <<< dist s.top n).toNat = v at *
  generalize beh n s.top = by_ at *
  clear HV hB
  go_enter Try.func23, Try.ntmps23
  go_wp2_with (first
    | (go_at_call 40; refine (CB.out _).mono ?_; rintro e w1 ⟨rfl, rfl⟩)
    | (go_at_call 42; refine (CI.out _ H.out).mono ?_; rintro e w2 ⟨rfl, rfl⟩))
  go_ret
  exact ⟨rfl, Lib.hid (SBlk.set (SBlk.set H.out 2 _ { s with bts := B } (by simp)) 3 _ _ (by simp)), Lib.hid ((Only.set _ _ _ _).trans (Only.set _ _ _ _))⟩
set_option maxRecDepth 100000 in
theorem take_new (b : Nat) (s : Sn) (n : Nat) (hs : s.any = true) (hn : n < 4294967296) (ht : s.top < 4294967296) (ho : 0 < beh n s.top) (hl : s.came ≤ 1000000) (hl2 : s.lost ≤ 4294967296 * 1000000) (w : World) (h : SBlk w b s) :
    Calls Try.prog 23 #[.pointer (some ⟨b, 0, none⟩), .int .u32 n] w fun e w' => e = .returned (.int .i64 0) ∧ Hid (SBlk w' b { s.moved n (beh n s.top).toNat with bts := (s.bts <<< (beh n s.top).toNat) ||| 1#64, came := s.came + 1 }) ∧ Hid (Only b w w') := by
  have c0 : w.cell? ⟨b, 0, none⟩ = some (.bool s.any) := h.cell 0
  rw [hs] at c0
  have c1 : w.cell? ⟨b, 1, none⟩ = some (.int .u32 s.top) := h.cell 1
  have H := Lib.hid h
  have cb := sbehind_any n s.top hn ht
  have hb := beh_lo hn ht
  have hm := top_moved hn ht
  obtain ⟨k, hk⟩ : ∃ k : Nat, beh n s.top = k := ⟨(beh n s.top).toNat, by omega⟩
  rw [hk] at ho hb hm cb
  rw [hk, Int.toNat_natCast]
  have CB := Lib.hid cb
  have CM := Lib.hid (move_any b s n k hs hn ht hl2 (by omega) hm)
  have CI := Lib.hid (bit_any b (s.moved n k) n hn (show n < 4294967296 from hn))
  have CX : Hid (∀ w1, SBlk w1 b (s.moved n k) → w1.cell? ⟨b, 2, none⟩ = some (.int .u64 (s.bts <<< k).toNat) ∧ w1.cell? ⟨b, 3, none⟩ = some (.int .i64 s.came) ∧ w1.frozen? ⟨b, 2, none⟩ = false ∧ w1.frozen? ⟨b, 3, none⟩ = false) := Lib.hid (fun w1 h1 => ⟨h1.cell 2, h1.cell 3, h1.frozen 2, h1.frozen 3⟩)
  have e1 : (1#64 <<< dist (s.moved n k).top n).toNat = 1 := by
    rw [show dist (s.moved n k).top n = 0 from dist_self n]
    rfl
  rw [e1] at CI
  have ab : (bits .and .u64 ((s.bts <<< k).toNat : Int) 1 != 0) = false := by
    have h0 := and_bit (s.bts <<< k) 0 (by omega)
    rw [show ((1#64 <<< 0).toNat : Int) = 1 from rfl] at h0
    rw [h0, BitVec.getLsbD_shiftLeft]
    have : 0 < k := by omega
    simp [this]
  have ob : bits .or .u64 ((s.bts <<< k).toNat : Int) 1 = ((s.bts <<< k ||| 1#64).toNat : Int) := orbv (s.bts <<< k) 1#64
  clear h cb hm hk e1 hb
  generalize hB : s.bts <<< k ||| 1#64 = B at *
  clear hB
  generalize (s.bts <<< k).toNat = x at *
  go_enter Try.func23, Try.ntmps23
  go_wp2_with (first
    | (go_at_call 40; refine (CB.out _).mono ?_; rintro e w1 ⟨rfl, rfl⟩)
    | (go_at_call 41; refine (CM.out _ H.out).mono ?_; rintro e w2 ⟨⟨v, rfl⟩, HM, HO⟩; obtain ⟨m2, m3, mf2, mf3⟩ := CX.out _ HM.out)
    | (go_at_call 42; refine (CI.out _ HM.out).mono ?_; rintro e w3 ⟨rfl, rfl⟩))
  go_ret
  exact ⟨rfl, Lib.hid (SBlk.set (SBlk.set HM.out 2 _ { s.moved n k with bts := B } (by simp)) 3 _ _ (by simp [Sn.moved])), Lib.hid ((HO.out.trans (Only.set _ _ _ _)).trans (Only.set _ _ _ _))⟩
set_option maxRecDepth 100000 in
theorem take_any (b : Nat) (s : Sn) (n k : Nat) (hn : n < 4294967296) (hf : s.fit k) (hk : k ≤ 1000000) (w : World) (h : SBlk w b s) :
    Calls Try.prog 23 #[.pointer (some ⟨b, 0, none⟩), .int .u32 n] w fun e w' => e = .returned (.int .i64 (s.take n).2) ∧ Hid (SBlk w' b (s.take n).1) ∧ Hid (Only b w w') := by
  have ht := hf.top
  have h1 := hf.came
  have h2 := hf.twice
  have h3 := hf.lost
  cases hs : s.any
  · have e : s.take n = (⟨true, n, 1#64, 1, 0, 0⟩, 0) := by unfold Sn.take; rw [hs]; rfl
    rw [e]
    exact take_first b s n hs w h
  · by_cases ho : beh n s.top ≤ -64
    · have e : s.take n = (s, 90) := by unfold Sn.take; simp [hs, ho]
      rw [e]
      refine (take_old b s n hs hn ht ho w h).mono ?_
      rintro e w' ⟨rfl, rfl⟩
      exact ⟨rfl, Lib.hid h, Lib.hid (Only.refl _ _)⟩
    · by_cases hy : 0 < beh n s.top
      · have e : s.take n = ({ s.moved n (beh n s.top).toNat with bts := (s.bts <<< (beh n s.top).toNat) ||| 1#64, came := s.came + 1 }, 0) := by unfold Sn.take; simp [hs, ho, hy]
        rw [e]
        exact take_new b s n hs hn ht hy (by omega) (by omega) w h
      · cases hb : s.bts.getLsbD (dist s.top n)
        · have e : s.take n = ({ s with bts := s.bts ||| (1#64 <<< dist s.top n), came := s.came + 1 }, 0) := by unfold Sn.take; simp [hs, ho, hy, hb]
          rw [e]
          exact take_mid b s n hs hn ht (by omega) (by omega) hb (by omega) w h
        · have e : s.take n = ({ s with twice := s.twice + 1 }, 171) := by unfold Sn.take; simp [hs, ho, hy, hb]
          rw [e]
          exact take_twice b s n hs hn ht (by omega) (by omega) hb (by omega) w h
set_option maxRecDepth 100000 in
theorem Sn.take_fit {s : Sn} {n k : Nat} (hn : n < 4294967296) (hf : s.fit k) : (s.take n).1.fit (k + 1) := by
  have ht := hf.top
  have h1 := hf.came
  have h2 := hf.twice
  have h3 := hf.lost
  have hb := beh_lo hn ht
  have ho := outs_le s.bts (beh n s.top).toNat
  unfold Sn.take
  split
  · exact ⟨hn, by show 1 ≤ k + 1; omega, by show 0 ≤ _; omega, by show 0 ≤ _; omega, fun h => by simp at h⟩
  · rename_i ha
    have ha2 : s.any = true := by simpa using ha
    split
    · exact ⟨ht, by show s.came ≤ _; omega, by show s.twice ≤ _; omega, by show s.lost ≤ _; omega, hf.no⟩
    · split
      · exact ⟨hn, by show s.came + 1 ≤ _; omega, by show s.twice ≤ _; omega, by show s.lost + _ + _ ≤ _; omega, fun h => by simp [Sn.moved, ha2] at h⟩
      · split
        · exact ⟨ht, by show s.came ≤ _; omega, by show s.twice + 1 ≤ _; omega, by show s.lost ≤ _; omega, fun h => by simp [ha2] at h⟩
        · exact ⟨ht, by show s.came + 1 ≤ _; omega, by show s.twice ≤ _; omega, by show s.lost ≤ _; omega, fun h => by simp [ha2] at h⟩
end Go.Proofs.Ytopnceniihgkpaa
