/-
  Own text: the document's Trip, walked.
  the document's Wait, Score, Need; the law's Same, walked.
-/
import Derived.Test.YtphddcbkjikgfaaRuF
import Derived.Deep.DeepCutAuto
namespace Go.Proofs.Ytphddcbkjikgfaa
open Go.RowKit

theorem trip8_is (t : Int) : (t < 0 → trip8 t = 0) ∧ (¬ t < 0 → 2000 < t → trip8 t = 16000) ∧ (¬ t < 0 → ¬ 2000 < t → trip8 t = 8 * t) := by
  unfold trip8
  refine ⟨fun h => by rw [if_pos h]; rfl, fun h k => by rw [if_neg h, if_pos k]; rfl, fun h k => by rw [if_neg h, if_neg k]⟩
end Go.Proofs.Ytphddcbkjikgfaa
namespace Go.Proofs.Ytphddcbkjikgfaa
open Go.RowKit

set_option maxRecDepth 100000 in
theorem rneed13_any (s : Sk) (i : Nat) (hf : s.fit i) (n l : Int) (n0 : 0 ≤ n) (n1 : n ≤ 1000) (l1 : l ≤ 1000) (w : World) :
    Calls Try.prog 77 #[SV s, .int .i64 n, .int .i64 l] w fun e w' => e = .returned (.int .i64 (s.need n l)) ∧ Below w.heap.size w w' := by
  obtain ⟨W, hW⟩ : ∃ W, W = w.alloc (.cells #[.int .i64 s.lo, .int .i64 s.rt, .int .i64 s.va, .int .i64 s.ma, .int .i64 s.tr] 145) := ⟨_, rfl⟩
  obtain ⟨hb, hx⟩ := Blk13.box w s _ hW
  obtain ⟨c0, c1, c2, c3, c4⟩ := (hx W (Below.refl _ _)).cells
  have HB := Lib.hid hb
  have lo0 := hf.l0
  have lo1 := hf.l1
  have HT := Lib.hid (fun m (hm : (0 : Int) ≤ m) => Sk.need_try hf n l m n0 hm)
  obtain ⟨d0, d1⟩ := Sk.need_lo hf n l
  have d2 : s.need n l ≤ 1000 := by
    have : (if l < 0 then (0 : Int) else l) ≤ 1000 := by split <;> omega
    omega
  unfold SV
  clear hb hx hf d1
  generalize s.need n l = nd at *
  generalize s.rt = rt at *
  generalize s.va = va at *
  generalize s.tr = tr at *
  generalize s.ma = ma at *
  generalize s.lo = lo at *
  go_enter Try.func77, Try.ntmps77
  go_upto_region 1 with fail
  rw [← hW]
  clear hW
  go_wp2
  go_loopw [7] (fun i wr => ∃ (m : Nat), i = .int .i64 (m : Int) ∧ Hid ((m : Int) ≤ nd) ∧ Hid (wr = W)) (fun i _ => nd.toNat - (intOf i).toNat)
  case atStart => exact ⟨0, rfl, Lib.hid (by omega), Lib.hid rfl⟩
  case round =>
    obtain ⟨m, rfl, HM, HW⟩ := hrel
    obtain rfl := HW.out
    have hm := HM.out
    obtain ⟨ht, he⟩ := HT.out (m : Int) (by omega)
    have b0 : (0 : Int) ≤ (m : Int) := by omega
    have b1 : (m : Int) ≤ 1000 := by omega
    have p0 : 0 ≤ (m : Int) * (65536 - lo) := Int.mul_nonneg b0 (by omega)
    have p1 : (m : Int) * (65536 - lo) ≤ 1000 * 65536 := Int.mul_le_mul b1 (by omega) (by omega) (by omega)
    have wr1 : IntKind.i64.wrap ((m : Int) * (65536 - lo)) = (m : Int) * (65536 - lo) := by rw [IntKind.wrap_i64]; omega
    by_cases hlt : (m : Int) < nd
    · obtain ⟨h1, h2⟩ := ht hlt
      have HN : Hid (((m + 1 : Nat) : Int) ≤ nd) := Lib.hid (by push_cast; omega)
      have HD : Hid (nd.toNat - (m + 1) < nd.toNat - m) := Lib.hid (by omega)
      clear ht he hlt hm d0 d2
      go_wp2
      go_roundw
      case rel => exact ⟨m + 1, by go_num, HN, Lib.hid True.intro⟩
      case measure => have := HD.out; simp [intOf] <;> omega
    · have hnd : (m : Int) = nd := by omega
      have hn := he hnd
      have hcs : ¬ (m : Int) < l ∨ ((m : Int) < l ∧ ¬ (m : Int) * (65536 - lo) < n * 65536) := by omega
      have HE := Lib.hid hnd
      clear ht he hn hlt hm d0 d2 hnd
      rcases hcs with h1 | ⟨h1, h2⟩
      all_goals
        go_wp2
        go_ret
        exact ⟨ret_int HE.out, HB.out⟩
end Go.Proofs.Ytphddcbkjikgfaa
