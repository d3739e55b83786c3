/-
  Own text: Scale, walked.
-/
import Derived.Test.YtipaolkgafhliaaGfG
import Derived.Test.YtipaolkgafhliaaByteB
namespace Go.Proofs.Ytipaolkgafhliaa
open Go.RowKit

/-- Bytes, each by an element. -/
def sc (a : Nat) (l : List Int) : List Int := l.map (fun z => ((gm a z.toNat : Nat) : Int))
/-- Behind so many rounds. -/
def scK (a : Nat) (l : List Int) (k : Nat) : List Int := sc a (l.take k) ++ List.replicate (l.length - k) 0
theorem sc_length (a : Nat) (l : List Int) : (sc a l).length = l.length := by simp [sc]
theorem scK_length (a : Nat) (l : List Int) (k : Nat) (h : k ≤ l.length) : (scK a l k).length = l.length := by simp [scK, sc]; omega
theorem scK_zero (a : Nat) (l : List Int) : scK a l 0 = List.replicate l.length 0 := by simp [scK, sc]
theorem scK_all (a : Nat) (l : List Int) : scK a l l.length = sc a l := by simp [scK]
theorem scK_step (a : Nat) (l : List Int) (k : Nat) (h : k < l.length) : (scK a l k).set k ((gm a (l.getD k 0).toNat : Nat) : Int) = scK a l (k + 1) := by
  unfold scK sc
  have e : (List.map (fun z => ((gm a z.toNat : Nat) : Int)) (List.take k l)).length = k := by simp; omega
  rw [List.set_append_right _ _ (by omega), e, Nat.sub_self, List.take_succ_eq_append_getElem h, List.map_append, List.append_assoc]
  congr 1
  rw [show l.length - k = (l.length - (k + 1)) + 1 by omega, List.replicate_succ, List.set_cons_zero, List.getD_eq_getElem?_getD, List.getElem?_eq_getElem h]
  rfl
theorem sc_range (a : Nat) (ha : a < 256) (l : List Int) (hl : ∀ z ∈ l, 0 ≤ z ∧ z ≤ 255) : ∀ z ∈ sc a l, 0 ≤ z ∧ z ≤ 255 := by
  intro z hz
  obtain ⟨y, hy, rfl⟩ := List.mem_map.1 hz
  have h := hl y hy
  have := gm_lt ha (show y.toNat < 256 by omega)
  omega
/-- What Scale leaves: a new block. -/
def Scaled (a n : Nat) (l : List Int) (w : World) (e : Ending) (w' : World) : Prop :=
  ∃ g, e = .returned (.slice (some ⟨g, 0, none⟩) n n) ∧ w.heap.size ≤ g ∧ Row8 w' g 5 (sc a l) ∧ Below w.heap.size w w'
set_option maxRecDepth 100000 in
theorem scale_any (t a : Nat) (x : Option Addr) (n cap : Nat) (l : List Int) (w : World) (ha : a < 256) (ht : IsTab w t) (hl : Bytes w x n l) (hn : n ≤ 100000) :
    Calls Try.prog 57 #[.pointer (some ⟨t, 0, none⟩), .int .u8 a, .slice x n cap] w (Scaled a n l w) := by
  have hmk : ∀ w : World, (Instr.makeSlice 22 (.int .i64 (n : Int)) (.int .i64 (n : Int))).run Try.prog w = .ok (.slice (some ⟨w.heap.size, 0, none⟩) n n) (w.alloc (.cells (madeCells #[.int .u8 0] n) 5)) := fun w =>
    run_make_row' (P := Try.prog) 22 5 (.int .u8 0) 1 Try.underlying22 (by kernel_rfl) rfl .i64 .i64 n (by omega) (by omega) w
  have HM := Lib.hid (fun w => made_row w n 5)
  have hsz := hl.size
  have HSZ := Lib.hid hsz
  have hlt := ht.lt
  have HL := Lib.hid hl
  have HT := Lib.hid ht
  clear hl ht hsz
  generalize madeCells #[Value.int .u8 0] n = M at *
  have H0 : Hid (Row8 (w.alloc (.cells M 5)) w.heap.size 5 (scK a l 0)) := Lib.hid (by rw [scK_zero, HSZ.out]; exact HM.out w)
  have HB0 : Hid (Below w.heap.size w (w.alloc (.cells M 5))) := Lib.hid ((Below.refl _ _).alloc (Nat.le_refl _) _)
  clear HM
  have HLT := Lib.hid hlt
  clear hlt
  go_enter Try.func57, Try.ntmps57
  go_wp2
  generalize w.alloc (.cells M 5) = W at *
  go_loopw [8, 9, 15] (fun _ _ i wr => ∃ k : Nat, k ≤ n ∧ i = .int .i64 k ∧ Hid (Row8 wr w.heap.size 5 (scK a l k)) ∧ Hid (Below w.heap.size w wr)) (fun _ _ i _ => n - (intOf i).toNat)
  case atStart => exact ⟨0, by omega, rfl, H0, HB0⟩
  case round =>
    obtain ⟨k, hk, rfl, HR, HB⟩ := hrel
    obtain ⟨wo, ho⟩ : ∃ wo, wo = wr := ⟨_, rfl⟩
    subst ho
    by_cases hlt : k < n
    · have h1 := HL.out.below HB.out (Nat.le_refl _)
      obtain ⟨b, off, rfl, c⟩ : ∃ b off, x = some ⟨b, off, none⟩ ∧ wo.cell? ⟨b, off + k, none⟩ = some (.int .u8 (l.getD k 0)) := by
        rcases h1.cell with h | ⟨_, b, off, e, _, h⟩
        · omega
        · exact ⟨b, off, e, h k hlt⟩
      obtain ⟨z0, z1⟩ := HL.out.byte k hlt
      have c2 := HR.out.cell k (by rw [scK_length _ _ _ (by rw [HSZ.out]; omega), HSZ.out]; exact hlt)
      have f2 := HR.out.frozen k
      have HS := Lib.hid (scK_step a l k (by rw [HSZ.out]; exact hlt))
      clear h1
      generalize l.getD k 0 = z at *
      obtain ⟨y, rfl⟩ : ∃ y : Nat, z = y := ⟨z.toNat, by omega⟩
      have CM := Lib.hid (fun (w : World) (ht : IsTab w t) => mul_any t a y ha (by omega) w ht)
      have HT2 := Lib.hid (HT.out.below HB.out HLT.out)
      go_wp2_with (go_at_call 59; refine (CM.out _ HT2.out).mono ?_; rintro e w3 ⟨rfl, q, rfl⟩)
      go_roundw
      case rel =>
        refine ⟨k + 1, by omega, by go_num, ?_, ?_⟩
        · have h : Row8 (wo.drewN q) w.heap.size 5 (scK a l k) := HR.out
          have h2 := h.set k ((gm a y : Nat) : Int)
          have e := HS.out
          rw [Int.toNat_natCast] at e
          rw [e] at h2
          exact Lib.hid h2
        · exact Lib.hid ((below_drewN HB.out q).setCell (p := ⟨w.heap.size, k, none⟩) (Nat.le_refl _) _)
      case measure => simp [intOf]; omega
    · obtain rfl : k = n := by omega
      go_wp2
      go_ret
      refine ⟨w.heap.size, rfl, Nat.le_refl _, ?_, HB.out⟩
      have h := HR.out
      rw [← HSZ.out, scK_all] at h
      exact h
end Go.Proofs.Ytipaolkgafhliaa
