/-
  Own text: the document's Take, walked.
-/
import Derived.Test.YtopnceniihgkpaaSqF
namespace Go.Proofs.Ytopnceniihgkpaa
open Go.RowKit

/-- What the document's Take answers. -/
def RTook (s : Sn) (n : Nat) (w : World) (e : Ending) (w' : World) : Prop :=
  e = .returned (.tuple #[.agg (rowOf 69 (s.take n).1.dc), .int .i64 (s.take n).2]) ∧ Below w.heap.size w w'
set_option maxRecDepth 100000 in
theorem rtake_first (s : Sn) (n : Nat) (hs : s.any = false) (w : World) :
    Calls Try.prog 27 #[.agg (rowOf 69 s.dc), .int .u32 n] w fun e w' => e = .returned (.tuple #[.agg (rowOf 69 (dcl true n (1#64).getLsbD 1 0 0)), .int .i64 0]) ∧ Below w.heap.size w w' := by
  have HE : Hid (∀ i, i < 69 → (if i = 2 then Value.bool true else if i = 66 then Value.int .i64 1 else if i = 1 then Value.int .u32 n else if i = 0 then Value.bool true else Sn.zero.dc i) = dcl true n (1#64).getLsbD 1 0 0 i) := Lib.hid (fun i hi => by
    rcases (by omega : i = 0 ∨ i = 1 ∨ (2 ≤ i ∧ i < 66) ∨ i = 66 ∨ i = 67 ∨ i = 68) with rfl | rfl | h | rfl | rfl | rfl
    · rfl
    · rfl
    · by_cases h2 : i = 2
      · subst h2; rfl
      · have a0 : ¬ i = 0 := by omega
        have a1 : ¬ i = 1 := by omega
        have a66 : ¬ i = 66 := by omega
        have a2 : i - 2 ≠ 0 := by omega
        simp only [Sn.dc, dcl, Sn.zero, h2, a0, a1, a66, h.2, if_true, if_false]
        simp [BitVec.getLsbD_one, a2]
    · rfl
    · rfl
    · rfl)
  have HF := Lib.hid (dcl_one true n (1#64).getLsbD 1 0 0)
  generalize dcl true n (1#64).getLsbD 1 0 0 = f at *
  have z := zero30
  have HR := Lib.hid (rowIs_new w 69 s.dc 35)
  have r0 : (rowOf 69 s.dc)[0]? = some (.bool false) := by rw [rowOf_get _ _ _ (by omega), ← hs]; rfl
  have z0 : (rowOf 69 Sn.zero.dc)[0]? = some (.bool false) := rowOf_get _ _ _ (by omega)
  have z1 : (rowOf 69 Sn.zero.dc)[1]? = some (.int .u32 0) := rowOf_get _ _ _ (by omega)
  have z2 : (rowOf 69 Sn.zero.dc)[2]? = some (.bool false) := rowOf_get _ _ _ (by omega)
  have z66 : (rowOf 69 Sn.zero.dc)[66]? = some (.int .i64 0) := rowOf_get _ _ _ (by omega)
  generalize rowOf 69 s.dc = R at *
  obtain ⟨Z, hz⟩ : ∃ Z, Z = rowOf 69 Sn.zero.dc := ⟨_, rfl⟩
  rw [← hz] at z z0 z1 z2 z66
  have HZ := Lib.hid hz
  clear hz HR
  go_enter Try.func27, Try.ntmps27
  go_upto_region 5 with fail
  have hY : (((Z.setIfInBounds 0 (Value.bool true)).setIfInBounds 1 (Value.int IntKind.u32 n)).setIfInBounds 66 (Value.int IntKind.i64 1)).setIfInBounds 2 (Value.bool true) = rowOf 69 f := by
    rw [HZ.out, rowOf_set, rowOf_set, rowOf_set, rowOf_set]
    exact rowOf_congr HE.out
  rw [hY]
  have h1 : DRow (((w.alloc (.cells R 35)).alloc (.cells Z 35)).alloc (.cells (rowOf 69 f) 35)) (w.heap.size + 1 + 1) f := by
    have := rowIs_new ((w.alloc (.cells R 35)).alloc (.cells Z 35)) 69 f 35
    simpa using this
  have h2 : DRow (((w.alloc (.cells R 35)).alloc (.cells Z 35)).alloc (.cells (rowOf 69 f) 35)) (w.heap.size + 1) Sn.zero.dc := by
    rw [HZ.out]
    have := (rowIs_new (w.alloc (.cells R 35)) 69 Sn.zero.dc 35).alloc (.cells (rowOf 69 f) 35)
    simpa using this
  have h3 : Below w.heap.size w (((w.alloc (.cells R 35)).alloc (.cells Z 35)).alloc (.cells (rowOf 69 f) 35)) :=
    (((Below.refl _ _).alloc (Nat.le_refl _) _).alloc (by simp) _).alloc (by simp; omega) _
  have H1 := Lib.hid h1
  have H2 := Lib.hid h2
  have H3 := Lib.hid h3
  clear h1 h2 h3 hY
  generalize ((w.alloc (.cells R 35)).alloc (.cells Z 35)).alloc (.cells (rowOf 69 f) 35) = W at *
  have I30 := Lib.hid info30
  go_wp2_with (first
    | (with_reducible refine wpList_load_rowIs rfl 35 (.tmp 6) rfl (w.heap.size + 1 + 1) rfl 35 69 f H1.out _ Try.underlying35 rfl I30.out ?_)
    | (with_reducible refine wpList_store_rowIs rfl 35 (.tmp 4) (.tmp 19) rfl (w.heap.size + 1) rfl 69 f rfl 35 Sn.zero.dc H2.out I30.out HF.out ?_; intro W2 G1 G2 G3 G4))
  refine bodyPost_ret (v := .tuple #[.agg (rowOf 69 f), .int .i64 0]) (results_row_tmp (p := 4) (u := 5) rfl _ W2 (w.heap.size + 1) 35 69 f _ _ rfl rfl G1.out Try.underlying35 rfl I30.out) rfl ?_
  exact ⟨rfl, H3.out.trans (G3.out.mono (by omega))⟩
end Go.Proofs.Ytopnceniihgkpaa
