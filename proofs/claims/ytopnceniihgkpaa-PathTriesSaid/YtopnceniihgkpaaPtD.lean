/-
  Own text: the document's way, by value and in its block of 78 cells; its State, walked.
-/
import Derived.Test.YtopnceniihgkpaaPtM
import Derived.Test.YtopnceniihgkpaaSqJ
namespace Go.Proofs.Ytopnceniihgkpaa
open Go.RowKit

/-- The cells of the document's way. -/
def pcl (s : Sk) (f : Nat → Value) (q pr ga : Int) (nx i : Nat) : Value :=
  if i = 0 then .int .i64 s.lo else if i = 1 then .int .i64 s.rt else if i = 2 then .int .i64 s.va else if i = 3 then .int .i64 s.ma else if i = 4 then .int .i64 s.tr
  else if i < 74 then f (i - 5) else if i = 74 then .int .i64 q else if i = 75 then .int .i64 pr else if i = 76 then .int .i64 ga else .int .u32 nx
def Pn.dc (p : Pn) : Nat → Value := pcl p.st p.sn.dc p.q p.pr p.ga p.nx
theorem pcl_one (s : Sk) (f : Nat → Value) (hf : ∀ i, (f i).oneCell' = true) (q pr ga : Int) (nx i : Nat) : (pcl s f q pr ga nx i).oneCell' = true := by
  unfold pcl
  repeat' split
  all_goals first | rfl | exact hf _
theorem Pn.dc_one (p : Pn) (i : Nat) : (p.dc i).oneCell' = true := pcl_one _ _ (dcl_one _ _ _ _ _ _) _ _ _ _ _
theorem info37 : (Try.prog.info? 37).map (·.size) = some 78 := by kernel_rfl
theorem zero37 (w : World) : (zeroValue 37).run Try.prog w = .ok (.agg (rowOf 78 Pn.zero.dc)) w := by kernel_rfl
/-- The document's way in its block. -/
abbrev RB (w : World) (b : Nat) (p : Pn) : Prop := w.rowIs b 37 78 p.dc
section
variable {w w' : World} {b : Nat} {p : Pn}
theorem RB.below {B : Nat} (h : RB w b p) (hb : Below B w w') (hB : b < B) : RB w' b p := h.of_block (hb.block b hB)
/-- Quiet, Probe, Gap, Next. -/
theorem RB.four (h : RB w b p) : w.cell? ⟨b, 74, none⟩ = some (.int .i64 p.q) ∧ w.cell? ⟨b, 75, none⟩ = some (.int .i64 p.pr) ∧ w.cell? ⟨b, 76, none⟩ = some (.int .i64 p.ga) ∧ w.cell? ⟨b, 77, none⟩ = some (.int .u32 p.nx) :=
  ⟨h.cell (i := 74) (by decide), h.cell (i := 75) (by decide), h.cell (i := 76) (by decide), h.cell (i := 77) (by decide)⟩
/-- How it has done. -/
theorem RB.five (h : RB w b p) : w.cell? ⟨b, 0, none⟩ = some (.int .i64 p.st.lo) ∧ w.cell? ⟨b, 1, none⟩ = some (.int .i64 p.st.rt) ∧ w.cell? ⟨b, 2, none⟩ = some (.int .i64 p.st.va) ∧ w.cell? ⟨b, 3, none⟩ = some (.int .i64 p.st.ma) ∧ w.cell? ⟨b, 4, none⟩ = some (.int .i64 p.st.tr) :=
  ⟨h.cell (i := 0) (by decide), h.cell (i := 1) (by decide), h.cell (i := 2) (by decide), h.cell (i := 3) (by decide), h.cell (i := 4) (by decide)⟩
theorem RB.setq (h : RB w b p) (n : Int) : RB (w.setCell ⟨b, 74, none⟩ (.int .i64 n)) b ⟨p.st, p.sn, n, p.pr, p.ga, p.nx⟩ := (h.set 74 _).congr (fun i _ => by
  by_cases g : i = 74
  · subst g
    rfl
  · simp only [Pn.dc, pcl, g, if_false])
theorem RB.setpr (h : RB w b p) (n : Int) : RB (w.setCell ⟨b, 75, none⟩ (.int .i64 n)) b ⟨p.st, p.sn, p.q, n, p.ga, p.nx⟩ := (h.set 75 _).congr (fun i _ => by
  by_cases g : i = 75
  · subst g
    rfl
  · simp only [Pn.dc, pcl, g, if_false])
theorem RB.setga (h : RB w b p) (n : Int) : RB (w.setCell ⟨b, 76, none⟩ (.int .i64 n)) b ⟨p.st, p.sn, p.q, p.pr, n, p.nx⟩ := (h.set 76 _).congr (fun i _ => by
  by_cases g : i = 76
  · subst g
    rfl
  · simp only [Pn.dc, pcl, g, if_false])
theorem RB.setnx (h : RB w b p) (n : Nat) : RB (w.setCell ⟨b, 77, none⟩ (.int .u32 n)) b ⟨p.st, p.sn, p.q, p.pr, p.ga, n⟩ := (h.set 77 _).congr (fun i hi => by
  unfold Pn.dc pcl
  repeat' split
  all_goals first | rfl | omega)
/-- A store of how it has done. -/
theorem RB.setst (h : RB w b p) (s : Sk) : RB (((((w.setCell ⟨b, 0, none⟩ (.int .i64 s.lo)).setCell ⟨b, 1, none⟩ (.int .i64 s.rt)).setCell ⟨b, 2, none⟩ (.int .i64 s.va)).setCell ⟨b, 3, none⟩ (.int .i64 s.ma)).setCell ⟨b, 4, none⟩ (.int .i64 s.tr)) b ⟨s, p.sn, p.q, p.pr, p.ga, p.nx⟩ :=
  (((((World.rowIs.set h 0 (.int .i64 s.lo)).set 1 (.int .i64 s.rt)).set 2 (.int .i64 s.va)).set 3 (.int .i64 s.ma)).set 4 (.int .i64 s.tr)).congr (fun i hi => by
    rcases (by omega : i = 0 ∨ i = 1 ∨ i = 2 ∨ i = 3 ∨ i = 4 ∨ 5 ≤ i) with rfl | rfl | rfl | rfl | rfl | h5
    · rfl
    · rfl
    · rfl
    · rfl
    · rfl
    · have n0 : ¬ i = 0 := by omega
      have n1 : ¬ i = 1 := by omega
      have n2 : ¬ i = 2 := by omega
      have n3 : ¬ i = 3 := by omega
      have n4 : ¬ i = 4 := by omega
      simp only [Pn.dc, pcl, n0, n1, n2, n3, n4, if_false])
theorem RB.off5 {c : Nat} (h : RB w b p) (hc : b ≠ c) (v0 v1 v2 v3 v4 : Value) : RB (((((w.setCell ⟨c, 0, none⟩ v0).setCell ⟨c, 1, none⟩ v1).setCell ⟨c, 2, none⟩ v2).setCell ⟨c, 3, none⟩ v3).setCell ⟨c, 4, none⟩ v4) b p :=
  ((((World.rowIs.setOther h (a := ⟨c, 0, none⟩) hc _).setOther (a := ⟨c, 1, none⟩) hc _).setOther (a := ⟨c, 2, none⟩) hc _).setOther (a := ⟨c, 3, none⟩) hc _).setOther (a := ⟨c, 4, none⟩) hc _
end
theorem RB.new (w : World) (p : Pn) : RB (w.alloc (.cells (rowOf 78 p.dc) 37)) w.heap.size p := rowIs_new w 78 p.dc _
set_option maxRecDepth 100000 in
theorem rstate_any (p : Pn) (w : World) :
    Calls Try.prog 26 #[.agg (rowOf 78 p.dc)] w fun e w' => e = .returned (.int .i64 p.state) ∧ Below w.heap.size w w' := by
  obtain ⟨R, hR⟩ : ∃ R, R = rowOf 78 p.dc := ⟨_, rfl⟩
  obtain ⟨W, hW⟩ : ∃ W, W = w.alloc (.cells R 37) := ⟨_, rfl⟩
  have HB := Lib.hid (show Below w.heap.size w W by rw [hW]; exact (Below.refl _ _).alloc (Nat.le_refl _) _)
  obtain ⟨c0, c1, c2, c3⟩ := (show RB W w.heap.size p by rw [hW, hR]; exact RB.new w p).four
  rw [← hR]
  unfold Pn.state stateOf
  clear c1 c2 c3 hR
  generalize p.q = q at *
  by_cases h1 : 60 ≤ q
  · rw [if_pos h1]
    go_enter Try.func26, Try.ntmps26
    go_upto_region 1 with fail
    rw [← hW]
    clear hW
    go_wp2
    go_ret
    exact ⟨rfl, HB.out⟩
  · rw [if_neg h1]
    by_cases h2 : 20 ≤ q
    all_goals
      first | rw [if_pos h2] | rw [if_neg h2]
      go_enter Try.func26, Try.ntmps26
      go_upto_region 1 with fail
      rw [← hW]
      clear hW
      go_wp2
      go_ret
      exact ⟨rfl, HB.out⟩
end Go.Proofs.Ytopnceniihgkpaa
