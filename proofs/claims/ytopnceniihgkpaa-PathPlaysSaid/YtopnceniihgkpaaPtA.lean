/-
  Own text: a way's cells within a block; State, Number, Tick, walked.
-/
import Derived.Test.YtopnceniihgkpaaPtM
import Derived.Test.YtopnceniihgkpaaSpA
import Derived.Test.YtopnceniihgkpaaSpB
import Derived.BigRegion
import Derived.Deep.DeepCutAuto
namespace Go.Proofs.Ytopnceniihgkpaa
open Go.RowKit

/-- A way, at any offset within a block. -/
def PLie (w : World) (b o : Nat) (p : Pn) : Prop := Lies w b o p.cells
section
variable {w w' : World} {b o : Nat} {p : Pn}
theorem PLie.lt (h : PLie w b o p) : b < w.heap.size := Lies.lt h
theorem PLie.cell (h : PLie w b o p) (i : Nat) (hi : i < 15 := by decide) : w.cell? ⟨b, o + i, none⟩ = p.cells[i]? := Lies.cell h i hi
theorem PLie.frozen (h : PLie w b o p) (i : Nat) : w.frozen? ⟨b, i, none⟩ = false := Lies.frozen h i
theorem PLie.below {B : Nat} (h : PLie w b o p) (hb : Below B w w') (hB : b < B) : PLie w' b o p := Lies.below h hb hB
theorem PLie.drewN (h : PLie w b o p) (n : Nat) : PLie (w.drewN n) b o p := Lies.drewN h n
/-- Quiet, Probe, Gap, Next. -/
theorem PLie.four (h : PLie w b o p) : w.cell? ⟨b, o + 11, none⟩ = some (.int .i64 p.q) ∧ w.cell? ⟨b, o + 12, none⟩ = some (.int .i64 p.pr) ∧ w.cell? ⟨b, o + 13, none⟩ = some (.int .i64 p.ga) ∧ w.cell? ⟨b, o + 14, none⟩ = some (.int .u32 p.nx) :=
  ⟨h.cell 11, h.cell 12, h.cell 13, h.cell 14⟩
theorem PLie.setq (h : PLie w b o p) (n : Int) : PLie (w.setCell ⟨b, o + 11, none⟩ (.int .i64 n)) b o ⟨p.st, p.sn, n, p.pr, p.ga, p.nx⟩ := Lies.set h 11 _
theorem PLie.setpr (h : PLie w b o p) (n : Int) : PLie (w.setCell ⟨b, o + 12, none⟩ (.int .i64 n)) b o ⟨p.st, p.sn, p.q, n, p.ga, p.nx⟩ := Lies.set h 12 _
theorem PLie.setga (h : PLie w b o p) (n : Int) : PLie (w.setCell ⟨b, o + 13, none⟩ (.int .i64 n)) b o ⟨p.st, p.sn, p.q, p.pr, n, p.nx⟩ := Lies.set h 13 _
theorem PLie.setnx (h : PLie w b o p) (n : Nat) : PLie (w.setCell ⟨b, o + 14, none⟩ (.int .u32 n)) b o ⟨p.st, p.sn, p.q, p.pr, p.ga, n⟩ := Lies.set h 14 _
/-- Its two parts. -/
theorem PLie.st (h : PLie w b o p) : KLie w b o p.st := Lies.sub h 0 p.st.cells (by decide : 0 + 5 ≤ 15) (fun j hj => by
  rcases (by have : j < 5 := hj; omega : j = 0 ∨ j = 1 ∨ j = 2 ∨ j = 3 ∨ j = 4) with rfl | rfl | rfl | rfl | rfl <;> rfl)
theorem PLie.sn (h : PLie w b o p) : SLie w b (o + 5) p.sn := Lies.sub h 5 p.sn.cells (by decide : 5 + 6 ≤ 15) (fun j hj => by
  rcases (by have : j < 6 := hj; omega : j = 0 ∨ j = 1 ∨ j = 2 ∨ j = 3 ∨ j = 4 ∨ j = 5) with rfl | rfl | rfl | rfl | rfl | rfl <;> rfl)
/-- One of them was turned. -/
theorem PLie.putst (h : PLie w b o p) {s : Sk} (hp : Prt b o 5 w w') (hd : KLie w' b o s) : PLie w' b o ⟨s, p.sn, p.q, p.pr, p.ga, p.nx⟩ :=
  Lies.patch (k := 0) h hp hd rfl rfl (fun j hj => by
    rcases (by have : j < 15 := hj; omega : j = 0 ∨ j = 1 ∨ j = 2 ∨ j = 3 ∨ j = 4 ∨ j = 5 ∨ j = 6 ∨ j = 7 ∨ j = 8 ∨ j = 9 ∨ j = 10 ∨ j = 11 ∨ j = 12 ∨ j = 13 ∨ j = 14) with rfl | rfl | rfl | rfl | rfl | rfl | rfl | rfl | rfl | rfl | rfl | rfl | rfl | rfl | rfl <;> rfl)
theorem PLie.putsn (h : PLie w b o p) {s : Sn} (hp : Prt b (o + 5) 6 w w') (hd : SLie w' b (o + 5) s) : PLie w' b o ⟨p.st, s, p.q, p.pr, p.ga, p.nx⟩ :=
  Lies.patch (k := 5) h hp hd rfl rfl (fun j hj => by
    rcases (by have : j < 15 := hj; omega : j = 0 ∨ j = 1 ∨ j = 2 ∨ j = 3 ∨ j = 4 ∨ j = 5 ∨ j = 6 ∨ j = 7 ∨ j = 8 ∨ j = 9 ∨ j = 10 ∨ j = 11 ∨ j = 12 ∨ j = 13 ∨ j = 14) with rfl | rfl | rfl | rfl | rfl | rfl | rfl | rfl | rfl | rfl | rfl | rfl | rfl | rfl | rfl <;> rfl)
end
theorem PPrt.set (b o : Nat) (w : World) (i : Nat) (v : Value) (hi : i < 15 := by decide) : Prt b o 15 w (w.setCell ⟨b, o + i, none⟩ v) := (Prt.refl _ _ _ _).set i hi v
theorem state_any (b o : Nat) (p : Pn) (w : World) (h : PLie w b o p) :
    Calls Try.prog 12 #[.pointer (some ⟨b, o, none⟩)] w fun e w' => e = .returned (.int .i64 p.state) ∧ w = w' := by
  obtain ⟨c0, c1, c2, c3⟩ := h.four
  unfold Pn.state stateOf
  clear c1 c2 c3 h
  generalize p.q = q at *
  by_cases h1 : 60 ≤ q
  · rw [if_pos h1]
    go_enter Try.func12, Try.ntmps12
    go_wp2
    go_ret
    exact ⟨rfl, rfl⟩
  · rw [if_neg h1]
    by_cases h2 : 20 ≤ q
    all_goals
      first | rw [if_pos h2] | rw [if_neg h2]
      go_enter Try.func12, Try.ntmps12
      go_wp2
      go_ret
      exact ⟨rfl, rfl⟩
theorem number_any (b o : Nat) (p : Pn) (_ : p.nx < 4294967296) (w : World) (h : PLie w b o p) :
    Calls Try.prog 17 #[.pointer (some ⟨b, o, none⟩)] w fun e w' => e = .returned (.int .u32 p.nx) ∧ Hid (PLie w' b o p.number) ∧ Hid (Prt b o 15 w w') := by
  obtain ⟨c0, c1, c2, c3⟩ := h.four
  have f3 := h.frozen (o + 14)
  have HF := Lib.hid (h.setnx ((p.nx + 1) % 4294967296))
  have hw : ((p.nx : Int) + 1) % 4294967296 = (((p.nx + 1) % 4294967296 : Nat) : Int) := by omega
  unfold Pn.number
  clear h c0 c1 c2
  generalize (p.nx + 1) % 4294967296 = m at *
  generalize p.nx = n at *
  go_enter Try.func17, Try.ntmps17
  go_wp2
  go_ret
  exact ⟨rfl, HF, Lib.hid (PPrt.set _ _ _ 14 _)⟩
set_option maxRecDepth 100000 in
set_option maxHeartbeats 1000000 in
theorem tick_any (b o : Nat) (p : Pn) (hk : p.ok) (w : World) (h : PLie w b o p) :
    Calls Try.prog 10 #[.pointer (some ⟨b, o, none⟩)] w fun e w' => e = .returned (.bool p.fires) ∧ Hid (PLie w' b o p.tick) ∧ Hid (Prt b o 15 w w') := by
  obtain ⟨c0, c1, c2, c3⟩ := h.four
  have f0 := h.frozen (o + 11)
  have f1 := h.frozen (o + 12)
  have f2 := h.frozen (o + 13)
  have q0 := hk.q0
  have q1 := hk.q1
  have pg := hk.pg
  obtain ⟨m, hm⟩ : ∃ m, m = more30 p.q := ⟨_, rfl⟩
  have ml := more30_lo q0
  have hT : p.tick = if m < 20 then ⟨p.st, p.sn, m, 0, 0, p.nx⟩ else if p.ga = 0 then ⟨p.st, p.sn, m, 5, 10, p.nx⟩ else if 1 < p.pr then ⟨p.st, p.sn, m, p.pr - 1, p.ga, p.nx⟩ else ⟨p.st, p.sn, m, p.ga, if 40 < p.ga then 80 else 2 * p.ga, p.nx⟩ := by rw [hm]; rfl
  have hR : p.fires = if m < 20 then false else if p.ga = 0 then true else if 1 < p.pr then false else true := by rw [hm]; rfl
  have H1 := h.setq m
  have CS := Lib.hid (state_any b o _ _ H1)
  have hS : Pn.state ⟨p.st, p.sn, m, p.pr, p.ga, p.nx⟩ = stateOf m := rfl
  rw [hS] at CS
  have hmin : (p.q + 1 ≤ 1073741824 ∧ m = p.q + 1) ∨ (¬ p.q + 1 ≤ 1073741824 ∧ m = 1073741824) := by
    rw [hm]
    unfold more30
    split <;> omega
  rw [← hm] at ml
  have hne : m < 20 → stateOf m = 0 := fun hh => by unfold stateOf; rw [if_neg (by omega), if_neg (by omega)]
  have hst : ¬ m < 20 → ¬ stateOf m = 0 := fun hh => by
    unfold stateOf
    split
    · decide
    · rw [if_pos (by omega)]; decide
  have HP1 : Hid (Prt b o 15 w (w.setCell ⟨b, o + 11, none⟩ (.int .i64 m))) := Lib.hid (PPrt.set b o w 11 _)
  have H1 := Lib.hid H1
  rw [hT, hR]
  clear hS hT hR h hm hk
  generalize stateOf m = z at *
  by_cases a1 : m < 20
  · rw [if_pos a1, if_pos a1]
    have hz := hne a1
    have HF := Lib.hid ((H1.out.setpr 0).setga 0)
    have HPF : Hid (Prt b o 15 w (((w.setCell ⟨b, o + 11, none⟩ (.int .i64 m)).setCell ⟨b, o + 12, none⟩ (.int .i64 0)).setCell ⟨b, o + 13, none⟩ (.int .i64 0))) := Lib.hid ((HP1.out.trans (PPrt.set b o _ 12 _)).trans (PPrt.set b o _ 13 _))
    dsimp only at HF
    clear hne hst pg H1 HP1
    rcases hmin with ⟨hmin, rfl⟩ | ⟨hmin, hm2⟩
    · go_enter Try.func10, Try.ntmps10
      go_wp2_with (first
        | (go_at_call 12; (with_reducible refine (CS.out).mono ?_); rintro e w1 ⟨rfl, rfl⟩)
        | fail)
      go_ret
      exact ⟨rfl, HF, HPF⟩
    · omega
  · rw [if_neg a1, if_neg a1]
    have hz := hst a1
    clear hne hst
    by_cases a2 : p.ga = 0
    · rw [if_pos a2, if_pos a2]
      have H2 := Lib.hid ((H1.out.setga 5).setpr 1)
      have HP2 := Lib.hid ((HP1.out.trans (PPrt.set b o _ 13 (.int .i64 5))).trans (PPrt.set b o _ 12 (.int .i64 1)))
      dsimp only at H2
      clear pg H1 HP1
      rcases hmin with ⟨hmin, rfl⟩ | ⟨hmin, rfl⟩
      all_goals
        go_enter Try.func10, Try.ntmps10
        go_upto_region 7 with (first
          | (go_at_call 12; (with_reducible refine (CS.out).mono ?_); rintro e w1 ⟨rfl, rfl⟩)
          | fail)
        clear c0 c1 c2 c3 f0 f1 f2
        generalize (World.setCell _ ⟨b, o + 12, none⟩ (.int .i64 1)) = w2 at *
        obtain ⟨c0, c1, c2, c3⟩ := H2.out.four
        have f1 := H2.out.frozen (o + 12)
        have f2 := H2.out.frozen (o + 13)
        have H3 := Lib.hid (((H2.out.setpr 0).setpr 5).setga 10)
        have HP3 := Lib.hid (((HP2.out.trans (PPrt.set b o _ 12 (.int .i64 0))).trans (PPrt.set b o _ 12 (.int .i64 5))).trans (PPrt.set b o _ 13 (.int .i64 10)))
        dsimp only at H3 c0 c1 c2 c3
        go_upto_region 10 with fail
        go_region
        all_goals
          go_wp2
          go_ret
          exact ⟨rfl, Lib.hid H3.out, Lib.hid HP3.out.drew⟩
    · rw [if_neg a2, if_neg a2]
      have pg2 : 5 ≤ p.ga ∧ p.ga ≤ 80 ∧ 1 ≤ p.pr ∧ p.pr ≤ 80 := by rcases pg with hh | hh <;> omega
      obtain ⟨g0, g1, r0, r1⟩ := pg2
      clear pg
      by_cases a3 : 1 < p.pr
      · rw [if_pos a3, if_pos a3]
        have H2 := Lib.hid (H1.out.setpr (p.pr - 1))
        have HP2 := Lib.hid (HP1.out.trans (PPrt.set b o _ 12 (.int .i64 (p.pr - 1))))
        dsimp only at H2
        clear H1 HP1
        rcases hmin with ⟨hmin, rfl⟩ | ⟨hmin, rfl⟩
        all_goals
          go_enter Try.func10, Try.ntmps10
          go_wp2_with (first
            | (go_at_call 12; (with_reducible refine (CS.out).mono ?_); rintro e w1 ⟨rfl, rfl⟩)
            | fail)
          go_ret
          exact ⟨rfl, H2, HP2⟩
      · rw [if_neg a3, if_neg a3]
        have hp1 : p.pr = 1 := by omega
        have H2 := Lib.hid (H1.out.setpr 0)
        have HP2 := Lib.hid (HP1.out.trans (PPrt.set b o _ 12 (.int .i64 0)))
        rw [hp1] at c1
        dsimp only at H2
        obtain ⟨gg, hgg⟩ : ∃ gg, gg = (if 40 < p.ga then (80 : Int) else 2 * p.ga) := ⟨_, rfl⟩
        have hg2 : (40 < p.ga ∧ gg = 80) ∨ (¬ 40 < p.ga ∧ gg = 2 * p.ga) := by rw [hgg]; split <;> omega
        rw [← hgg]
        have wr1 : IntKind.i64.wrap (2 * p.ga) = 2 * p.ga := by rw [IntKind.wrap_i64]; omega
        clear H1 HP1 hp1 hgg
        rcases hmin with ⟨hmin, rfl⟩ | ⟨hmin, rfl⟩
        all_goals
          rcases hg2 with ⟨a4, rfl⟩ | ⟨a4, rfl⟩
          all_goals
            go_enter Try.func10, Try.ntmps10
            go_upto_region 8 with (first
              | (go_at_call 12; (with_reducible refine (CS.out).mono ?_); rintro e w1 ⟨rfl, rfl⟩)
              | fail)
            clear c0 c1 c2 c3 f0 f1 f2
            generalize (World.setCell _ ⟨b, o + 12, none⟩ (.int .i64 0)) = w2 at *
            obtain ⟨c0, c1, c2, c3⟩ := H2.out.four
            have f1 := H2.out.frozen (o + 12)
            have f2 := H2.out.frozen (o + 13)
            have H3 := Lib.hid ((H2.out.setpr p.ga).setga (if 40 < p.ga then 80 else 2 * p.ga))
            have HP3 := Lib.hid ((HP2.out.trans (PPrt.set b o _ 12 (.int .i64 p.ga))).trans (PPrt.set b o _ 13 (.int .i64 (if 40 < p.ga then 80 else 2 * p.ga))))
            dsimp only at H3 c0 c1 c2 c3
            first | rw [if_pos a4] at H3 HP3 | rw [if_neg (Int.not_lt.2 a4)] at H3 HP3
            first | have mx : ((80 : Int) < 2 * p.ga) = True := eq_true (by omega) | have mx : ((80 : Int) < 2 * p.ga) = False := eq_false (by omega)
            first | have my : (2 * p.ga ≤ (80 : Int)) = True := eq_true (by omega) | have my : (2 * p.ga ≤ (80 : Int)) = False := eq_false (by omega)
            go_upto_region 10 with fail
            go_region
            all_goals
              go_wp2
              go_ret
              exact ⟨rfl, Lib.hid H3.out, Lib.hid HP3.out.drew⟩
end Go.Proofs.Ytopnceniihgkpaa
