/-
  Own text: a way's cells within a block; State, Number, Tick, walked.
    markLost and Heard, walked.
    Heard, walked.
  Own text: cmp.Compare and cmp.Or at two numbers, walked.
-/
import Derived.Test.YtldhlknmabpanaaGreatK03
import Derived.Test.YtldhlknmabpanaaGreatK04
import Derived.Test.YtldhlknmabpanaaGreatK01
import Derived.BigRegion
import Derived.Deep.DeepCutAuto
import Derived.BigQuiet
namespace Go.Proofs.YtldhlknmabpanaaGreat
open Go.RowKit

/-- A way, at any offset within a block. -/
def PLie (w : World) (b o : Nat) (p : Pn) : Prop := Lies w b o p.cells
section
variable {w w' : World} {b o : Nat} {p : Pn}
theorem PLie.lt (h : PLie w b o p) : b < w.heap.size := Lies.lt h
theorem PLie.cell (h : PLie w b o p) (i : Nat) (hi : i < 15 := by decide) : w.cell? ⟨b, o + i, none⟩ = p.cells[i]? := Lies.cell h i hi
theorem PLie.frozen (h : PLie w b o p) (i : Nat) : w.frozen? ⟨b, i, none⟩ = false := Lies.frozen h i
theorem PLie.below {B : Nat} (h : PLie w b o p) (hb : Below B w w') (hB : b < B) : PLie w' b o p := Lies.below h hb hB
theorem PLie.drewN (h : PLie w b o p) (n : Nat) : PLie (w.drewN n) b o p := Lies.drewN h n
/-- Quiet, Probe, Gap, Next. -/
theorem PLie.four (h : PLie w b o p) : w.cell? ⟨b, o + 11, none⟩ = some (.int .i64 p.q) ∧ w.cell? ⟨b, o + 12, none⟩ = some (.int .i64 p.pr) ∧ w.cell? ⟨b, o + 13, none⟩ = some (.int .i64 p.ga) ∧ w.cell? ⟨b, o + 14, none⟩ = some (.int .u32 p.nx) :=
  ⟨h.cell 11, h.cell 12, h.cell 13, h.cell 14⟩
theorem PLie.setq (h : PLie w b o p) (n : Int) : PLie (w.setCell ⟨b, o + 11, none⟩ (.int .i64 n)) b o ⟨p.st, p.sn, n, p.pr, p.ga, p.nx⟩ := Lies.set h 11 _
theorem PLie.setpr (h : PLie w b o p) (n : Int) : PLie (w.setCell ⟨b, o + 12, none⟩ (.int .i64 n)) b o ⟨p.st, p.sn, p.q, n, p.ga, p.nx⟩ := Lies.set h 12 _
theorem PLie.setga (h : PLie w b o p) (n : Int) : PLie (w.setCell ⟨b, o + 13, none⟩ (.int .i64 n)) b o ⟨p.st, p.sn, p.q, p.pr, n, p.nx⟩ := Lies.set h 13 _
theorem PLie.setnx (h : PLie w b o p) (n : Nat) : PLie (w.setCell ⟨b, o + 14, none⟩ (.int .u32 n)) b o ⟨p.st, p.sn, p.q, p.pr, p.ga, n⟩ := Lies.set h 14 _
/-- Its two parts. -/
theorem PLie.st (h : PLie w b o p) : KLie w b o p.st := Lies.sub h 0 p.st.cells (by decide : 0 + 5 ≤ 15) (fun j hj => by
  rcases (by have : j < 5 := hj; omega : j = 0 ∨ j = 1 ∨ j = 2 ∨ j = 3 ∨ j = 4) with rfl | rfl | rfl | rfl | rfl <;> rfl)
theorem PLie.sn (h : PLie w b o p) : SLie w b (o + 5) p.sn := Lies.sub h 5 p.sn.cells (by decide : 5 + 6 ≤ 15) (fun j hj => by
  rcases (by have : j < 6 := hj; omega : j = 0 ∨ j = 1 ∨ j = 2 ∨ j = 3 ∨ j = 4 ∨ j = 5) with rfl | rfl | rfl | rfl | rfl | rfl <;> rfl)
/-- One of them was turned. -/
theorem PLie.putst (h : PLie w b o p) {s : Sk} (hp : Prt b o 5 w w') (hd : KLie w' b o s) : PLie w' b o ⟨s, p.sn, p.q, p.pr, p.ga, p.nx⟩ :=
  Lies.patch (k := 0) h hp hd rfl rfl (fun j hj => by
    rcases (by have : j < 15 := hj; omega : j = 0 ∨ j = 1 ∨ j = 2 ∨ j = 3 ∨ j = 4 ∨ j = 5 ∨ j = 6 ∨ j = 7 ∨ j = 8 ∨ j = 9 ∨ j = 10 ∨ j = 11 ∨ j = 12 ∨ j = 13 ∨ j = 14) with rfl | rfl | rfl | rfl | rfl | rfl | rfl | rfl | rfl | rfl | rfl | rfl | rfl | rfl | rfl <;> rfl)
theorem PLie.putsn (h : PLie w b o p) {s : Sn} (hp : Prt b (o + 5) 6 w w') (hd : SLie w' b (o + 5) s) : PLie w' b o ⟨p.st, s, p.q, p.pr, p.ga, p.nx⟩ :=
  Lies.patch (k := 5) h hp hd rfl rfl (fun j hj => by
    rcases (by have : j < 15 := hj; omega : j = 0 ∨ j = 1 ∨ j = 2 ∨ j = 3 ∨ j = 4 ∨ j = 5 ∨ j = 6 ∨ j = 7 ∨ j = 8 ∨ j = 9 ∨ j = 10 ∨ j = 11 ∨ j = 12 ∨ j = 13 ∨ j = 14) with rfl | rfl | rfl | rfl | rfl | rfl | rfl | rfl | rfl | rfl | rfl | rfl | rfl | rfl | rfl <;> rfl)
end
theorem PPrt.set (b o : Nat) (w : World) (i : Nat) (v : Value) (hi : i < 15 := by decide) : Prt b o 15 w (w.setCell ⟨b, o + i, none⟩ v) := (Prt.refl _ _ _ _).set i hi v
theorem state_any (b o : Nat) (p : Pn) (w : World) (h : PLie w b o p) :
    Calls Tryz.prog 56 #[.pointer (some ⟨b, o, none⟩)] w fun e w' => e = .returned (.int .i64 p.state) ∧ w = w' := by
  obtain ⟨c0, c1, c2, c3⟩ := h.four
  unfold Pn.state stateOf
  clear c1 c2 c3 h
  generalize p.q = q at *
  by_cases h1 : 60 ≤ q
  · rw [if_pos h1]
    go_enter Tryz.func56, Tryz.ntmps56
    go_wp2
    go_ret
    exact ⟨rfl, rfl⟩
  · rw [if_neg h1]
    by_cases h2 : 20 ≤ q
    all_goals
      first | rw [if_pos h2] | rw [if_neg h2]
      go_enter Tryz.func56, Tryz.ntmps56
      go_wp2
      go_ret
      exact ⟨rfl, rfl⟩
theorem number_any (b o : Nat) (p : Pn) (_ : p.nx < 4294967296) (w : World) (h : PLie w b o p) :
    Calls Tryz.prog 57 #[.pointer (some ⟨b, o, none⟩)] w fun e w' => e = .returned (.int .u32 p.nx) ∧ Hid (PLie w' b o p.number) ∧ Hid (Prt b o 15 w w') := by
  obtain ⟨c0, c1, c2, c3⟩ := h.four
  have f3 := h.frozen (o + 14)
  have HF := Lib.hid (h.setnx ((p.nx + 1) % 4294967296))
  have hw : ((p.nx : Int) + 1) % 4294967296 = (((p.nx + 1) % 4294967296 : Nat) : Int) := by omega
  unfold Pn.number
  clear h c0 c1 c2
  generalize (p.nx + 1) % 4294967296 = m at *
  generalize p.nx = n at *
  go_enter Tryz.func57, Tryz.ntmps57
  go_wp2
  go_ret
  exact ⟨rfl, HF, Lib.hid (PPrt.set _ _ _ 14 _)⟩
set_option maxRecDepth 100000 in
set_option maxHeartbeats 1000000 in
theorem tick_any (b o : Nat) (p : Pn) (hk : p.ok) (w : World) (h : PLie w b o p) :
    Calls Tryz.prog 69 #[.pointer (some ⟨b, o, none⟩)] w fun e w' => e = .returned (.bool p.fires) ∧ Hid (PLie w' b o p.tick) ∧ Hid (Prt b o 15 w w') := by
  obtain ⟨c0, c1, c2, c3⟩ := h.four
  have f0 := h.frozen (o + 11)
  have f1 := h.frozen (o + 12)
  have f2 := h.frozen (o + 13)
  have q0 := hk.q0
  have q1 := hk.q1
  have pg := hk.pg
  obtain ⟨m, hm⟩ : ∃ m, m = more30 p.q := ⟨_, rfl⟩
  have ml := more30_lo q0
  have hT : p.tick = if m < 20 then ⟨p.st, p.sn, m, 0, 0, p.nx⟩ else if p.ga = 0 then ⟨p.st, p.sn, m, 5, 10, p.nx⟩ else if 1 < p.pr then ⟨p.st, p.sn, m, p.pr - 1, p.ga, p.nx⟩ else ⟨p.st, p.sn, m, p.ga, if 40 < p.ga then 80 else 2 * p.ga, p.nx⟩ := by rw [hm]; rfl
  have hR : p.fires = if m < 20 then false else if p.ga = 0 then true else if 1 < p.pr then false else true := by rw [hm]; rfl
  have H1 := h.setq m
  have CS := Lib.hid (state_any b o _ _ H1)
  have hS : Pn.state ⟨p.st, p.sn, m, p.pr, p.ga, p.nx⟩ = stateOf m := rfl
  rw [hS] at CS
  have hmin : (p.q + 1 ≤ 1073741824 ∧ m = p.q + 1) ∨ (¬ p.q + 1 ≤ 1073741824 ∧ m = 1073741824) := by
    rw [hm]
    unfold more30
    split <;> omega
  rw [← hm] at ml
  have hne : m < 20 → stateOf m = 0 := fun hh => by unfold stateOf; rw [if_neg (by omega), if_neg (by omega)]
  have hst : ¬ m < 20 → ¬ stateOf m = 0 := fun hh => by
    unfold stateOf
    split
    · decide
    · rw [if_pos (by omega)]; decide
  have HP1 : Hid (Prt b o 15 w (w.setCell ⟨b, o + 11, none⟩ (.int .i64 m))) := Lib.hid (PPrt.set b o w 11 _)
  have H1 := Lib.hid H1
  rw [hT, hR]
  clear hS hT hR h hm hk
  generalize stateOf m = z at *
  by_cases a1 : m < 20
  · rw [if_pos a1, if_pos a1]
    have hz := hne a1
    have HF := Lib.hid ((H1.out.setpr 0).setga 0)
    have HPF : Hid (Prt b o 15 w (((w.setCell ⟨b, o + 11, none⟩ (.int .i64 m)).setCell ⟨b, o + 12, none⟩ (.int .i64 0)).setCell ⟨b, o + 13, none⟩ (.int .i64 0))) := Lib.hid ((HP1.out.trans (PPrt.set b o _ 12 _)).trans (PPrt.set b o _ 13 _))
    dsimp only at HF
    clear hne hst pg H1 HP1
    rcases hmin with ⟨hmin, rfl⟩ | ⟨hmin, hm2⟩
    · go_enter Tryz.func69, Tryz.ntmps69
      go_wp2_with (first
        | (go_at_call 56; (with_reducible refine (CS.out).mono ?_); rintro e w1 ⟨rfl, rfl⟩)
        | fail)
      go_ret
      exact ⟨rfl, HF, HPF⟩
    · omega
  · rw [if_neg a1, if_neg a1]
    have hz := hst a1
    clear hne hst
    by_cases a2 : p.ga = 0
    · rw [if_pos a2, if_pos a2]
      have H2 := Lib.hid ((H1.out.setga 5).setpr 1)
      have HP2 := Lib.hid ((HP1.out.trans (PPrt.set b o _ 13 (.int .i64 5))).trans (PPrt.set b o _ 12 (.int .i64 1)))
      dsimp only at H2
      clear pg H1 HP1
      rcases hmin with ⟨hmin, rfl⟩ | ⟨hmin, rfl⟩
      all_goals
        go_enter Tryz.func69, Tryz.ntmps69
        go_upto_region 7 with (first
          | (go_at_call 56; (with_reducible refine (CS.out).mono ?_); rintro e w1 ⟨rfl, rfl⟩)
          | fail)
        clear c0 c1 c2 c3 f0 f1 f2
        generalize (World.setCell _ ⟨b, o + 12, none⟩ (.int .i64 1)) = w2 at *
        obtain ⟨c0, c1, c2, c3⟩ := H2.out.four
        have f1 := H2.out.frozen (o + 12)
        have f2 := H2.out.frozen (o + 13)
        have H3 := Lib.hid (((H2.out.setpr 0).setpr 5).setga 10)
        have HP3 := Lib.hid (((HP2.out.trans (PPrt.set b o _ 12 (.int .i64 0))).trans (PPrt.set b o _ 12 (.int .i64 5))).trans (PPrt.set b o _ 13 (.int .i64 10)))
        dsimp only at H3 c0 c1 c2 c3
        go_upto_region 10 with fail
        go_region
        all_goals
          go_wp2
          go_ret
          exact ⟨rfl, Lib.hid H3.out, Lib.hid HP3.out.drew⟩
    · rw [if_neg a2, if_neg a2]
      have pg2 : 5 ≤ p.ga ∧ p.ga ≤ 80 ∧ 1 ≤ p.pr ∧ p.pr ≤ 80 := by rcases pg with hh | hh <;> omega
      obtain ⟨g0, g1, r0, r1⟩ := pg2
      clear pg
      by_cases a3 : 1 < p.pr
      · rw [if_pos a3, if_pos a3]
        have H2 := Lib.hid (H1.out.setpr (p.pr - 1))
        have HP2 := Lib.hid (HP1.out.trans (PPrt.set b o _ 12 (.int .i64 (p.pr - 1))))
        dsimp only at H2
        clear H1 HP1
        rcases hmin with ⟨hmin, rfl⟩ | ⟨hmin, rfl⟩
        all_goals
          go_enter Tryz.func69, Tryz.ntmps69
          go_wp2_with (first
            | (go_at_call 56; (with_reducible refine (CS.out).mono ?_); rintro e w1 ⟨rfl, rfl⟩)
            | fail)
          go_ret
          exact ⟨rfl, H2, HP2⟩
      · rw [if_neg a3, if_neg a3]
        have hp1 : p.pr = 1 := by omega
        have H2 := Lib.hid (H1.out.setpr 0)
        have HP2 := Lib.hid (HP1.out.trans (PPrt.set b o _ 12 (.int .i64 0)))
        rw [hp1] at c1
        dsimp only at H2
        obtain ⟨gg, hgg⟩ : ∃ gg, gg = (if 40 < p.ga then (80 : Int) else 2 * p.ga) := ⟨_, rfl⟩
        have hg2 : (40 < p.ga ∧ gg = 80) ∨ (¬ 40 < p.ga ∧ gg = 2 * p.ga) := by rw [hgg]; split <;> omega
        rw [← hgg]
        have wr1 : IntKind.i64.wrap (2 * p.ga) = 2 * p.ga := by rw [IntKind.wrap_i64]; omega
        clear H1 HP1 hp1 hgg
        rcases hmin with ⟨hmin, rfl⟩ | ⟨hmin, rfl⟩
        all_goals
          rcases hg2 with ⟨a4, rfl⟩ | ⟨a4, rfl⟩
          all_goals
            go_enter Tryz.func69, Tryz.ntmps69
            go_upto_region 8 with (first
              | (go_at_call 56; (with_reducible refine (CS.out).mono ?_); rintro e w1 ⟨rfl, rfl⟩)
              | fail)
            clear c0 c1 c2 c3 f0 f1 f2
            generalize (World.setCell _ ⟨b, o + 12, none⟩ (.int .i64 0)) = w2 at *
            obtain ⟨c0, c1, c2, c3⟩ := H2.out.four
            have f1 := H2.out.frozen (o + 12)
            have f2 := H2.out.frozen (o + 13)
            have H3 := Lib.hid ((H2.out.setpr p.ga).setga (if 40 < p.ga then 80 else 2 * p.ga))
            have HP3 := Lib.hid ((HP2.out.trans (PPrt.set b o _ 12 (.int .i64 p.ga))).trans (PPrt.set b o _ 13 (.int .i64 (if 40 < p.ga then 80 else 2 * p.ga))))
            dsimp only at H3 c0 c1 c2 c3
            first | rw [if_pos a4] at H3 HP3 | rw [if_neg (Int.not_lt.2 a4)] at H3 HP3
            first | have mx : ((80 : Int) < 2 * p.ga) = True := eq_true (by omega) | have mx : ((80 : Int) < 2 * p.ga) = False := eq_false (by omega)
            first | have my : (2 * p.ga ≤ (80 : Int)) = True := eq_true (by omega) | have my : (2 * p.ga ≤ (80 : Int)) = False := eq_false (by omega)
            go_upto_region 10 with fail
            go_region
            all_goals
              go_wp2
              go_ret
              exact ⟨rfl, Lib.hid H3.out, Lib.hid HP3.out.drew⟩
end Go.Proofs.YtldhlknmabpanaaGreat
namespace Go.Proofs.YtldhlknmabpanaaGreat
open Go.RowKit

set_option maxRecDepth 100000 in
theorem marklost_any (b o i c : Nat) (p : Pn) (hf : p.st.fit i) (hi : i ≤ 100000000) (hc : (c : Int) ≤ 9223372036854775807) (w : World) (h : PLie w b o p) :
    Calls Tryz.prog 99 #[.pointer (some ⟨b, o, none⟩), .int .i64 c] w fun e w' => e = .returned (.tuple #[]) ∧ Hid (PLie w' b o ⟨p.st.marks (min c 64), p.sn, p.q, p.pr, p.ga, p.nx⟩) ∧ Hid (Prt b o 15 w w') := by
  obtain ⟨m, hm⟩ : ∃ m, m = min c 64 := ⟨_, rfl⟩
  have hm2 : m ≤ 64 := by omega
  have hcs : ((c : Int) ≤ 64 ∧ m = c) ∨ (¬ (c : Int) ≤ 64 ∧ m = 64) := by omega
  rw [← hm]
  have H := Lib.hid h
  have HI := Lib.hid hi
  have CM : Hid (∀ (j : Nat) (w' : World), j ≤ 64 → PLie w' b o ⟨p.st.marks j, p.sn, p.q, p.pr, p.ga, p.nx⟩ → Calls Tryz.prog 100 #[.pointer (some ⟨b, o, none⟩), .bool true] w' fun e w1 => e = .returned (.tuple #[]) ∧ Hid (PLie w1 b o ⟨p.st.marks (j + 1), p.sn, p.q, p.pr, p.ga, p.nx⟩) ∧ Hid (Prt b o 15 w' w1)) := Lib.hid (fun j w' hj hp =>
    (kmark_any true b o (i + j) (p.st.marks j) (Sk.marks_fit hf j) (by omega) w' hp.st).mono fun _ _ ⟨e, h1, h2⟩ => ⟨e, Lib.hid (hp.putst h2.out h1.out), Lib.hid (h2.out.wide (Nat.le_refl _) (by omega))⟩)
  have HM := Lib.hid hm2
  have k1 : (m : Int) ≤ 64 := by omega
  clear hm hm2 h hi hf
  rcases hcs with ⟨h1, rfl⟩ | ⟨h1, rfl⟩
  all_goals
    go_enter Tryz.func99, Tryz.ntmps99
    go_wp2
  · go_loopw [6] (fun q wr => ∃ j : Nat, q = .int .i64 (j : Int) ∧ Hid (j ≤ m) ∧ Hid (PLie wr b o ⟨p.st.marks j, p.sn, p.q, p.pr, p.ga, p.nx⟩) ∧ Hid (Prt b o 15 w wr)) (fun q _ => m - (intOf q).toNat)
    case atStart => exact ⟨0, rfl, Lib.hid (Nat.zero_le _), Lib.hid H.out, Lib.hid (Prt.refl _ _ _ _)⟩
    case round =>
      obtain ⟨j, rfl, HJ, HP, HW⟩ := hrel
      have hj := HJ.out
      by_cases hlt : j < m
      · have k2 : (j : Int) < m := by omega
        have k3 : (j : Int) ≤ 64 := by omega
        have HJ2 : Hid (j + 1 ≤ m) := Lib.hid (by omega)
        have HD : Hid (m - (j + 1) < m - j) := Lib.hid (by omega)
        have CM1 := Lib.hid (CM.out j wr (by omega) HP.out)
        clear hlt hj
        go_wp2_with (first
          | (go_at_call 100; (with_reducible refine (CM1.out).mono ?_); rintro e w1 ⟨rfl, HP1, HW1⟩; have HW2 := Lib.hid (HW.out.trans HW1.out))
          | fail)
        go_roundw
        case rel => exact ⟨j + 1, by go_num, HJ2, HP1, HW2⟩
        case measure => have := HD.out; simp [intOf] <;> omega
      · obtain rfl : j = m := by omega
        clear hlt hj
        go_wp2
        go_end0
        exact ⟨rfl, HP, HW⟩
  · go_loopw [6] (fun q wr => ∃ j : Nat, q = .int .i64 (j : Int) ∧ Hid (j ≤ 64) ∧ Hid (PLie wr b o ⟨p.st.marks j, p.sn, p.q, p.pr, p.ga, p.nx⟩) ∧ Hid (Prt b o 15 w wr)) (fun q _ => 64 - (intOf q).toNat)
    case atStart => exact ⟨0, rfl, Lib.hid (Nat.zero_le _), Lib.hid H.out, Lib.hid (Prt.refl _ _ _ _)⟩
    case round =>
      obtain ⟨j, rfl, HJ, HP, HW⟩ := hrel
      have hj := HJ.out
      by_cases hlt : j < 64
      · have k2 : (j : Int) < 64 := by omega
        have k3 : (j : Int) ≤ 64 := by omega
        have HJ2 : Hid (j + 1 ≤ 64) := Lib.hid (by omega)
        have HD : Hid (64 - (j + 1) < 64 - j) := Lib.hid (by omega)
        have CM1 := Lib.hid (CM.out j wr (by omega) HP.out)
        clear hlt hj
        go_wp2_with (first
          | (go_at_call 100; (with_reducible refine (CM1.out).mono ?_); rintro e w1 ⟨rfl, HP1, HW1⟩; have HW2 := Lib.hid (HW.out.trans HW1.out))
          | fail)
        go_roundw
        case rel => exact ⟨j + 1, by go_num, HJ2, HP1, HW2⟩
        case measure => have := HD.out; simp [intOf] <;> omega
      · obtain rfl : j = 64 := by omega
        clear hlt hj
        go_wp2
        go_end0
        exact ⟨rfl, HP, HW⟩
end Go.Proofs.YtldhlknmabpanaaGreat
namespace Go.Proofs.YtldhlknmabpanaaGreat
open Go.RowKit

theorem SLie.six {w : World} {b o : Nat} {s : Sn} (h : SLie w b o s) : w.cell? ⟨b, o, none⟩ = some (.bool s.any) ∧ w.cell? ⟨b, o + 1, none⟩ = some (.int .u32 s.top) ∧ w.cell? ⟨b, o + 2, none⟩ = some (.int .u64 s.bts.toNat) ∧ w.cell? ⟨b, o + 3, none⟩ = some (.int .i64 s.came) ∧ w.cell? ⟨b, o + 4, none⟩ = some (.int .i64 s.twice) ∧ w.cell? ⟨b, o + 5, none⟩ = some (.int .i64 s.lost) :=
  ⟨h.cell 0, h.cell 1, h.cell 2, h.cell 3, h.cell 4, h.cell 5⟩
set_option maxRecDepth 100000 in
set_option maxHeartbeats 1000000 in
theorem heard_any (b o k n : Nat) (p : Pn) (hf : p.fit k) (hk : k ≤ 1000000) (hn : n < 4294967296) (w : World) (h : PLie w b o p) :
    Calls Tryz.prog 72 #[.pointer (some ⟨b, o, none⟩), .int .u32 n] w fun e w' => e = .returned (.int .i64 (p.sn.take n).2) ∧ Hid (PLie w' b o (p.heard n)) ∧ Hid (Prt b o 15 w w') := by
  have h2f := Sn.take_fit hn hf.sn
  have hlost := Sn.take_lost p.sn n
  obtain ⟨x0, x1, x2, x3, x4, x5⟩ := h.sn.six
  obtain ⟨W, hW⟩ : ∃ W, W = w.alloc (.cells p.sn.cells 69) := ⟨_, rfl⟩
  have hb : Below w.heap.size w W := by rw [hW]; exact (Below.refl _ _).alloc (Nat.le_refl _) _
  have HX := Lib.hid (show SLie W w.heap.size 0 p.sn by rw [hW]; exact Lies.new w _ _ (Below.refl _ _))
  have hP1 := h.below hb h.lt
  have HW1 := Lib.hid ((Prt.refl b o 15 w).below h.lt hb)
  have CT := Lib.hid (stake_any b (o + 5) p.sn n k hn hf.sn hk W hP1.sn)
  have HP1 := Lib.hid hP1
  have hbx : b ≠ w.heap.size := by have := h.lt; omega
  have HF := Lib.hid hf
  have hH : p.heard n = if (p.sn.take n).2 = 0 then ⟨(p.st.marks (p.lostBy n)).mark false, (p.sn.take n).1, 0, 0, 0, p.nx⟩ else ⟨p.st, (p.sn.take n).1, 0, 0, 0, p.nx⟩ := rfl
  have hL : p.lostBy n = if p.sn.any = true then min ((p.sn.take n).1.lost - p.sn.lost) 64 else 0 := rfl
  have HH := Lib.hid hH
  have HLB := Lib.hid hL
  have HLO := Lib.hid hlost
  have hl1 := hf.sn.lost
  have hl2 := h2f.lost
  clear hH hL hlost h hb hP1 hf h2f
  generalize p.heard n = Z at *
  generalize (p.sn.take n).1 = s2 at *
  generalize (p.sn.take n).2 = er at *
  generalize p.lostBy n = lb at *
  have hl3 : (s2.lost : Int) ≤ 9223372036854775807 := by omega
  have HN0 : Hid (65 * k ≤ 100000000) := Lib.hid (by omega)
  go_enter Tryz.func72, Tryz.ntmps72
  go_upto_region 2 with fail
  unfold Sn.cells at hW
  rw [← hW]
  clear hW x0 x1 x2 x3 x4 x5
  go_upto_region 3 with (first
    | (go_at_call 98; (with_reducible refine (CT.out).mono ?_); rintro e w2 ⟨rfl, HS2, HT2⟩)
    | fail)
  have HP2 := Lib.hid (HP1.out.putsn HT2.out HS2.out)
  have HW2 := Lib.hid (HW1.out.trans (HT2.out.wide (o' := o) (n' := 15) (by omega) (by omega)))
  have HX2 : Hid (SLie w2 w.heap.size 0 p.sn) := Lib.hid (Lies.apart HX.out HT2.out (by omega))
  clear HP1 HW1 HX HS2 HT2 CT
  obtain ⟨c0, c1, c2, c3⟩ := HP2.out.four
  have f1 := HP2.out.frozen (o + 11)
  have f2 := HP2.out.frozen (o + 12)
  have f3 := HP2.out.frozen (o + 13)
  go_upto_region 4 with fail
  clear c0 c1 c2 c3 f1 f2 f3
  have HP3 := Lib.hid (((HP2.out.setq 0).setpr 0).setga 0)
  have HW3 := Lib.hid (((HW2.out.trans (PPrt.set b o _ 11 (.int .i64 0))).trans (PPrt.set b o _ 12 (.int .i64 0))).trans (PPrt.set b o _ 13 (.int .i64 0)))
  have HX3 : Hid (SLie (((w2.setCell ⟨b, o + 11, none⟩ (.int .i64 0)).setCell ⟨b, o + 12, none⟩ (.int .i64 0)).setCell ⟨b, o + 13, none⟩ (.int .i64 0)) w.heap.size 0 p.sn) := Lib.hid (((Lies.other HX2.out (p := ⟨b, o + 11, none⟩) (by exact hbx.symm) _).other (p := ⟨b, o + 12, none⟩) (by exact hbx.symm) _).other (p := ⟨b, o + 13, none⟩) (by exact hbx.symm) _)
  dsimp only at HP3
  clear HP2 HW2 HX2
  generalize ((w2.setCell ⟨b, o + 11, none⟩ (.int .i64 0)).setCell ⟨b, o + 12, none⟩ (.int .i64 0)).setCell ⟨b, o + 13, none⟩ (.int .i64 0) = w3 at *
  by_cases he : er = 0
  · have HZ := Lib.hid (HH.out.trans (if_pos he))
    subst he
    obtain ⟨x0, x1, x2, x3, x4, x5⟩ := HX3.out.six
    rw [Nat.zero_add] at x5
    obtain ⟨y0, y1, y2, y3, y4, y5⟩ := HP3.out.sn.six
    dsimp only at y5
    rw [Nat.add_assoc] at y5
    clear x1 x2 x3 x4 y0 y1 y2 y3 y4 HH
    cases ha : p.sn.any
    · have HL0 : Hid (lb = 0) := Lib.hid (by have := HLB.out; rw [ha] at this; simpa using this)
      have CK := Lib.hid (kmark_any false b o (65 * k) p.st HF.out.st (by have := HN0.out; omega) w3 HP3.out.st)
      rw [ha] at x0
      clear ha HLB HLO
      go_wp2_with (first
        | (go_at_call 100; (with_reducible refine (CK.out).mono ?_); rintro e w4 ⟨rfl, HK4, HT4⟩)
        | fail)
      go_ret
      refine ⟨rfl, Lib.hid ?_, Lib.hid (HW3.out.trans (HT4.out.wide (Nat.le_refl _) (by omega)))⟩
      have := HP3.out.putst HT4.out HK4.out
      rw [HZ.out, HL0.out]
      exact this
    · have HL0 : Hid (lb = min (s2.lost - p.sn.lost) 64) := Lib.hid (by have := HLB.out; rw [ha, if_pos rfl] at this; exact this)
      have hlo := HLO.out ha
      obtain ⟨d, hd⟩ : ∃ d : Nat, d = s2.lost - p.sn.lost := ⟨_, rfl⟩
      have hd2 : (s2.lost : Int) - p.sn.lost = (d : Int) := by omega
      have wd : IntKind.i64.wrap ((s2.lost : Int) - p.sn.lost) = (d : Int) := by rw [IntKind.wrap_i64]; omega
      have CL := Lib.hid (marklost_any b o (65 * k) d ⟨p.st, s2, 0, 0, 0, p.nx⟩ HF.out.st HN0.out (by omega) w3.drew (HP3.out.drewN 1))
      have HL1 : Hid (lb = min d 64) := Lib.hid (by rw [hd]; exact HL0.out)
      have HN4 : Hid (65 * k + min d 64 ≤ 1000000000) := Lib.hid (by have := HN0.out; omega)
      have CK : Hid (∀ w', PLie w' b o ⟨p.st.marks (min d 64), s2, 0, 0, 0, p.nx⟩ → Calls Tryz.prog 100 #[.pointer (some ⟨b, o, none⟩), .bool false] w' fun e w1 => e = .returned (.tuple #[]) ∧ Hid (PLie w1 b o ⟨(p.st.marks (min d 64)).mark false, s2, 0, 0, 0, p.nx⟩) ∧ Hid (Prt b o 15 w' w1)) := Lib.hid (fun w' hp => (kmark_any false b o (65 * k + min d 64) _ (Sk.marks_fit HF.out.st _) HN4.out w' hp.st).mono fun _ _ ⟨e, h1, h2⟩ => ⟨e, Lib.hid (hp.putst h2.out h1.out), Lib.hid (h2.out.wide (Nat.le_refl _) (by omega))⟩)
      rw [ha] at x0
      clear ha HLB HLO HL0 hlo hl1 hl2 hd hd2
      dsimp only at CL
      generalize min d 64 = dm at *
      go_upto_region 7 with fail
      refine wp_region_still_tail 9 (by kernel_rfl) (by kernel_rfl) ?_
      simp only [List.take_succ_cons, List.take_zero, List.drop_succ_cons, List.drop_zero]
      iterate 9 still_step
      refine wpStill_nil ?_
      change wpList _ _ _ _ _ w3.drew
      go_wp2_with (first
        | (go_at_call 99; (with_reducible refine (CL.out).mono ?_); rintro e w4 ⟨rfl, HP4, HT4⟩; have CK4 := Lib.hid (CK.out w4 HP4.out))
        | (go_at_call 100; (with_reducible refine (CK4.out).mono ?_); rintro e w5 ⟨rfl, HP5, HT5⟩)
        | fail)
      go_ret
      refine ⟨rfl, Lib.hid ?_, Lib.hid ((HW3.out.drew.trans HT4.out).trans HT5.out)⟩
      rw [HZ.out, HL1.out]
      exact HP5.out
  · have HZ := Lib.hid (HH.out.trans (if_neg he))
    go_wp2
    go_ret
    exact ⟨rfl, Lib.hid (by rw [HZ.out]; exact HP3.out), HW3⟩
end Go.Proofs.YtldhlknmabpanaaGreat
namespace Go.Proofs.YtldhlknmabpanaaGreat
open Go.RowKit

/-- The code's answer on two numbers. -/
def cmpI (x y : Int) : Int := if x < y then -1 else if y < x then 1 else 0
theorem cmpI_any (x y : Int) (w : World) :
    Calls Tryz.prog 83 #[.int .i64 x, .int .i64 y] w fun e w' => e = .returned (.int .i64 (cmpI x y)) ∧ w' = w := by
  unfold cmpI
  by_cases h1 : x < y
  · rw [if_pos h1]
    go_enter Tryz.func83, Tryz.ntmps83
    go_wp2
    go_ret
    exact ⟨rfl, rfl⟩
  · rw [if_neg h1]
    by_cases h2 : y < x
    · rw [if_pos h2]
      go_enter Tryz.func83, Tryz.ntmps83
      go_wp2
      go_ret
      exact ⟨rfl, rfl⟩
    · rw [if_neg h2]
      go_enter Tryz.func83, Tryz.ntmps83
      go_wp2
      go_ret
      exact ⟨rfl, rfl⟩
/-- The first one that isn't 0. -/
def orI (x y : Int) : Int := if x = 0 then y else x
set_option maxRecDepth 100000 in
theorem or2_any (x y : Int) (g : Nat) (w : World) (c0 : w.cell? ⟨g, 0, none⟩ = some (.int .i64 x)) (c1 : w.cell? ⟨g, 1, none⟩ = some (.int .i64 y)) :
    Calls Tryz.prog 82 #[.slice (some ⟨g, 0, none⟩) 2 2] w fun e w' => e = .returned (.int .i64 (orI x y)) ∧ w = w' := by
  have HC := Lib.hid (And.intro c0 c1)
  clear c0 c1
  have HO : Hid ((¬ x = 0 → orI x y = x) ∧ (x = 0 → orI x y = y)) := Lib.hid ⟨fun h => if_neg h, fun h => if_pos h⟩
  generalize orI x y = z at *
  go_enter Tryz.func82, Tryz.ntmps82
  go_wp2
  go_loopw [8] (fun i wr => ∃ j : Nat, i = .int .i64 (j : Int) ∧ Hid (j ≤ 2) ∧ Hid (wr = w) ∧ Hid (1 ≤ j → x = 0) ∧ Hid (2 ≤ j → y = 0)) (fun i _ => 2 - (intOf i).toNat)
  case atStart => exact ⟨0, rfl, Lib.hid (by omega), Lib.hid rfl, Lib.hid (by omega), Lib.hid (by omega)⟩
  case round =>
    obtain ⟨j, rfl, HJ, HW, HX, HY⟩ := hrel
    have hw := HW.out.symm
    subst hw
    obtain ⟨c0, c1⟩ := HC.out
    have hj := HJ.out
    rcases (by omega : j = 0 ∨ j = 1 ∨ j = 2) with rfl | rfl | rfl
    · by_cases h0 : x = 0
      · have H0 := Lib.hid h0
        have h0b : (x != 0) = false := by simp [h0]
        clear h0 hj
        go_wp2
        go_roundw
        case rel => exact ⟨1, rfl, Lib.hid (by omega), Lib.hid True.intro, Lib.hid (fun _ => H0.out), Lib.hid (by omega)⟩
        case measure => simp [intOf]
      · have HZ := Lib.hid (HO.out.1 h0)
        go_wp2
        go_ret
        exact ⟨ret_int HZ.out.symm, rfl⟩
    · have HZ := Lib.hid (HO.out.2 (HX.out (by omega)))
      by_cases h0 : y = 0
      · have H0 := Lib.hid h0
        have h0b : (y != 0) = false := by simp [h0]
        clear h0 hj
        go_wp2
        go_roundw
        case rel => exact ⟨2, rfl, Lib.hid (by omega), Lib.hid True.intro, Lib.hid (fun _ => HX.out (by omega)), Lib.hid (fun _ => H0.out)⟩
        case measure => simp [intOf]
      · go_wp2
        go_ret
        exact ⟨ret_int HZ.out.symm, rfl⟩
    · have HZ := Lib.hid (HO.out.2 (HX.out (by omega)))
      have HZ2 := Lib.hid (HY.out (by omega))
      clear hj
      go_wp2
      go_ret
      exact ⟨ret_int (by rw [HZ.out, HZ2.out]), rfl⟩
end Go.Proofs.YtldhlknmabpanaaGreat
