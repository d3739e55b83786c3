/-
  Own text: Heard, walked.
-/
import Derived.Test.YtopnceniihgkpaaPtB
namespace Go.Proofs.Ytopnceniihgkpaa
open Go.RowKit

theorem SLie.six {w : World} {b o : Nat} {s : Sn} (h : SLie w b o s) : w.cell? ⟨b, o, none⟩ = some (.bool s.any) ∧ w.cell? ⟨b, o + 1, none⟩ = some (.int .u32 s.top) ∧ w.cell? ⟨b, o + 2, none⟩ = some (.int .u64 s.bts.toNat) ∧ w.cell? ⟨b, o + 3, none⟩ = some (.int .i64 s.came) ∧ w.cell? ⟨b, o + 4, none⟩ = some (.int .i64 s.twice) ∧ w.cell? ⟨b, o + 5, none⟩ = some (.int .i64 s.lost) :=
  ⟨h.cell 0, h.cell 1, h.cell 2, h.cell 3, h.cell 4, h.cell 5⟩
set_option maxRecDepth 100000 in
set_option maxHeartbeats 1000000 in
theorem heard_any (b o k n : Nat) (p : Pn) (hf : p.fit k) (hk : k ≤ 1000000) (hn : n < 4294967296) (w : World) (h : PLie w b o p) :
    Calls Try.prog 11 #[.pointer (some ⟨b, o, none⟩), .int .u32 n] w fun e w' => e = .returned (.int .i64 (p.sn.take n).2) ∧ Hid (PLie w' b o (p.heard n)) ∧ Hid (Prt b o 15 w w') := by
  have h2f := Sn.take_fit hn hf.sn
  have hlost := Sn.take_lost p.sn n
  obtain ⟨x0, x1, x2, x3, x4, x5⟩ := h.sn.six
  obtain ⟨W, hW⟩ : ∃ W, W = w.alloc (.cells p.sn.cells 29) := ⟨_, rfl⟩
  have hb : Below w.heap.size w W := by rw [hW]; exact (Below.refl _ _).alloc (Nat.le_refl _) _
  have HX := Lib.hid (show SLie W w.heap.size 0 p.sn by rw [hW]; exact Lies.new w _ _ (Below.refl _ _))
  have hP1 := h.below hb h.lt
  have HW1 := Lib.hid ((Prt.refl b o 15 w).below h.lt hb)
  have CT := Lib.hid (stake_any b (o + 5) p.sn n k hn hf.sn hk W hP1.sn)
  have HP1 := Lib.hid hP1
  have hbx : b ≠ w.heap.size := by have := h.lt; omega
  have HF := Lib.hid hf
  have hH : p.heard n = if (p.sn.take n).2 = 0 then ⟨(p.st.marks (p.lostBy n)).mark false, (p.sn.take n).1, 0, 0, 0, p.nx⟩ else ⟨p.st, (p.sn.take n).1, 0, 0, 0, p.nx⟩ := rfl
  have hL : p.lostBy n = if p.sn.any = true then min ((p.sn.take n).1.lost - p.sn.lost) 64 else 0 := rfl
  have HH := Lib.hid hH
  have HLB := Lib.hid hL
  have HLO := Lib.hid hlost
  have hl1 := hf.sn.lost
  have hl2 := h2f.lost
  clear hH hL hlost h hb hP1 hf h2f
  generalize p.heard n = Z at *
  generalize (p.sn.take n).1 = s2 at *
  generalize (p.sn.take n).2 = er at *
  generalize p.lostBy n = lb at *
  have hl3 : (s2.lost : Int) ≤ 9223372036854775807 := by omega
  have HN0 : Hid (65 * k ≤ 100000000) := Lib.hid (by omega)
  go_enter Try.func11, Try.ntmps11
  go_upto_region 2 with fail
  unfold Sn.cells at hW
  rw [← hW]
  clear hW x0 x1 x2 x3 x4 x5
  go_upto_region 3 with (first
    | (go_at_call 23; (with_reducible refine (CT.out).mono ?_); rintro e w2 ⟨rfl, HS2, HT2⟩)
    | fail)
  have HP2 := Lib.hid (HP1.out.putsn HT2.out HS2.out)
  have HW2 := Lib.hid (HW1.out.trans (HT2.out.wide (o' := o) (n' := 15) (by omega) (by omega)))
  have HX2 : Hid (SLie w2 w.heap.size 0 p.sn) := Lib.hid (Lies.apart HX.out HT2.out (by omega))
  clear HP1 HW1 HX HS2 HT2 CT
  obtain ⟨c0, c1, c2, c3⟩ := HP2.out.four
  have f1 := HP2.out.frozen (o + 11)
  have f2 := HP2.out.frozen (o + 12)
  have f3 := HP2.out.frozen (o + 13)
  go_upto_region 4 with fail
  clear c0 c1 c2 c3 f1 f2 f3
  have HP3 := Lib.hid (((HP2.out.setq 0).setpr 0).setga 0)
  have HW3 := Lib.hid (((HW2.out.trans (PPrt.set b o _ 11 (.int .i64 0))).trans (PPrt.set b o _ 12 (.int .i64 0))).trans (PPrt.set b o _ 13 (.int .i64 0)))
  have HX3 : Hid (SLie (((w2.setCell ⟨b, o + 11, none⟩ (.int .i64 0)).setCell ⟨b, o + 12, none⟩ (.int .i64 0)).setCell ⟨b, o + 13, none⟩ (.int .i64 0)) w.heap.size 0 p.sn) := Lib.hid (((Lies.other HX2.out (p := ⟨b, o + 11, none⟩) (by exact hbx.symm) _).other (p := ⟨b, o + 12, none⟩) (by exact hbx.symm) _).other (p := ⟨b, o + 13, none⟩) (by exact hbx.symm) _)
  dsimp only at HP3
  clear HP2 HW2 HX2
  generalize ((w2.setCell ⟨b, o + 11, none⟩ (.int .i64 0)).setCell ⟨b, o + 12, none⟩ (.int .i64 0)).setCell ⟨b, o + 13, none⟩ (.int .i64 0) = w3 at *
  by_cases he : er = 0
  · have HZ := Lib.hid (HH.out.trans (if_pos he))
    subst he
    obtain ⟨x0, x1, x2, x3, x4, x5⟩ := HX3.out.six
    rw [Nat.zero_add] at x5
    obtain ⟨y0, y1, y2, y3, y4, y5⟩ := HP3.out.sn.six
    dsimp only at y5
    rw [Nat.add_assoc] at y5
    clear x1 x2 x3 x4 y0 y1 y2 y3 y4 HH
    cases ha : p.sn.any
    · have HL0 : Hid (lb = 0) := Lib.hid (by have := HLB.out; rw [ha] at this; simpa using this)
      have CK := Lib.hid (kmark_any false b o (65 * k) p.st HF.out.st (by have := HN0.out; omega) w3 HP3.out.st)
      rw [ha] at x0
      clear ha HLB HLO
      go_wp2_with (first
        | (go_at_call 25; (with_reducible refine (CK.out).mono ?_); rintro e w4 ⟨rfl, HK4, HT4⟩)
        | fail)
      go_ret
      refine ⟨rfl, Lib.hid ?_, Lib.hid (HW3.out.trans (HT4.out.wide (Nat.le_refl _) (by omega)))⟩
      have := HP3.out.putst HT4.out HK4.out
      rw [HZ.out, HL0.out]
      exact this
    · have HL0 : Hid (lb = min (s2.lost - p.sn.lost) 64) := Lib.hid (by have := HLB.out; rw [ha, if_pos rfl] at this; exact this)
      have hlo := HLO.out ha
      obtain ⟨d, hd⟩ : ∃ d : Nat, d = s2.lost - p.sn.lost := ⟨_, rfl⟩
      have hd2 : (s2.lost : Int) - p.sn.lost = (d : Int) := by omega
      have wd : IntKind.i64.wrap ((s2.lost : Int) - p.sn.lost) = (d : Int) := by rw [IntKind.wrap_i64]; omega
      have CL := Lib.hid (marklost_any b o (65 * k) d ⟨p.st, s2, 0, 0, 0, p.nx⟩ HF.out.st HN0.out (by omega) w3.drew (HP3.out.drewN 1))
      have HL1 : Hid (lb = min d 64) := Lib.hid (by rw [hd]; exact HL0.out)
      have HN4 : Hid (65 * k + min d 64 ≤ 1000000000) := Lib.hid (by have := HN0.out; omega)
      have CK : Hid (∀ w', PLie w' b o ⟨p.st.marks (min d 64), s2, 0, 0, 0, p.nx⟩ → Calls Try.prog 25 #[.pointer (some ⟨b, o, none⟩), .bool false] w' fun e w1 => e = .returned (.tuple #[]) ∧ Hid (PLie w1 b o ⟨(p.st.marks (min d 64)).mark false, s2, 0, 0, 0, p.nx⟩) ∧ Hid (Prt b o 15 w' w1)) := Lib.hid (fun w' hp => (kmark_any false b o (65 * k + min d 64) _ (Sk.marks_fit HF.out.st _) HN4.out w' hp.st).mono fun _ _ ⟨e, h1, h2⟩ => ⟨e, Lib.hid (hp.putst h2.out h1.out), Lib.hid (h2.out.wide (Nat.le_refl _) (by omega))⟩)
      rw [ha] at x0
      clear ha HLB HLO HL0 hlo hl1 hl2 hd hd2
      dsimp only at CL
      generalize min d 64 = dm at *
      go_upto_region 7 with fail
      refine wp_region_still_tail 9 (by kernel_rfl) (by kernel_rfl) ?_
      simp only [List.take_succ_cons, List.take_zero, List.drop_succ_cons, List.drop_zero]
      iterate 9 still_step
      refine wpStill_nil ?_
      change wpList _ _ _ _ _ w3.drew
      go_wp2_with (first
        | (go_at_call 24; (with_reducible refine (CL.out).mono ?_); rintro e w4 ⟨rfl, HP4, HT4⟩; have CK4 := Lib.hid (CK.out w4 HP4.out))
        | (go_at_call 25; (with_reducible refine (CK4.out).mono ?_); rintro e w5 ⟨rfl, HP5, HT5⟩)
        | fail)
      go_ret
      refine ⟨rfl, Lib.hid ?_, Lib.hid ((HW3.out.drew.trans HT4.out).trans HT5.out)⟩
      rw [HZ.out, HL1.out]
      exact HP5.out
  · have HZ := Lib.hid (HH.out.trans (if_neg he))
    go_wp2
    go_ret
    exact ⟨rfl, Lib.hid (by rw [HZ.out]; exact HP3.out), HW3⟩
end Go.Proofs.Ytopnceniihgkpaa
