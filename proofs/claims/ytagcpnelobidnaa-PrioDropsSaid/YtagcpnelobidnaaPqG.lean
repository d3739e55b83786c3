/-
  Own text: Push, walked.
-/
import Derived.Test.YtagcpnelobidnaaPqF
namespace Go.Proofs.Ytagcpnelobidnaa
open Go.RowKit

theorem item_field (x y z : Int) (w : World) : (Instr.field 62 (.agg #[.int .i64 x, .int .i64 y, .int .i64 z]) 2).run Try.prog w = .ok (.int .i64 z) w := by kernel_rfl
theorem last_split (L : List It) (n : Nat) (h : L.length = n + 1) : L = L.dropLast ++ L.getLastD ⟨0, 0, 0⟩ :: [] ∧ L.dropLast.length = n := by
  have hne : L ≠ [] := by intro e; rw [e] at h; simp at h
  refine ⟨?_, by rw [List.length_dropLast]; omega⟩
  rw [List.getLastD_eq_getLast?, List.getLast?_eq_some_getLast hne]
  exact (List.dropLast_concat_getLast hne).symm
set_option maxRecDepth 100000 in
theorem push_any (r v : Int) (b k : Nat) (Q : Qn) (A : Option Addr) (C : Nat) (hf : Q.fit k) (hk : k ≤ 1000000) (w : World) (h : QB w b Q A C) :
    Calls Try.prog 13 #[.pointer (some ⟨b, 0, none⟩), .int .i64 r, .int .i64 v] w fun e w' => e = .returned (.tuple #[.int .i64 (Q.gone r v), .bool (decide (Q.room ≤ Q.l.length))]) ∧ Hid (QTo w b A (Q.push r v) w') := by
  obtain ⟨P, hP⟩ : ∃ P, P = pos r Q.l := ⟨_, rfl⟩
  obtain ⟨n, hn⟩ : ∃ n, n = Q.l.length := ⟨_, rfl⟩
  obtain ⟨p, hp⟩ : ∃ p, p = Q.pushed := ⟨_, rfl⟩
  have hpl := hf.place r v
  rw [← hP, ← hp] at hpl
  have hp1 : (p : Int) ≤ 1000000 := by have := hf.pushed; omega
  have hn1 : n ≤ 256 := by have := hf.len; have := hf.hi; omega
  have hPn : P ≤ n := by have := hpl.le; omega
  -- the new item's box, and the pushed number
  obtain ⟨W1, hW1⟩ : ∃ W1, W1 = w.alloc (.cells #[.int .i64 r, .int .i64 (p : Int), .int .i64 v] 62) := ⟨_, rfl⟩
  have hb1 : Below w.heap.size w W1 := by rw [hW1]; exact (Below.refl _ _).alloc (Nat.le_refl _) _
  have hs1 : W1.heap.size = w.heap.size + 1 := by rw [hW1]; simp
  have hx1 : TBlk W1 w.heap.size (icells [⟨r, (p : Int), v⟩]) := by rw [hW1]; exact one_new w ⟨r, (p : Int), v⟩ _ rfl
  have hq1 : QB W1 b Q A C := h.below hb1 (Nat.le_refl _)
  have hbw := h.blk.lt
  obtain ⟨c0, c1, c2⟩ := h.blk.cells
  rw [← hp] at c1
  obtain ⟨d0, d1, d2⟩ := hq1.blk.cells
  have df := hq1.blk.frozen 1
  rw [← hp] at d1
  -- behind the number
  obtain ⟨W2, hW2⟩ : ∃ W2, W2 = W1.setCell ⟨b, 1, none⟩ (.int .i64 ((p : Int) + 1)) := ⟨_, rfl⟩
  have hgb : ∀ g, A.map Addr.block = some g → g ≠ b := h.apart
  have hglt : ∀ g, A.map Addr.block = some g → g < w.heap.size := h.lt
  have hs2 : W2.heap.size = w.heap.size + 1 := by rw [hW2]; simpa using hs1
  have hq2 : QBlk W2 b Q.room (p + 1) (.slice A n C) := by rw [hW2, hn]; exact hq1.blk.setPushed (p + 1)
  have ho2 : OwnT W2 0 (.slice A n C) n Q.l := by
    rw [hW2, hn]
    exact hq1.own.keep (fun g hg => Below.heap_setCell _ _ _ g (hgb g (by rw [own_block] at hg; exact hg)))
  have hx2 : TBlk W2 w.heap.size (icells [⟨r, (p : Int), v⟩]) := by
    rw [hW2]
    exact (Below.heap_setCell W1 ⟨b, 1, none⟩ _ w.heap.size (by show w.heap.size ≠ b; omega)).trans hx1
  have hf2 : Frm b (A.map Addr.block) w W2 := by rw [hW2]; exact (Frm.of_below hb1).trans (Frm.setIn _ _ _ _ _)
  rw [← hn] at c2 d2
  -- in all worlds to come that keep what lies there
  have HALL : Hid (∀ w', Below W2.heap.size W2 w' → w'.cell? ⟨b, 2, none⟩ = some (.slice A n C) ∧ w'.cell? ⟨w.heap.size, 0, none⟩ = some (.int .i64 r) ∧ w'.cell? ⟨w.heap.size, 1, none⟩ = some (.int .i64 (p : Int)) ∧ w'.cell? ⟨w.heap.size, 2, none⟩ = some (.int .i64 v)) := Lib.hid (fun w' hb => by
    have l1 : w.heap.size < W2.heap.size := by omega
    have l2 : b < W2.heap.size := by omega
    have e0 := hx2.cell 0
    have e1 := hx2.cell 1
    have e2 := hx2.cell 2
    exact ⟨(hb.cell (p := ⟨b, 2, none⟩) l2).trans hq2.cells.2.2, (hb.cell (p := ⟨w.heap.size, 0, none⟩) l1).trans e0, (hb.cell (p := ⟨w.heap.size, 1, none⟩) l1).trans e1, (hb.cell (p := ⟨w.heap.size, 2, none⟩) l1).trans e2⟩)
  have CS : Hid (Calls Try.prog 19 #[.slice A n C, .agg #[.int .i64 r, .int .i64 (p : Int), .int .i64 v], .func (.func 20) #[] #[]] W2.drew fun e w' => FoundAt P e ∧ Below W2.drew.heap.size W2.drew w') := Lib.hid (search_any ⟨r, (p : Int), v⟩ P A n C Q.l hpl (by omega) W2.drew (ho2.keep (fun _ _ => rfl)))
  have HS2 := Lib.hid hs2
  have HN : Hid (n = Q.l.length ∧ p = Q.pushed ∧ P = pos r Q.l ∧ P ≤ n) := Lib.hid ⟨hn, hp, hP, hPn⟩
  have HQ2 := Lib.hid hq2
  have HO2 := Lib.hid ho2
  have HX2 := Lib.hid hx2
  have HF2 := Lib.hid hf2
  have HW1 := Lib.hid hW1
  have HW2 := Lib.hid hW2
  have HGB := Lib.hid hgb
  have HGL := Lib.hid hglt
  have HBW := Lib.hid hbw
  have HFT := Lib.hid hf
  clear hn hp hP h hf hk hPn hq1 hb1 hs1 hx1 hW1 hW2 hs2 hq2 ho2 hx2 hf2 hgb hglt hpl hbw hn1
  go_enter Try.func13, Try.ntmps13
  go_upto_region 2 with fail
  rw [← HW1.out]
  go_upto_region 3 with fail
  rw [← HW2.out]
  clear c0 c1 c2 d0 d1 d2 df
  go_region_held3 (fun w' => w'.cell? ⟨b, 2, none⟩ = some (.slice A n C) ∧ w'.cell? ⟨w.heap.size, 0, none⟩ = some (.int .i64 r) ∧ w'.cell? ⟨w.heap.size, 1, none⟩ = some (.int .i64 (p : Int)) ∧ w'.cell? ⟨w.heap.size, 2, none⟩ = some (.int .i64 v))
    (first | exact HALL.out _ (Below.refl _ _) | exact HALL.out _ (Below.refl _ _).drew | exact HALL.out _ ((Below.refl _ _).drew.trans HB3.out))
    (first
      | (go_at_call 19; (with_reducible refine (CS.out).mono ?_); rintro e w3 ⟨⟨b2, rfl⟩, hb⟩; have HB3 := Lib.hid hb; clear hb)
      | fail)
  have HB4 : Hid (Below W2.heap.size W2 w3) := Lib.hid ((Below.refl _ _).drew.trans HB3.out)
  have HL4 := Lib.hid (HALL.out w3 HB4.out)
  obtain ⟨a2, a3, a4, a5⟩ := HL4.out
  obtain ⟨W4, hW4⟩ : ∃ W4, W4 = (w3.alloc (.cells #[.int .i64 r, .int .i64 (p : Int), .int .i64 v] 62)).drew := ⟨_, rfl⟩
  have hb4 : Below W2.heap.size W2 W4 := by rw [hW4]; exact (HB4.out.alloc HB4.out.size _).drew
  have CI : Hid (Calls Try.prog 21 #[.slice A n C, .int .i64 (P : Int), .slice (some ⟨w3.heap.size, 0, none⟩) 1 1] W4 (PutIn W4 A (Q.ins r v))) := Lib.hid (by
    have hbig : w.heap.size + 1 ≤ w3.heap.size := by have := HB4.out.size; have := HS2.out; omega
    have := insert_any ⟨r, (p : Int), v⟩ A n C w3.heap.size P Q.l (by have := HN.out; omega) (by have := HFT.out.len; have := HFT.out.hi; have := HN.out; omega) W4 (HO2.out.below hb4 (Nat.le_refl _)) (by rw [hW4]; exact one_new w3 ⟨r, (p : Int), v⟩ _ rfl) (by rw [hW4]; simp) (fun e => by have := HGL.out _ e.symm; omega)
    rw [HN.out.2.2.1, HN.out.2.1] at this
    rw [HN.out.2.2.1]
    exact this)
  have HQ4 : Hid (∀ w4 s', MovedTo W4 (A.map Addr.block) w4 s' → QBlk w4 b Q.room (p + 1) (.slice A n C)) := Lib.hid (fun w4 s' hm => by
    have l2 : b < W2.heap.size := HQ2.out.lt
    exact (HQ2.out.below hb4 l2).keep (hm.grown.block b (Nat.lt_of_lt_of_le l2 hb4.size) (fun e => HGB.out b e.symm rfl)))
  have HW4 := Lib.hid hW4
  have HB5 := Lib.hid hb4
  have e4 : ∀ o, (w3.alloc o).cell? ⟨b, 2, none⟩ = some (.slice A n C) := fun o => by
    rw [← a2]
    exact ((Below.refl w3.heap.size w3).alloc (Nat.le_refl _) o).cell (p := ⟨b, 2, none⟩) (by have := HB4.out.size; have := HQ2.out.lt; show b < _; omega)
  clear hW4 hb4
  go_wp2
  go_upto_region 4 with fail
  go_region_law (first
    | (go_simp; rw [← HW4.out]; go_at_call 21; (with_reducible refine (CI.out).mono ?_); rintro e w5 ⟨A5, C5, rfl, HO5, HM5⟩; have HQ5 := Lib.hid (HQ4.out w5 _ HM5.out); obtain ⟨f0, f1, f2⟩ := HQ5.out.cells; have ff := HQ5.out.frozen 2)
    | fail)
  all_goals
    have HLN : Hid ((Q.ins r v).length = n + 1) := Lib.hid (by rw [Q.ins_length, HN.out.1])
    have HQ6 : Hid (QB (w5.setCell ⟨b, 2, none⟩ (.slice A5 (Q.ins r v).length C5)) b ⟨Q.room, p + 1, Q.ins r v⟩ A5 C5) := Lib.hid ⟨HQ5.out.setItems _, HO5.out.keep (fun g hg => Below.heap_setCell _ _ _ g (by
      rw [own_block] at hg
      rcases HM5.out.place with e | e
      · exact HGB.out g (by rw [← e]; exact hg)
      · have h1 := e g hg
        have h2 := HB5.out.size
        have h3 := HQ2.out.lt
        show g ≠ b
        omega))⟩
    have HF6 : Hid (Frm b (A.map Addr.block) w (w5.setCell ⟨b, 2, none⟩ (.slice A5 (Q.ins r v).length C5)) ∧ Moved w (A.map Addr.block) (A5.map Addr.block)) := Lib.hid ⟨((HF2.out.trans (Frm.of_below HB5.out)).trans (Frm.grown HM5.out.grown)).trans (Frm.setIn _ _ _ _ _), by
      refine Moved.trans (.inl rfl) ?_ HM5.out.place
      have h2 := HB5.out.size
      have h3 := HS2.out
      omega⟩
    rw [HLN.out] at HQ6 HF6 ⊢
    generalize w5.setCell ⟨b, 2, none⟩ (.slice A5 (n + 1) C5) = W6 at *
    obtain ⟨g0, g1, g2⟩ := HQ6.out.blk.cells
    have g2' : W6.cell? ⟨b, 2, none⟩ = some (.slice A5 (n + 1) C5) := by rw [g2]; show some (Value.slice A5 (Q.ins r v).length C5) = _; rw [HLN.out]
    clear f0 f1 f2 ff a2 a3 a4 a5 e4 g1 g2 HM5 HO5 HQ5
    go_upto_region 5 with fail
    go_quiet (fail)
    by_cases hroom : n < Q.room
    · have hr1 : (n : Int) + 1 ≤ (Q.room : Int) := by omega
      go_wp2
      go_ret2
      refine ⟨?_, Lib.hid ?_⟩
      · have e1 : Q.gone r v = 0 := by unfold Qn.gone; rw [if_pos (by rw [← HN.out.1]; exact hroom)]
        have e2 : decide (Q.room ≤ Q.l.length) = false := by rw [decide_eq_false_iff_not, ← HN.out.1]; omega
        rw [e1, e2]
        rfl
      · refine ⟨A5, C5, ?_, HF6.out.2, HF6.out.1.drewN nq⟩
        have e1 : Q.push r v = ⟨Q.room, p + 1, Q.ins r v⟩ := by unfold Qn.push; rw [if_pos (by rw [← HN.out.1]; exact hroom), HN.out.2.1]
        rw [e1]
        exact HQ6.out.drewN nq
    · have hr1 : ¬ (n : Int) + 1 ≤ (Q.room : Int) := by omega
      have hr2 : (n : Int) ≤ 256 := by have := HFT.out.len; have := HFT.out.hi; have := HN.out; omega
      have HLL := Lib.hid (last_split (Q.ins r v) n HLN.out)
      have CT : Hid (Calls Try.prog 22 #[.pointer (some ⟨b, 0, none⟩), .int .i64 (n : Int)] (W6.drewN nq) fun e w' => e = .returned ((Q.ins r v).getLastD ⟨0, 0, 0⟩).val ∧ Hid (QB w' b ⟨Q.room, p + 1, (Q.ins r v).dropLast⟩ A5 C5) ∧ Hid (Frm b (A5.map Addr.block) (W6.drewN nq) w')) := Lib.hid (by
        have := take_any ((Q.ins r v).getLastD ⟨0, 0, 0⟩) b n 0 ⟨Q.room, p + 1, Q.ins r v⟩ (Q.ins r v).dropLast [] A5 C5 HLL.out.1 HLL.out.2 rfl (by show (Q.ins r v).length ≤ 1000; have := HFT.out.len; have := HFT.out.hi; have := HN.out; rw [HLN.out]; omega) (W6.drewN nq) (HQ6.out.drewN nq)
        rwa [List.append_nil] at this)
      have HR := Lib.hid hroom
      have HG : Hid (Q.gone r v = ((Q.ins r v).getLastD ⟨0, 0, 0⟩).v) := Lib.hid (by unfold Qn.gone; rw [if_neg (by rw [← HN.out.1]; exact hroom)])
      unfold It.val at CT
      generalize ((Q.ins r v).getLastD ⟨0, 0, 0⟩).rank = yr at *
      generalize ((Q.ins r v).getLastD ⟨0, 0, 0⟩).num = yn at *
      generalize ((Q.ins r v).getLastD ⟨0, 0, 0⟩).v = yv at *
      have hfl : ∀ w, (Instr.field 62 (.agg #[.int .i64 yr, .int .i64 yn, .int .i64 yv]) 2).run Try.prog w = .ok (.int .i64 yv) w := fun w => item_field yr yn yv w
      clear hroom
      go_wp2_with (first
        | (go_at_call 22; (with_reducible refine (CT.out).mono ?_); rintro e w7 ⟨rfl, HQ7, HF7⟩)
        | fail)
      go_ret2
      refine ⟨?_, Lib.hid ?_⟩
      · have e2 : decide (Q.room ≤ Q.l.length) = true := by rw [decide_eq_true_iff, ← HN.out.1]; have := HR.out; omega
        rw [HG.out, e2]
        rfl
      · refine ⟨A5, C5, ?_, HF6.out.2, (HF6.out.1.drewN nq).then_ HF6.out.2 HF7.out⟩
        have e1 : Q.push r v = ⟨Q.room, p + 1, (Q.ins r v).dropLast⟩ := by unfold Qn.push; rw [if_neg (by rw [← HN.out.1]; exact HR.out), HN.out.2.1]
        rw [e1]
        exact HQ7.out
end Go.Proofs.Ytagcpnelobidnaa
