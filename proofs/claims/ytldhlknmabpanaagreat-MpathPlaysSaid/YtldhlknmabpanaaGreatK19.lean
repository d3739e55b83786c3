/-
  Own text: path.Order: what it compares by, and slices.SortStableFunc at few numbers, walked. (Written by gen_ptq.py.)
    slices.SortStableFunc at few numbers, path.Order, walked.
-/
import Derived.Test.YtldhlknmabpanaaGreatK07
import Derived.BigRegion
namespace Go.Proofs.YtldhlknmabpanaaGreat
open Go.RowKit

/-- Ways that came in: pointers to them, one behind the other. -/
def Ways (w : World) (A : Option Addr) (n : Nat) (pb po : Nat → Nat) (P : Nat → Pn) : Prop :=
  ∀ i, i < n → ∃ lb, A = some ⟨lb, 0, none⟩ ∧ w.cell? ⟨lb, i, none⟩ = some (.pointer (some ⟨pb i, po i, none⟩)) ∧ PLie w (pb i) (po i) (P i)
theorem Ways.below {w w' : World} {A : Option Addr} {n : Nat} {pb po : Nat → Nat} {P : Nat → Pn} (h : Ways w A n pb po P) {B : Nat} (hb : Below B w w') (hB : w.heap.size ≤ B) : Ways w' A n pb po P := fun i hi => by
  obtain ⟨lb, e, hc, hp⟩ := h i hi
  have h1 := World.block_lt_of_cell? w _ hc
  have h2 := hp.lt
  exact ⟨lb, e, (hb.cell (p := ⟨lb, i, none⟩) (by show lb < B; exact Nat.lt_of_lt_of_le h1 hB)).trans hc, hp.below hb (by omega)⟩
set_option maxRecDepth 100000 in
set_option maxHeartbeats 1000000 in
theorem cmpw_any {K : Nat} (A : Option Addr) (n C c : Nat) (pb po : Nat → Nat) (P : Nat → Pn) (hf : ∀ i, i < n → (P i).fit K) (hn : n ≤ 1000) (x y : Nat) (hx : x < n) (hy : y < n) (w : World) (hc : w.cell? ⟨c, 0, none⟩ = some (.slice A n C)) (hw : Ways w A n pb po P) :
    Calls Tryz.prog 88 #[.int .i64 x, .int .i64 y, .pointer (some ⟨c, 0, none⟩)] w fun e w' => e = .returned (.int .i64 ((P x).rk (P y))) ∧ Below w.heap.size w w' := by
  have hcl := World.block_lt_of_cell? w _ hc
  obtain ⟨lb, rfl, hcx, hpx⟩ := hw x hx
  obtain ⟨lb', e, hcy, hpy⟩ := hw y hy
  obtain rfl : lb' = lb := by simpa using e.symm
  have hll := World.block_lt_of_cell? w _ hcx
  have HC : Hid (∀ w', Below w.heap.size w w' → w'.cell? ⟨c, 0, none⟩ = some (.slice (some ⟨lb', 0, none⟩) n C) ∧ w'.cell? ⟨lb', x, none⟩ = some (.pointer (some ⟨pb x, po x, none⟩)) ∧ w'.cell? ⟨lb', y, none⟩ = some (.pointer (some ⟨pb y, po y, none⟩))) := Lib.hid (fun w' hb => ⟨(hb.cell (p := ⟨c, 0, none⟩) hcl).trans hc, (hb.cell (p := ⟨lb', x, none⟩) hll).trans hcx, (hb.cell (p := ⟨lb', y, none⟩) hll).trans hcy⟩)
  have CR : Hid (∀ w', Below w.heap.size w w' → Calls Tryz.prog 89 #[.pointer (some ⟨pb x, po x, none⟩), .pointer (some ⟨pb y, po y, none⟩)] w' fun e w1 => e = .returned (.int .i64 ((P x).rk (P y))) ∧ Below w.heap.size w w1) := Lib.hid (fun w' hb => (rank_any _ _ _ _ _ _ _ _ (hf x hx).st (hf y hy).st w' (hpx.below hb hpx.lt) (hpy.below hb hpy.lt)).mono fun _ _ hh => ⟨hh.1, hb.trans (hh.2.mono hb.size)⟩)
  have b0 : (0 : Int) ≤ (x : Int) := by omega
  have b1 : (x : Int) < (n : Int) := by omega
  have b2 : (0 : Int) ≤ (y : Int) := by omega
  have b3 : (y : Int) < (n : Int) := by omega
  have b4 : (n : Int) ≤ 1000 := by omega
  clear hf hw hcl hcx hcy hpx hpy hll hc e
  generalize (P x).rk (P y) = z at *
  generalize pb x = bx at *
  generalize po x = ox at *
  generalize pb y = by_ at *
  generalize po y = oy at *
  go_enter Tryz.func88, Tryz.ntmps88
  go_upto_region 1 with fail
  refine (wpIn_wide (n := 3)).1 ?_
  refine wpIn_grow_tail (fun w' => Below w.heap.size w w') (Below.refl _ _).drew 8 (by kernel_rfl) (by kernel_rfl) (by kernel_rfl) ?_
  simp only [List.take_succ_cons, List.take_zero, List.drop_succ_cons, List.drop_zero]
  refine wpQ_readw (.slice (some ⟨lb', 0, none⟩) n C) (fun _ _ _ _ => trivial) rfl (fun w' hw => ?_) ?_
  · obtain ⟨c0, c1, c2⟩ := HC.out w' hw
    unfold Oper.quietAtIn
    go_simp
  simp only [Act.put, List.setIfInBounds_toArray, List.set_cons_zero, List.set_cons_succ]
  iterate 2 (refine wpQuietIn_step (fun _ _ _ _ => trivial) (fun K hK => ?_); go_simp; refine ⟨_, fun _ _ => rfl, hK _ ?_⟩; clear hK K)
  refine wpQ_readw (.pointer (some ⟨bx, ox, none⟩)) (fun _ _ _ _ => trivial) rfl (fun w' hw => ?_) ?_
  · obtain ⟨c0, c1, c2⟩ := HC.out w' hw
    unfold Oper.quietAtIn
    go_simp
  simp only [Act.put, List.setIfInBounds_toArray, List.set_cons_zero, List.set_cons_succ]
  refine wpQ_readw (.slice (some ⟨lb', 0, none⟩) n C) (fun _ _ _ _ => trivial) rfl (fun w' hw => ?_) ?_
  · obtain ⟨c0, c1, c2⟩ := HC.out w' hw
    unfold Oper.quietAtIn
    go_simp
  simp only [Act.put, List.setIfInBounds_toArray, List.set_cons_zero, List.set_cons_succ]
  iterate 2 (refine wpQuietIn_step (fun _ _ _ _ => trivial) (fun K hK => ?_); go_simp; refine ⟨_, fun _ _ => rfl, hK _ ?_⟩; clear hK K)
  refine wpQ_readw (.pointer (some ⟨by_, oy, none⟩)) (fun _ _ _ _ => trivial) rfl (fun w' hw => ?_) ?_
  · obtain ⟨c0, c1, c2⟩ := HC.out w' hw
    unfold Oper.quietAtIn
    go_simp
  simp only [Act.put, List.setIfInBounds_toArray, List.set_cons_zero, List.set_cons_succ]
  refine wpQuietIn_nil ?_
  rintro w' hw
  have CR1 := Lib.hid (CR.out w' hw)
  clear hw
  gi_wp2
  refine ⟨trivial, callsIn_wide.2 ((CR1.out).mono ?_)⟩
  rintro e w2 ⟨rfl, hb2⟩
  have HB2 := Lib.hid hb2
  clear hb2
  gi_wp2
  go_wp2
  go_ret
  exact ⟨rfl, HB2.out⟩
/-- Numbers in a row. -/
abbrev Nrow (w : World) (g n : Nat) (D : Nat → Nat) : Prop := w.rowIs g 3 n (fun a => .int .i64 (D a : Int))
theorem Nrow.swp {w : World} {g n q : Nat} {D : Nat → Nat} (h : Nrow w g n D) : Nrow ((w.setCell ⟨g, q + 1, none⟩ (.int .i64 (D q : Int))).setCell ⟨g, q, none⟩ (.int .i64 (D (q + 1) : Int))) g n (swp D (q + 1)) :=
  (World.rowIs.set (World.rowIs.set h (q + 1) _) q _).congr (fun i _ => by
    unfold Go.Proofs.YtldhlknmabpanaaGreat.swp
    by_cases e : i = q
    · subst e
      simp
    · by_cases e2 : i = q + 1
      · subst e2
        simp
      · simp [e, e2])
theorem Frm13.below {g : Nat} {w w' w'' : World} (h : Frm13 g w w') (hb : Below w'.heap.size w' w'') : Frm13 g w w'' :=
  h.trans ⟨hb.os, hb.tape, hb.output, hb.size, fun k hk _ => hb.block k hk⟩
/-- What the sort compares by stays as it is. -/
def Kept (w : World) (g c : Nat) (A : Option Addr) (n C : Nat) (pb po : Nat → Nat) (P : Nat → Pn) : Prop := ∀ w', Frm13 g w w' → w'.cell? ⟨c, 0, none⟩ = some (.slice A n C) ∧ Ways w' A n pb po P
theorem Kept.of {w : World} {g c : Nat} {A : Option Addr} {n C : Nat} {pb po : Nat → Nat} {P : Nat → Pn} (hc : w.cell? ⟨c, 0, none⟩ = some (.slice A n C)) (hw : Ways w A n pb po P) (h1 : c ≠ g) (h2 : ∀ lb, A = some ⟨lb, 0, none⟩ → lb ≠ g) (h3 : ∀ i, i < n → pb i ≠ g) : Kept w g c A n C pb po P := fun w' h => by
  refine ⟨(World.cell?_of_block (w := w) (h.block _ (World.block_lt_of_cell? w _ hc) h1)).trans hc, fun i hi => ?_⟩
  obtain ⟨lb, e, hcell, hp⟩ := hw i hi
  exact ⟨lb, e, (World.cell?_of_block (w := w) (h.block _ (World.block_lt_of_cell? w _ hcell) (h2 lb e))).trans hcell, Lies.keep hp (h.block _ hp.lt (h3 i hi))⟩
set_option maxRecDepth 100000 in
set_option maxHeartbeats 4000000 in
theorem isort_any {K : Nat} (A : Option Addr) (n C c g : Nat) (pb po : Nat → Nat) (P : Nat → Pn) (hf : ∀ i, i < n → (P i).fit K) (hn : n ≤ 1000) (w : World) (hk : Kept w g c A n C pb po P) (hd : Nrow w g n (fun a => a)) :
    Calls Tryz.prog 129 #[.slice (some ⟨g, 0, none⟩) n n, .int .i64 0, .int .i64 n, .func (.func 88) #[] #[.pointer (some ⟨c, 0, none⟩)]] w fun e w' => ∃ D, e = .returned (.tuple #[]) ∧ Hid (Srt (fun k => (P k).state) (fun k => (P k).st.score) n D) ∧ Hid (Nrow w' g n D) ∧ Hid (Frm13 g w w') := by
  have HK := Lib.hid hk
  have HR := Lib.hid (rk_ahd P)
  have HF := Lib.hid hf
  have HD := Lib.hid hd
  have hn1 : (n : Int) ≤ 1000 := by omega
  have HN := Lib.hid hn
  clear hk hd hf hn
  generalize (fun k => (P k).state) = s at *
  generalize (fun k => (P k).st.score) = sc at *
  go_enter Tryz.func129, Tryz.ntmps129
  go_wp2
  go_loopw [8] (fun s8 wr => ∃ (i : Nat) (D : Nat → Nat), s8 = .int .i64 (i : Int) ∧ 1 ≤ i ∧ i ≤ 1001 ∧ Hid (i ≤ n ∨ i = 1) ∧ Hid (Srt s sc i D) ∧ Hid (∀ a, i ≤ a → D a = a) ∧ Hid (Nrow wr g n D) ∧ Hid (Frm13 g w wr)) (fun s8 _ => 1001 - (intOf s8).toNat)
  case atStart => exact ⟨1, fun a => a, rfl, Nat.le_refl _, by omega, Lib.hid (.inr rfl), Lib.hid (Srt.one s sc), Lib.hid (fun _ _ => rfl), HD, Lib.hid (Frm13.refl _ _)⟩
  case round =>
    obtain ⟨i, D0, rfl, hi1, hi2, HI, HS, HT, HW, HM⟩ := hrel
    clear HD
    by_cases hlt : i < n
    · have k1 : (i : Int) < n := by omega
      have k2 : (1 : Int) ≤ (i : Int) := by omega
      have HIN : Hid (i < n ∧ n ≤ 1000) := Lib.hid ⟨hlt, HN.out⟩
      have HY := Lib.hid (Way.start HS.out HT.out)
      have HM2 : Hid (1001 - (i + 1) < 1001 - i) := Lib.hid (by omega)
      clear HS HT HI hlt hi1 hi2
      go_wp2
      go_loopw [9] (fun s9 wx => ∃ (j : Nat) (D : Nat → Nat), s9 = .int .i64 (j : Int) ∧ Hid (Way s sc i j D) ∧ Hid (Nrow wx g n D) ∧ Hid (Frm13 g w wx)) (fun s9 _ => (intOf s9).toNat)
      case atStart => exact ⟨i, D0, rfl, HY, HW, HM⟩
      case round =>
        obtain ⟨j, D, rfl, HY2, HW2, HMX⟩ := hrel
        clear HY HW HM
        rcases Nat.eq_zero_or_pos j with rfl | hj
        · have HS2 := Lib.hid (HY2.out.done (.inl rfl))
          have HT2 := Lib.hid HY2.out.tail
          go_upto_region 4 with fail
          refine (wpIn_wide (n := 3)).1 ?_
          refine wpIn_class (fun w' => Below wr.heap.size wr w') (Below.refl _ _).drew rfl (by kernel_rfl) (by kernel_rfl) ?_
          iterate 4 (refine wpQuietIn_step (fun _ _ _ _ => trivial) (fun K hK => ?_); go_simp; refine ⟨_, fun _ _ => rfl, hK _ ?_⟩; clear hK K)
          iterate 12 (refine wpQuietIn_step (fun _ _ _ _ => trivial) (fun K hK => ?_); go_simp; refine hK _ ?_; clear hK K)
          (refine wpQuietIn_step (fun _ _ _ _ => trivial) (fun K hK => ?_); go_simp; refine ⟨_, fun _ _ => rfl, hK _ ?_⟩; clear hK K)
          refine wpQuietIn_nil ?_
          rintro w' hw
          have HM4 := Lib.hid (HMX.out.below hw)
          have HW4 : Hid (Nrow w' g n D) := Lib.hid (World.rowIs.of_block HW2.out (hw.block _ HW2.out.lt))
          clear hw
          go_wp2
          go_roundw
          case rel => exact ⟨i + 1, D, by go_num, by omega, by have := HIN.out; omega, Lib.hid (.inl (by have := HIN.out; omega)), HS2, Lib.hid (fun a ha => HT2.out a (by omega)), HW4, HM4⟩
          case measure => have := HM2.out; simp [intOf] <;> omega
        · obtain ⟨q, rfl⟩ : ∃ q, j = q + 1 := ⟨j - 1, by omega⟩
          have hq : q + 1 ≤ i := HY2.out.le
          have e1 : ((q + 1 : Nat) : Int) = (q : Int) + 1 := by omega
          rw [e1]
          have hin := HIN.out
          have l1 : D (q + 1) < n := by rw [HY2.out.at_]; omega
          have l2 : D q < n := by have := HY2.out.low q (by omega) (by omega); omega
          have HC2 : Hid (∀ w', Below wr.heap.size wr w' → w'.cell? ⟨g, q + 1, none⟩ = some (.int .i64 (D (q + 1) : Int)) ∧ w'.cell? ⟨g, q, none⟩ = some (.int .i64 (D q : Int))) := Lib.hid (fun w' hb => by
            have h : Nrow w' g n D := World.rowIs.of_block HW2.out (hb.block _ HW2.out.lt)
            exact ⟨h.cell (i := q + 1) (by omega), h.cell (i := q) (by omega)⟩)
          have CC : Hid (∀ w', Below wr.heap.size wr w' → Calls Tryz.prog 88 #[.int .i64 (D (q + 1) : Int), .int .i64 (D q : Int), .pointer (some ⟨c, 0, none⟩)] w' fun e w1 => e = .returned (.int .i64 ((P (D (q + 1))).rk (P (D q)))) ∧ Below wr.heap.size wr w1) := Lib.hid (fun w' hb => by
            obtain ⟨h1, h2⟩ := HK.out w' (HMX.out.below hb)
            exact (cmpw_any A n C c pb po P HF.out HN.out (D (q + 1)) (D q) l1 l2 w' h1 h2).mono fun _ _ hh => ⟨hh.1, hb.trans (hh.2.mono hb.size)⟩)
          have HRQ := Lib.hid (HR.out (D (q + 1)) (D q))
          have b0 : (0 : Int) ≤ (q : Int) := by omega
          have b1 : (q : Int) + 1 < (n : Int) := by omega
          have b2 : (q : Int) < (n : Int) := by omega
          have b3 : ((0 : Int) < (q : Int) + 1) = True := eq_true (by omega)
          have w1 : IntKind.i64.wrap ((q : Int) + 1 - 1) = (q : Int) := by rw [IntKind.wrap_i64]; omega
          have b4 : (q : Int) + 1 ≤ 1000 := by omega
          have b5 : (0 : Int) ≤ (q : Int) + 1 := by omega
          have w0 : IntKind.i64.wrap (q : Int) = (q : Int) := by rw [IntKind.wrap_i64]; omega
          clear hin hq l1 l2 e1 hj
          obtain ⟨u, hu⟩ : ∃ u, u = D (q + 1) := ⟨_, rfl⟩
          obtain ⟨v, hv⟩ : ∃ v, v = D q := ⟨_, rfl⟩
          rw [← hu, ← hv] at HC2 CC HRQ
          have HU := Lib.hid hu
          have HV := Lib.hid hv
          clear hu hv
          generalize (P u).rk (P v) = z at *
          go_upto_region 4 with fail
          refine (wpIn_wide (n := 3)).1 ?_
          refine wpIn_class (fun w' => Below wr.heap.size wr w') (Below.refl _ _).drew rfl (by kernel_rfl) (by kernel_rfl) ?_
          iterate 8 (refine wpQuietIn_step (fun _ _ _ _ => trivial) (fun K hK => ?_); go_simp; refine ⟨_, fun _ _ => rfl, hK _ ?_⟩; clear hK K)
          refine wpQ_readw (.int .i64 (u : Int)) (fun _ _ _ _ => trivial) rfl (fun w' hw => ?_) ?_
          · obtain ⟨c0, c1⟩ := HC2.out w' hw
            unfold Oper.quietAtIn
            go_simp
          simp only [Act.put, List.setIfInBounds_toArray, List.set_cons_zero, List.set_cons_succ]
          iterate 4 (refine wpQuietIn_step (fun _ _ _ _ => trivial) (fun K hK => ?_); go_simp; refine ⟨_, fun _ _ => rfl, hK _ ?_⟩; clear hK K)
          refine wpQ_readw (.int .i64 (v : Int)) (fun _ _ _ _ => trivial) rfl (fun w' hw => ?_) ?_
          · obtain ⟨c0, c1⟩ := HC2.out w' hw
            unfold Oper.quietAtIn
            go_simp
          simp only [Act.put, List.setIfInBounds_toArray, List.set_cons_zero, List.set_cons_succ]
          refine wpQuietIn_step (fun _ _ _ _ => trivial) (fun K hK => ?_)
          go_simp
          refine ⟨.int .i64 z, fun w' hw => callsIn_wide.2 (CC.out w' hw), hK _ ?_⟩
          clear hK K
          iterate 2 (refine wpQuietIn_step (fun _ _ _ _ => trivial) (fun K hK => ?_); go_simp; refine ⟨_, fun _ _ => rfl, hK _ ?_⟩; clear hK K)
          refine wpQuietIn_nil ?_
          rintro w' hw
          have HM4 := Lib.hid (HMX.out.below hw)
          have HW4 : Hid (Nrow w' g n D) := Lib.hid (World.rowIs.of_block HW2.out (hw.block _ HW2.out.lt))
          obtain ⟨c0, c1⟩ := HC2.out w' hw
          have f0 := HW4.out.frozen (q + 1)
          have f1 := HW4.out.frozen q
          clear hw
          by_cases hz : z < 0
          · have HY5 := Lib.hid (HY2.out.step (by omega) (by show Ahd s sc (D (q + 1)) (D q); rw [← HU.out, ← HV.out]; exact HRQ.out.1 hz))
            have HW5 := Lib.hid (Nrow.swp (q := q) HW4.out)
            have hne : ¬ q + 1 = q := by omega
            have hne2 : ¬ q = q + 1 := by omega
            rw [← HU.out, ← HV.out] at HW5
            go_upto_region 6 with fail
            go_region
            go_wp2
            go_roundw
            case rel => exact ⟨q, swp D (q + 1), by go_num, HY5, Lib.hid HW5.out, Lib.hid ((HM4.out.set _ _).set _ _).drew⟩
            case measure => simp [intOf]
          · have HS2 := Lib.hid (HY2.out.done (.inr (by show ¬ Ahd s sc (D (q + 1)) (D q); rw [← HU.out, ← HV.out]; exact fun h => hz (HRQ.out.2 h))))
            have HT2 := Lib.hid HY2.out.tail
            go_wp2
            go_roundw
            case rel => exact ⟨i + 1, D, by go_num, by omega, by have := HIN.out; omega, Lib.hid (.inl (by have := HIN.out; omega)), HS2, Lib.hid (fun a ha => HT2.out a (by omega)), HW4, HM4⟩
            case measure => have := HM2.out; simp [intOf] <;> omega
    · have HS2 : Hid (Srt s sc n D0) := Lib.hid (by
        rcases HI.out with h | h
        · obtain rfl : i = n := by omega
          exact HS.out
        · by_cases h0 : n = 0
          · subst h0
            exact ⟨fun a h => by omega, fun a b h1 h2 => by omega, fun v h => by omega⟩
          · obtain rfl : i = n := by omega
            exact HS.out)
      go_wp2
      go_end0
      exact ⟨D0, rfl, HS2, HW, HM⟩
end Go.Proofs.YtldhlknmabpanaaGreat
namespace Go.Proofs.YtldhlknmabpanaaGreat
open Go.RowKit

set_option maxRecDepth 100000 in
set_option maxHeartbeats 1000000 in
theorem stable_any {K : Nat} (A : Option Addr) (n C c g : Nat) (pb po : Nat → Nat) (P : Nat → Pn) (hf : ∀ i, i < n → (P i).fit K) (hn : n ≤ 19) (w : World) (hk : Kept w g c A n C pb po P) (hd : Nrow w g n (fun a => a)) :
    Calls Tryz.prog 112 #[.slice (some ⟨g, 0, none⟩) n n, .int .i64 n, .func (.func 88) #[] #[.pointer (some ⟨c, 0, none⟩)]] w fun e w' => ∃ D, e = .returned (.tuple #[]) ∧ Hid (Srt (fun k => (P k).state) (fun k => (P k).st.score) n D) ∧ Hid (Nrow w' g n D) ∧ Hid (Frm13 g w w') := by
  have CI := Lib.hid (isort_any A n C c g pb po P hf (by omega) w hk hd)
  have h1 : (n : Int) ≤ 19 := by omega
  have h2 : ¬ (20 : Int) ≤ (n : Int) := by omega
  have h3 : ¬ (20 : Int) < (n : Int) := by omega
  clear hf hn hk hd
  go_enter Tryz.func112, Tryz.ntmps112
  go_wp2
  go_loopw [7, 8] (fun s7 s8 wr => s7 = .int .i64 0 ∧ s8 = .int .i64 20 ∧ Hid (wr = w)) (fun _ _ _ => 0)
  case atStart => exact ⟨rfl, rfl, Lib.hid rfl⟩
  case round =>
    obtain ⟨rfl, rfl, HW⟩ := hrel
    have hw := HW.out.symm
    subst hw
    go_wp2_with (first
      | (go_at_call 129; (with_reducible refine (CI.out).mono ?_); rintro e w1 ⟨D, rfl, HS, HD, HM⟩)
      | fail)
    go_loopw [6] (fun s6 wx => s6 = .int .i64 20 ∧ Hid (wx = w1)) (fun _ _ => 0)
    case atStart => exact ⟨rfl, Lib.hid rfl⟩
    case round =>
      obtain ⟨rfl, HW2⟩ := hrel
      have hw := HW2.out.symm
      subst hw
      go_wp2
      go_end0
      exact ⟨rfl, D, HS, HD, HM⟩
theorem sort_any {K : Nat} (A : Option Addr) (n C c g : Nat) (pb po : Nat → Nat) (P : Nat → Pn) (hf : ∀ i, i < n → (P i).fit K) (hn : n ≤ 19) (w : World) (hk : Kept w g c A n C pb po P) (hd : Nrow w g n (fun a => a)) :
    Calls Tryz.prog 87 #[.slice (some ⟨g, 0, none⟩) n n, .func (.func 88) #[] #[.pointer (some ⟨c, 0, none⟩)]] w fun e w' => ∃ D, e = .returned (.tuple #[]) ∧ Hid (Srt (fun k => (P k).state) (fun k => (P k).st.score) n D) ∧ Hid (Nrow w' g n D) ∧ Hid (Frm13 g w w') := by
  have CI := Lib.hid (stable_any A n C c g pb po P hf hn w hk hd)
  have h1 : (n : Int) ≤ 19 := by omega
  clear hf hn hk hd
  go_enter Tryz.func87, Tryz.ntmps87
  go_wp2_with (first
    | (go_at_call 112; (with_reducible refine (CI.out).mono ?_); rintro e w1 ⟨D, rfl, HS, HD, HM⟩)
    | fail)
  go_end0
  exact ⟨D, rfl, HS, HD, HM⟩
/-- The first j are numbered. -/
def upto (j : Nat) (a : Nat) : Nat := if a < j then a else 0
theorem upto_row {w : World} {g n j : Nat} (h : Nrow w g n (upto j)) : Nrow (w.setCell ⟨g, j, none⟩ (.int .i64 (j : Int))) g n (upto (j + 1)) :=
  (World.rowIs.set h j _).congr (fun i _ => by
    unfold upto
    by_cases e : i = j
    · subst e; simp
    · have : (i < j + 1) = (i < j) := by apply propext; omega
      simp [e, this])
set_option maxRecDepth 100000 in
set_option maxHeartbeats 1000000 in
theorem order_any {K : Nat} (A : Option Addr) (n C : Nat) (pb po : Nat → Nat) (P : Nat → Pn) (hf : ∀ i, i < n → (P i).fit K) (hn : n ≤ 19) (w : World) (hw : Ways w A n pb po P) :
    Calls Tryz.prog 52 #[.slice A n C] w fun e w' => ∃ g D, e = .returned (.slice (some ⟨g, 0, none⟩) n n) ∧ Hid (Srt (fun k => (P k).state) (fun k => (P k).st.score) n D) ∧ Hid (Nrow w' g n D) ∧ Hid (Below w.heap.size w w') ∧ Hid (w.heap.size ≤ g) := by
  obtain ⟨W, hW⟩ : ∃ W, W = w.alloc (.cells #[.slice A n C] 120) := ⟨_, rfl⟩
  have hbW : Below w.heap.size w W := by rw [hW]; exact (Below.refl _ _).alloc (Nat.le_refl _) _
  have hcW : W.cell? ⟨w.heap.size, 0, none⟩ = some (.slice A n C) := by
    rw [hW]
    exact (Lies.new w #[.slice A n C] _ (Below.refl _ _)).cell 0 (by decide : 0 < 1)
  have hsW : W.heap.size = w.heap.size + 1 := by rw [hW]; simp
  have hwW := hw.below hbW (Nat.le_refl _)
  have hlt : ∀ i, i < n → pb i < w.heap.size := fun i hi => by obtain ⟨_, _, _, hp⟩ := hw i hi; exact hp.lt
  have hla : ∀ lb, A = some ⟨lb, 0, none⟩ → n = 0 ∨ lb < w.heap.size := fun lb e => by
    by_cases h0 : n = 0
    · exact .inl h0
    · obtain ⟨lb', e', hc, _⟩ := hw 0 (by omega)
      have := World.block_lt_of_cell? w _ hc
      rw [e] at e'
      obtain rfl : lb = lb' := by simpa using e'
      exact .inr this
  have n1 : (n : Int) ≤ 19 := by omega
  have hwr : IntKind.i64.wrap (n : Int) = (n : Int) := by rw [IntKind.wrap_i64]; omega
  have hmk : ∀ w : World, (Instr.makeSlice 82 (.int .i64 (n : Int)) (.int .i64 (n : Int))).run Tryz.prog w = .ok (.slice (some ⟨w.heap.size, 0, none⟩) n n) (w.alloc (.cells (madeCells #[.int .i64 0] n) 3)) := fun w =>
    run_make_row' (P := Tryz.prog) 82 3 (.int .i64 0) 8 Tryz.underlying82 (by kernel_rfl) rfl .i64 .i64 n (by omega) (by omega) w
  have hbN : Below W.heap.size W (W.alloc (.cells (madeCells #[.int .i64 0] n) 3)) := (Below.refl _ _).alloc (Nat.le_refl _) _
  have HD0 : Hid (Nrow (W.alloc (.cells (madeCells #[.int .i64 0] n) 3)) W.heap.size n (upto 0)) := Lib.hid ((World.rowIs_made W (.int .i64 0) n 3).congr (fun i _ => by unfold upto; simp))
  have HK0 : Hid (Kept (W.alloc (.cells (madeCells #[.int .i64 0] n) 3)) W.heap.size w.heap.size A n C pb po P) := Lib.hid (by
    by_cases h0 : n = 0
    · intro w' h
      refine ⟨(World.cell?_of_block (w := W.alloc (.cells (madeCells #[.int .i64 0] n) 3)) (h.block w.heap.size (by rw [World.alloc]; simp [hsW]; omega) (by omega))).trans ((hbN.cell (p := ⟨w.heap.size, 0, none⟩) (by show w.heap.size < W.heap.size; omega)).trans hcW), fun i hi => by omega⟩
    · exact Kept.of ((hbN.cell (p := ⟨w.heap.size, 0, none⟩) (by show w.heap.size < W.heap.size; omega)).trans hcW) (hwW.below hbN (Nat.le_refl _)) (by omega) (fun lb e => by
        have := hla lb e
        omega) (fun i hi => by have := hlt i hi; omega))
  have HB0 : Hid (Below w.heap.size w (W.alloc (.cells (madeCells #[.int .i64 0] n) 3))) := Lib.hid (hbW.trans (hbN.mono hbW.size))
  have HG : Hid (w.heap.size ≤ W.heap.size) := Lib.hid hbW.size
  have HGL : Hid (W.heap.size < (W.alloc (.cells (madeCells #[.int .i64 0] n) 3)).heap.size) := Lib.hid (by simp)
  have CS : Hid (∀ (w' : World), Kept w' W.heap.size w.heap.size A n C pb po P → Nrow w' W.heap.size n (fun a => a) → _) := Lib.hid (fun w' hk hd => sort_any A n C w.heap.size W.heap.size pb po P hf hn w' hk hd)
  clear hw hwW hlt hla hbW hsW hf hn hbN
  go_enter Tryz.func52, Tryz.ntmps52
  go_upto_region 1 with fail
  rw [← hW]
  clear hW
  go_upto_region 2 with fail
  generalize W.alloc (.cells (madeCells #[.int .i64 0] n) 3) = W2 at *
  have hcW2 : W2.cell? ⟨w.heap.size, 0, none⟩ = some (.slice A n C) := (HK0.out W2 (Frm13.refl _ _)).1
  generalize W.heap.size = g at *
  clear hcW hmk
  go_wp2
  go_loopw [10] (fun i wr => ∃ j : Nat, i = .int .i64 (j : Int) ∧ Hid (j ≤ n) ∧ Hid (Nrow wr g n (upto j)) ∧ Hid (Frm13 g W2 wr)) (fun i _ => n - (intOf i).toNat)
  case atStart => exact ⟨0, rfl, Lib.hid (Nat.zero_le _), HD0, Lib.hid (Frm13.refl _ _)⟩
  case round =>
    obtain ⟨j, rfl, HJ, HD, HM⟩ := hrel
    clear HD0 hcW2
    have hj := HJ.out
    by_cases hlt : j < n
    · have k1 : (j : Int) < n := by omega
      have k2 : (0 : Int) ≤ (j : Int) := by omega
      have cj : wr.cell? ⟨g, j, none⟩ = some (.int .i64 (upto j j : Int)) := HD.out.cell (i := j) hlt
      have fj := HD.out.frozen j
      have HD2 := Lib.hid (upto_row HD.out)
      have HM2 := Lib.hid (HM.out.set j (.int .i64 (j : Int)))
      have HJ2 : Hid (j + 1 ≤ n) := Lib.hid hlt
      have HDM : Hid (n - (j + 1) < n - j) := Lib.hid (by omega)
      clear hlt hj HD HM
      go_wp2
      go_roundw
      case rel => exact ⟨j + 1, by go_num, HJ2, HD2, HM2⟩
      case measure => have := HDM.out; simp [intOf] <;> omega
    · obtain rfl : j = n := by omega
      have HDN : Hid (Nrow wr g j (fun a => a)) := Lib.hid (World.rowIs.congr HD.out (fun i hi => by unfold upto; rw [if_pos hi]))
      have HKR : Hid (Kept wr g w.heap.size A j C pb po P) := Lib.hid (fun w' h => HK0.out w' (HM.out.trans h))
      have CS1 := Lib.hid (CS.out wr HKR.out HDN.out)
      clear hlt hj CS
      go_wp2_with (first
        | (go_at_call 87; (with_reducible refine (CS1.out).mono ?_); rintro e w3 ⟨D, rfl, HS3, HD3, HM3⟩)
        | fail)
      go_ret
      refine ⟨g, D, rfl, HS3, HD3, Lib.hid ?_, HG⟩
      have h := HM.out.trans HM3.out
      exact h.bel HB0.out HB0.out.size HG.out
end Go.Proofs.YtldhlknmabpanaaGreat
