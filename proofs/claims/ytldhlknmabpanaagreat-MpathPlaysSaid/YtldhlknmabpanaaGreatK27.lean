/-
  Own text: the document's Better and Order, walked. (Written by gen_ptv.py.)
    the document's Order, walked. (Written by gen_ptw.py.)
-/
import Derived.Test.YtldhlknmabpanaaGreatK07
import Derived.Test.YtldhlknmabpanaaGreatK26
namespace Go.Proofs.YtldhlknmabpanaaGreat
open Go.RowKit

/-- The document's answer on two ways. -/
def Pn.bet (a b : Pn) : Bool := if a.state = b.state then decide (b.st.score < a.st.score) else decide (a.state < b.state)
theorem bet_ahd (P : Nat → Pn) (i j : Nat) : (P i).bet (P j) = true ↔ Ahd (fun k => (P k).state) (fun k => (P k).st.score) i j := by
  unfold Pn.bet Ahd
  dsimp only
  split
  · rename_i h; simp [h]
  · rename_i h; simp [h]
theorem two37 (w : World) (p q : Pn) {W : World} (hW : W = (w.alloc (.cells (rowOf 78 p.dc) 34)).alloc (.cells (rowOf 78 q.dc) 34)) :
    Below w.heap.size w W ∧ ∀ w', Below W.heap.size W w' → RB w' w.heap.size p ∧ RB w' (w.heap.size + 1) q := by
  subst hW
  refine ⟨((Below.refl _ _).alloc (Nat.le_refl _) _).alloc (by simp) _, fun w' hb => ⟨?_, ?_⟩⟩
  · have h : RB ((w.alloc (.cells (rowOf 78 p.dc) 34)).alloc (.cells (rowOf 78 q.dc) 34)) w.heap.size p := (RB.new w p).alloc _
    exact h.below hb h.lt
  · have h := RB.new (w.alloc (.cells (rowOf 78 p.dc) 34)) q
    rw [show (w.alloc (.cells (rowOf 78 p.dc) 34)).heap.size = w.heap.size + 1 by simp] at h
    exact h.below hb h.lt
set_option maxRecDepth 100000 in
set_option maxHeartbeats 4000000 in
theorem rbetter_any {K : Nat} (p q : Pn) (hp : p.fit K) (hq : q.fit K) (w : World) :
    Calls Tryz.prog 119 #[.agg (rowOf 78 p.dc), .agg (rowOf 78 q.dc)] w fun e w' => e = .returned (.bool (p.bet q)) ∧ Below w.heap.size w w' := by
  obtain ⟨W, hW⟩ : ∃ W, W = (w.alloc (.cells (rowOf 78 p.dc) 34)).alloc (.cells (rowOf 78 q.dc) 34) := ⟨_, rfl⟩
  obtain ⟨hb, hx⟩ := two37 w p q hW
  have HB := Lib.hid hb
  have HX := Lib.hid hx
  have CA := Lib.hid (fun w' => rstate_any p w')
  have CB := Lib.hid (fun w' => rstate_any q w')
  have CC := Lib.hid (fun w' => rscore13_any p.st _ hp.st w')
  have CD := Lib.hid (fun w' => rscore13_any q.st _ hq.st w')
  have HZ : Hid ((p.state = q.state → p.bet q = decide (q.st.score < p.st.score)) ∧ (¬ p.state = q.state → p.bet q = decide (p.state < q.state))) := Lib.hid ⟨fun h => if_pos h, fun h => if_neg h⟩
  simp only [SV_is] at CC CD
  generalize p.bet q = z at *
  generalize p.state = sp at *
  generalize q.state = sq at *
  generalize p.st.score = cp at *
  generalize q.st.score = cq at *
  obtain ⟨R1, hR1⟩ : ∃ R1, R1 = rowOf 78 p.dc := ⟨_, rfl⟩
  obtain ⟨R2, hR2⟩ : ∃ R2, R2 = rowOf 78 q.dc := ⟨_, rfl⟩
  rw [← hR1, ← hR2] at hW ⊢
  clear hb hx hp hq hR1 hR2
  go_enter Tryz.func119, Tryz.ntmps119
  go_upto_region 1 with fail
  rw [← hW]
  clear hW
  have CA1 : Hid (∀ w', Below W.heap.size W w' → Calls Tryz.prog 60 #[.agg (rowOf 78 p.dc)] w' fun e w1 => e = .returned (.int .i64 sp) ∧ Below W.heap.size W w1) := Lib.hid (fun w' h => (CA.out w').mono fun _ _ hh => ⟨hh.1, h.trans (hh.2.mono h.size)⟩)
  have CB1 : Hid (∀ w', Below W.heap.size W w' → Calls Tryz.prog 60 #[.agg (rowOf 78 q.dc)] w' fun e w1 => e = .returned (.int .i64 sq) ∧ Below W.heap.size W w1) := Lib.hid (fun w' h => (CB.out w').mono fun _ _ hh => ⟨hh.1, h.trans (hh.2.mono h.size)⟩)
  refine (wpIn_wide (n := 3)).1 ?_
  refine wpIn_class (fun w' => Below W.heap.size W w') (Below.refl _ _).drew rfl (by kernel_rfl) (by kernel_rfl) ?_
  refine wpQ_readw (.agg (rowOf 78 p.dc)) (fun _ _ _ _ => trivial) rfl (fun w' hw => ?_) ?_
  · exact quiet_load 34 _ (.pointer (some ⟨w.heap.size, 0, none⟩)) rfl rfl (RB.load (HX.out w' hw).1)
  simp only [Act.put, List.setIfInBounds_toArray, List.set_cons_zero, List.set_cons_succ]
  refine wpQuietIn_step (fun _ _ _ _ => trivial) (fun K hK => ?_)
  go_simp
  refine ⟨.int .i64 sp, fun w' hw => callsIn_wide.2 (CA1.out w' hw), hK _ ?_⟩
  clear hK K
  refine wpQ_readw (.agg (rowOf 78 q.dc)) (fun _ _ _ _ => trivial) rfl (fun w' hw => ?_) ?_
  · exact quiet_load 34 _ (.pointer (some ⟨w.heap.size + 1, 0, none⟩)) rfl rfl (RB.load (HX.out w' hw).2)
  simp only [Act.put, List.setIfInBounds_toArray, List.set_cons_zero, List.set_cons_succ]
  refine wpQuietIn_step (fun _ _ _ _ => trivial) (fun K hK => ?_)
  go_simp
  refine ⟨.int .i64 sq, fun w' hw => callsIn_wide.2 (CB1.out w' hw), hK _ ?_⟩
  clear hK K
  (refine wpQuietIn_step (fun _ _ _ _ => trivial) (fun K hK => ?_); go_simp; refine ⟨_, fun _ _ => rfl, hK _ ?_⟩; clear hK K)
  refine wpQuietIn_nil ?_
  rintro w5 hw5
  have HB5 := Lib.hid (HB.out.trans (hw5.mono HB.out.size))
  have HX5 : Hid (∀ w', Below w5.heap.size w5 w' → RB w' w.heap.size p ∧ RB w' (w.heap.size + 1) q) := Lib.hid (fun w' h => HX.out w' (hw5.trans (h.mono hw5.size)))
  clear hw5 HX HB CA1 CB1
  have CA5 : Hid (∀ w', Below w5.heap.size w5 w' → Calls Tryz.prog 60 #[.agg (rowOf 78 p.dc)] w' fun e w1 => e = .returned (.int .i64 sp) ∧ Below w5.heap.size w5 w1) := Lib.hid (fun w' h => (CA.out w').mono fun _ _ hh => ⟨hh.1, h.trans (hh.2.mono h.size)⟩)
  have CB5 : Hid (∀ w', Below w5.heap.size w5 w' → Calls Tryz.prog 60 #[.agg (rowOf 78 q.dc)] w' fun e w1 => e = .returned (.int .i64 sq) ∧ Below w5.heap.size w5 w1) := Lib.hid (fun w' h => (CB.out w').mono fun _ _ hh => ⟨hh.1, h.trans (hh.2.mono h.size)⟩)
  have CC5 : Hid (∀ w', Below w5.heap.size w5 w' → Calls Tryz.prog 136 #[.agg #[.int .i64 p.st.lo, .int .i64 p.st.rt, .int .i64 p.st.va, .int .i64 p.st.ma, .int .i64 p.st.tr]] w' fun e w1 => e = .returned (.int .i64 cp) ∧ Below w5.heap.size w5 w1) := Lib.hid (fun w' h => (CC.out w').mono fun _ _ hh => ⟨hh.1, h.trans (hh.2.mono h.size)⟩)
  have CD5 : Hid (∀ w', Below w5.heap.size w5 w' → Calls Tryz.prog 136 #[.agg #[.int .i64 q.st.lo, .int .i64 q.st.rt, .int .i64 q.st.va, .int .i64 q.st.ma, .int .i64 q.st.tr]] w' fun e w1 => e = .returned (.int .i64 cq) ∧ Below w5.heap.size w5 w1) := Lib.hid (fun w' h => (CD.out w').mono fun _ _ hh => ⟨hh.1, h.trans (hh.2.mono h.size)⟩)
  by_cases hs : sp = sq
  · have HZ1 := Lib.hid (HZ.out.1 hs)
    have hs2 : (sp != sq) = false := by simp [hs]
    clear hs HZ
    go_upto_region 3 with fail
    refine (wpIn_wide (n := 3)).1 ?_
    refine wpIn_class (fun w' => Below w5.heap.size w5 w') (Below.refl _ _).drew rfl (by kernel_rfl) (by kernel_rfl) ?_
    (refine wpQuietIn_step (fun _ _ _ _ => trivial) (fun K hK => ?_); go_simp; refine ⟨_, fun _ _ => rfl, hK _ ?_⟩; clear hK K)
    refine wpQ_readw (.agg #[.int .i64 p.st.lo, .int .i64 p.st.rt, .int .i64 p.st.va, .int .i64 p.st.ma, .int .i64 p.st.tr]) (fun _ _ _ _ => trivial) rfl (fun w' hw => ?_) ?_
    · obtain ⟨c0, c1, c2, c3, c4⟩ := (HX5.out w' hw).1.five
      unfold Oper.quietAtIn
      go_simp
    simp only [Act.put, List.setIfInBounds_toArray, List.set_cons_zero, List.set_cons_succ]
    refine wpQuietIn_step (fun _ _ _ _ => trivial) (fun K hK => ?_)
    go_simp
    refine ⟨.int .i64 cp, fun w' hw => callsIn_wide.2 (CC5.out w' hw), hK _ ?_⟩
    clear hK K
    (refine wpQuietIn_step (fun _ _ _ _ => trivial) (fun K hK => ?_); go_simp; refine ⟨_, fun _ _ => rfl, hK _ ?_⟩; clear hK K)
    refine wpQ_readw (.agg #[.int .i64 q.st.lo, .int .i64 q.st.rt, .int .i64 q.st.va, .int .i64 q.st.ma, .int .i64 q.st.tr]) (fun _ _ _ _ => trivial) rfl (fun w' hw => ?_) ?_
    · obtain ⟨c0, c1, c2, c3, c4⟩ := (HX5.out w' hw).2.five
      unfold Oper.quietAtIn
      go_simp
    simp only [Act.put, List.setIfInBounds_toArray, List.set_cons_zero, List.set_cons_succ]
    refine wpQuietIn_step (fun _ _ _ _ => trivial) (fun K hK => ?_)
    go_simp
    refine ⟨.int .i64 cq, fun w' hw => callsIn_wide.2 (CD5.out w' hw), hK _ ?_⟩
    clear hK K
    iterate 2 (refine wpQuietIn_step (fun _ _ _ _ => trivial) (fun K hK => ?_); go_simp; refine ⟨_, fun _ _ => rfl, hK _ ?_⟩; clear hK K)
    refine wpQuietIn_nil ?_
    rintro w6 hw6
    have HB6 := Lib.hid (HB5.out.trans (hw6.mono HB5.out.size))
    clear hw6
    go_wp2
    go_ret
    exact ⟨ret_bool (by rw [HZ1.out]), HB6.out⟩
  · have HZ1 := Lib.hid (HZ.out.2 hs)
    have hs2 : (sp != sq) = true := by simp [hs]
    clear hs HZ
    go_upto_region 2 with fail
    refine (wpIn_wide (n := 3)).1 ?_
    refine wpIn_class (fun w' => Below w5.heap.size w5 w') (Below.refl _ _).drew rfl (by kernel_rfl) (by kernel_rfl) ?_
    refine wpQ_readw (.agg (rowOf 78 p.dc)) (fun _ _ _ _ => trivial) rfl (fun w' hw => ?_) ?_
    · exact quiet_load 34 _ (.pointer (some ⟨w.heap.size, 0, none⟩)) rfl rfl (RB.load (HX5.out w' hw).1)
    simp only [Act.put, List.setIfInBounds_toArray, List.set_cons_zero, List.set_cons_succ]
    refine wpQuietIn_step (fun _ _ _ _ => trivial) (fun K hK => ?_)
    go_simp
    refine ⟨.int .i64 sp, fun w' hw => callsIn_wide.2 (CA5.out w' hw), hK _ ?_⟩
    clear hK K
    refine wpQ_readw (.agg (rowOf 78 q.dc)) (fun _ _ _ _ => trivial) rfl (fun w' hw => ?_) ?_
    · exact quiet_load 34 _ (.pointer (some ⟨w.heap.size + 1, 0, none⟩)) rfl rfl (RB.load (HX5.out w' hw).2)
    simp only [Act.put, List.setIfInBounds_toArray, List.set_cons_zero, List.set_cons_succ]
    refine wpQuietIn_step (fun _ _ _ _ => trivial) (fun K hK => ?_)
    go_simp
    refine ⟨.int .i64 sq, fun w' hw => callsIn_wide.2 (CB5.out w' hw), hK _ ?_⟩
    clear hK K
    iterate 2 (refine wpQuietIn_step (fun _ _ _ _ => trivial) (fun K hK => ?_); go_simp; refine ⟨_, fun _ _ => rfl, hK _ ?_⟩; clear hK K)
    refine wpQuietIn_nil ?_
    rintro w6 hw6
    have HB6 := Lib.hid (HB5.out.trans (hw6.mono HB5.out.size))
    clear hw6
    go_wp2
    go_ret
    exact ⟨ret_bool (by rw [HZ1.out]), HB6.out⟩
end Go.Proofs.YtldhlknmabpanaaGreat
namespace Go.Proofs.YtldhlknmabpanaaGreat
open Go.RowKit

/-- Ways by value that came in, one behind the other. -/
def RWays (w : World) (A : Option Addr) (n : Nat) (P : Nat → Pn) : Prop :=
  ∀ i, i < n → ∃ lb, A = some ⟨lb, 0, none⟩ ∧ w.rangeAt lb (i * 78) ((List.range 78).map (P i).dc)
theorem RWays.below {w w' : World} {A : Option Addr} {n : Nat} {P : Nat → Pn} (h : RWays w A n P) {B : Nat} (hb : Below B w w') (hB : w.heap.size ≤ B) : RWays w' A n P := fun i hi => by
  obtain ⟨lb, e, hr⟩ := h i hi
  refine ⟨lb, e, fun j v hv => ?_⟩
  have hc := hr j v hv
  have h1 := World.block_lt_of_cell? w _ hc
  exact (hb.cell (p := ⟨lb, i * 78 + j, none⟩) (by show lb < B; exact Nat.lt_of_lt_of_le h1 hB)).trans hc
theorem RWays.load {w : World} {lb n : Nat} {P : Nat → Pn} (h : RWays w (some ⟨lb, 0, none⟩) n P) {i : Nat} (hi : i < n) : (Instr.loadAt 34 (.pointer (some ⟨lb, i * 78, none⟩))).run Tryz.prog w = .ok (.agg (rowOf 78 (P i).dc)) w := by
  obtain ⟨lb', e, hr⟩ := h i hi
  obtain rfl : lb = lb' := by simpa using e
  exact run_loadAt_mid w lb (i * 78) 34 ((List.range 78).map (P i).dc) _ hr Tryz.underlying34 rfl (by rw [info37]; simp)
theorem box_int (w : World) (v : Int) : (w.alloc (.cells #[.int .i64 v] 3)).cell? ⟨w.heap.size, 0, none⟩ = some (.int .i64 v) := (Lies.new w #[.int .i64 v] _ (Below.refl _ _)).cell 0 (by decide : 0 < 1)
/-- The numbers that were chosen. -/
def chs (O : Nat → Nat) (k : Nat) : List Int := (List.range k).map (fun a => (O a : Int))
theorem chs_put (O : Nat → Nat) (k j : Nat) : chs O k ++ [(j : Int)] = chs (fun a => if a = k then j else O a) (k + 1) := by
  unfold chs
  rw [List.range_succ, List.map_append]
  congr 1
  · apply List.map_congr_left
    intro a ha
    have h : ¬ a = k := by have := List.mem_range.1 ha; omega
    show (O a : Int) = ((if a = k then j else O a : Nat) : Int)
    rw [if_neg h]
  · simp
theorem chs_get (O : Nat → Nat) (k i : Nat) (h : i < k) : (chs O k).getD i 0 = (O i : Int) := by
  unfold chs
  rw [List.getD_eq_getElem?_getD, List.getElem?_map, List.getElem?_range h]
  rfl
abbrev Urow (w : World) (g n : Nat) (u : Nat → Bool) : Prop := w.rowIs g 4 n (fun a => .bool (u a))
set_option maxRecDepth 100000 in
set_option maxHeartbeats 8000000 in
theorem rorder_any {K : Nat} (A : Option Addr) (n C : Nat) (P : Nat → Pn) (hf : ∀ i, i < n → (P i).fit K) (hn : n ≤ 1000) (w : World) (hw : RWays w A n P) :
    Calls Tryz.prog 97 #[.slice A n C] w fun e w' => ∃ A' C' O, e = .returned (.slice A' n C') ∧ Hid (Srt (fun k => (P k).state) (fun k => (P k).st.score) n O) ∧ Hid (OwnI w' w.heap.size (.slice A' n C') n (chs O n)) ∧ Hid (Below w.heap.size w w') := by
  have HW := Lib.hid hw
  have HBA := Lib.hid (bet_ahd P)
  have HF := Lib.hid hf
  have HN := Lib.hid hn
  have n1 : (n : Int) ≤ 1000 := by omega
  have hwr : IntKind.i64.wrap (n : Int) = (n : Int) := by rw [IntKind.wrap_i64]; omega
  have hmk : ∀ w : World, (Instr.makeSlice 182 (.int .i64 (n : Int)) (.int .i64 (n : Int))).run Tryz.prog w = .ok (.slice (some ⟨w.heap.size, 0, none⟩) n n) (w.alloc (.cells (madeCells #[.bool false] n) 4)) := fun w =>
    run_make_row' (P := Tryz.prog) 182 4 (.bool false) 1 Tryz.underlying182 (by kernel_rfl) rfl .i64 .i64 n (by omega) (by omega) w
  have HU0 : Hid (Urow (w.alloc (.cells (madeCells #[.bool false] n) 4)) w.heap.size n (fun _ => false)) := Lib.hid (World.rowIs_made w (.bool false) n 4)
  have HB0 : Hid (Below w.heap.size w (w.alloc (.cells (madeCells #[.bool false] n) 4))) := Lib.hid ((Below.refl _ _).alloc (Nat.le_refl _) _)
  have HS0 : Hid (w.heap.size < (w.alloc (.cells (madeCells #[.bool false] n) 4)).heap.size) := Lib.hid (by simp)
  clear hw hf hn
  generalize (fun k => (P k).state) = s at *
  generalize (fun k => (P k).st.score) = sc at *
  go_enter Tryz.func97, Tryz.ntmps97
  go_upto_region 3 with fail
  generalize w.alloc (.cells (madeCells #[.bool false] n) 4) = W at *
  clear hmk
  go_wp2
  go_loopw [3, 5] (fun s3 s5 wr => ∃ (k : Nat) (A1 : Option Addr) (C1 : Nat) (O : Nat → Nat) (u : Nat → Bool), s3 = .slice A1 k C1 ∧ s5 = .int .i64 (k : Int) ∧ Hid (k ≤ n) ∧ Hid (Chosen s sc n k O u) ∧ Hid (Urow wr w.heap.size n u) ∧ Hid (OwnI wr (w.heap.size + 1) (.slice A1 k C1) k (chs O k)) ∧ Hid (Below w.heap.size w wr)) (fun _ s5 _ => n - (intOf s5).toNat)
  case atStart => exact ⟨0, none, 0, fun _ => 0, fun _ => false, rfl, rfl, Lib.hid (Nat.zero_le _), Lib.hid (Chosen.start s sc n _), HU0, Lib.hid (OwnI.none _ _), HB0⟩
  case round =>
    obtain ⟨k, A1, C1, O, u, rfl, rfl, HK, HC, HU, HO, HB⟩ := hrel
    clear HU0 HB0 HS0
    have hk := HK.out
    by_cases hlt : k < n
    · have k1 : (k : Int) < n := by omega
      have k2 : (0 : Int) ≤ (k : Int) := by omega
      have k3 : (k : Int) ≤ 1000 := by omega
      have HK2 : Hid (k + 1 ≤ n) := Lib.hid hlt
      have HDM : Hid (n - (k + 1) < n - k) := Lib.hid (by omega)
      have hn0 : 0 < n := by omega
      obtain ⟨lb, rfl, _⟩ := HW.out 0 hn0
      obtain ⟨wo, ho⟩ : ∃ wo, wo = wr := ⟨_, rfl⟩
      subst ho
      clear hlt hk hn0
      go_wp2
      go_loopw [6, 7] (fun s6 s7 wx => ∃ (b : Int) (m : Nat), s6 = .int .i64 b ∧ s7 = .int .i64 (m : Int) ∧ Hid (m ≤ n) ∧ Hid (Best s sc u m b) ∧ Hid (Below wo.heap.size wo wx)) (fun _ s7 _ => n - (intOf s7).toNat)
      case atStart => exact ⟨-1, 0, rfl, rfl, Lib.hid (Nat.zero_le _), Lib.hid (Best.start s sc u), Lib.hid (Below.refl _ _)⟩
      case round =>
        obtain ⟨b, m, rfl, rfl, HM, HBE, HBX⟩ := hrel
        have hm := HM.out
        by_cases hml : m < n
        · have m1 : (m : Int) < n := by omega
          have m2 : (0 : Int) ≤ (m : Int) := by omega
          have m3 : (m : Int) ≤ 1000 := by omega
          have HM2 : Hid (m + 1 ≤ n) := Lib.hid hml
          have HDX : Hid (n - (m + 1) < n - m) := Lib.hid (by omega)
          have HML := Lib.hid hml
          have HUX : Hid (∀ w', Below wr.heap.size wr w' → w'.cell? ⟨w.heap.size, m, none⟩ = some (.bool (u m))) := Lib.hid (fun w' hb => by
            have h : Urow w' w.heap.size n u := World.rowIs.of_block HU.out ((hb.block _ (Nat.lt_of_lt_of_le HU.out.lt HBX.out.size)).trans (HBX.out.block _ HU.out.lt))
            exact h.cell (i := m) HML.out)
          clear hm hml
          cases hum : u m
          · rw [hum] at HUX
            by_cases hb0 : b < 0
            · have HBE2 := Lib.hid (HBE.out.first hb0 hum)
              have hb1 : (b < 0) = True := eq_true hb0
              clear hum
              go_upto_region 10 with fail
              refine (wpIn_wide (n := 3)).1 ?_
              refine wpIn_class (fun w' => Below wr.heap.size wr w') (Below.refl _ _).drew rfl (by kernel_rfl) (by kernel_rfl) ?_
              iterate 3 (refine wpQuietIn_step (fun _ _ _ _ => trivial) (fun K hK => ?_); go_simp; refine ⟨_, fun _ _ => rfl, hK _ ?_⟩; clear hK K)
              refine wpQ_readw (.bool false) (fun _ _ _ _ => trivial) rfl (fun w' hw => ?_) ?_
              · have c0 := HUX.out w' hw
                unfold Oper.quietAtIn
                go_simp
              simp only [Act.put, List.setIfInBounds_toArray, List.set_cons_zero, List.set_cons_succ]
              iterate 5 (refine wpQuietIn_step (fun _ _ _ _ => trivial) (fun K hK => ?_); go_simp; refine ⟨_, fun _ _ => rfl, hK _ ?_⟩; clear hK K)
              iterate 9 (refine wpQuietIn_step (fun _ _ _ _ => trivial) (fun K hK => ?_); go_simp; refine hK _ ?_; clear hK K)
              iterate 2 (refine wpQuietIn_step (fun _ _ _ _ => trivial) (fun K hK => ?_); go_simp; refine ⟨_, fun _ _ => rfl, hK _ ?_⟩; clear hK K)
              refine wpQuietIn_nil ?_
              rintro w5 hw5
              have HB5 := Lib.hid (HBX.out.trans (hw5.mono HBX.out.size))
              clear hw5
              go_wp2
              go_roundw
              case rel => exact ⟨(m : Int), m + 1, rfl, by go_num, HM2, HBE2, HB5⟩
              case measure => have := HDX.out; simp [intOf] <;> omega
            · obtain ⟨j, hj⟩ : ∃ j : Nat, b = (j : Int) := ⟨b.toNat, by omega⟩
              subst hj
              have hjm : j < m := by
                rcases HBE.out with ⟨h, _⟩ | ⟨j', h, h2, _⟩
                · omega
                · omega
              have b0 : (0 : Int) ≤ (j : Int) := by omega
              have b1 : (j : Int) < n := by omega
              have b2 : (j : Int) ≤ 1000 := by omega
              have hb1 : ((j : Int) < 0) = False := eq_false (by omega)
              have HJN : Hid (j < n) := Lib.hid (by omega)
              have HL : Hid (∀ w', Below wr.heap.size wr w' → ∀ i, i < n → (Instr.loadAt 34 (.pointer (some ⟨lb, i * 78, none⟩))).run Tryz.prog w' = .ok (.agg (rowOf 78 (P i).dc)) w') := Lib.hid (fun w' hb i hi => (HW.out.below (HB.out.trans ((HBX.out.mono HB.out.size).trans (hb.mono (by have := HB.out.size; have := HBX.out.size; omega)))) (Nat.le_refl _)).load hi)
              have CB : Hid (∀ w', Below wr.heap.size wr w' → Calls Tryz.prog 119 #[.agg (rowOf 78 (P m).dc), .agg (rowOf 78 (P j).dc)] w' fun e w1 => e = .returned (.bool ((P m).bet (P j))) ∧ Below wr.heap.size wr w1) := Lib.hid (fun w' h => (rbetter_any (P m) (P j) (HF.out m HML.out) (HF.out j HJN.out) w').mono fun _ _ hh => ⟨hh.1, h.trans (hh.2.mono h.size)⟩)
              have HAH := Lib.hid (HBA.out m j)
              clear hjm hb0
              generalize (P m).bet (P j) = z at *
              cases z
              · have HBE2 := Lib.hid (HBE.out.worse (fun h => by have := HAH.out.2 h; cases this))
                clear hum
                go_upto_region 10 with fail
                refine (wpIn_wide (n := 3)).1 ?_
                refine wpIn_class (fun w' => Below wr.heap.size wr w') (Below.refl _ _).drew rfl (by kernel_rfl) (by kernel_rfl) ?_
                iterate 3 (refine wpQuietIn_step (fun _ _ _ _ => trivial) (fun K hK => ?_); go_simp; refine ⟨_, fun _ _ => rfl, hK _ ?_⟩; clear hK K)
                refine wpQ_readw (.bool false) (fun _ _ _ _ => trivial) rfl (fun w' hw => ?_) ?_
                · have c0 := HUX.out w' hw
                  unfold Oper.quietAtIn
                  go_simp
                simp only [Act.put, List.setIfInBounds_toArray, List.set_cons_zero, List.set_cons_succ]
                iterate 5 (refine wpQuietIn_step (fun _ _ _ _ => trivial) (fun K hK => ?_); go_simp; refine ⟨_, fun _ _ => rfl, hK _ ?_⟩; clear hK K)
                iterate 3 (refine wpQuietIn_step (fun _ _ _ _ => trivial) (fun K hK => ?_); go_simp; refine ⟨_, fun _ _ => rfl, hK _ ?_⟩; clear hK K)
                refine wpQ_readw (.agg (rowOf 78 (P m).dc)) (fun _ _ _ _ => trivial) rfl (fun w' hw => ?_) ?_
                · exact quiet_load 34 _ (.pointer (some ⟨lb, m * 78, none⟩)) rfl rfl (HL.out w' hw m HML.out)
                simp only [Act.put, List.setIfInBounds_toArray, List.set_cons_zero, List.set_cons_succ]
                iterate 3 (refine wpQuietIn_step (fun _ _ _ _ => trivial) (fun K hK => ?_); go_simp; refine ⟨_, fun _ _ => rfl, hK _ ?_⟩; clear hK K)
                refine wpQ_readw (.agg (rowOf 78 (P j).dc)) (fun _ _ _ _ => trivial) rfl (fun w' hw => ?_) ?_
                · exact quiet_load 34 _ (.pointer (some ⟨lb, j * 78, none⟩)) rfl rfl (HL.out w' hw j HJN.out)
                simp only [Act.put, List.setIfInBounds_toArray, List.set_cons_zero, List.set_cons_succ]
                refine wpQuietIn_step (fun _ _ _ _ => trivial) (fun K hK => ?_)
                go_simp
                refine ⟨.bool false, fun w' hw => callsIn_wide.2 (CB.out w' hw), hK _ ?_⟩
                clear hK K
                iterate 2 (refine wpQuietIn_step (fun _ _ _ _ => trivial) (fun K hK => ?_); go_simp; refine ⟨_, fun _ _ => rfl, hK _ ?_⟩; clear hK K)
                refine wpQuietIn_nil ?_
                rintro w5 hw5
                have HB5 := Lib.hid (HBX.out.trans (hw5.mono HBX.out.size))
                clear hw5
                go_wp2
                go_roundw
                case rel => exact ⟨(j : Int), m + 1, rfl, by go_num, HM2, HBE2, HB5⟩
                case measure => have := HDX.out; simp [intOf] <;> omega
              · have HBE2 := Lib.hid (HBE.out.better hum (HAH.out.1 rfl))
                clear hum
                go_upto_region 10 with fail
                refine (wpIn_wide (n := 3)).1 ?_
                refine wpIn_class (fun w' => Below wr.heap.size wr w') (Below.refl _ _).drew rfl (by kernel_rfl) (by kernel_rfl) ?_
                iterate 3 (refine wpQuietIn_step (fun _ _ _ _ => trivial) (fun K hK => ?_); go_simp; refine ⟨_, fun _ _ => rfl, hK _ ?_⟩; clear hK K)
                refine wpQ_readw (.bool false) (fun _ _ _ _ => trivial) rfl (fun w' hw => ?_) ?_
                · have c0 := HUX.out w' hw
                  unfold Oper.quietAtIn
                  go_simp
                simp only [Act.put, List.setIfInBounds_toArray, List.set_cons_zero, List.set_cons_succ]
                iterate 5 (refine wpQuietIn_step (fun _ _ _ _ => trivial) (fun K hK => ?_); go_simp; refine ⟨_, fun _ _ => rfl, hK _ ?_⟩; clear hK K)
                iterate 3 (refine wpQuietIn_step (fun _ _ _ _ => trivial) (fun K hK => ?_); go_simp; refine ⟨_, fun _ _ => rfl, hK _ ?_⟩; clear hK K)
                refine wpQ_readw (.agg (rowOf 78 (P m).dc)) (fun _ _ _ _ => trivial) rfl (fun w' hw => ?_) ?_
                · exact quiet_load 34 _ (.pointer (some ⟨lb, m * 78, none⟩)) rfl rfl (HL.out w' hw m HML.out)
                simp only [Act.put, List.setIfInBounds_toArray, List.set_cons_zero, List.set_cons_succ]
                iterate 3 (refine wpQuietIn_step (fun _ _ _ _ => trivial) (fun K hK => ?_); go_simp; refine ⟨_, fun _ _ => rfl, hK _ ?_⟩; clear hK K)
                refine wpQ_readw (.agg (rowOf 78 (P j).dc)) (fun _ _ _ _ => trivial) rfl (fun w' hw => ?_) ?_
                · exact quiet_load 34 _ (.pointer (some ⟨lb, j * 78, none⟩)) rfl rfl (HL.out w' hw j HJN.out)
                simp only [Act.put, List.setIfInBounds_toArray, List.set_cons_zero, List.set_cons_succ]
                refine wpQuietIn_step (fun _ _ _ _ => trivial) (fun K hK => ?_)
                go_simp
                refine ⟨.bool true, fun w' hw => callsIn_wide.2 (CB.out w' hw), hK _ ?_⟩
                clear hK K
                iterate 2 (refine wpQuietIn_step (fun _ _ _ _ => trivial) (fun K hK => ?_); go_simp; refine ⟨_, fun _ _ => rfl, hK _ ?_⟩; clear hK K)
                refine wpQuietIn_nil ?_
                rintro w5 hw5
                have HB5 := Lib.hid (HBX.out.trans (hw5.mono HBX.out.size))
                clear hw5
                go_wp2
                go_roundw
                case rel => exact ⟨(m : Int), m + 1, rfl, by go_num, HM2, HBE2, HB5⟩
                case measure => have := HDX.out; simp [intOf] <;> omega
          · rw [hum] at HUX
            have HBE2 := Lib.hid (HBE.out.skip hum)
            clear hum
            go_upto_region 10 with fail
            refine (wpIn_wide (n := 3)).1 ?_
            refine wpIn_class (fun w' => Below wr.heap.size wr w') (Below.refl _ _).drew rfl (by kernel_rfl) (by kernel_rfl) ?_
            iterate 3 (refine wpQuietIn_step (fun _ _ _ _ => trivial) (fun K hK => ?_); go_simp; refine ⟨_, fun _ _ => rfl, hK _ ?_⟩; clear hK K)
            refine wpQ_readw (.bool true) (fun _ _ _ _ => trivial) rfl (fun w' hw => ?_) ?_
            · have c0 := HUX.out w' hw
              unfold Oper.quietAtIn
              go_simp
            simp only [Act.put, List.setIfInBounds_toArray, List.set_cons_zero, List.set_cons_succ]
            iterate 2 (refine wpQuietIn_step (fun _ _ _ _ => trivial) (fun K hK => ?_); go_simp; refine ⟨_, fun _ _ => rfl, hK _ ?_⟩; clear hK K)
            iterate 3 (refine wpQuietIn_step (fun _ _ _ _ => trivial) (fun K hK => ?_); go_simp; refine hK _ ?_; clear hK K)
            iterate 9 (refine wpQ_skip (fun _ _ _ _ => trivial) rfl ?_; simp only [Act.put, List.setIfInBounds_toArray, List.set_cons_zero, List.set_cons_succ])
            (refine wpQuietIn_step (fun _ _ _ _ => trivial) (fun K hK => ?_); go_simp; refine hK _ ?_; clear hK K)
            (refine wpQuietIn_step (fun _ _ _ _ => trivial) (fun K hK => ?_); go_simp; refine ⟨_, fun _ _ => rfl, hK _ ?_⟩; clear hK K)
            refine wpQuietIn_nil ?_
            rintro w5 hw5
            have HB5 := Lib.hid (HBX.out.trans (hw5.mono HBX.out.size))
            clear hw5
            go_wp2
            go_roundw
            case rel => exact ⟨b, m + 1, rfl, by go_num, HM2, HBE2, HB5⟩
            case measure => have := HDX.out; simp [intOf] <;> omega
        · obtain rfl : m = n := by omega
          obtain ⟨j, rfl, hjn, huj, hbj⟩ := HBE.out.is HC.out HK2.out
          have HC2 := Lib.hid (HC.out.put hjn huj hbj)
          have HB5 := Lib.hid (HB.out.trans (HBX.out.mono HB.out.size))
          have HU5 : Hid (Urow wr w.heap.size m u) := Lib.hid (World.rowIs.of_block HU.out (HBX.out.block _ HU.out.lt))
          have HO5 := Lib.hid (HO.out.below HBX.out (Nat.le_refl _))
          have cu : wr.cell? ⟨w.heap.size, j, none⟩ = some (.bool (u j)) := HU5.out.cell (i := j) hjn
          have fu := HU5.out.frozen j
          have HU6 : Hid (Urow (wr.setCell ⟨w.heap.size, j, none⟩ (.bool true)) w.heap.size m (fun i => if i = j then true else u i)) := Lib.hid ((World.rowIs.set HU5.out j (.bool true)).congr (fun i _ => by by_cases e : i = j <;> simp [e]))
          have HO6 : Hid (OwnI (wr.setCell ⟨w.heap.size, j, none⟩ (.bool true)) (w.heap.size + 1) (.slice A1 k C1) k (chs O k)) := Lib.hid (HO5.out.keep (fun g hg => Below.heap_setCell _ _ _ g (by have := (HO5.out.lt g hg).1; show g ≠ w.heap.size; omega)))
          have HB6 : Hid (Below w.heap.size w (wr.setCell ⟨w.heap.size, j, none⟩ (.bool true))) := Lib.hid (HB5.out.setCell (p := ⟨w.heap.size, j, none⟩) (Nat.le_refl _) _)
          have HG6 : Hid (w.heap.size < (wr.setCell ⟨w.heap.size, j, none⟩ (.bool true)).heap.size) := Lib.hid HU6.out.lt
          have b0 : (0 : Int) ≤ (j : Int) := by omega
          have b1 : (j : Int) < m := by omega
          have b2 : (j : Int) ≤ 1000 := by omega
          have HCP := Lib.hid (chs_put O k j)
          have HK9 : Hid (k + 1 ≤ 100000) := Lib.hid (by have := HN.out; have := HK2.out; omega)
          clear hjn huj hbj hml hm HBE HU5 HO5 HB5 HC
          go_upto_region 13 with fail
          clear cu fu
          generalize wr.setCell ⟨w.heap.size, j, none⟩ (.bool true) = w6 at *
          have HO7 : Hid (OwnI (w6.alloc (.cells #[.int .i64 (j : Int)] 3)) (w.heap.size + 1) (.slice A1 k C1) k (chs O k)) := Lib.hid (HO6.out.below ((Below.refl w6.heap.size w6).alloc (Nat.le_refl _) _) (Nat.le_refl _))
          have HU7 : Hid (Urow (w6.alloc (.cells #[.int .i64 (j : Int)] 3)) w.heap.size m (fun i => if i = j then true else u i)) := Lib.hid (World.rowIs.alloc HU6.out _)
          have HB7 : Hid (Below w.heap.size w (w6.alloc (.cells #[.int .i64 (j : Int)] 3))) := Lib.hid (HB6.out.alloc HB6.out.size _)
          have HG7 : Hid (w.heap.size + 1 ≤ (w6.alloc (.cells #[.int .i64 (j : Int)] 3)).heap.size) := Lib.hid (by have := HG6.out; simp; omega)
          have HBI := Lib.hid (box_int w6 (j : Int))
          generalize chs O k = L at *
          go_wp2_with (first
            | ((with_reducible refine wpList_append_int rfl (.tmp 47) (.tmp 49) rfl (w.heap.size + 1) A1 k C1 rfl L HO7.out w6.heap.size rfl (j : Int) HBI.out HK9.out HG7.out ?_); intro A3 C3 w8 HO8 HB8)
            | fail)
          have HU8 : Hid (Urow w8 w.heap.size m (fun i => if i = j then true else u i)) := Lib.hid (World.rowIs.of_block HU7.out (HB8.out.block _ (by omega)))
          have HB9 : Hid (Below w.heap.size w w8) := Lib.hid (HB7.out.trans (HB8.out.mono (by omega)))
          go_roundw
          case rel => exact ⟨k + 1, A3, C3, _, _, rfl, by go_num, HK2, HC2, HU8, Lib.hid (by have := HO8.out; rw [HCP.out] at this; exact this), HB9⟩
          case measure => have := HDM.out; simp [intOf] <;> omega
    · obtain rfl : k = n := by omega
      have HS2 := Lib.hid HC.out.all
      have HO2 := Lib.hid (HO.out.low (Nat.le_succ w.heap.size))
      go_wp2
      go_ret
      exact ⟨A1, C1, O, rfl, HS2, HO2, HB⟩
end Go.Proofs.YtldhlknmabpanaaGreat
