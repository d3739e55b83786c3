/-
  Own text: layer 18 (reasm): the walk of tell.
  Own text: layer 18 (reasm): what a window is behind add and mend.
-/
import Derived.Test.YtjcbcdjfhcnhcaaK18
import Derived.BigQuiet
import Derived.BigRegion
import Derived.Deep.RegionLawGrows
namespace Go.Proofs.Ytjcbcdjfhcnhcaa
open Go.RowKit
/-- The base, as it stands in memory. -/
def baseOf (b : Nat) (w : World) : Nat := match w.cell? ⟨b, 1, none⟩ with
  | some (.int _ z) => z.toNat
  | _ => 0
theorem baseOf_eq {b x : Nat} {w : World} (h : w.cell? ⟨b, 1, none⟩ = some (.int .u32 (x : Nat))) : baseOf b w = x := by
  unfold baseOf
  rw [h]
  rfl
theorem wrap_small18 {z : Int} (h : z ≤ 5000) (h0 : 0 ≤ z) : IntKind.i64.wrap z = z := by
  simp [IntKind.wrap, IntKind.bits, IntKind.signed]
  omega
theorem PrtR.lies {b o : Nat} {P : Nat → Prop} {R : Option Nat} {w w' : World} {cs : Array Value} (hp : PrtR b R P w w') (hL : Lies w b o cs) (h : ∀ j, j < cs.size → ¬ P (o + j)) : Lies w' b o cs := by
  obtain ⟨C, T, hC, h1, h2⟩ := hL
  obtain ⟨C', hC', hs, hg⟩ := hp.part C T hC
  exact ⟨C', T, hC', by omega, fun j hj => (hg _ (h j hj)).trans (h2 j hj)⟩
theorem whole18q (b o n C : Nat) (A : Option Addr) (w : World) (h : w.cell? ⟨b, o + 4, none⟩ = some (.slice A n C)) :
    Calls Try.prog 49 #[.pointer (some ⟨b, o, none⟩)] w fun e w' => e = .returned (.bool (decide (0 < n))) ∧ w' = w := (whole18 b o n C A w h).mono fun _ _ h => ⟨h.1, h.2.symm⟩
set_option maxRecDepth 100000 in
set_option maxHeartbeats 4000000 in
theorem tell18 (b t base n : Nat) (O : Nat → Prop) (S : Wn) (w : World) (h : CW w b t base O none S) (hS : S.ok n) (hn : n ≤ 300) :
    Calls Try.prog 53 #[.pointer (some ⟨b, 0, none⟩)] w fun e w' => (∃ u, e = .returned u) ∧ Hid (CW w' b t base (OO O w w') none (Wn.tell S.l.length S)) ∧ Hid (FrO O w w') := by
  have H0 : Hid (CW w b t base (OO O w w) none S) := Lib.hid (h.more (fun _ hk => .inl hk) (fun k hk => by
    rcases hk with hk | hk
    · exact h.own k hk
    · omega))
  have HOK := Lib.hid hS
  have HN := Lib.hid hn
  clear h hS hn
  go_enter Try.func53, Try.ntmps53
  go_wp2
  go_loopw [2] (fun _ wr => ∃ T : Wn, Hid (CW wr b t base (OO O w wr) none T) ∧ Hid (FrO O w wr) ∧ Hid (T.ok n) ∧ Hid (Wn.tell T.l.length T = Wn.tell S.l.length S)) (fun _ wr => 1001 - baseOf b wr)
  case atStart => exact ⟨S, H0, Lib.hid (FrO.refl _ _), HOK, Lib.hid rfl⟩
  case round =>
    obtain ⟨T, HC, HF, HO, HT⟩ := hrel
    obtain ⟨sv, rd, h1, h2, h3, h4, h5, h6, h7⟩ := HC.out.ex
    have hs0 : T.base % 32 < 32 := by omega
    obtain ⟨s0, es0⟩ : ∃ s0, s0 = T.base % 32 := ⟨_, rfl⟩
    have hbase : T.base ≤ 300 := by have := HO.out.base; have := HN.out; omega
    obtain ⟨k0, k1, k2, k3, k4, k165⟩ := h1.cells
    have hl := h1.lies hs0
    have hi := h4 _ hs0
    rw [← es0] at hl hi hs0
    have i0 : ((T.base : Nat) : Int) % 32 = (s0 : Int) := by omega
    have i1 : (s0 : Int) < 32 := by omega
    have i2 : s0 < 32 := hs0
    cases hnx : T.next with
    | none =>
      have HFIN : Hid (∀ u, Below wr.heap.size wr u → Hid (CW u b t base (OO O w u) none (Wn.tell S.l.length S)) ∧ Hid (FrO O w u)) := Lib.hid (fun u hu => by
        have hte : Wn.tell S.l.length S = T := HT.out.symm.trans (Wn.tell_none hnx _)
        rw [hte]
        refine ⟨Lib.hid ((HC.out.below hu).more (fun k hk => ?_) (fun k hk => ?_)), Lib.hid (HF.out.trans (FrO.of_below hu))⟩
        · rcases hk with hk | hk
          · exact .inl hk
          · exact .inr ⟨hk.1, Nat.lt_of_lt_of_le hk.2 hu.size⟩
        · rcases hk with hk | hk
          · have := HC.out.own k (.inl hk)
            exact ⟨this.1, Nat.lt_of_lt_of_le this.2 hu.size⟩
          · exact ⟨Nat.le_trans H0.out.low hk.1, hk.2⟩)
      rcases hi with ⟨e0, ecs⟩ | ⟨p, g, e0, hf, _, ecs, hgb, hgr⟩ | ⟨p, A, C, e0, hnf, ecs, _⟩
      case inr.inl =>
        have hsl : T.of T.base = some p := by rw [← Wn.slot_base, ← es0]; exact e0
        have hne := Wn.next_none hnx p hsl
        have hne2 : p.fst ≠ T.frames := fun e => hne ⟨hf, e⟩
        have hok := (HO.out.parts p (Wn.of_some hsl).2.1).1
        have hfst := hok.fst
        have hfb : T.frames ≤ 4800 := by have := HO.out.frames; have := HN.out; omega
        rw [ecs] at hl
        have l0 := lies_get hl 0 rfl
        have l4 := lies_get hl 4 rfl
        rw [Nat.add_zero] at l0
        have jw : IntKind.i64.wrap ((p.fst : Nat) : Int) = ((p.fst : Nat) : Int) := IntWalk.i64_in _ (by omega)
        have jne : ((((p.fst : Nat) : Int)) != ((T.frames : Nat) : Int)) = true := by simp; omega
        have hbw := h1.typ.lt
        have HU : Hid (∀ u, Below wr.heap.size wr u → u.cell? ⟨b, 5 + s0 * 5, none⟩ = some (.int .u32 (p.fst : Nat)) ∧ u.cell? ⟨b, 5 + s0 * 5 + 4, none⟩ = some (.slice (some ⟨g, 0, none⟩) p.k p.k) ∧ u.cell? ⟨b, 2, none⟩ = some (.int .i64 (T.frames : Nat))) := Lib.hid (fun u hu => ⟨(hu.cell (p := ⟨b, 5 + s0 * 5, none⟩) hbw).trans l0, (hu.cell (p := ⟨b, 5 + s0 * 5 + 4, none⟩) hbw).trans l4, (hu.cell (p := ⟨b, 2, none⟩) hbw).trans k2⟩)
        have hk1 := hok.k1
        have HWH : Hid (∀ u, Below wr.heap.size wr u → Calls Try.prog 49 #[.pointer (some ⟨b, 5 + s0 * 5, none⟩)] u fun e u' => e = .returned (.bool true) ∧ Below wr.heap.size wr u') := Lib.hid (fun u hu => (whole18 b (5 + s0 * 5) p.k p.k (some ⟨g, 0, none⟩) u ((HU.out u hu).2.1)).mono fun e u' h => ⟨by rw [h.1]; exact ret_bool (decide_eq_true (by omega)), by rw [← h.2]; exact hu⟩)
        generalize p.fst = pf at *
        clear hsl hne hne2 hok hf hgr hgb ecs e0 hfst hfb l0 l4 hnx hbw hk1
        clear h1 h2 h3 h4 h5 h6 h7 hl k0 k2 k3 k4 k165 es0
        go_upto_region 0 with fail
        go_quiet (fail)
        go_upto_region 1 with fail
        refine (wpIn_wide (n := 3)).1 ?_
        refine wpIn_class (fun w' => Below wr.heap.size wr w') (below_drewN (Below.refl _ _) nq).drew rfl (by kernel_rfl) (by kernel_rfl) ?_
        (refine wpQuietIn_step (fun _ _ _ _ => trivial) (fun K hK => ?_); go_simp; refine ⟨_, fun _ _ => rfl, hK _ ?_⟩; clear hK K)
        refine wpQuietIn_step (fun _ _ _ _ => trivial) (fun K hK => ?_)
        go_simp
        refine ⟨.bool true, fun w' hw => callsIn_wide.2 (HWH.out w' hw), hK _ ?_⟩
        clear hK K
        (refine wpQuietIn_step (fun _ _ _ _ => trivial) (fun K hK => ?_); go_simp; refine ⟨_, fun _ _ => rfl, hK _ ?_⟩; clear hK K)
        (refine wpQuietIn_step (fun _ _ _ _ => trivial) (fun K hK => ?_); go_simp; refine ⟨_, fun _ _ => rfl, hK _ ?_⟩; clear hK K)
        (refine wpQuietIn_step (fun _ _ _ _ => trivial) (fun K hK => ?_); go_simp; refine ⟨_, fun _ _ => rfl, hK _ ?_⟩; clear hK K)
        (refine wpQuietIn_step (fun _ _ _ _ => trivial) (fun K hK => ?_); go_simp; refine ⟨_, fun _ _ => rfl, hK _ ?_⟩; clear hK K)
        (refine wpQuietIn_step (fun _ _ _ _ => trivial) (fun K hK => ?_); go_simp; refine ⟨_, fun _ _ => rfl, hK _ ?_⟩; clear hK K)
        refine wpQ_readw (.int .u32 ((pf : Nat) : Int)) (fun _ _ _ _ => trivial) rfl (fun w' hw => ?_) ?_
        · obtain ⟨y0, y4, y2⟩ := HU.out w' hw
          unfold Oper.quietAtIn
          go_simp
        simp only [Act.put, List.setIfInBounds_toArray, List.set_cons_zero, List.set_cons_succ]
        (refine wpQuietIn_step (fun _ _ _ _ => trivial) (fun K hK => ?_); go_simp; refine ⟨_, fun _ _ => rfl, hK _ ?_⟩; clear hK K)
        (refine wpQuietIn_step (fun _ _ _ _ => trivial) (fun K hK => ?_); go_simp; refine ⟨_, fun _ _ => rfl, hK _ ?_⟩; clear hK K)
        (refine wpQuietIn_step (fun _ _ _ _ => trivial) (fun K hK => ?_); go_simp; refine ⟨_, fun _ _ => rfl, hK _ ?_⟩; clear hK K)
        (refine wpQuietIn_step (fun _ _ _ _ => trivial) (fun K hK => ?_); go_simp; refine ⟨_, fun _ _ => rfl, hK _ ?_⟩; clear hK K)
        refine wpQ_readw (.int .i64 ((T.frames : Nat) : Int)) (fun _ _ _ _ => trivial) rfl (fun w' hw => ?_) ?_
        · obtain ⟨y0, y4, y2⟩ := HU.out w' hw
          unfold Oper.quietAtIn
          go_simp
        simp only [Act.put, List.setIfInBounds_toArray, List.set_cons_zero, List.set_cons_succ]
        (refine wpQuietIn_step (fun _ _ _ _ => trivial) (fun K hK => ?_); go_simp; refine ⟨_, fun _ _ => rfl, hK _ ?_⟩; clear hK K)
        (refine wpQuietIn_step (fun _ _ _ _ => trivial) (fun K hK => ?_); go_simp; refine ⟨_, fun _ _ => rfl, hK _ ?_⟩; clear hK K)
        refine wpQuietIn_nil ?_
        rintro W2 hW2
        have HW2 := Lib.hid hW2
        clear hW2
        go_wp2
        go_wp2; refine bodyPost_ret (results_none (by rfl) _ _ _) rfl ?_
        exact ⟨⟨_, rfl⟩, HFIN.out W2 HW2.out⟩
      all_goals
        rw [ecs] at hl
        have l4 := lies_get hl 4 rfl
        have hbw := h1.typ.lt
        have HWH : Hid (∀ u, Below wr.heap.size wr u → Calls Try.prog 49 #[.pointer (some ⟨b, 5 + s0 * 5, none⟩)] u fun e u' => e = .returned (.bool false) ∧ Below wr.heap.size wr u') := Lib.hid (fun u hu => (whole18 b (5 + s0 * 5) 0 0 none u ((hu.cell (p := ⟨b, 5 + s0 * 5 + 4, none⟩) hbw).trans l4)).mono fun e u' h => ⟨by rw [h.1]; exact ret_bool (by simp), by rw [← h.2]; exact hu⟩)
        clear ecs e0 l4 hnx hbw
        clear h1 h2 h3 h4 h5 h6 h7 hl k0 k2 k3 k4 k165 es0
        go_upto_region 0 with fail
        go_quiet (fail)
        go_upto_region 1 with fail
        refine (wpIn_wide (n := 3)).1 ?_
        refine wpIn_class (fun w' => Below wr.heap.size wr w') (below_drewN (Below.refl _ _) nq).drew rfl (by kernel_rfl) (by kernel_rfl) ?_
        (refine wpQuietIn_step (fun _ _ _ _ => trivial) (fun K hK => ?_); go_simp; refine ⟨_, fun _ _ => rfl, hK _ ?_⟩; clear hK K)
        refine wpQuietIn_step (fun _ _ _ _ => trivial) (fun K hK => ?_)
        go_simp
        refine ⟨.bool false, fun w' hw => callsIn_wide.2 (HWH.out w' hw), hK _ ?_⟩
        clear hK K
        (refine wpQuietIn_step (fun _ _ _ _ => trivial) (fun K hK => ?_); go_simp; refine ⟨_, fun _ _ => rfl, hK _ ?_⟩; clear hK K)
        (refine wpQuietIn_step (fun _ _ _ _ => trivial) (fun K hK => ?_); go_simp; refine ⟨_, fun _ _ => rfl, hK _ ?_⟩; clear hK K)
        (refine wpQuietIn_step (fun _ _ _ _ => trivial) (fun K hK => ?_); go_simp; refine hK _ ?_; clear hK K)
        (refine wpQuietIn_step (fun _ _ _ _ => trivial) (fun K hK => ?_); go_simp; refine hK _ ?_; clear hK K)
        (refine wpQuietIn_step (fun _ _ _ _ => trivial) (fun K hK => ?_); go_simp; refine hK _ ?_; clear hK K)
        (refine wpQuietIn_step (fun _ _ _ _ => trivial) (fun K hK => ?_); go_simp; refine hK _ ?_; clear hK K)
        (refine wpQuietIn_step (fun _ _ _ _ => trivial) (fun K hK => ?_); go_simp; refine hK _ ?_; clear hK K)
        (refine wpQuietIn_step (fun _ _ _ _ => trivial) (fun K hK => ?_); go_simp; refine hK _ ?_; clear hK K)
        (refine wpQuietIn_step (fun _ _ _ _ => trivial) (fun K hK => ?_); go_simp; refine hK _ ?_; clear hK K)
        (refine wpQuietIn_step (fun _ _ _ _ => trivial) (fun K hK => ?_); go_simp; refine hK _ ?_; clear hK K)
        (refine wpQuietIn_step (fun _ _ _ _ => trivial) (fun K hK => ?_); go_simp; refine hK _ ?_; clear hK K)
        (refine wpQuietIn_step (fun _ _ _ _ => trivial) (fun K hK => ?_); go_simp; refine hK _ ?_; clear hK K)
        (refine wpQuietIn_step (fun _ _ _ _ => trivial) (fun K hK => ?_); go_simp; refine ⟨_, fun _ _ => rfl, hK _ ?_⟩; clear hK K)
        refine wpQuietIn_nil ?_
        rintro W2 hW2
        have HW2 := Lib.hid hW2
        clear hW2
        go_wp2
        go_wp2; refine bodyPost_ret (results_none (by rfl) _ _ _) rfl ?_
        exact ⟨⟨_, rfl⟩, HFIN.out W2 HW2.out⟩
    | some p =>
      obtain ⟨n1, n2, n3, n4, n5, n6⟩ := Wn.next_some hnx
      have hok := (HO.out.parts p n6).1
      have hslot : T.slot s0 = some p := by rw [es0, Wn.slot_base]; exact n2
      rw [hslot] at hi
      rcases hi with ⟨e0, _⟩ | ⟨p', g, e0, hf, _, ecs, hgb, hgr⟩ | ⟨p', A, C, e0, hnf, _⟩
      · cases e0
      case inr.inr => cases e0; exact absurd ⟨n3, rfl⟩ hnf
      cases e0
      have H1 := Lib.hid h1
      have H2 := Lib.hid h2
      have H3 := Lib.hid h3
      have H4 := Lib.hid h4
      have H5 := Lib.hid h5
      have H6 := Lib.hid h6
      have H7 := Lib.hid h7
      have HNX := Lib.hid hnx
      have HES := Lib.hid es0
      have HGR := Lib.hid hgr
      have hk1 := hok.k1
      have hk2 := hok.k2
      rw [ecs] at hl
      have l0 := lies_get hl 0 rfl
      have l4 := lies_get hl 4 rfl
      rw [Nat.add_zero] at l0
      rw [n4] at l0
      have HL := Lib.hid hl
      have hfr : T.frames + p.k ≤ 16 * 300 := by
        have h9 := HO.out.frames
        have h10 := HN.out
        have h11 : 0 < T.l.length := List.length_pos_of_mem n6
        omega
      have HFR := Lib.hid hfr
      have j0 : (T.frames : Int) ≤ 5000 := by omega
      have j1 : decide (0 < p.k) = true := decide_eq_true (by omega)
      have j2 : 0 < p.k := by omega
      have HKK := Lib.hid (And.intro hk1 hk2)
      clear h1 h2 h3 h4 h5 h6 h7 hl hgr hgb hf ecs hslot n1 n2 n3 n4 n5 n6 hok hnx es0 k0 k3 k4 hfr hk1 hk2
      go_upto_region 0 with fail
      go_quiet (fail)
      go_upto_region 1 with fail
      have jw : IntKind.i64.wrap ((T.frames : Nat) : Int) = ((T.frames : Nat) : Int) := wrap_small18 j0 (by omega)
      have HU : Hid (∀ u, Below wr.heap.size wr u → u.cell? ⟨b, 5 + s0 * 5, none⟩ = some (.int .u32 (T.frames : Nat)) ∧ u.cell? ⟨b, 5 + s0 * 5 + 4, none⟩ = some (.slice (some ⟨g, 0, none⟩) p.k p.k) ∧ u.cell? ⟨b, 2, none⟩ = some (.int .i64 (T.frames : Nat)) ∧ u.cell? ⟨b, 165, none⟩ = some rd ∧ u.frozen? ⟨b, 165, none⟩ = false) := Lib.hid (fun u hu => by
        have hb := H1.out.typ.lt
        have h9 := H1.out.keep (hu.block b hb)
        exact ⟨(hu.cell (p := ⟨b, 5 + s0 * 5, none⟩) hb).trans l0, (hu.cell (p := ⟨b, 5 + s0 * 5 + 4, none⟩) hb).trans l4, (hu.cell (p := ⟨b, 2, none⟩) hb).trans k2, (hu.cell (p := ⟨b, 165, none⟩) hb).trans k165, h9.frozen 165⟩)
      have HWH := Lib.hid (fun u (hu : Below wr.heap.size wr u) => whole18q b (5 + s0 * 5) p.k p.k (some ⟨g, 0, none⟩) u (HU.out u hu).2.1)
      have HWH : Hid (∀ u, Below wr.heap.size wr u → Calls Try.prog 49 #[.pointer (some ⟨b, 5 + s0 * 5, none⟩)] u fun e u' => e = .returned (.bool true) ∧ Below wr.heap.size wr u') := Lib.hid (fun u hu => (whole18 b (5 + s0 * 5) p.k p.k (some ⟨g, 0, none⟩) u (HU.out u hu).2.1).mono fun e u' h => ⟨by rw [h.1, j1], by rw [← h.2]; exact hu⟩)
      refine (wpIn_wide (n := 3)).1 ?_
      refine wpIn_class (fun w' => Below wr.heap.size wr w') (below_drewN (Below.refl _ _) nq).drew rfl (by kernel_rfl) (by kernel_rfl) ?_
      (refine wpQuietIn_step (fun _ _ _ _ => trivial) (fun K hK => ?_); go_simp; refine ⟨_, fun _ _ => rfl, hK _ ?_⟩; clear hK K)
      refine wpQuietIn_step (fun _ _ _ _ => trivial) (fun K hK => ?_)
      go_simp
      refine ⟨.bool true, fun w' hw => callsIn_wide.2 (HWH.out w' hw), hK _ ?_⟩
      clear hK K
      (refine wpQuietIn_step (fun _ _ _ _ => trivial) (fun K hK => ?_); go_simp; refine ⟨_, fun _ _ => rfl, hK _ ?_⟩; clear hK K)
      (refine wpQuietIn_step (fun _ _ _ _ => trivial) (fun K hK => ?_); go_simp; refine ⟨_, fun _ _ => rfl, hK _ ?_⟩; clear hK K)
      (refine wpQuietIn_step (fun _ _ _ _ => trivial) (fun K hK => ?_); go_simp; refine ⟨_, fun _ _ => rfl, hK _ ?_⟩; clear hK K)
      (refine wpQuietIn_step (fun _ _ _ _ => trivial) (fun K hK => ?_); go_simp; refine ⟨_, fun _ _ => rfl, hK _ ?_⟩; clear hK K)
      (refine wpQuietIn_step (fun _ _ _ _ => trivial) (fun K hK => ?_); go_simp; refine ⟨_, fun _ _ => rfl, hK _ ?_⟩; clear hK K)
      refine wpQ_readw (.int .u32 ((T.frames : Nat) : Int)) (fun _ _ _ _ => trivial) rfl (fun w' hw => ?_) ?_
      · obtain ⟨y0, y4, y2, y165, _⟩ := HU.out w' hw
        unfold Oper.quietAtIn
        go_simp
      simp only [Act.put, List.setIfInBounds_toArray, List.set_cons_zero, List.set_cons_succ]
      (refine wpQuietIn_step (fun _ _ _ _ => trivial) (fun K hK => ?_); go_simp; refine ⟨_, fun _ _ => rfl, hK _ ?_⟩; clear hK K)
      (refine wpQuietIn_step (fun _ _ _ _ => trivial) (fun K hK => ?_); go_simp; refine ⟨_, fun _ _ => rfl, hK _ ?_⟩; clear hK K)
      (refine wpQuietIn_step (fun _ _ _ _ => trivial) (fun K hK => ?_); go_simp; refine ⟨_, fun _ _ => rfl, hK _ ?_⟩; clear hK K)
      (refine wpQuietIn_step (fun _ _ _ _ => trivial) (fun K hK => ?_); go_simp; refine ⟨_, fun _ _ => rfl, hK _ ?_⟩; clear hK K)
      refine wpQ_readw (.int .i64 ((T.frames : Nat) : Int)) (fun _ _ _ _ => trivial) rfl (fun w' hw => ?_) ?_
      · obtain ⟨y0, y4, y2, y165, _⟩ := HU.out w' hw
        unfold Oper.quietAtIn
        go_simp
      simp only [Act.put, List.setIfInBounds_toArray, List.set_cons_zero, List.set_cons_succ]
      (refine wpQuietIn_step (fun _ _ _ _ => trivial) (fun K hK => ?_); go_simp; refine ⟨_, fun _ _ => rfl, hK _ ?_⟩; clear hK K)
      (refine wpQuietIn_step (fun _ _ _ _ => trivial) (fun K hK => ?_); go_simp; refine ⟨_, fun _ _ => rfl, hK _ ?_⟩; clear hK K)
      refine wpQuietIn_nil ?_
      rintro W2 hW2
      have HW2 := Lib.hid hW2
      clear hW2
      go_upto_region 2 with fail
      obtain ⟨A0, C0, erd, hA0, hC0⟩ := H2.out.slice
      subst erd
      have hrb : (Value.slice A0 T.ready.length C0).ownBlock ≠ some b := fun e => by
        obtain ⟨_, _, hty⟩ := row_type H2.out e
        exact (Typ.ne hty H1.out.typ (by decide)) rfl
      have HRB := Lib.hid hrb
      have cc : Below wr.heap.size wr W2.drew := HW2.out.drew
      obtain ⟨_, y4, _, y165, yf⟩ := HU.out _ cc
      have HOU := Lib.hid (H2.out.below cc (Nat.le_refl _))
      have hgr2 : W2.drew.rowIs g 79 p.k (fun i => .int .u16 (p.ins.getD i 0)) := World.rowIs.of_block HGR.out (cc.block g (World.rowIs.lt HGR.out))
      have HINS : Hid (Ins W2.drew (some ⟨g, 0, none⟩) p.k p.ins) := Lib.hid ⟨p.ins_len, .inr ⟨g, 0, rfl, World.rowIs.lt hgr2, fun i hi => by rw [Nat.zero_add]; exact World.rowIs.cell hgr2 hi⟩⟩
      have HSZ : Hid (T.ready.length + p.k ≤ 100000 ∧ base ≤ W2.drew.heap.size) := Lib.hid ⟨by have := HO.out.ready; have := HFR.out; omega, Nat.le_trans HC.out.low cc.size⟩
      have HBX : Hid (b < W2.drew.heap.size) := Lib.hid (Nat.lt_of_lt_of_le H1.out.typ.lt cc.size)
      have HCC := Lib.hid cc
      clear hrb cc hgr2
      go_cut [36] from 3 to 60 (fun s36 wx => ∃ A5 C5, s36 = .slice A5 (T.ready.length + p.k) C5 ∧ Hid (PrtR b (Value.slice A0 T.ready.length C0).ownBlock (fun j => j = 165) wr wx) ∧ Hid (OwnU wx base (.slice A5 (T.ready.length + p.k) C5) (T.ready.length + p.k) (T.ready ++ p.ins)) ∧ Hid (wx.cell? ⟨b, 165, none⟩ = some (.slice A5 (T.ready.length + p.k) C5)) ∧ Hid ((Value.slice A5 (T.ready.length + p.k) C5).ownBlock = (Value.slice A0 T.ready.length C0).ownBlock ∨ ∃ q, (Value.slice A5 (T.ready.length + p.k) C5).ownBlock = some q ∧ wr.heap.size ≤ q))
      case first =>
        go_region_law (first
          | (refine step_append_us (w := W2.drew) rfl (.tmp 31) (.tmp 35) rfl base A0 T.ready.length C0 (by simp [Act.eval, Act.put]) T.ready HOU.out (some ⟨g, 0, none⟩) p.k p.k (by simp [Act.eval, Act.put]) p.ins HINS.out (fun h => nomatch h) HSZ.out.1 HSZ.out.2 (T.ready.length + p.k) rfl (T.ready ++ p.ins) rfl ?_; intro A5 C5 w5 HO5 HG5 HF5; have e5 := HG5.out.block b HBX.out (fun e => HRB.out e.symm); have yf5 : w5.frozen? ⟨b, 165, none⟩ = false := ((H1.out.keep (HCC.out.block b H1.out.typ.lt)).keep e5).frozen 165; have y5 := cell_blk y165 e5)
          | fail "arm2")
        all_goals
          have HT5 : Typ w5 b 105 := ((H1.out.keep (HCC.out.block b H1.out.typ.lt)).keep e5).typ
          have HA := Lib.hid (((PrtR.of_below (P := fun j => j = 165) H1.out.typ.lt HCC.out).grown HBX.out _ (fun k h => .inl h) HRB.out HG5.out).set 165 rfl (.slice A5 (T.ready.length + p.k) C5))
          have HB : Hid (OwnU (w5.setCell ⟨b, 165, none⟩ (.slice A5 (T.ready.length + p.k) C5)) base (.slice A5 (T.ready.length + p.k) C5) (T.ready.length + p.k) (T.ready ++ p.ins)) := Lib.hid (HO5.out.keep (fun q hq => set_other18 _ _ _ _ _ (fun e => by
            obtain ⟨_, _, hty⟩ := row_type HO5.out hq
            exact (Typ.ne hty HT5 (by decide)) e)))
          have HD := Lib.hid (World.cell?_setCell_same w5 ⟨b, 165, none⟩ (.slice A5 (T.ready.length + p.k) C5) y5)
          have HE : Hid ((Value.slice A5 (T.ready.length + p.k) C5).ownBlock = (Value.slice A0 T.ready.length C0).ownBlock ∨ ∃ q, (Value.slice A5 (T.ready.length + p.k) C5).ownBlock = some q ∧ wr.heap.size ≤ q) := Lib.hid (HF5.out.imp id (fun e => ⟨_, e, HCC.out.size⟩))
          go_wp2_with fail
          go_meet
          exact ⟨_, _, rfl, HA, HB, HD, HE⟩
      case rest =>
        obtain ⟨A5, C5, rfl, HA, HB, HD, HE⟩ := hcut
        have HTC := Lib.hid (HA.out.typ H1.out.typ)
        have hLc := HA.out.lies HL.out (fun j hj => by simp at hj; omega)
        have c2 := HA.out.cell H1.out.typ k2 (by omega)
        have c1 := HA.out.cell H1.out.typ k1 (by omega)
        have l4c := lies_get hLc 4 rfl
        have f2 := hLc.frozen 2
        have HLC := Lib.hid hLc
        have HC1 := Lib.hid c1
        have j5 : (p.k : Int) ≤ 16 := by have := HKK.out; omega
        have j6 : (0 : Int) ≤ p.k := by omega
        have j7 : (0 : Int) ≤ T.frames := by omega
        clear hLc c1 HU HWH l0 l4 k1 k2 k165 jw
        go_upto_region 3 with fail
        go_region
        go_upto_region 4 with fail
        obtain ⟨W4, hW4⟩ : ∃ W4, W4 = (wc.setCell ⟨b, 2, none⟩ (.int .i64 ((T.frames : Int) + (p.k : Int)))).drew := ⟨_, rfl⟩
        rw [← hW4]
        have HP4 : Hid (PrtR b (Value.slice A0 T.ready.length C0).ownBlock (fun j => j = 165 ∨ j = 2) wr W4) := Lib.hid (by
          rw [hW4]
          exact ((HA.out.wide (fun j h => .inl h)).set 2 (.inr rfl) _).below (by rw [set_size18]; exact HTC.out.lt) (Below.refl _ _).drew)
        have hL4 := HP4.out.lies HL.out (fun j hj => by simp at hj; omega)
        have d1 : W4.cell? ⟨b, 1, none⟩ = some (.int .u32 (T.base : Nat)) := by rw [hW4]; exact cell_ne18 HC1.out (by omega)
        have d2 : W4.cell? ⟨b, 2, none⟩ = some (.int .i64 ((T.frames : Int) + (p.k : Int))) := by rw [hW4]; exact World.cell?_setCell_same wc _ _ c2
        have d165 : W4.cell? ⟨b, 165, none⟩ = some (.slice A5 (T.ready.length + p.k) C5) := by rw [hW4]; exact cell_ne18 HD.out (by omega)
        have hOW4 : OwnU W4 base (.slice A5 (T.ready.length + p.k) C5) (T.ready.length + p.k) (T.ready ++ p.ins) := by
          rw [hW4]
          exact HB.out.keep (fun q hq => set_other18 _ _ _ _ _ (fun e => by
            obtain ⟨_, _, hty⟩ := row_type HB.out hq
            exact (Typ.ne hty HTC.out (by decide)) e))
        have l0 := lies_get hL4 0 rfl
        have l1 := lies_get hL4 1 rfl
        have l2 := lies_get hL4 2 rfl
        have l3 := lies_get hL4 3 rfl
        have l4 := lies_get hL4 4 rfl
        rw [Nat.add_zero] at l0
        have f0 := hL4.frozen (5 + s0 * 5)
        have f1 := hL4.frozen (5 + s0 * 5 + 1)
        have f2' := hL4.frozen (5 + s0 * 5 + 2)
        have f3 := hL4.frozen (5 + s0 * 5 + 3)
        have f4 := hL4.frozen (5 + s0 * 5 + 4)
        have HL4 := Lib.hid hL4
        have HD1 := Lib.hid d1
        have HD2 := Lib.hid d2
        have HD5 := Lib.hid d165
        have HOW := Lib.hid hOW4
        clear hW4 hL4 hOW4 c2 l4c f2 d1 d2 d165
        go_upto_region 5 with fail
        obtain ⟨W5, hW5⟩ : ∃ W5, W5 = ((((W4.setCell ⟨b, 5 + s0 * 5, none⟩ (.int .u32 0)).setCell ⟨b, 5 + s0 * 5 + 1, none⟩ (.int .i64 0)).setCell ⟨b, 5 + s0 * 5 + 2, none⟩ (.int .i64 0)).setCell ⟨b, 5 + s0 * 5 + 3, none⟩ (.slice none 0 0)).setCell ⟨b, 5 + s0 * 5 + 4, none⟩ (.slice none 0 0) := ⟨_, rfl⟩
        rw [← hW5]
        have HP5 : Hid (PrtR b (Value.slice A0 T.ready.length C0).ownBlock (TellP (5 + s0 * 5)) wr W5) := Lib.hid (by
          rw [hW5]
          exact (((((HP4.out.wide (fun j h => h.elim (fun h => .inr (.inr (.inl h))) (fun h => .inr (.inl h)))).set _ (by unfold TellP Sl5; omega) _).set _ (by unfold TellP Sl5; omega) _).set _ (by unfold TellP Sl5; omega) _).set _ (by unfold TellP Sl5; omega) _).set _ (by unfold TellP Sl5; omega) _)
        have hL5 : Lies W5 b (5 + s0 * 5) #[.int .u32 0, .int .i64 0, .int .i64 0, .slice none 0 0, .slice none 0 0] := by
          rw [hW5]
          exact (((((HL4.out.set0 _).set 1 _).set 2 _).set 3 _).set 4 _).eq rfl
        have e1 : W5.cell? ⟨b, 1, none⟩ = some (.int .u32 (T.base : Nat)) := by
          rw [hW5]
          exact cell_ne18 (cell_ne18 (cell_ne18 (cell_ne18 (cell_ne18 HD1.out (by omega)) (by omega)) (by omega)) (by omega)) (by omega)
        have e2 : W5.cell? ⟨b, 2, none⟩ = some (.int .i64 ((T.frames : Int) + (p.k : Int))) := by
          rw [hW5]
          exact cell_ne18 (cell_ne18 (cell_ne18 (cell_ne18 (cell_ne18 HD2.out (by omega)) (by omega)) (by omega)) (by omega)) (by omega)
        have e165 : W5.cell? ⟨b, 165, none⟩ = some (.slice A5 (T.ready.length + p.k) C5) := by
          rw [hW5]
          exact cell_ne18 (cell_ne18 (cell_ne18 (cell_ne18 (cell_ne18 HD5.out (by omega)) (by omega)) (by omega)) (by omega)) (by omega)
        have hOW5 : OwnU W5 base (.slice A5 (T.ready.length + p.k) C5) (T.ready.length + p.k) (T.ready ++ p.ins) := by
          refine HOW.out.keep (fun q hq => ?_)
          have hne : q ≠ b := fun e => by
            obtain ⟨_, _, hty⟩ := row_type HOW.out hq
            exact (Typ.ne hty (HP4.out.typ H1.out.typ) (by decide)) e
          rw [hW5, set_other18 _ _ _ _ _ hne, set_other18 _ _ _ _ _ hne, set_other18 _ _ _ _ _ hne, set_other18 _ _ _ _ _ hne, set_other18 _ _ _ _ _ hne]
        have g1 := hL5.frozen 1
        have HL5 := Lib.hid hL5
        have HE1 := Lib.hid e1
        have HE2 := Lib.hid e2
        have HE5 := Lib.hid e165
        have HOW5 := Lib.hid hOW5
        have j8 : (T.base : Int) ≤ 300 := by omega
        clear hW5 l0 l1 l2 l3 l4 f0 f1 f2' f3 f4 hL5 e2 e165 hOW5
        go_wp2
        go_roundw
        case rel =>
          have hp6 := HP5.out.set 1 (.inl rfl) (.int .u32 ((T.base : Int) + 1))
          have hh := HC.out.turned HO.out HNX.out H1.out H2.out H3.out H4.out H5.out H6.out H7.out (rd' := .slice A5 (T.ready.length + p.k) C5) (by rw [← HES.out]; exact hp6)
            ((World.cell?_setCell_same W5 _ _ HE1.out).trans (by simp)) (by rw [cell_ne18 HE2.out (by omega)]; simp) (cell_ne18 HE5.out (by omega))
            (by rw [← HES.out]; exact HL5.out.beside ((Prt.refl b 1 1 W5).set0 (by omega) _) (.inr (by omega)))
            (HOW5.out.keep (fun q hq => set_other18 _ _ _ _ _ (fun e => by
              obtain ⟨_, _, hty⟩ := row_type HOW5.out hq
              exact (Typ.ne hty (HP5.out.typ H1.out.typ) (by decide)) e))) HE.out
          have hbnd := hh.1.own
          refine ⟨T.turn p, Lib.hid (hh.1.more (fun k hk => ?_) (fun k hk => ?_)), Lib.hid (HF.out.trans hh.2), Lib.hid (Wn.turn_ok HO.out HNX.out), Lib.hid ((Wn.tell_some HNX.out).symm.trans HT.out)⟩
          · rcases hk with (hk | hk) | hk
            · exact .inl hk
            · exact .inr ⟨hk.1, Nat.lt_of_lt_of_le hk.2 hh.2.size⟩
            · exact .inr ⟨Nat.le_trans HF.out.size hk.1, hk.2⟩
          · rcases hk with hk | hk
            · exact hbnd k (.inl (.inl hk))
            · exact ⟨Nat.le_trans H0.out.low hk.1, hk.2⟩
        case measure =>
          rw [baseOf_eq (x := T.base + 1) ((World.cell?_setCell_same W5 _ _ HE1.out).trans (by simp)), baseOf_eq H1.out.cells.2.1]
          omega
end Go.Proofs.Ytjcbcdjfhcnhcaa
namespace Go.Proofs.Ytjcbcdjfhcnhcaa
open Go.RowKit
/-- The shard is put there; nothing is mended yet. -/
def Wn.put0 (S : Wn) (d : Cd) : Wn := { S.put d with mended := S.mended }
def Wn.mend (S : Wn) (p : Pt) : Wn := { S with mended := if hasPar p.sh p.k = true then S.mended + 1 else S.mended }
theorem Wn.put_full (S : Wn) (d : Cd) (h : ((S.part d).add d.sd).full) : S.put d = (S.put0 d).mend ((S.part d).add d.sd) := by
  unfold Wn.put0 Wn.mend Wn.put
  simp [h]
theorem Wn.put_open (S : Wn) (d : Cd) (h : ¬ ((S.part d).add d.sd).full) : S.put d = S.put0 d := by
  unfold Wn.put0 Wn.put
  simp [h]
theorem Came.put_slot {S : Wn} {d : Cd} {n : Nat} (c : Came S d) (h : S.ok n) (hd : d.fit) {s : Nat} (hs : s < 32) : (S.put0 d).slot s = if s = d.A % 32 then some ((S.part d).add d.sd) else S.slot s := by
  have hb : (S.put0 d).num s = S.num s := rfl
  have e : (S.put0 d).slot s = (S.put d).of (S.num s) := rfl
  rw [e, c.put_of h hd]
  have h1 := c.a1
  have h2 := c.a2
  by_cases e1 : s = d.A % 32
  · rw [if_pos e1, if_pos (by rw [e1, Wn.num_of h1 h2])]
  · rw [if_neg e1, if_neg (fun e2 => e1 (by have := (S.num_mod hs).1; omega))]
    rfl
theorem CW.added {w w' : World} {b t base n : Nat} {O : Nat → Prop} {S : Wn} {d : Cd} (h : CW w b t base O none S) (hS : S.ok n) (c : Came S d) (hd : d.fit) {sv : Nat → Array Value} {rd v : Value}
    (h1 : WB w b t S.base S.frames S.doubles S.mended sv rd) (h2 : OwnU w base rd S.ready.length S.ready) (h3 : ∀ g, rd.ownBlock = some g → O g) (h4 : ∀ s, s < 32 → SlotIs w base (none == some s) (S.slot s) (sv s)) (h5 : ∀ s g, s < 32 → blkAt (sv s) 3 = some g → O g) (h6 : ∀ s s' g, s < 32 → s' < 32 → s ≠ s' → blkAt (sv s) 3 = some g → blkAt (sv s') 3 ≠ some g) (h7 : ∀ s g, s < 32 → blkAt (sv s) 4 = some g → rd.ownBlock ≠ some g ∧ O g)
    (hv : blkAt (sv (d.A % 32)) 3 = v.ownBlock) (hP : PrtR b v.ownBlock (Sl5 (5 + d.A % 32 * 5)) w w') {v' : Value}
    (hl : Lies w' b (5 + d.A % 32 * 5) #[.int .u32 (d.B : Nat), .int .i64 d.K, .int .i64 d.M, v', .slice none 0 0]) (hs : ShO w' base (fun _ => True) v' ((S.part d).sh ++ [d.sd])) (hr : v'.ownBlock = v.ownBlock ∨ ∃ q, v'.ownBlock = some q ∧ w.heap.size ≤ q) :
    CW w' b t base (OO O w w') (some (d.A % 32)) (S.put0 d) ∧ FrO O w w' := by
  have hTb := h1.typ
  have hs0 : d.A % 32 < 32 := by omega
  have hty : ∀ g, v.ownBlock = some g → Typ w g 111 := fun g hg => ((h4 _ hs0).typ3 (hv.trans hg)).2.2
  have keep : ∀ {g : Nat} {T : TypeId}, Typ w g T → T ≠ 105 → v.ownBlock ≠ some g → w'.heap[g]? = w.heap[g]? := fun {g T} hg hT hne => hP.block g hg.lt (Typ.ne hg hTb hT) (fun e => hne e.symm)
  have hc := h1.cells
  obtain ⟨pok, pno, pk, pm, pf⟩ := c.part hS hd
  obtain ⟨A', C', rfl, hA', hC', _⟩ := hs.slice
  have hrow : ∀ g, rd.ownBlock = some g → w'.heap[g]? = w.heap[g]? := fun g hg => by
    obtain ⟨_, _, hrt⟩ := row_type h2 hg
    exact keep hrt (by decide) (fun e => (Typ.ne hrt (hty g e) (by decide)) rfl)
  refine ⟨⟨h.tb, h.bb, ?_, fun k hk => ?_, .inl h.ob, fun s => if s = d.A % 32 then #[.int .u32 (d.B : Nat), .int .i64 d.K, .int .i64 d.M, .slice A' ((S.part d).sh ++ [d.sd]).length C', .slice none 0 0] else sv s, rd, ?_, ?_, fun g hg => .inl (h3 g hg), fun s hs' => ?_, fun s g hs' hg => ?_, fun s s' g hs1 hs2 hne hg => ?_, fun s g hs' hg => ?_⟩, hP.os, hP.tape, hP.output, hP.size, fun k hk hno => ?_⟩
  · refine h.tab.keep (hP.block t (World.rowIs.lt h.tab) (by have := h.tb; have := h.bb; omega) (fun e => ?_))
    have := ((h4 _ hs0).typ3 (hv.trans e.symm)).1
    have := h.tb
    omega
  · rcases hk with hk | hk
    · exact ⟨(h.own k hk).1, Nat.lt_of_lt_of_le (h.own k hk).2 hP.size⟩
    · exact ⟨Nat.le_trans h.low hk.1, hk.2⟩
  · exact h1.turn hP (fun j hj => .inr (.inr (.inr (.inr (.inr hj))))) (hP.cell hTb hc.2.1 (by unfold Sl5; omega)) (hP.cell hTb hc.2.2.1 (by unfold Sl5; omega)) (hP.cell hTb hc.2.2.2.1 (by unfold Sl5; omega)) (hP.cell hTb hc.2.2.2.2.1 (by unfold Sl5; omega)) (hP.cell hTb hc.2.2.2.2.2 (by unfold Sl5; omega)) hs0 hl rfl
  · exact OwnU.keep h2 hrow
  · rw [c.put_slot hS hd hs']
    by_cases e : s = d.A % 32
    · simp only [if_pos e]
      refine .inr (.inr ⟨_, A', C', rfl, fun hh => ?_, ?_, hs⟩)
      · rw [e] at hh
        simp at hh
      · show _ = #[Value.int .u32 (((S.part d).add d.sd).fst : Nat), .int .i64 (((S.part d).add d.sd).k : Nat), .int .i64 (((S.part d).add d.sd).m : Nat), .slice A' ((S.part d).add d.sd).sh.length C', .slice none 0 0]
        rw [pf, pk, pm]
        rfl
    · simp only [if_neg e]
      have hi := h4 s hs'
      have hraw : (some (d.A % 32) == some s) = (none == some s) := by
        have : ¬ d.A % 32 = s := fun e2 => e e2.symm
        simp [this]
      rw [hraw]
      exact hi.keep (fun g hg => keep (hi.typ3 hg).2.2 (by decide) (fun e2 => h6 s _ g hs' hs0 e hg (hv.trans e2))) (fun g cur hcur => keep ⟨cur, hcur⟩ (by decide) (fun e2 => (Typ.ne ⟨cur, hcur⟩ (hty g e2) (by decide)) rfl)) (fun g hg => keep (hi.typ4 hg).2.2 (by decide) (fun e2 => (Typ.ne (hi.typ4 hg).2.2 (hty g e2) (by decide)) rfl))
  · dsimp only at hg
    by_cases e : s = d.A % 32
    · rw [if_pos e] at hg
      rcases hr with hr | ⟨q, hq, hq2⟩
      · exact .inl (h5 _ g hs0 (hv.trans (hr.symm.trans hg)))
      · have hg2 : (Value.slice A' ((S.part d).sh ++ [d.sd]).length C').ownBlock = some g := hg
        rw [hq] at hg2
        cases hg2
        exact .inr ⟨hq2, (hs.typ hq).2.1⟩
    · rw [if_neg e] at hg; exact .inl (h5 s g hs' hg)
  · dsimp only at hg ⊢
    have hnew : ∀ s s', s < 32 → s' < 32 → s ≠ d.A % 32 → s' = d.A % 32 → ∀ g, blkAt (sv s) 3 = some g → (Value.slice A' ((S.part d).sh ++ [d.sd]).length C').ownBlock ≠ some g := fun s s' hs1 _ hne _ g hg e => by
      rcases hr with hr | ⟨q, hq, hq2⟩
      · exact h6 s _ g hs1 hs0 hne hg (hv.trans (hr.symm.trans e))
      · rw [hq] at e
        cases e
        have := ((h4 s hs1).typ3 hg).2.1
        omega
    by_cases e : s = d.A % 32
    · rw [if_pos e] at hg
      rw [if_neg (fun e' => hne (e.trans e'.symm))]
      intro hg2
      exact hnew s' s hs2 hs1 (fun e' => hne (e.trans e'.symm)) e g hg2 hg
    · rw [if_neg e] at hg
      by_cases e' : s' = d.A % 32
      · rw [if_pos e']
        exact hnew s s' hs1 hs2 e e' g hg
      · rw [if_neg e']; exact h6 s s' g hs1 hs2 hne hg
  · dsimp only at hg
    by_cases e : s = d.A % 32
    · rw [if_pos e] at hg; cases hg
    · rw [if_neg e] at hg; exact ⟨(h7 s g hs' hg).1, .inl (h7 s g hs' hg).2⟩
  · exact hP.block k hk (fun e => hno (by rw [e]; exact h.ob)) (fun e => hno (h5 _ k hs0 (hv.trans e.symm)))
/-- Enough haven't come: all is settled. -/
theorem CW.settle {w : World} {b t base : Nat} {O : Nat → Prop} {S : Wn} {s0 : Nat} (h : CW w b t base O (some s0) S) (hf : ∀ p, s0 < 32 → S.slot s0 = some p → ¬ p.full) : CW w b t base O none S := by
  obtain ⟨sv, rd, h1, h2, h3, h4, h5, h6, h7⟩ := h.ex
  refine ⟨h.tb, h.bb, h.tab, h.own, h.ob, sv, rd, h1, h2, h3, fun s hs => ?_, h5, h6, h7⟩
  have hi := h4 s hs
  by_cases e : s0 = s
  · subst e
    rcases hi with hi | ⟨p, g, e0, hfl, hr, _⟩ | ⟨p, A, C, e0, _, hcs⟩
    · exact .inl hi
    · exact absurd hfl (hf p hs e0)
    · exact .inr (.inr ⟨p, A, C, e0, fun hh => hf p hs e0 hh.1, hcs⟩)
  · have hraw : (some s0 == some s) = (none == some s) := by simp [e]
    rw [hraw] at hi
    exact hi
/-- Enough have come: they are inputs now. -/
theorem CW.mended {w w' : World} {b t base : Nat} {O : Nat → Prop} {S : Wn} {p : Pt} {s0 g : Nat} (h : CW w b t base O (some s0) S) (hs0 : s0 < 32) (hsl : S.slot s0 = some p) (hf : p.full)
    (hP : PrtR b none (fun j => j = 4 ∨ Sl5 (5 + s0 * 5) j) w w') (hl : Lies w' b (5 + s0 * 5) #[.int .u32 (p.fst : Nat), .int .i64 (p.k : Nat), .int .i64 (p.m : Nat), .slice none 0 0, .slice (some ⟨g, 0, none⟩) p.k p.k]) (hr : w'.rowIs g 79 p.k (fun i => .int .u16 (p.ins.getD i 0))) (hg0 : w.heap.size ≤ g) (c4 : w'.cell? ⟨b, 4, none⟩ = some (.int .i64 ((if hasPar p.sh p.k = true then S.mended + 1 else S.mended : Nat) : Int))) :
    CW w' b t base (OO O w w') none (S.mend p) ∧ FrO O w w' := by
  obtain ⟨sv, rd, h1, h2, h3, h4, h5, h6, h7⟩ := h.ex
  have hTb := h1.typ
  have hc := h1.cells
  have keep : ∀ {g : Nat} {T : TypeId}, Typ w g T → T ≠ 105 → w'.heap[g]? = w.heap[g]? := fun {g T} hg hT => hP.block g hg.lt (Typ.ne hg hTb hT) (fun e => by cases e)
  refine ⟨⟨h.tb, h.bb, ?_, fun k hk => ?_, .inl h.ob, fun s => if s = s0 then #[.int .u32 (p.fst : Nat), .int .i64 (p.k : Nat), .int .i64 (p.m : Nat), .slice none 0 0, .slice (some ⟨g, 0, none⟩) p.k p.k] else sv s, rd, ?_, ?_, fun g hg => .inl (h3 g hg), fun s hs' => ?_, fun s g hs' hg => ?_, fun s s' g hs1 hs2 hne hg => ?_, fun s q hs' hg => ?_⟩, hP.os, hP.tape, hP.output, hP.size, fun k hk hno => ?_⟩
  · exact h.tab.keep (hP.block t (World.rowIs.lt h.tab) (by have := h.tb; have := h.bb; omega) (fun e => by cases e))
  · rcases hk with hk | hk
    · exact ⟨(h.own k hk).1, Nat.lt_of_lt_of_le (h.own k hk).2 hP.size⟩
    · exact ⟨Nat.le_trans h.low hk.1, hk.2⟩
  · refine h1.turn hP (fun j hj => hj.elim (fun h => .inr (.inr (.inr (.inl h)))) (fun h => .inr (.inr (.inr (.inr (.inr h)))))) (hP.cell hTb hc.2.1 (by unfold Sl5; omega)) (hP.cell hTb hc.2.2.1 (by unfold Sl5; omega)) (hP.cell hTb hc.2.2.2.1 (by unfold Sl5; omega)) c4 (hP.cell hTb hc.2.2.2.2.2 (by unfold Sl5; omega)) hs0 hl rfl
  · exact OwnU.keep h2 (fun g hg => by
      obtain ⟨_, _, hrt⟩ := row_type h2 hg
      exact keep hrt (by decide))
  · show SlotIs w' base _ (S.slot s) _
    by_cases e : s = s0
    · simp only [if_pos e]
      rw [e]
      exact .inr (.inl ⟨p, g, hsl, hf, by simp, rfl, by have := h.low; omega, hr⟩)
    · simp only [if_neg e]
      have hi := h4 s hs'
      have hraw : (some s0 == some s) = (none == some s) := by
        have : ¬ s0 = s := fun e2 => e e2.symm
        simp [this]
      rw [hraw] at hi
      exact hi.keep (fun g hg => keep (hi.typ3 hg).2.2 (by decide)) (fun g cur hcur => keep ⟨cur, hcur⟩ (by decide)) (fun g hg => keep (hi.typ4 hg).2.2 (by decide))
  · dsimp only at hg
    by_cases e : s = s0
    · rw [if_pos e] at hg; cases hg
    · rw [if_neg e] at hg; exact .inl (h5 s g hs' hg)
  · dsimp only at hg ⊢
    by_cases e : s = s0
    · rw [if_pos e] at hg; cases hg
    · rw [if_neg e] at hg
      by_cases e' : s' = s0
      · rw [if_pos e']; intro h; cases h
      · rw [if_neg e']; exact h6 s s' g hs1 hs2 hne hg
  · dsimp only at hg
    by_cases e : s = s0
    · rw [if_pos e] at hg
      have hg2 : some g = some q := hg
      cases hg2
      refine ⟨fun e2 => ?_, .inr ⟨hg0, World.rowIs.lt hr⟩⟩
      have h9 := (row_type h2 e2).2.1
      exact absurd h9 (by omega)
    · rw [if_neg e] at hg; exact ⟨(h7 s q hs' hg).1, .inl (h7 s q hs' hg).2⟩
  · exact hP.block k hk (fun e => hno (by rw [e]; exact h.ob)) (fun e => by cases e)
/-- One came twice. -/
theorem CW.twice {w : World} {b t base : Nat} {O : Nat → Prop} {S : Wn} (h : CW w b t base O none S) : CW (w.setCell ⟨b, 3, none⟩ (.int .i64 ((S.doubles + 1 : Nat) : Int))) b t base (OO O w (w.setCell ⟨b, 3, none⟩ (.int .i64 ((S.doubles + 1 : Nat) : Int)))) none S.twice ∧ FrO O w (w.setCell ⟨b, 3, none⟩ (.int .i64 ((S.doubles + 1 : Nat) : Int))) := by
  obtain ⟨sv, rd, h1, h2, h3, h4, h5, h6, h7⟩ := h.ex
  have hTb := h1.typ
  have hc := h1.cells
  obtain ⟨w', hw'⟩ : ∃ w', w' = w.setCell ⟨b, 3, none⟩ (.int .i64 ((S.doubles + 1 : Nat) : Int)) := ⟨_, rfl⟩
  have hP : PrtR b none (fun j => j = 3) w w' := by rw [hw']; exact (PrtR.refl b none (fun j => j = 3) w).set 3 rfl _
  have c3 : w'.cell? ⟨b, 3, none⟩ = some (.int .i64 ((S.doubles + 1 : Nat) : Int)) := by rw [hw']; exact World.cell?_setCell_same w _ _ hc.2.2.2.1
  rw [← hw']
  have keep : ∀ {g : Nat} {T : TypeId}, Typ w g T → T ≠ 105 → w'.heap[g]? = w.heap[g]? := fun {g T} hg hT => hP.block g hg.lt (Typ.ne hg hTb hT) (fun e => by cases e)
  have hl0 := h1.lies (show 0 < 32 by omega)
  refine ⟨⟨h.tb, h.bb, h.tab.keep (hP.block t (World.rowIs.lt h.tab) (by have := h.tb; have := h.bb; omega) (fun e => by cases e)), fun k hk => ?_, .inl h.ob, sv, rd, ?_, ?_, fun g hg => .inl (h3 g hg), fun s hs' => ?_, fun s g hs' hg => .inl (h5 s g hs' hg), h6, fun s g hs' hg => ⟨(h7 s g hs' hg).1, .inl (h7 s g hs' hg).2⟩⟩, hP.os, hP.tape, hP.output, hP.size, fun k hk hno => hP.block k hk (fun e => hno (by rw [e]; exact h.ob)) (fun e => by cases e)⟩
  · rcases hk with hk | hk
    · exact ⟨(h.own k hk).1, Nat.lt_of_lt_of_le (h.own k hk).2 hP.size⟩
    · exact ⟨Nat.le_trans h.low hk.1, hk.2⟩
  · have hh := h1.turn hP (s0 := 0) (fun j hj => .inr (.inr (.inl hj))) (hP.cell hTb hc.2.1 (by omega)) (hP.cell hTb hc.2.2.1 (by omega)) c3 (hP.cell hTb hc.2.2.2.2.1 (by omega)) (hP.cell hTb hc.2.2.2.2.2 (by omega)) (by omega) (hP.lies hl0 (fun j _ => by omega)) (h4 0 (by omega)).size
    have e : (fun s => if s = 0 then sv 0 else sv s) = sv := by
      funext s
      by_cases e : s = 0
      · rw [if_pos e, e]
      · rw [if_neg e]
    rw [e] at hh
    exact hh
  · exact OwnU.keep h2 (fun g hg => by
      obtain ⟨_, _, hrt⟩ := row_type h2 hg
      exact keep hrt (by decide))
  · have hi := h4 s hs'
    exact hi.keep (fun g hg => keep (hi.typ3 hg).2.2 (by decide)) (fun g cur hcur => keep ⟨cur, hcur⟩ (by decide)) (fun g hg => keep (hi.typ4 hg).2.2 (by decide))
theorem CW.flat {w w1 w2 : World} {b t base : Nat} {O : Nat → Prop} {x : Option Nat} {S : Wn} (h : CW w2 b t base (OO (OO O w w1) w1 w2) x S) (s1 : w.heap.size ≤ w1.heap.size) (s2 : w1.heap.size ≤ w2.heap.size) (hb : base ≤ w.heap.size) (ho : ∀ k, O k → base ≤ k ∧ k < w.heap.size) : CW w2 b t base (OO O w w2) x S := by
  refine h.more (fun k hk => ?_) (fun k hk => ?_)
  · rcases hk with (hk | hk) | hk
    · exact .inl hk
    · exact .inr ⟨hk.1, Nat.lt_of_lt_of_le hk.2 s2⟩
    · exact .inr ⟨Nat.le_trans s1 hk.1, hk.2⟩
  · rcases hk with hk | hk
    · have := ho k hk
      exact ⟨this.1, by omega⟩
    · exact ⟨Nat.le_trans hb hk.1, hk.2⟩
/-- What a slot's cells are, in numbers: what its part's shards are as long as they are there, and how many inputs. -/
structure Cells5 (w : World) (base : Nat) (S : Wn) (d : Cd) (cs : Array Value) (pf pk pm : Nat) (A : Option Addr) (n C : Nat) (A4 : Option Addr) (n4 C4 : Nat) (sh : List Sd) : Prop where
  eq : cs = #[.int .u32 (pf : Nat), .int .i64 (pk : Nat), .int .i64 (pm : Nat), .slice A n C, .slice A4 n4 C4]
  row : ShO w base (fun _ => True) (.slice A n C) sh
  len : sh.length = n
  le : n ≤ 16
  ix : ∀ x ∈ sh, x.ix ≤ 1000
  big : pk ≤ 16
  code : S.code d = if d.bad ≠ 0 then d.bad else if S.far d.A ≠ 0 then S.far d.A else if 0 < pk ∧ ¬ (d.B = pf ∧ d.K = (pk : Nat) ∧ d.M = (pm : Nat)) then 170 else if 0 < n4 ∨ hasIx sh d.ix = true then 171 else 0
  part : S.code d = 0 → (S.part d).sh = sh ∧ A4 = none ∧ n4 = 0 ∧ C4 = 0
theorem CW.cells5 {w : World} {base n : Nat} {S : Wn} {d : Cd} {cs : Array Value} (hS : S.ok n) (hA : S.base ≤ d.A ∧ d.A < S.base + 32) (hi : SlotIs w base false (S.slot (d.A % 32)) cs) : ∃ pf pk pm A m C A4 n4 C4 sh, Cells5 w base S d cs pf pk pm A m C A4 n4 C4 sh := by
  have hsl : S.slot (d.A % 32) = S.of d.A := by unfold Wn.slot; rw [Wn.num_of hA.1 hA.2]
  rw [hsl] at hi
  rcases hi with ⟨e0, rfl⟩ | ⟨p, g, e0, hf, _, rfl, hgb, hgr⟩ | ⟨p, A, C, e0, hnf, rfl, hs⟩
  · refine ⟨0, 0, 0, none, 0, 0, none, 0, 0, [], ⟨rfl, ShO.nil _ _ _, rfl, by omega, by simp, by omega, ?_, fun _ => ⟨?_, rfl, rfl, rfl⟩⟩⟩
    · have e1 : S.l[S.at_ d.A]? = none := e0
      unfold Wn.code
      rw [e1]
      simp [hasIx]
    · have e1 : S.l[S.at_ d.A]? = none := e0
      unfold Wn.part
      rw [e1]
      rfl
  · have hok := (hS.parts p (Wn.of_some e0).2.1).1
    have e1 : S.l[S.at_ d.A]? = some p := e0
    have hk1 := hok.k1
    have hcode : S.code d = if d.bad ≠ 0 then d.bad else if S.far d.A ≠ 0 then S.far d.A else if 0 < p.k ∧ ¬ (d.B = p.fst ∧ d.K = (p.k : Nat) ∧ d.M = (p.m : Nat)) then 170 else if 0 < p.k ∨ hasIx [] d.ix = true then 171 else 0 := by
      unfold Wn.code
      rw [e1]
      dsimp only
      have h1 : (p.fst ≠ d.B ∨ (p.k : Int) ≠ d.K ∨ (p.m : Int) ≠ d.M) ↔ (0 < p.k ∧ ¬ (d.B = p.fst ∧ d.K = (p.k : Nat) ∧ d.M = (p.m : Nat))) := by
        constructor
        · intro h; exact ⟨hk1, fun ⟨x1, x2, x3⟩ => h.elim (fun h => h x1.symm) (fun h => h.elim (fun h => h x2.symm) (fun h => h x3.symm))⟩
        · rintro ⟨_, h⟩
          by_cases x1 : p.fst = d.B
          · by_cases x2 : (p.k : Int) = d.K
            · exact .inr (.inr (fun x3 => h ⟨x1.symm, x2.symm, x3.symm⟩))
            · exact .inr (.inl x2)
          · exact .inl x1
      have h2 : (p.full ∨ hasIx p.sh d.ix = true) ↔ (0 < p.k ∨ hasIx [] d.ix = true) := ⟨fun _ => .inl hk1, fun _ => .inl hf⟩
      simp only [h1, h2]
    refine ⟨p.fst, p.k, p.m, none, 0, 0, some ⟨g, 0, none⟩, p.k, p.k, [], ⟨rfl, ShO.nil _ _ _, rfl, by omega, by simp, hok.k2, hcode, fun h0 => ?_⟩⟩
    exfalso
    rw [hcode] at h0
    split at h0
    · contradiction
    · split at h0
      · contradiction
      · split at h0
        · cases h0
        · rw [if_pos (.inl hk1)] at h0; cases h0
  · have hok := (hS.parts p (Wn.of_some e0).2.1).1
    have e1 : S.l[S.at_ d.A]? = some p := e0
    have hk1 := hok.k1
    have hnf2 : ¬ p.full := fun h => hnf ⟨h, rfl⟩
    refine ⟨p.fst, p.k, p.m, A, p.sh.length, C, none, 0, 0, p.sh, ⟨rfl, hs, rfl, by have := hok.s2; have := hok.k2; omega, fun x hx => by have := (hok.ix x hx).1; have := hok.k2; have := hok.m2; omega, hok.k2, ?_, fun _ => ⟨?_, rfl, rfl, rfl⟩⟩⟩
    · unfold Wn.code
      rw [e1]
      dsimp only
      have h1 : (p.fst ≠ d.B ∨ (p.k : Int) ≠ d.K ∨ (p.m : Int) ≠ d.M) ↔ (0 < p.k ∧ ¬ (d.B = p.fst ∧ d.K = (p.k : Nat) ∧ d.M = (p.m : Nat))) := by
        constructor
        · intro h; exact ⟨hk1, fun ⟨x1, x2, x3⟩ => h.elim (fun h => h x1.symm) (fun h => h.elim (fun h => h x2.symm) (fun h => h x3.symm))⟩
        · rintro ⟨_, h⟩
          by_cases x1 : p.fst = d.B
          · by_cases x2 : (p.k : Int) = d.K
            · exact .inr (.inr (fun x3 => h ⟨x1.symm, x2.symm, x3.symm⟩))
            · exact .inr (.inl x2)
          · exact .inl x1
      have h2 : (p.full ∨ hasIx p.sh d.ix = true) ↔ (0 < 0 ∨ hasIx p.sh d.ix = true) := ⟨fun h => .inr (h.elim (fun h => absurd h hnf2) id), fun h => .inr (h.elim (fun h => absurd h (by omega)) id)⟩
      simp only [h1, h2]
    · unfold Wn.part
      rw [e1]
      rfl
theorem Wn.far_ahead {S : Wn} {no : Nat} (hb : S.base ≤ 300) (hn : no < 4294967296) : (S.far no = 0 ∧ 0 ≤ aheadZ no S.base ∧ aheadZ no S.base < 32 ∧ S.base ≤ no ∧ no < S.base + 32) ∨ (S.far no = 2 ∧ 32 ≤ aheadZ no S.base) ∨ (S.far no = 90 ∧ aheadZ no S.base < 0) := by
  unfold Wn.far aheadZ
  by_cases h1 : S.base ≤ no ∧ no < S.base + 32
  · refine .inl ?_
    rw [if_pos h1, if_neg (by omega)]
    omega
  · rw [if_neg h1]
    by_cases h2 : S.base ≤ no ∧ no < S.base + 2147483648
    · refine .inr (.inl ?_)
      rw [if_pos h2, if_neg (by omega)]
      omega
    · refine .inr (.inr ?_)
      rw [if_neg h2]
      refine ⟨rfl, ?_⟩
      split <;> omega
end Go.Proofs.Ytjcbcdjfhcnhcaa
