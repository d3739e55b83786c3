/-
  Own text: law RedundSlow, walked. (Written by gen_rus.py.)
-/
import Derived.Test.YtldhlknmabpanaaRuC
import Derived.Test.YtldhlknmabpanaaRuT
namespace Go.Proofs.Ytldhlknmabpanaa
open Go.RowKit

/-- Between two groups. -/
structure Sl (w : World) (p : Nat) (m : Int) (c : Cn) (W : World) : Prop where
  blk : Blk16 34 W p c
  ok : c.ok
  most : c.most = m
  hp : w.heap.size ≤ p
  bel : Below w.heap.size w W
theorem Sl.below {w : World} {p : Nat} {m : Int} {c : Cn} {W W' : World} (h : Sl w p m c W) (hb : Below W.heap.size W W') : Sl w p m c W' :=
  ⟨h.blk.below hb h.blk.lt, h.ok, h.most, h.hp, h.bel.trans (hb.mono h.bel.size)⟩
theorem Sl.next {w : World} {p : Nat} {m : Int} {c : Cn} {W : World} (h : Sl w p m c W) (k l : Int) :
    Calls Try.prog 10 #[.pointer (some ⟨p, 0, none⟩), .int .i64 k, .int .i64 l] W fun e w' => e = .returned (.int .i64 (c.next k l).now) ∧ Hid (Sl w p m (c.next k l) w') ∧ Hid (Frm13 p W w') :=
  (next16_any p c h.ok k l W h.blk).mono fun e w' ⟨h1, h2, h3⟩ => ⟨h1, Lib.hid ⟨h2.out, Cn.next_ok h.ok k l, by rw [Cn.next_most]; exact h.most, h.hp, h3.out.bel h.bel h.bel.size h.hp⟩, h3⟩
set_option maxRecDepth 100000 in
set_option maxHeartbeats 1000000 in
theorem slow16_walk (m : Int) (a : Option Addr) (n c : Nat) (w : World) (hp : True → ∃ K L, Ops16 w a n K L) :
    Calls Try.prog 5 #[.int .i64 m, .slice a n c] w (Yes16 w) := by
  obtain ⟨K, L, ho⟩ := hp trivial
  have C0 := Lib.hid (fun w => awake16_any w)
  by_cases hm : m < 0 ∨ 16 < m
  · have CN := Lib.hid (fun w => new16_no m hm w)
    clear ho hp hm
    go_enter Try.func5, Try.ntmps5
    go_wp2_with (first
      | (go_at_call 7; (with_reducible refine (C0.out _).mono ?_); rintro e w1 ⟨rfl, HB1⟩)
      | (go_at_call 8; (with_reducible refine (CN.out _).mono ?_); rintro e w2 ⟨rfl, rfl⟩)
      | fail)
    go_ret
    exact ⟨rfl, HB1⟩
  · have CN := Lib.hid (fun w => new16_yes m (by omega) (by omega) w)
    have HO := Lib.hid ho
    have HM : Hid (0 ≤ m ∧ m ≤ 16) := Lib.hid (by omega)
    clear ho hp hm
    go_enter Try.func5, Try.ntmps5
    go_upto_region 6 with (first
      | (go_at_call 7; (with_reducible refine (C0.out _).mono ?_); rintro e w1 ⟨rfl, hb1⟩; have HB1 := Lib.hid hb1; clear hb1)
      | (go_at_call 8; (with_reducible refine (CN.out _).mono ?_); rintro e w2 ⟨p, rfl, HK, HB2⟩)
      | fail)
    have HS0 : Hid (Sl w p m ⟨0, m, 0⟩ w2) := Lib.hid ⟨HK.out.2, ⟨Int.le_refl 0, HM.out.1, HM.out.2, Int.le_refl 0, by show (0 : Int) ≤ 7; omega⟩, rfl, Nat.le_trans HB1.out.size HK.out.1, HB1.out.trans (HB2.out.mono HB1.out.size)⟩
    clear C0 CN HK HB2 HB1
    go_wp2
    go_loopw [8, 7] (fun s8 s7 wr => ∃ (i : Nat) (last : Int) (c : Cn), i ≤ 200 ∧ s8 = .int .i64 (i : Int) ∧ s7 = .int .i64 last ∧ Hid (Sl w p m c wr) ∧ Hid (-8 ≤ last ∧ last + c.calm + 1 ≤ i)) (fun s8 _ _ => 200 - (intOf s8).toNat)
    case atStart => exact ⟨0, -8, ⟨0, m, 0⟩, by omega, rfl, rfl, HS0, Lib.hid ⟨Int.le_refl _, by show (-8 : Int) + 0 + 1 ≤ ((0 : Nat) : Int); omega⟩⟩
    case round =>
      obtain ⟨i, last, c, hi, rfl, rfl, HS, HI⟩ := hrel
      clear HS0
      have k0 : (0 : Int) ≤ (i : Int) := by omega
      have k3 : (i : Int) ≤ 200 := by omega
      by_cases hlt : i < n ∧ i < 200
      · have k1 : (i : Int) < (n : Int) := by omega
        have k2 : (i : Int) < 200 := by omega
        obtain ⟨g, off, rfl, hg, x0, x1⟩ := HO.out.at_ hlt.1
        have h0 := HS.out.blk.cells.1
        have hn := Cn.next_slow HS.out.ok (K i) (L i) i last HI.out.2
        have hok := Cn.next_ok HS.out.ok (K i) (L i)
        have hcm := HS.out.ok.c0
        have z0 := HS.out.ok.n0
        have z1 := HS.out.ok.n1
        have z2 := HS.out.ok.m1
        rw [HS.out.most] at z1 z2
        have hc2 := hok.c0
        rw [HS.out.most] at hn
        have hmo : (c.next (K i) (L i)).most = m := by rw [Cn.next_most]; exact HS.out.most
        have HX : Hid (∀ w', Below w.heap.size w w' → w'.cell? ⟨g, off + i * 2, none⟩ = some (.int .i64 (K i)) ∧ w'.cell? ⟨g, off + i * 2 + 1, none⟩ = some (.int .i64 (L i))) := Lib.hid (fun w' hb => ⟨(hb.cell (p := ⟨g, off + i * 2, none⟩) hg).trans x0, (hb.cell (p := ⟨g, off + i * 2 + 1, none⟩) hg).trans x1⟩)
        have HNX : Hid (∀ w', Below wr.heap.size wr w' → Calls Try.prog 10 #[.pointer (some ⟨p, 0, none⟩), .int .i64 (K i), .int .i64 (L i)] w' fun e w'' => e = .returned (.int .i64 (c.next (K i) (L i)).now) ∧ Hid (Sl w p m (c.next (K i) (L i)) w'')) := Lib.hid (fun w' hb => ((HS.out.below hb).next (K i) (L i)).mono fun _ _ hh => ⟨hh.1, hh.2.1⟩)
        have CT : Hid (∀ w', Calls Try.prog 11 #[.int .i64 (K i), .int .i64 (L i), .int .i64 m] w' fun e w'' => e = .returned (.int .i64 (tgt (K i) (L i) m)) ∧ Below w'.heap.size w' w'') := Lib.hid (fun w' => target_any (K i) (L i) m w')
        have HI2 : Hid (i + 1 ≤ 200) := Lib.hid hlt.2
        have HDM : Hid (200 - (i + 1) < 200 - i) := Lib.hid (by omega)
        obtain ⟨was, hwas⟩ : ∃ was, was = c.now := ⟨_, rfl⟩
        obtain ⟨cm, hcme⟩ : ∃ cm, cm = c.calm := ⟨_, rfl⟩
        obtain ⟨c', hc'⟩ : ∃ c', c' = c.next (K i) (L i) := ⟨_, rfl⟩
        have HIL := HI.out
        rw [← hcme] at hcm HIL
        rw [← hwas] at h0 hn z0 z1
        rw [← hc'] at hn hok hc2 hmo HNX
        obtain ⟨n1, n2, n3, n4⟩ := hn
        have y0 := hok.n0
        have y1 := hok.n1
        have y2 := hok.m1
        rw [hmo] at y1 y2
        obtain ⟨nw, hnw⟩ : ∃ nw, nw = c'.now := ⟨_, rfl⟩
        obtain ⟨cm2, hcm2⟩ : ∃ cm2, cm2 = c'.calm := ⟨_, rfl⟩
        rw [← hcm2] at n3 n4 hc2
        rw [← hnw] at n1 n2 n3 n4 y0 y1 HNX
        generalize tgt (K i) (L i) m = T at *
        obtain ⟨kk, hkk⟩ : ∃ kk, kk = K i := ⟨_, rfl⟩
        obtain ⟨ll, hll⟩ : ∃ ll, ll = L i := ⟨_, rfl⟩
        rw [← hkk, ← hll] at HX HNX CT
        have HSB := Lib.hid HS.out.bel
        have HC1 := Lib.hid hcm2
        clear hnw hcm2 hkk hll hc' hcme hwas hlt hi hg x0 x1 hok hmo HO HI HM
        go_upto_region 11 with fail
        refine (wpIn_wide (n := 3)).1 ?_
        refine wpIn_grow_tail (fun w' => Below wr.heap.size wr w') (Below.refl _ _).drew 11 (by kernel_rfl) (by kernel_rfl) (by kernel_rfl) ?_
        simp only [List.take_succ_cons, List.take_zero, List.drop_succ_cons, List.drop_zero]
        iterate 5 (refine wpQuietIn_step (fun _ _ _ _ => trivial) (fun K hK => ?_); go_simp; refine ⟨_, fun _ _ => rfl, hK _ ?_⟩; clear hK K)
        refine wpQuietIn_read (.int .i64 kk) (fun _ _ _ _ => trivial) rfl (fun w' hw => ?_) ?_
        · obtain ⟨c0, c1⟩ := HX.out w' (HSB.out.trans (hw.mono HSB.out.size))
          unfold Oper.quietAtIn
          go_simp
        simp only [Act.put, List.setIfInBounds_toArray, List.set_cons_zero, List.set_cons_succ]
        iterate 4 (refine wpQuietIn_step (fun _ _ _ _ => trivial) (fun K hK => ?_); go_simp; refine ⟨_, fun _ _ => rfl, hK _ ?_⟩; clear hK K)
        refine wpQuietIn_read (.int .i64 ll) (fun _ _ _ _ => trivial) rfl (fun w' hw => ?_) ?_
        · obtain ⟨c0, c1⟩ := HX.out w' (HSB.out.trans (hw.mono HSB.out.size))
          unfold Oper.quietAtIn
          go_simp
        simp only [Act.put, List.setIfInBounds_toArray, List.set_cons_zero, List.set_cons_succ]
        refine wpQuietIn_nil ?_
        rintro w3 hw3
        have CN := Lib.hid (HNX.out w3 hw3)
        clear hw3 HNX HS h0
        gi_wp2
        refine ⟨trivial, callsIn_wide.2 ((CN.out).mono ?_)⟩
        rintro e w4 ⟨rfl, HS4⟩
        gi_wp2
        have e1 : (nw < 0) = False := eq_false (by omega)
        have e2 : (m < nw) = False := eq_false (by omega)
        have e3 : (nw < T) = False := eq_false (by omega)
        have e4 : (nw < was - 1) = False := eq_false (by omega)
        have v1 : IntKind.i64.wrap (was - 1) = was - 1 := by rw [IntKind.wrap_i64]; omega
        have CT4 : Hid (∀ w', Below w4.heap.size w4 w' → Calls Try.prog 11 #[.int .i64 kk, .int .i64 ll, .int .i64 m] w' fun e w'' => e = .returned (.int .i64 T) ∧ Below w4.heap.size w4 w'') := Lib.hid (fun w' hb => (CT.out w').mono fun _ _ hh => ⟨hh.1, hb.trans (hh.2.mono hb.size)⟩)
        go_upto_region 12 with fail
        refine (wpIn_wide (n := 3)).1 ?_
        refine wpIn_class (fun w' => Below w4.heap.size w4 w') (Below.refl _ _).drew rfl (by kernel_rfl) (by kernel_rfl) ?_
        iterate 13 (refine wpQuietIn_step (fun _ _ _ _ => trivial) (fun K hK => ?_); go_simp; refine ⟨_, fun _ _ => rfl, hK _ ?_⟩; clear hK K)
        refine wpQ_readw (.int .i64 kk) (fun _ _ _ _ => trivial) rfl (fun w' hw => ?_) ?_
        · obtain ⟨c0, c1⟩ := HX.out w' (HS4.out.bel.trans (hw.mono HS4.out.bel.size))
          unfold Oper.quietAtIn
          go_simp
        simp only [Act.put, List.setIfInBounds_toArray, List.set_cons_zero, List.set_cons_succ]
        iterate 4 (refine wpQuietIn_step (fun _ _ _ _ => trivial) (fun K hK => ?_); go_simp; refine ⟨_, fun _ _ => rfl, hK _ ?_⟩; clear hK K)
        refine wpQ_readw (.int .i64 ll) (fun _ _ _ _ => trivial) rfl (fun w' hw => ?_) ?_
        · obtain ⟨c0, c1⟩ := HX.out w' (HS4.out.bel.trans (hw.mono HS4.out.bel.size))
          unfold Oper.quietAtIn
          go_simp
        simp only [Act.put, List.setIfInBounds_toArray, List.set_cons_zero, List.set_cons_succ]
        (refine wpQuietIn_step (fun _ _ _ _ => trivial) (fun K hK => ?_); go_simp; refine ⟨_, fun _ _ => rfl, hK _ ?_⟩; clear hK K)
        refine wpQuietIn_step (fun _ _ _ _ => trivial) (fun K hK => ?_)
        go_simp
        refine ⟨.int .i64 T, fun w' hw => callsIn_wide.2 (CT4.out w' hw), hK _ ?_⟩
        clear hK K
        iterate 8 (refine wpQuietIn_step (fun _ _ _ _ => trivial) (fun K hK => ?_); go_simp; refine ⟨_, fun _ _ => rfl, hK _ ?_⟩; clear hK K)
        refine wpQuietIn_nil ?_
        rintro w5 hw5
        have HS5 := Lib.hid (HS4.out.below hw5)
        clear hw5 HS4 CT CT4 HX e1 e2 e3 e4
        by_cases hf : nw < was
        · obtain ⟨g1, g2⟩ := n3 hf
          have v2 : IntKind.i64.wrap ((i : Int) - last) = (i : Int) - last := by rw [IntKind.wrap_i64]; omega
          have g3 : ¬ (i : Int) - last < 8 := by omega
          have HIN : Hid (-8 ≤ (i : Int) ∧ (i : Int) + c'.calm + 1 ≤ ((i + 1 : Nat) : Int)) := Lib.hid ⟨by omega, by rw [← HC1.out]; push_cast; omega⟩
          clear n1 n2 n3 n4 g1 g2
          go_wp2
          go_roundw
          case rel => exact ⟨i + 1, i, c', HI2.out, by go_num, rfl, HS5, HIN⟩
          case measure => have := HDM.out; simp [intOf] <;> omega
        · have g4 := n4 (by omega)
          have HIN : Hid (-8 ≤ last ∧ last + c'.calm + 1 ≤ ((i + 1 : Nat) : Int)) := Lib.hid ⟨by omega, by rw [← HC1.out]; push_cast; omega⟩
          clear n1 n2 n3 n4 g4
          go_wp2
          go_roundw
          case rel => exact ⟨i + 1, last, c', HI2.out, by go_num, rfl, HS5, HIN⟩
          case measure => have := HDM.out; simp [intOf] <;> omega
      · have hcs : ¬ i < n ∨ (i < n ∧ ¬ i < 200) := by omega
        rcases hcs with h1 | ⟨h1, h2⟩
        · have k1 : ¬ (i : Int) < (n : Int) := by omega
          clear hlt hi
          go_wp2
          go_ret
          exact ⟨rfl, HS.out.bel⟩
        · have k1 : (i : Int) < (n : Int) := by omega
          have k2 : ¬ (i : Int) < 200 := by omega
          clear hlt hi
          go_wp2
          go_ret
          exact ⟨rfl, HS.out.bel⟩
end Go.Proofs.Ytldhlknmabpanaa
