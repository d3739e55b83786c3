/-
  Own text: law RedundPlays, walked. (Written by gen_rus.py.)
-/
import Derived.Test.YtldhlknmabpanaaRuS
import Derived.OrdersHeld
import Derived.Deep.RegionHeld3
namespace Go.Proofs.Ytldhlknmabpanaa
open Go.RowKit

/-- A class of worlds may be turned for a narrower one in the middle of a region. -/
theorem wpAnyH_narrow {P : Program} {md : Region.Mode} {ops : Array Oper} {Q : Exit → Act → World → Prop} {S S' : World → Prop} (hS : ∀ w, S' w → S w) : ∀ (fuel : Nat) (listed : Array Bool) (a : Act) (w : World), wpAnyH P md ops Q S' fuel listed a w → wpAnyH P md ops Q S fuel listed a w
  | 0, _, _, _, h => h
  | fuel + 1, _, _, _, h => ⟨h.1, fun i hi => wpOp_mono (fun a' w' h' => ⟨hS w' h'.1, wpAnyH_narrow hS fuel _ a' w' h'.2⟩) (h.2 i hi)⟩
/-- An operation that yields one value in each world of the class is taken first: its place is written out. -/
theorem take_at16 {P : Program} {ops : Array Oper} {md : Region.Mode} {Q : Exit → Act → World → Prop} {S : World → Prop} {i : Nat} {oi : Oper} {v : Value} {fuel : Nat} {listed : Array Bool} {a : Act} {w : World} (d : Option Tmp) (hi : ops[i]? = some oi) (hd : oi.dst = d)
    (hs : Region.noSelect ops = true) (hf : Region.free md ops listed i = true) (hr : (Region.ready md ops listed).contains i = true)
    (hQ : ∀ c a w, Q (.panic c) (a.put oi.dst v) w → Q (.panic c) a w) (hy : YieldsIf P ops S oi v a) (hS : S w)
    (h : wpAnyH P md ops Q S fuel (listed.setIfInBounds i true) (a.put d v) w) : wpAnyH P md ops Q S (fuel + 1) listed a w := by
  subst hd
  exact wpAnyH_take hi hs hf hr hQ hy hS h
/-- All orders end in one frame. -/
theorem wp_one {P : Program} {c : Code} {Q : Exit → Act → World → Prop} {a : Act} {w : World} {F : World → Prop} {A : Act} (reg : Code.wp P c (fun e a' w' => e = .normal ∧ a' = A ∧ F w') a w) (post : ∀ w', F w' → Q .normal A w') : Code.wp P c Q a w :=
  Code.wp_mono (fun e a' w' ⟨h1, h2, h3⟩ => by subst h1 h2; exact post w' h3) reg
/-- Between two groups: the code's control, and the document's. -/
structure Sp (w : World) (p d : Nat) (m : Int) (c c' : Cn) (W : World) : Prop where
  sl : Sl w p m c W
  doc : Blk16 29 W d c'
  hd : w.heap.size ≤ d
  ne : p ≠ d
theorem Sp.below {w : World} {p d : Nat} {m : Int} {c c' : Cn} {W W' : World} (h : Sp w p d m c c' W) (hb : Below W.heap.size W W') : Sp w p d m c c' W' := ⟨h.sl.below hb, h.doc.below hb h.doc.lt, h.hd, h.ne⟩
theorem Sp.next {w : World} {p d : Nat} {m : Int} {c c' : Cn} {W : World} (h : Sp w p d m c c' W) (k l : Int) :
    Calls Try.prog 10 #[.pointer (some ⟨p, 0, none⟩), .int .i64 k, .int .i64 l] W fun e w' => e = .returned (.int .i64 (c.next k l).now) ∧ Hid (Sp w p d m (c.next k l) c' w') :=
  (h.sl.next k l).mono fun _ _ ⟨h1, h2, h3⟩ => ⟨h1, Lib.hid ⟨h2.out, h.doc.keep (h3.out.block d h.doc.lt (Ne.symm h.ne)), h.hd, h.ne⟩⟩
theorem Sp.write {w : World} {p d : Nat} {m : Int} {c c' : Cn} {W : World} (h : Sp w p d m c c' W) (k : Cn) : Sp w p d m c k (((W.setCell ⟨d, 0, none⟩ (.int .i64 k.now)).setCell ⟨d, 1, none⟩ (.int .i64 k.most)).setCell ⟨d, 2, none⟩ (.int .i64 k.calm)) :=
  ⟨⟨((h.sl.blk.other (p := ⟨d, 0, none⟩) h.ne _).other (p := ⟨d, 1, none⟩) h.ne _).other (p := ⟨d, 2, none⟩) h.ne _, h.sl.ok, h.sl.most, h.sl.hp, ((h.sl.bel.setCell (p := ⟨d, 0, none⟩) h.hd _).setCell (p := ⟨d, 1, none⟩) h.hd _).setCell (p := ⟨d, 2, none⟩) h.hd _⟩, ((h.doc.set0 k.now).set1 k.most).set2 k.calm, h.hd, h.ne⟩
set_option maxRecDepth 100000 in
set_option maxHeartbeats 2000000 in
theorem plays16_walk (m : Int) (a : Option Addr) (n cp : Nat) (w : World) (hp : True → ∃ K L, Ops16 w a n K L) :
    Calls Try.prog 3 #[.int .i64 m, .slice a n cp] w (Yes16 w) := by
  obtain ⟨K, L, ho⟩ := hp trivial
  have C0 := Lib.hid (fun w => awake16_any w)
  by_cases hm : m < 0 ∨ 16 < m
  · have CN := Lib.hid (fun w => new16_no m hm w)
    clear ho hp
    have hcs : m < 0 ∨ (¬ m < 0 ∧ 16 < m) := by omega
    clear hm
    rcases hcs with h1 | ⟨h1, h2⟩
    all_goals
      go_enter Try.func3, Try.ntmps3
      go_wp2_with (first
        | (go_at_call 7; (with_reducible refine (C0.out _).mono ?_); rintro e w1 ⟨rfl, HB1⟩)
        | (go_at_call 8; (with_reducible refine (CN.out _).mono ?_); rintro e w2 ⟨rfl, rfl⟩)
        | fail)
      go_ret
      exact ⟨rfl, HB1⟩
  · have CN := Lib.hid (fun w => new16_yes m (by omega) (by omega) w)
    have HO := Lib.hid ho
    have HM : Hid (0 ≤ m ∧ m ≤ 16) := Lib.hid (by omega)
    have g1 : ¬ m < 0 := by omega
    have g2 : ¬ 16 < m := by omega
    clear ho hp hm
    go_enter Try.func3, Try.ntmps3
    go_upto_region 8 with (first
      | (go_at_call 7; (with_reducible refine (C0.out _).mono ?_); rintro e w1 ⟨rfl, hb1⟩; have HB1 := Lib.hid hb1; clear hb1)
      | (go_at_call 8; (with_reducible refine (CN.out _).mono ?_); rintro e w2 ⟨p, rfl, HK, HB2⟩)
      | fail)
    have HS0 : Hid (Sl w p m ⟨0, m, 0⟩ w2) := Lib.hid ⟨HK.out.2, ⟨Int.le_refl 0, HM.out.1, HM.out.2, Int.le_refl 0, by show (0 : Int) ≤ 7; omega⟩, rfl, Nat.le_trans HB1.out.size HK.out.1, HB1.out.trans (HB2.out.mono HB1.out.size)⟩
    clear C0 CN HK HB2 HB1 g1 g2
    go_upto_region 9 with fail
    obtain ⟨W0, hW0⟩ : ∃ W0, W0 = w2.alloc (.cells #[.int .i64 0, .int .i64 m, .int .i64 0] 29) := ⟨_, rfl⟩
    obtain ⟨hb0, hx0⟩ := Blk16.box w2 ⟨0, m, 0⟩ 29 hW0
    have HS1 : Hid (Sp w p w2.heap.size m ⟨0, m, 0⟩ ⟨0, m, 0⟩ W0) := Lib.hid ⟨HS0.out.below hb0, hx0 W0 (Below.refl _ _), HS0.out.bel.size, Nat.ne_of_lt HS0.out.blk.lt⟩
    rw [← hW0]
    clear hb0 hx0 hW0 HS0
    generalize w2.heap.size = d at *
    go_wp2
    go_loopw [8] (fun s8 wr => ∃ (i : Nat) (c : Cn), i ≤ 200 ∧ s8 = .int .i64 (i : Int) ∧ Hid (Sp w p d m c c wr)) (fun s8 _ => 200 - (intOf s8).toNat)
    case atStart => exact ⟨0, ⟨0, m, 0⟩, by omega, rfl, HS1⟩
    case round =>
      obtain ⟨i, c, hi, rfl, HS⟩ := hrel
      clear HS1
      have k0 : (0 : Int) ≤ (i : Int) := by omega
      have k3 : (i : Int) ≤ 200 := by omega
      by_cases hlt : i < n ∧ i < 200
      · have k1 : (i : Int) < (n : Int) := by omega
        have k2 : (i : Int) < 200 := by omega
        obtain ⟨g, off, rfl, hg, x0, x1⟩ := HO.out.at_ hlt.1
        have HX : Hid (∀ w', Below w.heap.size w w' → w'.cell? ⟨g, off + i * 2, none⟩ = some (.int .i64 (K i)) ∧ w'.cell? ⟨g, off + i * 2 + 1, none⟩ = some (.int .i64 (L i))) := Lib.hid (fun w' hb => ⟨(hb.cell (p := ⟨g, off + i * 2, none⟩) hg).trans x0, (hb.cell (p := ⟨g, off + i * 2 + 1, none⟩) hg).trans x1⟩)
        have HNX : Hid (∀ w', Sp w p d m c (c.next (K i) (L i)) w' → Calls Try.prog 10 #[.pointer (some ⟨p, 0, none⟩), .int .i64 (K i), .int .i64 (L i)] w' fun e w'' => e = .returned (.int .i64 (c.next (K i) (L i)).now) ∧ Hid (Sp w p d m (c.next (K i) (L i)) (c.next (K i) (L i)) w'')) := Lib.hid (fun w' h => h.next (K i) (L i))
        have HRN : Hid (∀ w', Below wr.heap.size wr w' → Calls Try.prog 9 #[CV c, .int .i64 (K i), .int .i64 (L i)] w' fun e w'' => e = .returned (CV (c.next (K i) (L i))) ∧ Below wr.heap.size wr w'') := Lib.hid (fun w' hb => (rnext16_any c HS.out.sl.ok (K i) (L i) w').mono fun _ _ hh => ⟨hh.1, hb.trans (hh.2.mono hb.size)⟩)
        have HI2 : Hid (i + 1 ≤ 200) := Lib.hid hlt.2
        have HDM : Hid (200 - (i + 1) < 200 - i) := Lib.hid (by omega)
        have HMO : Hid ((c.next (K i) (L i)).most = m) := Lib.hid (by rw [Cn.next_most]; exact HS.out.sl.most)
        obtain ⟨c', hc'⟩ : ∃ c', c' = c.next (K i) (L i) := ⟨_, rfl⟩
        obtain ⟨kk, hkk⟩ : ∃ kk, kk = K i := ⟨_, rfl⟩
        obtain ⟨ll, hll⟩ : ∃ ll, ll = L i := ⟨_, rfl⟩
        rw [← hc'] at HNX HRN HMO
        rw [← hkk, ← hll] at HX HNX HRN
        unfold CV at HRN
        have HSB := Lib.hid HS.out.sl.bel
        have HD : Hid (∀ w', Below wr.heap.size wr w' → w'.cell? ⟨d, 0, none⟩ = some (.int .i64 c.now) ∧ w'.cell? ⟨d, 1, none⟩ = some (.int .i64 c.most) ∧ w'.cell? ⟨d, 2, none⟩ = some (.int .i64 c.calm)) := Lib.hid (fun w' hb => (HS.out.below hb).doc.cells)
        clear hkk hll hc' hlt hi hg x0 x1 HO HM
        go_upto_region 12 with fail
        refine (wpIn_wide (n := 3)).1 ?_
        refine wpIn_grow_take (fun w' => Below wr.heap.size wr w') (Below.refl _ _).drew 12 rfl (by kernel_rfl) (by kernel_rfl) (by kernel_rfl) ?_
        simp only [List.take_succ_cons, List.take_zero, List.drop_succ_cons, List.drop_zero]
        refine wpQuietIn_read (.agg #[.int .i64 c.now, .int .i64 c.most, .int .i64 c.calm]) (fun _ _ _ _ => trivial) rfl (fun w' hw => ?_) ?_
        · obtain ⟨c0, c1, c2⟩ := HD.out w' hw
          unfold Oper.quietAtIn
          go_simp
        simp only [Act.put, List.setIfInBounds_toArray, List.set_cons_zero, List.set_cons_succ]
        iterate 4 (refine wpQuietIn_step (fun _ _ _ _ => trivial) (fun K hK => ?_); go_simp; refine ⟨_, fun _ _ => rfl, hK _ ?_⟩; clear hK K)
        refine wpQuietIn_read (.int .i64 kk) (fun _ _ _ _ => trivial) rfl (fun w' hw => ?_) ?_
        · obtain ⟨c0, c1⟩ := HX.out w' (HSB.out.trans (hw.mono HSB.out.size))
          unfold Oper.quietAtIn
          go_simp
        simp only [Act.put, List.setIfInBounds_toArray, List.set_cons_zero, List.set_cons_succ]
        iterate 4 (refine wpQuietIn_step (fun _ _ _ _ => trivial) (fun K hK => ?_); go_simp; refine ⟨_, fun _ _ => rfl, hK _ ?_⟩; clear hK K)
        refine wpQuietIn_read (.int .i64 ll) (fun _ _ _ _ => trivial) rfl (fun w' hw => ?_) ?_
        · obtain ⟨c0, c1⟩ := HX.out w' (HSB.out.trans (hw.mono HSB.out.size))
          unfold Oper.quietAtIn
          go_simp
        simp only [Act.put, List.setIfInBounds_toArray, List.set_cons_zero, List.set_cons_succ]
        refine wpQuietIn_step (fun _ _ _ _ => trivial) (fun K hK => ?_)
        go_simp
        refine ⟨.agg #[.int .i64 c'.now, .int .i64 c'.most, .int .i64 c'.calm], fun w' hw => callsIn_wide.2 (HRN.out w' hw), hK _ ?_⟩
        clear hK K
        refine wpQuietIn_nil ?_
        rintro w3 hw3
        have HS3 := Lib.hid (HS.out.below hw3)
        obtain ⟨c0, c1, c2⟩ := HS3.out.doc.cells
        have f0 := HS3.out.doc.frozen 0
        have f1 := HS3.out.doc.frozen 1
        have f2 := HS3.out.doc.frozen 2
        have HS4 := Lib.hid (HS3.out.write c')
        clear hw3 HRN HD HSB
        gi_wp2
        clear c0 c1 c2 f0 f1 f2 HS3
        generalize ((w3.setCell ⟨d, 0, none⟩ (.int .i64 c'.now)).setCell ⟨d, 1, none⟩ (.int .i64 c'.most)).setCell ⟨d, 2, none⟩ (.int .i64 c'.calm) = w4 at *
        have n1 : (c'.now != c'.now) = false := by simp
        have n2 : (c'.calm != c'.calm) = false := by simp
        have n3 : (m != m) = false := by simp
        have HLC : Hid (∀ w', Below w.heap.size w w' ∧ Blk16 29 w' d c' → w'.cell? ⟨g, off + i * 2, none⟩ = some (.int .i64 kk) ∧ w'.cell? ⟨g, off + i * 2 + 1, none⟩ = some (.int .i64 ll) ∧ w'.cell? ⟨d, 0, none⟩ = some (.int .i64 c'.now)) := Lib.hid (fun w' h => ⟨(HX.out w' h.1).1, (HX.out w' h.1).2, h.2.cells.1⟩)
        have HPC : Hid (∀ w', Sp w p d m c' c' w' → w'.cell? ⟨p, 0, none⟩ = some (.int .i64 c'.now) ∧ w'.cell? ⟨p, 1, none⟩ = some (.int .i64 m) ∧ w'.cell? ⟨p, 2, none⟩ = some (.int .i64 c'.calm) ∧ w'.cell? ⟨d, 0, none⟩ = some (.int .i64 c'.now) ∧ w'.cell? ⟨d, 2, none⟩ = some (.int .i64 c'.calm)) := Lib.hid (fun w' h => ⟨h.sl.blk.cells.1, by rw [h.sl.blk.cells.2.1, h.sl.most], h.sl.blk.cells.2.2, h.doc.cells.1, h.doc.cells.2.2⟩)
        have HSD : Hid (Below w.heap.size w w4.drew ∧ Blk16 29 w4.drew d c') := Lib.hid ⟨HS4.out.sl.bel.drew, HS4.out.doc⟩
        have HN4 := Lib.hid (HNX.out w4.drew (HS4.out.below (Below.refl _ _).drew))
        clear HX HNX
        go_upto_region 13 with fail
        apply wp_one (F := fun w' => Hid (Sp w p d m c' c' w'))
        case reg =>
          refine wp_region_noPanic ?_
          refine wp_region_held_drew (S := fun w' => Below w.heap.size w w' ∧ Blk16 29 w' d c') (by kernel_rfl) HSD.out (fun hHeld => ?_)
          refine take_at16 (i := 0) (v := .pointer (some ⟨p, 0, none⟩)) (some 58) rfl rfl (by kernel_rfl) (by kernel_rfl) (by kernel_rfl) (fun _ _ _ h => h) (Or.inl ⟨rfl, fun _ _ => rfl⟩) hHeld ?_
          try simp only [Act.put, List.setIfInBounds_toArray, List.set_cons_zero, List.set_cons_succ]
          refine take_at16 (i := 1) (v := .slice (some ⟨g, off, none⟩) n cp) (some 59) rfl rfl (by kernel_rfl) (by kernel_rfl) (by kernel_rfl) (fun _ _ _ h => h) (Or.inl ⟨rfl, fun _ _ => rfl⟩) hHeld ?_
          try simp only [Act.put, List.setIfInBounds_toArray, List.set_cons_zero, List.set_cons_succ]
          refine take_at16 (i := 2) (v := .int .i64 (i : Int)) (some 60) rfl rfl (by kernel_rfl) (by kernel_rfl) (by kernel_rfl) (fun _ _ _ h => h) (Or.inl ⟨rfl, fun _ _ => rfl⟩) hHeld ?_
          try simp only [Act.put, List.setIfInBounds_toArray, List.set_cons_zero, List.set_cons_succ]
          refine take_at16 (i := 3) (v := .pointer (some ⟨g, off + i * 2, none⟩)) (some 61) rfl rfl (by kernel_rfl) (by kernel_rfl) (by kernel_rfl) (fun _ _ _ h => h) (Or.inl ⟨rfl, fun w' hw => by go_simp⟩) hHeld ?_
          try simp only [Act.put, List.setIfInBounds_toArray, List.set_cons_zero, List.set_cons_succ]
          refine take_at16 (i := 4) (v := .pointer (some ⟨g, off + i * 2, none⟩)) (some 62) rfl rfl (by kernel_rfl) (by kernel_rfl) (by kernel_rfl) (fun _ _ _ h => h) (Or.inl ⟨rfl, fun w' hw => by go_simp⟩) hHeld ?_
          try simp only [Act.put, List.setIfInBounds_toArray, List.set_cons_zero, List.set_cons_succ]
          refine take_at16 (i := 5) (v := .int .i64 kk) (some 63) rfl rfl (by kernel_rfl) (by kernel_rfl) (by kernel_rfl) (fun _ _ _ h => h) (Or.inl ⟨rfl, fun w' hw => by obtain ⟨c0, c1, c2⟩ := HLC.out w' hw; go_simp⟩) hHeld ?_
          try simp only [Act.put, List.setIfInBounds_toArray, List.set_cons_zero, List.set_cons_succ]
          refine take_at16 (i := 6) (v := .slice (some ⟨g, off, none⟩) n cp) (some 64) rfl rfl (by kernel_rfl) (by kernel_rfl) (by kernel_rfl) (fun _ _ _ h => h) (Or.inl ⟨rfl, fun _ _ => rfl⟩) hHeld ?_
          try simp only [Act.put, List.setIfInBounds_toArray, List.set_cons_zero, List.set_cons_succ]
          refine take_at16 (i := 7) (v := .int .i64 (i : Int)) (some 65) rfl rfl (by kernel_rfl) (by kernel_rfl) (by kernel_rfl) (fun _ _ _ h => h) (Or.inl ⟨rfl, fun _ _ => rfl⟩) hHeld ?_
          try simp only [Act.put, List.setIfInBounds_toArray, List.set_cons_zero, List.set_cons_succ]
          refine take_at16 (i := 8) (v := .pointer (some ⟨g, off + i * 2, none⟩)) (some 66) rfl rfl (by kernel_rfl) (by kernel_rfl) (by kernel_rfl) (fun _ _ _ h => h) (Or.inl ⟨rfl, fun w' hw => by go_simp⟩) hHeld ?_
          try simp only [Act.put, List.setIfInBounds_toArray, List.set_cons_zero, List.set_cons_succ]
          refine take_at16 (i := 9) (v := .pointer (some ⟨g, off + i * 2 + 1, none⟩)) (some 67) rfl rfl (by kernel_rfl) (by kernel_rfl) (by kernel_rfl) (fun _ _ _ h => h) (Or.inl ⟨rfl, fun w' hw => by go_simp⟩) hHeld ?_
          try simp only [Act.put, List.setIfInBounds_toArray, List.set_cons_zero, List.set_cons_succ]
          refine take_at16 (i := 10) (v := .int .i64 ll) (some 68) rfl rfl (by kernel_rfl) (by kernel_rfl) (by kernel_rfl) (fun _ _ _ h => h) (Or.inl ⟨rfl, fun w' hw => by obtain ⟨c0, c1, c2⟩ := HLC.out w' hw; go_simp⟩) hHeld ?_
          try simp only [Act.put, List.setIfInBounds_toArray, List.set_cons_zero, List.set_cons_succ]
          refine take_at16 (i := 12) (v := .pointer (some ⟨d, 0, none⟩)) (some 70) rfl rfl (by kernel_rfl) (by kernel_rfl) (by kernel_rfl) (fun _ _ _ h => h) (Or.inl ⟨rfl, fun w' hw => by go_simp⟩) hHeld ?_
          try simp only [Act.put, List.setIfInBounds_toArray, List.set_cons_zero, List.set_cons_succ]
          refine take_at16 (i := 13) (v := .int .i64 c'.now) (some 71) rfl rfl (by kernel_rfl) (by kernel_rfl) (by kernel_rfl) (fun _ _ _ h => h) (Or.inl ⟨rfl, fun w' hw => by obtain ⟨c0, c1, c2⟩ := HLC.out w' hw; go_simp⟩) hHeld ?_
          try simp only [Act.put, List.setIfInBounds_toArray, List.set_cons_zero, List.set_cons_succ]
          refine wpAnyH_ready (rs := [11]) (by kernel_rfl) (by simp) ?_
          refine AllReadyH.cons (o := _) rfl (fun K hK => ?_) AllReadyH.nil
          go_simp
          go_at_call 10
          refine (HN4.out).mono ?_
          rintro e w5 ⟨rfl, HS5⟩
          go_wp2_with fail
          refine hK.out _ _ ⟨HS5.out.sl.bel, HS5.out.doc⟩ (fun hHeld => ?_)
          clear hK K
          try simp only [Act.put, List.setIfInBounds_toArray, List.set_cons_zero, List.set_cons_succ]
          refine wpAnyH_narrow (S' := Sp w p d m c' c') (fun w' h => ⟨h.sl.bel, h.doc⟩) _ _ _ _ ?_
          have hHeld := HS5.out
          refine take_at16 (i := 14) (v := .bool false) (some 72) rfl rfl (by kernel_rfl) (by kernel_rfl) (by kernel_rfl) (fun _ _ _ h => h) (Or.inl ⟨rfl, fun w' hw => by go_simp⟩) hHeld ?_
          try simp only [Act.put, List.setIfInBounds_toArray, List.set_cons_zero, List.set_cons_succ]
          refine take_at16 (i := 15) (v := .bool false) (some 73) rfl rfl (by kernel_rfl) (by kernel_rfl) (by kernel_rfl) (fun _ _ _ h => h) (Or.inl ⟨rfl, fun _ _ => rfl⟩) hHeld ?_
          try simp only [Act.put, List.setIfInBounds_toArray, List.set_cons_zero, List.set_cons_succ]
          refine take_at16 (i := 16) (v := .pointer (some ⟨p, 0, none⟩)) (some 74) rfl rfl (by kernel_rfl) (by kernel_rfl) (by kernel_rfl) (fun _ _ _ h => h) (Or.inl ⟨rfl, fun _ _ => rfl⟩) hHeld ?_
          try simp only [Act.put, List.setIfInBounds_toArray, List.set_cons_zero, List.set_cons_succ]
          refine take_at16 (i := 17) (v := .pointer (some ⟨p, 0, none⟩)) (some 75) rfl rfl (by kernel_rfl) (by kernel_rfl) (by kernel_rfl) (fun _ _ _ h => h) (Or.inl ⟨rfl, fun w' hw => by go_simp⟩) hHeld ?_
          try simp only [Act.put, List.setIfInBounds_toArray, List.set_cons_zero, List.set_cons_succ]
          refine take_at16 (i := 18) (v := .pointer (some ⟨p, 0, none⟩)) (some 76) rfl rfl (by kernel_rfl) (by kernel_rfl) (by kernel_rfl) (fun _ _ _ h => h) (Or.inl ⟨rfl, fun w' hw => by go_simp⟩) hHeld ?_
          try simp only [Act.put, List.setIfInBounds_toArray, List.set_cons_zero, List.set_cons_succ]
          refine take_at16 (i := 19) (v := .int .i64 c'.now) (some 77) rfl rfl (by kernel_rfl) (by kernel_rfl) (by kernel_rfl) (fun _ _ _ h => h) (Or.inl ⟨rfl, fun w' hw => by obtain ⟨c0, c1, c2, c3, c4⟩ := HPC.out w' hw; go_simp⟩) hHeld ?_
          try simp only [Act.put, List.setIfInBounds_toArray, List.set_cons_zero, List.set_cons_succ]
          refine take_at16 (i := 20) (v := .pointer (some ⟨d, 0, none⟩)) (some 78) rfl rfl (by kernel_rfl) (by kernel_rfl) (by kernel_rfl) (fun _ _ _ h => h) (Or.inl ⟨rfl, fun w' hw => by go_simp⟩) hHeld ?_
          try simp only [Act.put, List.setIfInBounds_toArray, List.set_cons_zero, List.set_cons_succ]
          refine take_at16 (i := 21) (v := .int .i64 c'.now) (some 79) rfl rfl (by kernel_rfl) (by kernel_rfl) (by kernel_rfl) (fun _ _ _ h => h) (Or.inl ⟨rfl, fun w' hw => by obtain ⟨c0, c1, c2, c3, c4⟩ := HPC.out w' hw; go_simp⟩) hHeld ?_
          try simp only [Act.put, List.setIfInBounds_toArray, List.set_cons_zero, List.set_cons_succ]
          refine take_at16 (i := 22) (v := .bool false) (some 80) rfl rfl (by kernel_rfl) (by kernel_rfl) (by kernel_rfl) (fun _ _ _ h => h) (Or.inl ⟨rfl, fun w' hw => by go_simp⟩) hHeld ?_
          try simp only [Act.put, List.setIfInBounds_toArray, List.set_cons_zero, List.set_cons_succ]
          refine take_at16 (i := 23) (v := .bool false) (some 81) rfl rfl (by kernel_rfl) (by kernel_rfl) (by kernel_rfl) (fun _ _ _ h => h) (Or.inl ⟨rfl, fun w' hw => by go_simp⟩) hHeld ?_
          try simp only [Act.put, List.setIfInBounds_toArray, List.set_cons_zero, List.set_cons_succ]
          refine take_at16 (i := 24) (v := .bool false) (some 82) rfl rfl (by kernel_rfl) (by kernel_rfl) (by kernel_rfl) (fun _ _ _ h => h) (Or.inl ⟨rfl, fun _ _ => rfl⟩) hHeld ?_
          try simp only [Act.put, List.setIfInBounds_toArray, List.set_cons_zero, List.set_cons_succ]
          refine take_at16 (i := 25) (v := .pointer (some ⟨p, 0, none⟩)) (some 83) rfl rfl (by kernel_rfl) (by kernel_rfl) (by kernel_rfl) (fun _ _ _ h => h) (Or.inl ⟨rfl, fun _ _ => rfl⟩) hHeld ?_
          try simp only [Act.put, List.setIfInBounds_toArray, List.set_cons_zero, List.set_cons_succ]
          refine take_at16 (i := 26) (v := .pointer (some ⟨p, 0, none⟩)) (some 84) rfl rfl (by kernel_rfl) (by kernel_rfl) (by kernel_rfl) (fun _ _ _ h => h) (Or.inl ⟨rfl, fun w' hw => by go_simp⟩) hHeld ?_
          try simp only [Act.put, List.setIfInBounds_toArray, List.set_cons_zero, List.set_cons_succ]
          refine take_at16 (i := 27) (v := .pointer (some ⟨p, 2, none⟩)) (some 85) rfl rfl (by kernel_rfl) (by kernel_rfl) (by kernel_rfl) (fun _ _ _ h => h) (Or.inl ⟨rfl, fun w' hw => by go_simp⟩) hHeld ?_
          try simp only [Act.put, List.setIfInBounds_toArray, List.set_cons_zero, List.set_cons_succ]
          refine take_at16 (i := 28) (v := .int .i64 c'.calm) (some 86) rfl rfl (by kernel_rfl) (by kernel_rfl) (by kernel_rfl) (fun _ _ _ h => h) (Or.inl ⟨rfl, fun w' hw => by obtain ⟨c0, c1, c2, c3, c4⟩ := HPC.out w' hw; go_simp⟩) hHeld ?_
          try simp only [Act.put, List.setIfInBounds_toArray, List.set_cons_zero, List.set_cons_succ]
          refine take_at16 (i := 29) (v := .pointer (some ⟨d, 2, none⟩)) (some 87) rfl rfl (by kernel_rfl) (by kernel_rfl) (by kernel_rfl) (fun _ _ _ h => h) (Or.inl ⟨rfl, fun w' hw => by go_simp⟩) hHeld ?_
          try simp only [Act.put, List.setIfInBounds_toArray, List.set_cons_zero, List.set_cons_succ]
          refine take_at16 (i := 30) (v := .int .i64 c'.calm) (some 88) rfl rfl (by kernel_rfl) (by kernel_rfl) (by kernel_rfl) (fun _ _ _ h => h) (Or.inl ⟨rfl, fun w' hw => by obtain ⟨c0, c1, c2, c3, c4⟩ := HPC.out w' hw; go_simp⟩) hHeld ?_
          try simp only [Act.put, List.setIfInBounds_toArray, List.set_cons_zero, List.set_cons_succ]
          refine take_at16 (i := 31) (v := .bool false) (some 89) rfl rfl (by kernel_rfl) (by kernel_rfl) (by kernel_rfl) (fun _ _ _ h => h) (Or.inl ⟨rfl, fun w' hw => by go_simp⟩) hHeld ?_
          try simp only [Act.put, List.setIfInBounds_toArray, List.set_cons_zero, List.set_cons_succ]
          refine take_at16 (i := 32) (v := .bool false) (some 90) rfl rfl (by kernel_rfl) (by kernel_rfl) (by kernel_rfl) (fun _ _ _ h => h) (Or.inl ⟨rfl, fun w' hw => by go_simp⟩) hHeld ?_
          try simp only [Act.put, List.setIfInBounds_toArray, List.set_cons_zero, List.set_cons_succ]
          refine take_at16 (i := 33) (v := .bool false) (some 91) rfl rfl (by kernel_rfl) (by kernel_rfl) (by kernel_rfl) (fun _ _ _ h => h) (Or.inl ⟨rfl, fun _ _ => rfl⟩) hHeld ?_
          try simp only [Act.put, List.setIfInBounds_toArray, List.set_cons_zero, List.set_cons_succ]
          refine take_at16 (i := 34) (v := .pointer (some ⟨p, 0, none⟩)) (some 92) rfl rfl (by kernel_rfl) (by kernel_rfl) (by kernel_rfl) (fun _ _ _ h => h) (Or.inl ⟨rfl, fun _ _ => rfl⟩) hHeld ?_
          try simp only [Act.put, List.setIfInBounds_toArray, List.set_cons_zero, List.set_cons_succ]
          refine take_at16 (i := 35) (v := .pointer (some ⟨p, 0, none⟩)) (some 93) rfl rfl (by kernel_rfl) (by kernel_rfl) (by kernel_rfl) (fun _ _ _ h => h) (Or.inl ⟨rfl, fun w' hw => by go_simp⟩) hHeld ?_
          try simp only [Act.put, List.setIfInBounds_toArray, List.set_cons_zero, List.set_cons_succ]
          refine take_at16 (i := 36) (v := .pointer (some ⟨p, 1, none⟩)) (some 94) rfl rfl (by kernel_rfl) (by kernel_rfl) (by kernel_rfl) (fun _ _ _ h => h) (Or.inl ⟨rfl, fun w' hw => by go_simp⟩) hHeld ?_
          try simp only [Act.put, List.setIfInBounds_toArray, List.set_cons_zero, List.set_cons_succ]
          refine take_at16 (i := 37) (v := .int .i64 m) (some 95) rfl rfl (by kernel_rfl) (by kernel_rfl) (by kernel_rfl) (fun _ _ _ h => h) (Or.inl ⟨rfl, fun w' hw => by obtain ⟨c0, c1, c2, c3, c4⟩ := HPC.out w' hw; go_simp⟩) hHeld ?_
          try simp only [Act.put, List.setIfInBounds_toArray, List.set_cons_zero, List.set_cons_succ]
          refine take_at16 (i := 38) (v := .int .i64 m) (some 96) rfl rfl (by kernel_rfl) (by kernel_rfl) (by kernel_rfl) (fun _ _ _ h => h) (Or.inl ⟨rfl, fun _ _ => rfl⟩) hHeld ?_
          try simp only [Act.put, List.setIfInBounds_toArray, List.set_cons_zero, List.set_cons_succ]
          refine take_at16 (i := 39) (v := .bool false) (some 97) rfl rfl (by kernel_rfl) (by kernel_rfl) (by kernel_rfl) (fun _ _ _ h => h) (Or.inl ⟨rfl, fun w' hw => by go_simp⟩) hHeld ?_
          try simp only [Act.put, List.setIfInBounds_toArray, List.set_cons_zero, List.set_cons_succ]
          refine take_at16 (i := 40) (v := .bool false) (some 98) rfl rfl (by kernel_rfl) (by kernel_rfl) (by kernel_rfl) (fun _ _ _ h => h) (Or.inl ⟨rfl, fun w' hw => by go_simp⟩) hHeld ?_
          try simp only [Act.put, List.setIfInBounds_toArray, List.set_cons_zero, List.set_cons_succ]
          refine wpAnyH_done (by kernel_rfl) ?_ _
          exact NoPanic.normal ⟨rfl, rfl, HS5⟩
        case post =>
          intro w6 HS6
          clear HPC HLC HN4 HSD HS4
          go_wp2
          go_roundw
          case rel => exact ⟨i + 1, c', HI2.out, by go_num, HS6⟩
          case measure => have := HDM.out; simp [intOf] <;> omega
      · have hcs : ¬ i < n ∨ (i < n ∧ ¬ i < 200) := by omega
        rcases hcs with h1 | ⟨h1, h2⟩
        · have k1 : ¬ (i : Int) < (n : Int) := by omega
          clear hlt hi
          go_wp2
          go_ret
          exact ⟨rfl, HS.out.sl.bel⟩
        · have k1 : (i : Int) < (n : Int) := by omega
          have k2 : ¬ (i : Int) < 200 := by omega
          clear hlt hi
          go_wp2
          go_ret
          exact ⟨rfl, HS.out.sl.bel⟩
end Go.Proofs.Ytldhlknmabpanaa
