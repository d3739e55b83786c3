/-
  Own text: layer 18 (reasm): the law ReasmPrefix, walked.
-/
import Derived.Test.YtjcbcdjfhcnhcaaK24
import Derived.Test.YtjcbcdjfhcnhcaaK25
namespace Go.Proofs.Ytjcbcdjfhcnhcaa
open Go.RowKit
theorem Ins.take18 {w : World} {a : Option Addr} {n m : Nat} {l : List Int} (h : Ins w a n l) (hm : m ≤ n) : Ins w a m (l.take m) := by
  refine ⟨by rw [List.length_take, h.1]; omega, ?_⟩
  rcases h.2 with h0 | ⟨g, off, e, hg, hc⟩
  · exact .inl (by omega)
  · refine .inr ⟨g, off, e, hg, fun i hi => ?_⟩
    rw [hc i (by omega), List.getD_eq_getElem?_getD, List.getD_eq_getElem?_getD, List.getElem?_take_of_lt hi]
theorem dg_take18 {g : Gs} {G : Nat} {e : El} {w : World} {b t base n : Nat} {O : Nat → Prop} {S : Wn} (hg : g.ok) (he : e.ok g G w) (hG : G ≤ 30) (h : CW w b t base O none S) (hS : S.ok n) (hn : n ≤ 299) (hst : S.next = none) (hi : g.st e.i < 4294967296) :
    Calls Try.prog 20 #[.pointer (some ⟨b, 0, none⟩), .agg (El.cells g e)] w (TakeTo b t base O S (e.cd g) w) :=
  take18 b t base n O S (e.kd g) 0 0 0 0 (g.kk e.i : Nat) (g.M : Nat) (e.x : Nat) e.i (g.st e.i) (some ⟨e.a, e.o, none⟩) 2 e.c (g.by_ e.i e.x 0) (g.by_ e.i e.x 1) w h hS hn hst (by have := he.1; omega) hi (g.by_le _ _ _) (g.by_le _ _ _) (fun _ => ⟨e.a, e.o, rfl, he.2.2.1, by rw [Int.toNat_natCast]; exact he.2.2.2.2⟩)
set_option maxRecDepth 100000 in
set_option maxHeartbeats 8000000 in
theorem prefix18 (Z zs cz : List Int) (M : Int) (ai az ac : Option Addr) (ni ci ns cs nc cc : Nat) (w : World) (hI : Ins w ai ni Z) (hci : ni ≤ ci ∧ ci ≤ 9223372036854775807) (hS : Ints w az ns (fun i => zs.getD i 0)) (hC : Ints w ac nc (fun i => cz.getD i 0)) (hv : ∀ z ∈ Z, 0 ≤ z ∧ z ≤ 65535) (hns : ns ≤ 9223372036854775807) (hnc : nc ≤ 9223372036854775807) :
    Calls Try.prog 5 #[.agg #[.slice ai ni ci, .slice az ns cs, .int .i64 M, .slice ac nc cc]] w fun e w' => e = .returned (.bool true) ∧ Below w.heap.size w w' := by
  obtain ⟨W, hW⟩ : ∃ W, W = w.alloc (.cells #[.slice ai ni ci, .slice az ns cs, .int .i64 M, .slice ac nc cc] 65) := ⟨_, rfl⟩
  have hbW : Below w.heap.size w W := by rw [hW]; exact (Below.refl _ _).alloc (Nat.le_refl _) _
  have hX : Lies W w.heap.size 0 #[.slice ai ni ci, .slice az ns cs, .int .i64 M, .slice ac nc cc] := by rw [hW]; exact Lies.new _ _ _ (Below.refl _ _)
  have HX : Hid (∀ u, Below W.heap.size W u → u.cell? ⟨w.heap.size, 0, none⟩ = some (.slice ai ni ci) ∧ u.cell? ⟨w.heap.size, 3, none⟩ = some (.slice ac nc cc) ∧ Lies u w.heap.size 0 #[.slice ai ni ci, .slice az ns cs, .int .i64 M, .slice ac nc cc] ∧ Ins u ai ni Z ∧ Ints u az ns (fun i => zs.getD i 0) ∧ Ints u ac nc (fun i => cz.getD i 0)) := Lib.hid (fun u hu => by
    have h2 := hX.below hu hX.lt
    have h3 := hbW.trans (hu.mono hbW.size)
    exact ⟨lies_get h2 0 rfl, lies_get h2 3 rfl, h2, hI.below h3 (Nat.le_refl _), hS.below h3 (Nat.le_refl _), hC.below h3 (Nat.le_refl _)⟩)
  have HBW := Lib.hid hbW
  have HAW := Lib.hid (awake18 W)
  have HSI : Hid ((Try.prog.info? 65).map (·.size) = some (#[.slice ai ni ci, .slice az ns cs, .int .i64 M, .slice ac nc cc] : Array Value).size) := Lib.hid (by show _ = some 4; kernel_rfl)
  have CN := Lib.hid (fun w => new_any w)
  have CWN := Lib.hid (fun t w ht => new18 t w ht)
  have HCI := Lib.hid hci
  have HV := Lib.hid hv
  have HNS := Lib.hid hns
  have HNC := Lib.hid hnc
  have HIL : Hid (Z.length = ni) := Lib.hid hI.1
  have k0 := (HX.out W (Below.refl _ _)).1
  clear hI hci hS hC hv hns hX hbW hnc
  go_enter Try.func5, Try.ntmps5
  go_upto_region 1 with fail
  rw [← hW]
  clear hW k0
  go_upto_region 3 with (first
    | (go_at_call 17; (with_reducible refine HAW.out.mono ?_); rintro e w1 ⟨rfl, hb1⟩; have HB1 := Lib.hid hb1; clear hb1)
    | fail "arm1")
  obtain ⟨k0, k3, hl1, _⟩ := HX.out w1 HB1.out
  have HL1 := Lib.hid hl1
  clear hl1
  by_cases hni : ni ≤ 100
  case neg =>
    have j1 : (100 : Int) < ni := by omega
    go_wp2
    go_ret
    exact ⟨rfl, HBW.out.trans (HB1.out.mono HBW.out.size)⟩
  case pos =>
    have j1 : ¬ (100 : Int) < ni := by omega
    have HNI := Lib.hid hni
    have HGR : Hid (Calls Try.prog 24 #[.agg #[.slice ai ni ci, .slice az ns cs, .int .i64 M, .slice ac nc cc]] w1 (GroupsTo (gsOf Z zs M) ni w1)) := Lib.hid (by
      obtain ⟨_, _, _, h1, h2, _⟩ := HX.out w1 HB1.out
      exact groups18 Z zs M ai az ac ni ci ns cs nc cc w1 h1 hni HCI.out h2 HV.out HNS.out)
    have HOK : Hid ((gsOf Z zs M).ok) := Lib.hid (gsOf_ok HV.out (by rw [HIL.out]; exact hni))
    have HGZ : Hid ((gsOf Z zs M).Z = Z) := Lib.hid rfl
    clear hni
    generalize gsOf Z zs M = g at *
    go_upto_region 7 with (first
      | (with_reducible refine wpList_load_lies rfl 65 (.tmp 1) rfl w.heap.size 0 rfl #[.slice ai ni ci, .slice az ns cs, .int .i64 M, .slice ac nc cc] HL1.out _ Try.underlying65 rfl HSI.out ?_)
      | (go_at_call 24; (with_reducible refine HGR.out.mono ?_); rintro e w2 ⟨G, A1, C1, L1, A2, C2, N, L2, rfl, HA, HO, HG, HB2⟩)
      | (go_at_call 9; (with_reducible refine (CN.out w2).mono ?_); rintro e w3 ⟨rfl, ht3, hb3⟩; have HT3 := Lib.hid ht3; have HB3 := Lib.hid hb3; clear ht3 hb3)
      | (go_at_call 18; (with_reducible refine (CWN.out _ w3 HT3.out).mono ?_); rintro e w4 ⟨rfl, HCW, HB4⟩)
      | fail "arm5")
    have HBW3 : Hid (Below W.heap.size W w3) := Lib.hid (HB1.out.trans ((HB2.out.trans (HB3.out.mono HB2.out.size)).mono HB1.out.size))
    have HF : Hid (∀ u, Below w3.heap.size w3 u → u.cell? ⟨w.heap.size, 0, none⟩ = some (.slice ai ni ci) ∧ u.cell? ⟨w.heap.size, 3, none⟩ = some (.slice ac nc cc) ∧ Ins u ai ni Z ∧ Ints u ac nc (fun i => cz.getD i 0) ∧ OutIs g G u w1.heap.size A2 N C2 L2) := Lib.hid (fun u hu => by
      obtain ⟨a1, a2, _, a4, _, a6⟩ := HX.out u (HBW3.out.trans (hu.mono HBW3.out.size))
      exact ⟨a1, a2, a4, a6, HO.out.below (HB3.out.trans (hu.mono HB3.out.size))⟩)
    obtain ⟨b, hb⟩ : ∃ b, b = w3.heap.size := ⟨_, rfl⟩
    have HBB := Lib.hid hb
    have HCW2 : Hid (CW w4 b w2.heap.size b (fun k => k = b) none Wn.zero) := Lib.hid (by rw [hb]; exact HCW.out)
    rw [← hb]
    clear HCW hb HX HAW CN CWN HL1 HSI HGR HA HO k0 k3
    go_wp2
    go_loopw [6, 7] (fun v6 v7 wr => ∃ (i : Nat) (S : Wn) (told : List Int) (A3 : Option Addr) (C3 : Nat) (O : Nat → Prop), v7 = .int .i64 ((i : Nat) : Int) ∧ v6 = .slice A3 told.length C3 ∧ i ≤ 200 ∧ i ≤ nc ∧ Hid (S.ok i ∧ S.next = none ∧ S.ready = [] ∧ Tells g G S told) ∧ Hid (CW wr b w2.heap.size b O none S) ∧ Hid (OwnU wr b (.slice A3 told.length C3) told.length told) ∧ Hid (∀ k, (Value.slice A3 told.length C3).ownBlock = some k → ¬ O k) ∧ Hid (Below w3.heap.size w3 wr)) (fun _ v7 _ => 200 - (intOf v7).toNat)
    case atStart => exact ⟨0, Wn.zero, [], none, 0, _, rfl, rfl, by omega, Nat.zero_le _, Lib.hid ⟨Wn.zero_ok, rfl, rfl, Tells.zero g G⟩, HCW2, Lib.hid (OwnU.none _ _), Lib.hid (fun k hk => by cases hk), HB4⟩
    case round =>
      obtain ⟨i, S, told, A3, C3, O, rfl, rfl, hi200, hinc, HSS, HCW, HTO, HTN, HBR⟩ := hrel
      obtain ⟨k0, k3, hins, hic, hout⟩ := HF.out wr HBR.out
      have HIN := Lib.hid hins
      have HOT := Lib.hid hout
      have i0 : (0 : Int) ≤ (i : Int) := by omega
      by_cases hlt : i < nc ∧ i < 200 ∧ 0 < N
      case neg =>
        by_cases h1 : i < nc
        · have j2 : (i : Int) < nc := by omega
          by_cases h2 : i < 200
          · have j3 : (i : Int) < 200 := by omega
            obtain rfl : N = 0 := by omega
            go_wp2
            go_ret
            exact ⟨rfl, HBW.out.trans ((HBW3.out.trans (HBR.out.mono HBW3.out.size)).mono HBW.out.size)⟩
          · have j3 : ¬ (i : Int) < 200 := by omega
            go_wp2
            go_ret
            exact ⟨rfl, HBW.out.trans ((HBW3.out.trans (HBR.out.mono HBW3.out.size)).mono HBW.out.size)⟩
        · have j2 : ¬ (i : Int) < nc := by omega
          go_wp2
          go_ret
          exact ⟨rfl, HBW.out.trans ((HBW3.out.trans (HBR.out.mono HBW3.out.size)).mono HBW.out.size)⟩
      case pos =>
        obtain ⟨h1, h2, h3⟩ := hlt
        have j2 : (i : Int) < nc := by omega
        have j3 : (i : Int) < 200 := by omega
        have j4 : (0 : Int) < N := by omega
        have j5 : ¬ (N : Int) = 0 := by omega
        obtain ⟨bc, oc, rfl, hbc, hcc⟩ : ∃ b off, ac = some ⟨b, off, none⟩ ∧ b < wr.heap.size ∧ ∀ j, j < nc → wr.cell? ⟨b, off + j, none⟩ = some (.int .i64 (cz.getD j 0)) := hic.resolve_left (by omega)
        have cz1 := hcc i h1
        obtain ⟨z, hz⟩ : ∃ z, z = cz.getD i 0 := ⟨_, rfl⟩
        rw [← hz] at cz1
        have hN420 : N ≤ 420 := by have := HG.out.2.2; omega
        have hr : IntKind.i64.wrap (z.tmod N) = z.tmod N := by
          have q1 := Int.tmod_lt_of_pos z j4
          have q2 : -(N : Int) < z.tmod N := by
            have := Int.lt_tmod_of_pos z j4
            omega
          rw [IntKind.wrap_i64]
          omega
        have q1 : z.tmod N < N := Int.tmod_lt_of_pos z j4
        have q2 : -(N : Int) < z.tmod N := Int.lt_tmod_of_pos z j4
        clear hz hcc hic hins
        go_upto_region 12 with fail
        generalize z.tmod (N : Int) = r at *
        obtain ⟨k, hk, hkz⟩ : ∃ k : Nat, k < N ∧ ((r < 0 ∧ ((k : Nat) : Int) = r + N) ∨ (¬ r < 0 ∧ ((k : Nat) : Int) = r)) := by
          by_cases hh : r < 0
          · exact ⟨(r + N).toNat, by omega, .inl ⟨hh, by omega⟩⟩
          · exact ⟨r.toNat, by omega, .inr ⟨hh, by omega⟩⟩
        have hkl : k < L2.length := by rw [hout.len]; exact hk
        obtain ⟨e, hel⟩ : ∃ e, L2[k]? = some e := ⟨L2[k], List.getElem?_eq_getElem hkl⟩
        obtain ⟨b2, rfl, hb2, hNC, hCm, hlies⟩ := row_lies (f := El.cells g) (fun _ => rfl) hout.row hout.len hel
        have HEO : Hid (e.ok g G wr) := Lib.hid (hout.els e (List.mem_of_getElem? hel))
        obtain ⟨ds, hds⟩ : ∃ ds, ds = El.cells g e := ⟨_, rfl⟩
        rw [← hds] at hlies
        have HLI := Lib.hid hlies
        have HDI : Hid ((Try.prog.info? 44).map (·.size) = some ds.size) := Lib.hid (by rw [hds]; show _ = some 11; kernel_rfl)
        obtain ⟨S1, hS1⟩ : ∃ S1, S1 = S.take (e.cd g) := ⟨_, rfl⟩
        have hst : g.st e.i ≤ 100 := Nat.le_trans (Nat.le_trans (g.st_mono (Nat.le_of_lt HEO.out.1)) HG.out.2.1) HNI.out
        have HZG : Hid (g.st G ≤ g.Z.length) := Lib.hid (by rw [HGZ.out, HIL.out]; exact HG.out.2.1)
        have hfit : (e.cd g).fit := El.cd_fit (by have := HEO.out.1; have := HG.out.1; omega) (by omega) (fun c => g.by_le _ _ _)
        have HS1 : Hid (S1.ok (i + 1) ∧ S1.next = none ∧ Tells g G S1 told) := Lib.hid (by
          rw [hS1]
          exact ⟨Wn.take_ok HSS.out.1 hfit, Wn.take_stuck HSS.out.2.1, HSS.out.2.2.2.take HOK.out HZG.out HSS.out.1 HEO.out.1 hfit⟩)
        have HLN : Hid ((told ++ S1.ready).length = S1.frames ∧ S1.frames ≤ ni) := Lib.hid (by
          have h := HS1.out.2.2.len HZG.out
          rw [HGZ.out, HIL.out] at h
          exact h)
        have HT : Hid (Calls Try.prog 20 #[.pointer (some ⟨b, 0, none⟩), .agg ds] wr fun e' w5 => ∃ v, e' = .returned (.int .i64 v) ∧ Hid (CW w5 b w2.heap.size b (OO O wr w5) none S1) ∧ Hid (FrO O wr w5)) := Lib.hid (by
          rw [hds, hS1]
          exact (dg_take18 HOK.out HEO.out HG.out.1 HCW.out HSS.out.1 (by omega) HSS.out.2.1 (by omega)).mono fun e' w5 h => ⟨_, h.1, h.2.1, h.2.2⟩)
        have y1 : ((k : Nat) : Int) < N := by omega
        have y2 : (0 : Int) ≤ ((k : Nat) : Int) := by omega
        clear hel hlies hds hS1 hst hfit hkl hb2 hout hNC hCm hr
        have p3 : r < 0 → IntKind.i64.wrap (r + N) = r + N := fun _ => by rw [IntKind.wrap_i64]; omega
        have HMX : Hid ((told ++ S1.ready).length ≤ 100000) := Lib.hid (by have := HLN.out; have := HNI.out; omega)
        rcases hkz with ⟨p1, p2⟩ | ⟨p1, p2⟩
        all_goals
          (try have p4 := p3 p1)
          clear p3
          go_upto_region 14 with fail
          rw [← p2]
          clear p1 p2
          (try clear p4)
          clear q1 q2
          go_upto_region 16 with (first
            | (with_reducible refine wpList_load_lies rfl 44 (.tmp 55) rfl b2 (k * 11) rfl ds HLI.out _ Try.underlying44 rfl HDI.out ?_)
            | (go_at_call 20; (with_reducible refine HT.out.mono ?_); rintro e' w5 ⟨v, rfl, HC5, HF5⟩)
            | (go_at_call 23; (with_reducible refine (ready18 b w2.heap.size b (OO O wr w5) S1 w5 HC5.out).mono ?_); rintro e' w6 ⟨A5, C5, rfl, HI5, HN5, HC6, HF6⟩; have HTO6 : Hid (OwnU w6 b (.slice A3 told.length C3) told.length told) := (Lib.hid (HTO.out.keep (fun k0 hk0 => by
                have h1 := (HTO.out.lt k0 hk0).2
                have h2 := HTN.out k0 hk0
                have h3 := HF5.out.size
                exact (HF6.out.block k0 (by omega) (fun ho => ho.elim h2 (fun e => by omega))).trans (HF5.out.block k0 h1 h2)))); have HS6 : Hid (b ≤ w6.heap.size) := Lib.hid (Nat.le_trans (HCW.out.low) (Nat.le_trans HF5.out.size HF6.out.size)); have HMX2 : Hid (told.length + S1.ready.length ≤ 100000) := Lib.hid (by have := HMX.out; rw [List.length_append] at this; exact this))
            | (at_builtin; (with_reducible refine wpList_append_us rfl (.tmp 58) (.tmp 60) rfl b A3 told.length C3 rfl told HTO6.out A5 S1.ready.length C5 rfl S1.ready HI5.out HN5.out HMX2.out HS6.out (told.length + S1.ready.length) rfl (told ++ S1.ready) rfl ?_); intro A6 C6 w7 HO7 HG7 HE7)
            | fail "arm14")
          have hm' : told.length + S1.ready.length = (told ++ S1.ready).length := by rw [List.length_append]
          rw [hm'] at HO7 HE7 ⊢
          clear hm'
          have HTZ : Hid (told ++ S1.ready = Z.take (told ++ S1.ready).length) := Lib.hid (by
            have h := HS1.out.2.2.told
            rw [HLN.out.1, ← HGZ.out]
            exact h)
          have HTR : Hid (Tells g G S1.read (told ++ S1.ready)) := Lib.hid HS1.out.2.2.read
          have HN7 : Hid (∀ k, (Value.slice A3 told.length C3).ownBlock = some k → ¬ (OO (OO O wr w5) w5 w6) k ∧ b ≤ k ∧ k < w6.heap.size) := Lib.hid (fun k hk => by
            have h1 := HTO.out.lt k hk
            have h2 := HF5.out.size
            have h3 := HF6.out.size
            refine ⟨?_, h1.1, by omega⟩
            rintro ((h | h) | h)
            · exact HTN.out k hk h
            · omega
            · omega)
          have HCW7 : Hid (CW w7 b w2.heap.size b (OO (OO O wr w5) w5 w6) none S1.read) := Lib.hid (CW.keepO HC6.out HG7.out.size (fun k hk => HG7.out.block k (HC6.out.own k hk).2 (fun e => (HN7.out k e.symm).1 hk)) (HG7.out.block _ (Nat.lt_of_lt_of_le HC6.out.tb HC6.out.low) (fun e => by have := (HN7.out _ e.symm).2.1; have := HC6.out.tb; omega)) (fun g2 cur hg2 => HG7.out.block g2 (Array.getElem?_eq_some_iff.1 hg2).1 (fun e => by
            obtain ⟨_, _, cur2, h2⟩ := row_type HTO6.out e.symm
            rw [hg2] at h2
            cases h2)))
          have HTN7 : Hid (∀ k, (Value.slice A6 (told ++ S1.ready).length C6).ownBlock = some k → ¬ (OO (OO O wr w5) w5 w6) k) := Lib.hid (fun k hk ho => by
            rcases HE7.out with h | h
            · rw [h] at hk
              exact (HN7.out k hk).1 ho
            · rw [h] at hk
              cases hk
              exact absurd (HC6.out.own _ ho).2 (Nat.lt_irrefl _))
          have HB7 : Hid (Below w3.heap.size w3 w7) := Lib.hid (by
            have h5 := HF5.out.bel HBR.out HBR.out.size (fun k hk => by rw [← HBB.out]; exact (HCW.out.own k hk).1)
            have h6 := HF6.out.bel h5 h5.size (fun k hk => by rw [← HBB.out]; exact (HC5.out.own k hk).1)
            exact below_grown h6 HG7.out h6.size (fun k hk => by rw [← HBB.out]; exact (HN7.out k hk).2.1))
          have HRK : Hid (S1.read.ok (i + 1) ∧ S1.read.next = none ∧ S1.read.ready = []) := Lib.hid ⟨Wn.read_ok HS1.out.1, HS1.out.2.1, rfl⟩
          have HFR0 : Hid (S1.read.frames = (told ++ S1.ready).length) := Lib.hid HLN.out.1.symm
          have HMN : Hid ((told ++ S1.ready).length ≤ ni) := Lib.hid (by have := HLN.out; omega)
          generalize S1.read = S2 at *
          clear HTO6 HMX2 HLN HS1 HMX HT
          generalize told ++ S1.ready = T at *
          obtain ⟨k0, k3, hins7, _⟩ := HF.out w7 HB7.out
          obtain ⟨m, hm⟩ : ∃ m, m = T.length := ⟨_, rfl⟩
          rw [← hm] at HO7 HE7 HTZ HTN7 HFR0 HMN ⊢
          have HM := Lib.hid hm
          have hmn := HMN.out
          have HSM : Hid (Calls Try.prog 22 #[.slice A6 m C6, .slice ai m ci] w7 fun x w' => x = .returned (.bool true) ∧ Below w7.heap.size w7 w') := Lib.hid (same18 A6 ai m C6 ci T (Z.take m) w7 HO7.out.ins (hins7.take18 hmn) (by have := HNI.out; omega) HTZ.out)
          have HFR : Hid (Calls Try.prog 25 #[.pointer (some ⟨b, 0, none⟩)] w7 fun e w' => e = .returned (.int .i64 ((m : Nat) : Int)) ∧ w7 = w') := Lib.hid (by rw [← HFR0.out]; exact frames18 HCW7.out)
          have j6 : ¬ (ni : Int) < (m : Int) := by omega
          have j7 : (m : Int) ≤ (ci : Int) := by have := HCI.out; omega
          have j8 : (0 : Int) ≤ (m : Int) := by omega
          clear hm hmn hins7 k3
          go_wp2_with (first
            | (go_at_call 25; (with_reducible refine HFR.out.mono ?_); rintro e' w8 ⟨rfl, rfl⟩)
            | (go_at_call 22; (with_reducible refine HSM.out.mono ?_); rintro e' w8 ⟨rfl, hb8⟩; have HB8 := Lib.hid hb8; clear hb8)
            | fail "arm16")
          go_roundw
          case rel =>
            exact ⟨i + 1, S2, T, A6, C6, _, by go_num, by rw [← HM.out], by omega, by omega, Lib.hid ⟨HRK.out.1, HRK.out.2.1, HRK.out.2.2, HTR.out⟩, Lib.hid (HCW7.out.below HB8.out), Lib.hid (by rw [← HM.out]; exact HO7.out.below HB8.out (Nat.le_refl _)), Lib.hid (by rw [← HM.out]; exact HTN7.out), Lib.hid (HB7.out.trans (HB8.out.mono HB7.out.size))⟩
          case measure => simp [intOf] <;> omega
end Go.Proofs.Ytjcbcdjfhcnhcaa
