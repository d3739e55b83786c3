/-
  Own text: the law's play, walked: whatever happens to a way. (Written by gen_ptj.py.)
-/
import Derived.Test.YtopnceniihgkpaaPtI
import Derived.BigRegion
import Derived.Deep.RegionLaw
namespace Go.Proofs.Ytopnceniihgkpaa
open Go.RowKit

set_option maxRecDepth 100000 in
set_option maxHeartbeats 8000000 in
theorem played14_any (a : Option Addr) (n c : Nat) (K : Nat → Int) (N : Nat → Nat) (T : Nat → Int) (w : World) (ho : Ops14 w a n K N T) :
    Calls Try.prog 7 #[.slice a n c] w fun x W => ∃ p : Pn, x = .returned (.tuple #[.agg p.cells, .agg (rowOf 78 p.dc), .bool true]) ∧ Hid (p.fit 100) ∧ Hid (Below w.heap.size w W) := by
  have HO := Lib.hid ho
  clear ho
  obtain ⟨W0, hW0⟩ : ∃ W0, W0 = (((w.alloc (.cells Pn.zero.cells 31)).alloc (.cells (rowOf 78 Pn.zero.dc) 37)).alloc (.cells Pn.zero.cells 31)).alloc (.cells (rowOf 78 Pn.zero.dc) 37) := ⟨_, rfl⟩
  have HL0 := Lib.hid (St0.start w hW0)
  have zz := zero37
  obtain ⟨Z, hZ⟩ : ∃ Z, Z = rowOf 78 Pn.zero.dc := ⟨_, rfl⟩
  rw [← hZ, zcells_eq] at hW0
  rw [← hZ] at zz
  have HZ := Lib.hid hZ
  have HZN : Hid (∀ w' : World, RB (w'.alloc (.cells Z 37)) w'.heap.size Pn.zero) := Lib.hid (fun w' => by rw [hZ]; exact RB.new w' _)
  have I37 := Lib.hid info37
  clear hZ
  go_enter Try.func7, Try.ntmps7
  go_upto_region 3 with fail
  rw [← hW0]
  clear hW0
  go_wp2
  go_loopw [7] (fun i wr => ∃ (j : Nat) (p : Pn), i = .int .i64 (j : Int) ∧ j ≤ 100 ∧ Hid (p.fit j) ∧ Hid (St0 w p p wr)) (fun i _ => 100 - (intOf i).toNat)
  case atStart => exact ⟨0, Pn.zero, rfl, Nat.zero_le _, Lib.hid Pn.zero_fit, HL0⟩
  case round =>
    obtain ⟨j, p, rfl, hj, HF, HL⟩ := hrel
    clear HL0
    have k2 : (0 : Int) ≤ (j : Int) := by omega
    have k3 : (j : Int) ≤ 100 := by omega
    by_cases hlt : j < n ∧ j < 100
    · obtain ⟨g0, off, rfl, hnb, hoc⟩ := HO.out.at_ hlt.1
      obtain ⟨c0, c1, c2⟩ := hoc wr HL.out.bel
      have k1 : (j : Int) < n := by omega
      have k4 : (j : Int) < 100 := by omega
      have HJK : Hid (j + 1 ≤ 100) := Lib.hid (by omega)
      have HN := Lib.hid hnb
      clear hlt hj hoc HO hnb
      generalize K j = kd at *
      generalize N j = nb at *
      generalize T j = tk at *
      go_upto_region 7 with fail
      have HS := Lib.hid (St14.start HL.out kd nb tk rfl)
      clear c0 c1 c2 HL
      generalize wr.alloc (.cells #[.int .i64 kd, .int .u32 nb, .int .i64 tk] 54) = w1 at *
      generalize wr.heap.size = g at *
      obtain ⟨o0, o1, o2⟩ := HS.out.three
      by_cases h0 : kd = 0
      · subst h0
        go_upto_region 9 with fail
        clear o0 o1 o2
        go_wp2
        go_loopw [9] (fun i wx => ∃ (k : Nat), i = .int .i64 (k : Int) ∧ k ≤ 200 ∧ Hid (St14 w (p.ticks k) (p.ticks k) g 0 nb tk wx)) (fun i _ => 200 - (intOf i).toNat)
        case atStart => exact ⟨0, rfl, Nat.zero_le _, HS⟩
        case round =>
          obtain ⟨k, rfl, hk, HT⟩ := hrel
          clear HS
          obtain ⟨o0, o1, o2⟩ := HT.out.three
          have q2 : (0 : Int) ≤ (k : Int) := by omega
          have q3 : (k : Int) ≤ 200 := by omega
          have HFK := Lib.hid (Pn.ticks_fit HF.out k)
          by_cases hlt : (k : Int) < tk ∧ (k : Int) < 200
          · obtain ⟨q0, q1⟩ := hlt
            have HK2 : Hid (k + 1 ≤ 200) := Lib.hid (by omega)
            have HDM : Hid (200 - (k + 1) < 200 - k) := Lib.hid (by omega)
            have CR := Lib.hid (fun w' => rtick_any (p.ticks k) HFK.out.ok w')
            have CT : Hid (∀ w', PLie w' (w.heap.size + 2) 0 (p.ticks k) → _) := Lib.hid (fun w' hp => tick_any (w.heap.size + 2) 0 (p.ticks k) HFK.out.ok w' hp)
            have hn1 : ((p.ticks k).fires != (p.ticks k).fires) = false := by simp
            have HE : Hid ((p.ticks k).tick = p.ticks (k + 1)) := Lib.hid rfl
            generalize (p.ticks k).tick = pn at *
            generalize (p.ticks k).fires = fr at *
            generalize p.ticks k = pk at *
            clear hk
            go_upto_region 15 with (first
              | (with_reducible refine wpList_load_rowIs rfl 37 (.tmp 6) rfl (w.heap.size + 3) rfl 37 78 pk.dc HT.out.st.doc _ Try.underlying37 rfl I37.out ?_)
              | (go_at_call 13; (with_reducible refine (CR.out _).mono ?_); rintro e w2 ⟨rfl, hb2⟩; have HT2 := Lib.hid (HT.out.below hb2); clear hb2)
              | (with_reducible refine wpList_store_rowIs rfl 37 (.tmp 10) (.tmp 45) rfl w2.heap.size rfl 78 pn.dc rfl 37 Pn.zero.dc (HZN.out w2) I37.out pn.dc_one ?_; intro w3 G1 G2 G3 G4; have HT3 := Lib.hid (HT2.out.below (((Below.refl w2.heap.size w2).alloc (Nat.le_refl _) (.cells Z 37)).trans G3.out)); have HG2 := Lib.hid HT2.out.op.lt; clear G2 G3 G4)
              | (go_at_call 10; (with_reducible refine (CT.out _ HT3.out.st.code).mono ?_); rintro e w4 ⟨rfl, HP4, HW4⟩; have HT4 := Lib.hid (HT3.out.code HP4.out HW4.out); have G4 : Hid (RB w4 w2.heap.size pn) := Lib.hid (World.rowIs.of_block G1.out (HW4.out.block _ G1.out.lt (by have := HG2.out; have := HT2.out.hg; omega))); clear HP4 HW4)
              | fail)
            clear HT HT2 HT3 G1 o0 o1 o2
            generalize w2.heap.size = g2 at *
            go_wp2_with (first
              | (with_reducible refine wpList_load_rowIs rfl 37 (.tmp 10) rfl g2 rfl 37 78 pn.dc G4.out _ Try.underlying37 rfl I37.out ?_)
              | (with_reducible refine wpList_store_rowIs rfl 37 (.tmp 6) (.tmp 52) rfl (w.heap.size + 3) rfl 78 pn.dc rfl 37 pk.dc HT4.out.st.doc I37.out pn.dc_one ?_; intro w5 G5 G6 G7 G8; have HT5 := Lib.hid (HT4.out.doc G5.out G6.out G7.out))
              | fail)
            go_roundw
            case rel => exact ⟨k + 1, by go_num, HK2.out, by rw [← HE.out]; exact HT5⟩
            case measure => have := HDM.out; simp [intOf] <;> omega
          · have HFK : Hid ((p.ticks k).fit (j + 1)) := Lib.hid (HFK.out.upto (by omega))
            generalize p.ticks k = pk at *
            have hcs : ¬ (k : Int) < tk ∨ ((k : Int) < tk ∧ ¬ (k : Int) < 200) := by omega
            clear hlt hk
            rcases hcs with q0 | ⟨q0, q1⟩
            all_goals
              go_upto_region 28 with fail
              clear o0 o1 o2
              obtain ⟨e0, e1, e2, e3, e4⟩ := HT.out.st.code.five0
              obtain ⟨e5, e6, e7, e8, e9, e10⟩ := HT.out.st.code.six0
              obtain ⟨e11, e12, e13, e14⟩ := HT.out.st.code.four0
              have CS := Lib.hid (fun w1 => same14_any pk w1)
              unfold Pn.cells at CS
              go_wp2_with (first
                | (with_reducible refine wpList_load_rowIs rfl 37 (.tmp 6) rfl (w.heap.size + 3) rfl 37 78 pk.dc HT.out.st.doc _ Try.underlying37 rfl I37.out ?_)
                | (go_at_call 18; (with_reducible refine (CS.out _).mono ?_); rintro e w9 ⟨rfl, hb9⟩; have HS9 := Lib.hid (HT.out.below hb9); clear hb9)
                | fail)
              go_roundw
              case rel => exact ⟨j + 1, pk, by go_num, HJK.out, HFK, Lib.hid HS9.out.st⟩
              case measure => simp [intOf] <;> omega
      · by_cases h1 : kd = 1
        · subst h1
          have CR := Lib.hid (fun w' => rheard_any p nb j HF.out (by omega) HN.out w')
          have CT : Hid (∀ w', PLie w' (w.heap.size + 2) 0 p → _) := Lib.hid (fun w' hp => heard_any (w.heap.size + 2) 0 j nb p HF.out (by omega) HN.out w' hp)
          have HF2 := Lib.hid (Pn.heard_fit HN.out HF.out)
          have hn1 : ((p.sn.take nb).2 != (p.sn.take nb).2) = false := by simp
          generalize (p.sn.take nb).2 = er at *
          generalize p.heard nb = pn at *
          go_upto_region 18 with (first
            | (with_reducible refine wpList_load_rowIs rfl 37 (.tmp 6) rfl (w.heap.size + 3) rfl 37 78 p.dc HS.out.st.doc _ Try.underlying37 rfl I37.out ?_)
            | (go_at_call 14; (with_reducible refine (CR.out _).mono ?_); rintro e w2 ⟨rfl, hb2⟩; have HT2 := Lib.hid (HS.out.below hb2); clear hb2)
            | (with_reducible refine wpList_store_rowIs rfl 37 (.tmp 12) (.tmp 60) rfl w2.heap.size rfl 78 pn.dc rfl 37 Pn.zero.dc (HZN.out w2) I37.out pn.dc_one ?_; intro w3 G1 G2 G3 G4; have HT3 := Lib.hid (HT2.out.below (((Below.refl w2.heap.size w2).alloc (Nat.le_refl _) (.cells Z 37)).trans G3.out)); have HG2 := Lib.hid HT2.out.op.lt; clear G2 G3 G4)
            | fail)
          clear o0 o1 o2 HS
          obtain ⟨o0, o1, o2⟩ := HT3.out.three
          go_upto_region 20 with (first
            | (go_at_call 11; (with_reducible refine (CT.out _ HT3.out.st.code).mono ?_); rintro e w4 ⟨rfl, HP4, HW4⟩; have HT4 := Lib.hid (HT3.out.code HP4.out HW4.out); have G4 : Hid (RB w4 w2.heap.size pn) := Lib.hid (World.rowIs.of_block G1.out (HW4.out.block _ G1.out.lt (by have := HG2.out; have := HT2.out.hg; omega))); clear HP4 HW4)
            | fail)
          clear HT2 HT3 G1 o0 o1 o2
          generalize w2.heap.size = g2 at *
          go_upto_region 28 with (first
            | (with_reducible refine wpList_load_rowIs rfl 37 (.tmp 12) rfl g2 rfl 37 78 pn.dc G4.out _ Try.underlying37 rfl I37.out ?_)
            | (with_reducible refine wpList_store_rowIs rfl 37 (.tmp 6) (.tmp 69) rfl (w.heap.size + 3) rfl 78 pn.dc rfl 37 p.dc HT4.out.st.doc I37.out pn.dc_one ?_; intro w5 G5 G6 G7 G8; have HT5 := Lib.hid (HT4.out.doc G5.out G6.out G7.out))
            | fail)
          clear G4 G5 G6 G7 G8 HT4
          obtain ⟨e0, e1, e2, e3, e4⟩ := HT5.out.st.code.five0
          obtain ⟨e5, e6, e7, e8, e9, e10⟩ := HT5.out.st.code.six0
          obtain ⟨e11, e12, e13, e14⟩ := HT5.out.st.code.four0
          have CS := Lib.hid (fun w1 => same14_any pn w1)
          unfold Pn.cells at CS
          go_wp2_with (first
            | (with_reducible refine wpList_load_rowIs rfl 37 (.tmp 6) rfl (w.heap.size + 3) rfl 37 78 pn.dc HT5.out.st.doc _ Try.underlying37 rfl I37.out ?_)
            | (go_at_call 18; (with_reducible refine (CS.out _).mono ?_); rintro e w9 ⟨rfl, hb9⟩; have HS9 := Lib.hid (HT5.out.below hb9); clear hb9)
            | fail)
          go_roundw
          case rel => exact ⟨j + 1, pn, by go_num, HJK.out, HF2, Lib.hid HS9.out.st⟩
          case measure => simp [intOf] <;> omega
        · by_cases h2 : kd = 2
          · subst h2
            have CT : Hid (∀ w', PLie w' (w.heap.size + 2) 0 p → _) := Lib.hid (fun w' hp => ktrip_any tk (w.heap.size + 2) 0 (65 * j) p.st HF.out.st (by omega) w' hp.st)
            have CR := Lib.hid (fun w' => rtrip_any tk (65 * j) p.st HF.out.st (by omega) w')
            simp only [SV_is] at CR
            have HF2 := Lib.hid (Pn.trip_fit HF.out tk)
            have HE : Hid (p.trip tk = ⟨p.st.trip tk, p.sn, p.q, p.pr, p.ga, p.nx⟩) := Lib.hid rfl
            rw [HE.out] at HF2
            generalize p.st.trip tk = st2 at *
            go_upto_region 23 with (first
              | (go_at_call 15; (with_reducible refine (CT.out _ HS.out.st.code).mono ?_); rintro e w2 ⟨rfl, HK2, HW2⟩; have HT2 := Lib.hid (HS.out.code (HS.out.st.code.putst HW2.out HK2.out) (HW2.out.wide (Nat.le_refl _) (by omega))); clear HK2 HW2)
              | fail)
            clear HS o0 o1 o2
            obtain ⟨o0, o1, o2⟩ := HT2.out.three
            obtain ⟨d0, d1, d2, d3, d4⟩ := HT2.out.st.doc.five
            go_upto_region 28 with (first
              | (go_at_call 16; (with_reducible refine (CR.out _).mono ?_); rintro e w3 ⟨rfl, hb3⟩; have HT3 := Lib.hid (HT2.out.below hb3); clear hb3; have f0 := HT3.out.st.doc.frozen 0; have f1 := HT3.out.st.doc.frozen 1; have f2 := HT3.out.st.doc.frozen 2; have f3 := HT3.out.st.doc.frozen 3; have f4 := HT3.out.st.doc.frozen 4; obtain ⟨m0, m1, m2, m3, m4⟩ := HT3.out.st.doc.five)
              | fail)
            have HT4 := Lib.hid (HT3.out.docst st2)
            clear HT2 HT3 o0 o1 o2 d0 d1 d2 d3 d4 f0 f1 f2 f3 f4 m0 m1 m2 m3 m4
            generalize ((((w3.setCell ⟨w.heap.size + 3, 0, none⟩ (.int .i64 st2.lo)).setCell ⟨w.heap.size + 3, 1, none⟩ (.int .i64 st2.rt)).setCell ⟨w.heap.size + 3, 2, none⟩ (.int .i64 st2.va)).setCell ⟨w.heap.size + 3, 3, none⟩ (.int .i64 st2.ma)).setCell ⟨w.heap.size + 3, 4, none⟩ (.int .i64 st2.tr) = w4 at *
            generalize hpn : (⟨st2, p.sn, p.q, p.pr, p.ga, p.nx⟩ : Pn) = pn at *
            clear hpn HE
            obtain ⟨e0, e1, e2, e3, e4⟩ := HT4.out.st.code.five0
            obtain ⟨e5, e6, e7, e8, e9, e10⟩ := HT4.out.st.code.six0
            obtain ⟨e11, e12, e13, e14⟩ := HT4.out.st.code.four0
            have CS := Lib.hid (fun w1 => same14_any pn w1)
            unfold Pn.cells at CS
            go_wp2_with (first
              | (with_reducible refine wpList_load_rowIs rfl 37 (.tmp 6) rfl (w.heap.size + 3) rfl 37 78 pn.dc HT4.out.st.doc _ Try.underlying37 rfl I37.out ?_)
              | (go_at_call 18; (with_reducible refine (CS.out _).mono ?_); rintro e w9 ⟨rfl, hb9⟩; have HS9 := Lib.hid (HT4.out.below hb9); clear hb9)
              | fail)
            go_roundw
            case rel => exact ⟨j + 1, pn, by go_num, HJK.out, HF2, Lib.hid HS9.out.st⟩
            case measure => simp [intOf] <;> omega
          · by_cases h3 : kd = 3
            · subst h3
              have CT : Hid (∀ w', PLie w' (w.heap.size + 2) 0 p → _) := Lib.hid (fun w' hp => number_any (w.heap.size + 2) 0 p HF.out.nx w' hp)
              have HF2 := Lib.hid (Pn.number_fit HF.out)
              have hn1 : ((p.nx : Int) != (p.nx : Int)) = false := by simp
              have HNX : Hid (((p.nx : Int) + 1) % 4294967296 = ((p.number.nx : Nat) : Int)) := Lib.hid (by show _ = (((p.nx + 1) % 4294967296 : Nat) : Int); omega)
              have HE : Hid (∀ m, p.number.nx = m → (⟨p.st, p.sn, p.q, p.pr, p.ga, m⟩ : Pn) = p.number) := Lib.hid (fun m hm => by rw [← hm]; rfl)
              generalize p.number = pn at *
              go_upto_region 25 with fail
              clear o0 o1 o2
              go_cut [87] (fun s87 wx => s87 = .bool false ∧ Hid (St14 w pn p g 3 nb tk wx))
              case first =>
                have HD : Hid (∀ w', St14 w p p g 3 nb tk w' → w'.cell? ⟨w.heap.size + 3, 77, none⟩ = some (.int .u32 p.nx)) := Lib.hid (fun w' h => h.st.doc.four.2.2.2)
                have HD2 : Hid (∀ w', St14 w pn p g 3 nb tk w' → w'.cell? ⟨w.heap.size + 3, 77, none⟩ = some (.int .u32 p.nx)) := Lib.hid (fun w' h => h.st.doc.four.2.2.2)
                have HS1 : Hid (St14 w p p g 3 nb tk w1.drew) := Lib.hid (HS.out.below (Below.refl _ _).drew)
                have x0 := HD.out _ HS.out
                have x1 := HD.out _ HS1.out
                go_region_with (first
                  | (go_at_call 17; (with_reducible refine (CT.out _ HS1.out.st.code).mono ?_); rintro e w2 ⟨rfl, HP2, HW2⟩; have HT2 := Lib.hid (HS1.out.code HP2.out HW2.out); have x2 := HD2.out _ HT2.out; clear HP2 HW2)
                  | (go_at_call 17; (with_reducible refine (CT.out _ HS.out.st.code).mono ?_); rintro e w2 ⟨rfl, HP2, HW2⟩; have HT2 := Lib.hid (HS.out.code HP2.out HW2.out); have x2 := HD2.out _ HT2.out; clear HP2 HW2)
                  | fail)
                all_goals
                  go_wp2
                  go_meet
                  exact ⟨rfl, HT2⟩
              case rest =>
                obtain ⟨rfl, HT2⟩ := hcut
                obtain ⟨d0, d1, d2, d3⟩ := HT2.out.st.doc.four
                have f3 := HT2.out.st.doc.frozen 77
                have hnx := HNX.out
                go_upto_region 28 with fail
                have HT3 : Hid (St14 w pn pn g 3 nb tk (wc.setCell ⟨w.heap.size + 3, 77, none⟩ (.int .u32 pn.nx))) := Lib.hid (by
                  have h := HT2.out.docnx pn.nx
                  rw [HE.out _ rfl] at h
                  exact h)
                clear d0 d1 d2 d3 f3 hnx HT2 HNX HE
                generalize wc.setCell ⟨w.heap.size + 3, 77, none⟩ (.int .u32 pn.nx) = w3 at *
                obtain ⟨e0, e1, e2, e3, e4⟩ := HT3.out.st.code.five0
                obtain ⟨e5, e6, e7, e8, e9, e10⟩ := HT3.out.st.code.six0
                obtain ⟨e11, e12, e13, e14⟩ := HT3.out.st.code.four0
                have CS := Lib.hid (fun w1 => same14_any pn w1)
                unfold Pn.cells at CS
                go_wp2_with (first
                  | (with_reducible refine wpList_load_rowIs rfl 37 (.tmp 6) rfl (w.heap.size + 3) rfl 37 78 pn.dc HT3.out.st.doc _ Try.underlying37 rfl I37.out ?_)
                  | (go_at_call 18; (with_reducible refine (CS.out _).mono ?_); rintro e w9 ⟨rfl, hb9⟩; have HS9 := Lib.hid (HT3.out.below hb9); clear hb9)
                  | fail)
                go_roundw
                case rel => exact ⟨j + 1, pn, by go_num, HJK.out, HF2, Lib.hid HS9.out.st⟩
                case measure => simp [intOf] <;> omega
            · have HF2 : Hid (p.fit (j + 1)) := Lib.hid (HF.out.upto (by omega))
              go_wp2
              go_roundw
              case rel => exact ⟨j + 1, p, by go_num, HJK.out, HF2, Lib.hid HS.out.st⟩
              case measure => simp [intOf] <;> omega
    · have hend : n ≤ j ∨ (j < n ∧ j = 100) := by omega
      have HF9 : Hid (p.fit 100) := Lib.hid (HF.out.upto hj)
      clear hlt HO HF
      rcases hend with hend | ⟨hend, hj1⟩
      all_goals
        first | subst hj1 | skip
        go_upto_region 30 with fail
        refine wp_region_held_drew (S := fun w' => St0 w p p wr ∧ PLie w' (w.heap.size + 2) 0 p ∧ RB w' (w.heap.size + 3) p) (by kernel_rfl) ⟨HL.out, HL.out.drew.code, HL.out.drew.doc⟩ (fun hHeld => ?_)
        refine taken_at (i := 0) (v := .agg p.cells) (some 100) rfl rfl (by kernel_rfl) (by kernel_rfl) (by kernel_rfl) (fun _ _ _ h => h) (yields_loadAt 31 (.tmp 5) (.pointer (some ⟨w.heap.size + 2, 0, none⟩)) rfl rfl rfl (fun w' hw => Lies.loadAt hw.2.1 31 _ Try.underlying31 rfl info31)) hHeld ?_
        try simp only [Act.put, List.setIfInBounds_toArray]
        refine taken_at (i := 1) (v := .agg (rowOf 78 p.dc)) (some 101) rfl rfl (by kernel_rfl) (by kernel_rfl) (by kernel_rfl) (fun _ _ _ h => h) (yields_loadAt 37 (.tmp 6) (.pointer (some ⟨w.heap.size + 3, 0, none⟩)) rfl rfl rfl (fun w' hw => RB.load hw.2.2)) hHeld ?_
        try simp only [Act.put, List.setIfInBounds_toArray, List.set_cons_zero, List.set_cons_succ]
        refine wpAnyH_ready (rs := [2]) (by kernel_rfl) (by simp) ?_
        refine AllReadyH.cons rfl (fun K hK => ?_) AllReadyH.nil
        refine step_store_lies rfl 31 (.tmp 2) (.tmp 100) rfl w.heap.size 0 rfl p.cells rfl Pn.zero.cells HL.out.drew.res0 rfl info31 p.cells_one ?_
        intro w5 J1 J2 J3
        have JC : PLie w5 (w.heap.size + 2) 0 p := Lies.apart HL.out.drew.code J2.out (by omega)
        have JD : RB w5 (w.heap.size + 3) p := HL.out.drew.doc.of_block (J2.out.block _ HL.out.drew.doc.lt (by omega))
        refine hK.out _ _ ⟨HL.out, JC, JD⟩ (fun hHeld => ?_)
        clear hK K
        try simp only [Act.put]
        have M1 : RB w5 (w.heap.size + 1) Pn.zero := HL.out.drew.res1.of_block (J2.out.block _ HL.out.drew.res1.lt (by omega))
        have MB : Below w.heap.size w w5 := J2.out.bel HL.out.drew.bel HL.out.drew.bel.size (Nat.le_refl _)
        refine wpAnyH_ready (rs := [3]) (by kernel_rfl) (by simp) ?_
        refine AllReadyH.cons rfl (fun K hK => ?_) AllReadyH.nil
        refine step_store_whole rfl 37 (.tmp 3) (.tmp 101) rfl (w.heap.size + 1) rfl 78 p.dc rfl 37 Pn.zero.dc M1 info37 p.dc_one ?_
        intro w6 N1 N2 N3 N4
        refine hK.out _ _ ⟨HL.out, JC.keep (N2.out _ (by omega)), JD.of_block (N2.out _ (by omega))⟩ (fun hHeld => ?_)
        clear hK K
        try simp only [Act.put]
        have P1 : Hid (PLie w6 w.heap.size 0 p) := Lib.hid (Lies.keep J1.out (N2.out _ (by omega)))
        have PB := Lib.hid (MB.trans (N3.out.mono (by omega)))
        refine taken_at (i := 4) (v := .bool true) (some 4) rfl rfl (by kernel_rfl) (by kernel_rfl) (by kernel_rfl) (fun _ _ _ h => h) (Or.inl ⟨rfl, fun _ _ => rfl⟩) hHeld ?_
        try simp only [Act.put, List.setIfInBounds_toArray]
        refine wpAnyH_done (by kernel_rfl) ?_ _
        clear hHeld JC JD M1 MB
        go_wp2
        refine bodyPost_ret (v := .tuple #[.agg p.cells, .agg (rowOf 78 p.dc), .bool true]) (results_cells2 (p := 2) (q := 3) (u := 4) rfl _ w6 w.heap.size (w.heap.size + 1) _ _ _ rfl rfl rfl (Lies.loadVar P1.out 31 _ Try.underlying31 rfl info31) (run_loadVar_row w6 (w.heap.size + 1) 37 37 (rowOf 78 p.dc) (0, 0) _ (rowIs_heap N1.out) Try.underlying37 rfl (by rw [rowOf_size]; exact info37))) rfl ?_
        exact ⟨p, rfl, HF9, PB⟩
end Go.Proofs.Ytopnceniihgkpaa
