/-
  Own text: layer 18 (reasm): the law's groups, walked.
-/
import Derived.Test.YtjcbcdjfhcnhcaaK23
namespace Go.Proofs.Ytjcbcdjfhcnhcaa
open Go.RowKit
set_option maxRecDepth 100000 in
set_option maxHeartbeats 8000000 in
theorem groups18 (Z zs : List Int) (M : Int) (ai az ac : Option Addr) (ni ci ns cs nc cc : Nat) (w : World) (hI : Ins w ai ni Z) (hni : ni ≤ 100) (hci : ni ≤ ci ∧ ci ≤ 9223372036854775807) (hS : Ints w az ns (fun i => zs.getD i 0)) (hv : ∀ z ∈ Z, 0 ≤ z ∧ z ≤ 65535) (hns : ns ≤ 9223372036854775807) :
    Calls Try.prog 24 #[.agg #[.slice ai ni ci, .slice az ns cs, .int .i64 M, .slice ac nc cc]] w (GroupsTo (gsOf Z zs M) ni w) := by
  obtain ⟨g, hg⟩ : ∃ g, g = gsOf Z zs M := ⟨_, rfl⟩
  have hok : g.ok := by rw [hg]; exact gsOf_ok hv (by rw [hI.1]; exact hni)
  have hkk : ∀ i, g.kk i = kOf (zs.getD i 0) := fun i => by rw [hg]; rfl
  have hmm : g.M = mOf M := by rw [hg]; rfl
  have hZ : g.Z = Z := by rw [hg]; rfl
  rw [← hg]
  obtain ⟨W, hW⟩ : ∃ W, W = w.alloc (.cells #[.slice ai ni ci, .slice az ns cs, .int .i64 M, .slice ac nc cc] 65) := ⟨_, rfl⟩
  have hbW : Below w.heap.size w W := by rw [hW]; exact (Below.refl _ _).alloc (Nat.le_refl _) _
  have hX : Lies W w.heap.size 0 #[.slice ai ni ci, .slice az ns cs, .int .i64 M, .slice ac nc cc] := by rw [hW]; exact Lies.new _ _ _ (Below.refl _ _)
  have HX : Hid (∀ u, Below W.heap.size W u → u.cell? ⟨w.heap.size, 0, none⟩ = some (.slice ai ni ci) ∧ u.cell? ⟨w.heap.size, 1, none⟩ = some (.slice az ns cs) ∧ u.cell? ⟨w.heap.size, 2, none⟩ = some (.int .i64 M) ∧ Ins u ai ni Z ∧ Ints u az ns (fun i => zs.getD i 0) ∧ Below w.heap.size w u) := Lib.hid (fun u hu => by
    have h2 := hX.below hu hX.lt
    have h3 := hbW.trans (hu.mono hbW.size)
    exact ⟨lies_get h2 0 rfl, lies_get h2 1 rfl, lies_get h2 2 rfl, hI.below h3 (Nat.le_refl _), hS.below h3 (Nat.le_refl _), h3⟩)
  have HOK := Lib.hid hok
  have HKK := Lib.hid hkk
  have HMM := Lib.hid hmm
  have HZZ := Lib.hid hZ
  have HIL : Hid (Z.length = ni) := Lib.hid hI.1
  have HNI := Lib.hid hni
  have HCI := Lib.hid hci
  have HNS := Lib.hid hns
  have HV := Lib.hid hv
  have HWS : Hid (w.heap.size ≤ W.heap.size) := Lib.hid hbW.size
  clear hI hS hv hok hg hkk hmm hZ hX hbW hni hci hns
  go_enter Try.func24, Try.ntmps24
  go_upto_region 1 with fail
  rw [← hW]
  clear hW
  go_wp2
  go_loopw [4, 5, 6, 7] (fun v4 v5 v6 v7 wr => ∃ (i : Nat) (L1 : List Gl) (N : Nat) (L2 : List El) (A1 : Option Addr) (C1 : Nat) (A2 : Option Addr) (C2 : Nat), v4 = .slice A1 i C1 ∧ v5 = .slice A2 N C2 ∧ v6 = .int .i64 ((g.st i : Nat) : Int) ∧ v7 = .int .i64 ((i : Nat) : Int) ∧ i ≤ 30 ∧ Hid (i ≤ ns ∧ g.st i ≤ ni ∧ N ≤ i * 14) ∧ Hid (AllIs g wr W.heap.size A1 i C1 L1) ∧ Hid (OutIs g i wr W.heap.size A2 N C2 L2) ∧ Hid (Below W.heap.size W wr)) (fun _ _ _ v7 _ => 30 - (intOf v7).toNat)
  case atStart =>
    exact ⟨0, [], 0, [], none, 0, none, 0, rfl, rfl, rfl, rfl, by omega, Lib.hid ⟨by omega, Nat.zero_le _, by omega⟩, Lib.hid ⟨⟨rfl, .inl ⟨rfl, rfl⟩⟩, rfl, fun i hi => absurd hi (by omega)⟩, Lib.hid ⟨⟨rfl, .inl ⟨rfl, rfl⟩⟩, rfl, fun e he => by cases he⟩, Lib.hid (Below.refl _ _)⟩
  case round =>
    obtain ⟨i, L1, N, L2, A1, C1, A2, C2, rfl, rfl, rfl, rfl, hi30, HB, HA, HO, HR⟩ := hrel
    obtain ⟨x0, x1, x2, hin, hsi, hwb⟩ := HX.out wr HR.out
    have HIN := Lib.hid hin
    have HSI := Lib.hid hsi
    have HWB := Lib.hid hwb
    have FIN : Hid (GroupsTo g ni w (.returned (.tuple #[.slice A1 i C1, .slice A2 N C2])) wr) := Lib.hid ⟨i, A1, C1, L1, A2, C2, N, L2, rfl, Lib.hid (HA.out.low HWS.out), Lib.hid (HO.out.low HWS.out), Lib.hid ⟨hi30, HB.out.2.1, by have := HB.out.2.2; omega⟩, HWB⟩
    clear hin hsi hwb
    by_cases hlt : i < ns ∧ i < 30
    case neg =>
      by_cases h1 : i < ns
      · have h2 : ¬ i < 30 := fun h => hlt ⟨h1, h⟩
        have j1 : (i : Int) < ns := by omega
        have j2 : ¬ (i : Int) < 30 := by omega
        clear hlt
        go_wp2
        go_ret2
        exact FIN.out
      · have j1 : ¬ (i : Int) < ns := by omega
        clear hlt
        go_wp2
        go_ret2
        exact FIN.out
    case pos =>
      obtain ⟨hl1, hl2⟩ := hlt
      have j1 : (i : Int) < ns := by omega
      have j2 : (i : Int) < 30 := by omega
      have j3 : (0 : Int) ≤ i := by omega
      obtain ⟨bs, os_, rfl, hbs, hcs⟩ : ∃ b off, az = some ⟨b, off, none⟩ ∧ b < wr.heap.size ∧ ∀ j, j < ns → wr.cell? ⟨b, off + j, none⟩ = some (.int .i64 (zs.getD j 0)) := HSI.out.resolve_left (by omega)
      have cz := hcs i hl1
      have hk := HKK.out i
      obtain ⟨z, hz⟩ : ∃ z, z = zs.getD i 0 := ⟨_, rfl⟩
      rw [← hz] at cz hk
      have HK := Lib.hid hk
      have HK1 : Hid (1 ≤ g.kk i ∧ g.kk i ≤ 8 ∧ g.M ≤ 6) := Lib.hid ⟨HOK.out.k1 i, HOK.out.k8 i, HOK.out.m6⟩
      clear hz hcs hbs hk
      go_upto_region 7 with fail
      go_cut [8] from 12 to 77 (fun s8 wx => s8 = .int .i64 ((g.kk i : Nat) : Int) ∧ wx = wr)
      case first =>
        rcases Int.lt_or_le z 1 with h1 | h1
        · have e8 : g.kk i = 1 := by rw [HK.out]; exact kOf_lo h1
          go_wp2
          all_goals (go_meet; exact ⟨by rw [e8]; rfl, rfl⟩)
        · rcases Int.lt_or_le 8 z with h2 | h2
          · have e8 : g.kk i = 8 := by rw [HK.out]; exact kOf_hi h2
            have h3 : ¬ z ≤ 1 := by omega
            have h4 : ¬ z ≤ 8 := by omega
            go_wp2
            all_goals (go_meet; exact ⟨by rw [e8]; rfl, rfl⟩)
          · have e8 : ((g.kk i : Nat) : Int) = z := by rw [HK.out]; exact kOf_mid h1 h2
            go_wp2
            all_goals (go_meet; exact ⟨by rw [e8]; (try (congr 1; omega)), rfl⟩)
      case rest =>
        obtain ⟨rfl, hww⟩ := hcut
        rw [hww]
        clear hww
        have hst : g.st i ≤ 100 := by have := HB.out.2.1; have := HNI.out; omega
        have k8 : g.kk i ≤ 8 := HK1.out.2.1
        have k1 : 1 ≤ g.kk i := HK1.out.1
        have hi29 : i < 30 := hl2
        clear cz HK
        by_cases hfit : g.st i + g.kk i ≤ ni
        case neg =>
          have j5 : (ni : Int) < ((g.st i : Nat) : Int) + ((g.kk i : Nat) : Int) := by omega
          clear hfit
          go_wp2
          go_ret2
          exact FIN.out
        case pos =>
          obtain ⟨bi, oi, rfl, hbi, hci⟩ : ∃ b off, ai = some ⟨b, off, none⟩ ∧ b < wr.heap.size ∧ ∀ j, j < ni → wr.cell? ⟨b, off + j, none⟩ = some (.int .u16 (Z.getD j 0)) := HIN.out.2.resolve_left (by omega)
          have HIP : Hid (Ins wr (some ⟨bi, oi + g.st i, none⟩) (g.kk i) (g.inp i)) := Lib.hid (by
            have hlen : (g.inp i).length = g.kk i := by
              unfold Gs.inp
              rw [List.length_take, List.length_drop, HZZ.out, HIL.out]
              omega
            refine ⟨hlen, .inr ⟨bi, oi + g.st i, rfl, hbi, fun j hj => ?_⟩⟩
            have h1 := hci (g.st i + j) (by omega)
            rw [Nat.add_assoc, h1]
            unfold Gs.inp
            rw [List.getD_eq_getElem?_getD, List.getD_eq_getElem?_getD, List.getElem?_take_of_lt hj, List.getElem?_drop, HZZ.out])
          have HIV : Hid (∀ z ∈ g.inp i, 0 ≤ z ∧ z ≤ 65535) := Lib.hid (fun z hz => by
            unfold Gs.inp at hz
            rw [HZZ.out] at hz
            exact HV.out z (List.mem_of_mem_drop (List.mem_of_mem_take hz)))
          have HMK : Hid (∀ u, Below wr.heap.size wr u → Calls Try.prog 10 #[.int .u32 ((i : Nat) : Int), .int .u32 ((g.st i : Nat) : Int), .int .i64 ((g.M : Nat) : Int), .slice (some ⟨bi, oi + g.st i, none⟩) (g.kk i) (ci - g.st i)] u (MadeG (i : Nat) (g.st i : Nat) (g.kk i) g.M (g.kk i + g.M) (.bool true) (g.by_ i) u)) := Lib.hid (fun u hu =>
            rgmake_yes (i : Nat) (g.st i : Nat) (g.kk i) g.M (g.kk i + g.M) (ci - g.st i) _ (g.inp i) u (by have := HK1.out; omega) (by have := HK1.out; omega) (by have := HK1.out; omega) (HIP.out.below hu (Nat.le_refl _)) HIV.out rfl)
          have HZW : Hid (∀ (u : World) (v0 v1 v2 v3 v4 : Value), B5 34 (u.alloc (.cells #[v0, v1, v2, v3, v4] 34)) u.heap.size v0 v1 v2 v3 v4) := Lib.hid (fun u _ _ _ _ _ => B5.new _ _ _ _ _ _ _)
          have HZD : Hid (B5 34 (wr.alloc (.cells #[.int .u32 0, .int .u32 0, .int .i64 0, .int .i64 0, .slice none 0 0] 34)).drew wr.heap.size (.int .u32 0) (.int .u32 0) (.int .i64 0) (.int .i64 0) (.slice none 0 0)) := Lib.hid ((B5.new wr _ _ _ _ _ _).keep rfl)
          have j5 : ¬ (ni : Int) < ((g.st i : Nat) : Int) + ((g.kk i : Nat) : Int) := by omega
          have w1 : IntKind.u32.wrap ((i : Nat) : Int) = ((i : Nat) : Int) := wrap_u32_18 (by omega) (by omega)
          have w2 : IntKind.u32.wrap ((g.st i : Nat) : Int) = ((g.st i : Nat) : Int) := wrap_u32_18 (by omega) (by omega)
          have hcb := HCI.out
          have y1 : ¬ ((ci : Nat) : Int) = ((g.st i : Nat) : Int) := by omega
          have y2 : ¬ ci = g.st i := by omega
          have y3 : ((g.st i : Nat) : Int) + ((g.kk i : Nat) : Int) ≤ ((ci : Nat) : Int) := by omega
          have y4 : (0 : Int) ≤ ((g.st i : Nat) : Int) := by omega
          have y5 : ((g.st i : Nat) : Int) ≤ ((g.st i : Nat) : Int) + ((g.kk i : Nat) : Int) := by omega
          have y6 : ((g.st i : Nat) : Int) + ((g.kk i : Nat) : Int) ≤ 108 := by omega
          have y7 : ((g.st i : Nat) : Int) ≤ 100 := by omega
          have y8 : ((g.kk i : Nat) : Int) ≤ 8 := by omega
          have y9 : (((g.st i : Nat) : Int) + ((g.kk i : Nat) : Int)).toNat - g.st i = g.kk i := by omega
          have y10 : (0 : Int) ≤ ((g.st i : Nat) : Int) + ((g.kk i : Nat) : Int) := by omega
          have y11 : IntKind.i64.wrap (((g.st i : Nat) : Int) + ((g.kk i : Nat) : Int)) = ((g.st i : Nat) : Int) + ((g.kk i : Nat) : Int) := wrap_i64_18 (by omega) (by omega)
          have HFT := Lib.hid hfit
          have HSI2 : Hid (g.st i ≤ 100 ∧ g.kk i ≤ 8 ∧ 1 ≤ g.kk i ∧ i < 30 ∧ i < ns) := Lib.hid ⟨hst, k8, k1, hi29, hl1⟩
          clear hci hbi hfit hst k8 k1 hi29 hcb
          go_upto_region 9 with fail
          go_cut [9, 10] from 12 to 77 (fun s9 s10 wy => s10 = .bool true ∧ ∃ (p : Nat) (A : Option Addr) (C : Nat), s9 = .pointer (some ⟨p, 0, none⟩) ∧ Hid (Below wr.heap.size wr wy) ∧ Hid (B5 34 wy p (.int .u32 ((i : Nat) : Int)) (.int .u32 ((g.st i : Nat) : Int)) (.int .i64 ((g.kk i : Nat) : Int)) (.int .i64 ((g.M : Nat) : Int)) (.slice A (g.kk i + g.M) C) ∧ wr.heap.size ≤ p) ∧ Hid (Shs wy wr.heap.size (.slice A (g.kk i + g.M) C) (g.kk i + g.M) (g.by_ i)))
          case first =>
            have HS9 : Hid (∀ u, Below wr.heap.size wr u → u.cell? ⟨w.heap.size, 0, none⟩ = some (.slice (some ⟨bi, oi, none⟩) ni ci) ∧ u.cell? ⟨w.heap.size, 2, none⟩ = some (.int .i64 M)) := Lib.hid (fun u hu => by
              obtain ⟨q0, _, q2, _⟩ := HX.out u (HR.out.trans (hu.mono HR.out.size))
              exact ⟨q0, q2⟩)
            have cc : Below wr.heap.size wr wr.drew := (Below.refl _ _).drew
            have CQ : Below wr.heap.size wr (wr.alloc (.cells #[.int .u32 0, .int .u32 0, .int .i64 0, .int .i64 0, .slice none 0 0] 34)).drew := ((Below.refl wr.heap.size wr).alloc (Nat.le_refl _) _).drew
            obtain ⟨v2, hv2⟩ : ∃ v2, (if M < 0 then 0 else M) = v2 := ⟨_, rfl⟩
            obtain ⟨v, hv⟩ : ∃ v, (if 6 < v2 then 6 else v2) = v := ⟨_, rfl⟩
            have HMc : Hid (∀ u, Below wr.heap.size wr u → Calls Try.prog 10 #[.int .u32 ((i : Nat) : Int), .int .u32 ((g.st i : Nat) : Int), .int .i64 v, .slice (some ⟨bi, oi + g.st i, none⟩) (g.kk i) (ci - g.st i)] u (MadeG (i : Nat) (g.st i : Nat) (g.kk i) g.M (g.kk i + g.M) (.bool true) (g.by_ i) u)) := Lib.hid (fun u hu => by
              have h := HMK.out u hu
              have e : ((g.M : Nat) : Int) = v := by
                rw [HMM.out, ← hv, ← hv2]
                unfold mOf
                split <;> split <;> omega
              rw [e] at h
              exact h)
            clear HMK
            go_region_held3 (fun u => u.cell? ⟨w.heap.size, 0, none⟩ = some (.slice (some ⟨bi, oi, none⟩) ni ci) ∧ u.cell? ⟨w.heap.size, 2, none⟩ = some (.int .i64 M))
              (first
                | exact HS9.out _ cc
                | exact HS9.out _ (cc.alloc cc.size _)
                | exact HS9.out _ CQ
                | exact HS9.out _ (below_put5 cc hpg _ _ _ _ _)
                | exact HS9.out _ (below_put5 (cc.alloc cc.size _) cc.size _ _ _ _ _)
                | fail "keep")
              (first
                | (go_at_call 10; (with_reducible refine (HMc.out wr.drew cc).mono ?_); rintro e w3 ⟨A, C, rfl, HS3, HB3⟩; replace HS3 := Lib.hid (HS3.out.low cc.size); replace cc := cc.trans (HB3.out.mono cc.size))
                | (go_at_call 10; (with_reducible refine (HMc.out (wr.alloc (.cells #[.int .u32 0, .int .u32 0, .int .i64 0, .int .i64 0, .slice none 0 0] 34)).drew CQ).mono ?_); rintro e w3 ⟨A, C, rfl, HS3, HB3⟩; have hpg := Nat.le_refl wr.heap.size; have HP3 := Lib.hid (HZD.out.below HB3.out HZD.out.lt); replace HS3 := Lib.hid (HS3.out.low CQ.size); replace cc := CQ.trans (HB3.out.mono CQ.size); obtain ⟨x0, x1, x2, x3, x4⟩ := HP3.out.cells; have f0 := HP3.out.frozen 0; have f1 := HP3.out.frozen 1; have f2 := HP3.out.frozen 2; have f3 := HP3.out.frozen 3; have f4 := HP3.out.frozen 4)
                | fail "arm")
            · have HR := Lib.hid (HZW.out w3 (.int .u32 ((i : Nat) : Int)) (.int .u32 ((g.st i : Nat) : Int)) (.int .i64 ((g.kk i : Nat) : Int)) (.int .i64 ((g.M : Nat) : Int)) (.slice A (g.kk i + g.M) C))
              have HPW : Hid (wr.heap.size ≤ w3.heap.size) := Lib.hid cc.size
              have HA := Lib.hid (cc.alloc cc.size (.cells #[.int .u32 ((i : Nat) : Int), .int .u32 ((g.st i : Nat) : Int), .int .i64 ((g.kk i : Nat) : Int), .int .i64 ((g.M : Nat) : Int), .slice A (g.kk i + g.M) C] 34))
              have HS := Lib.hid (HS3.out.below ((Below.refl w3.heap.size w3).alloc (Nat.le_refl _) (.cells #[.int .u32 ((i : Nat) : Int), .int .u32 ((g.st i : Nat) : Int), .int .i64 ((g.kk i : Nat) : Int), .int .i64 ((g.M : Nat) : Int), .slice A (g.kk i + g.M) C] 34)) (Nat.le_refl _))
              clear cc HB3 CQ HMc HS9 HX HZW HZD
              go_wp2_with fail
              go_meet
              exact ⟨rfl, _, _, _, rfl, HA, Lib.hid ⟨HR.out, HPW.out⟩, HS⟩
            all_goals
              have HR := Lib.hid (HP3.out.put (.int .u32 ((i : Nat) : Int)) (.int .u32 ((g.st i : Nat) : Int)) (.int .i64 ((g.kk i : Nat) : Int)) (.int .i64 ((g.M : Nat) : Int)) (.slice A (g.kk i + g.M) C))
              have HPW : Hid (wr.heap.size ≤ wr.heap.size) := Lib.hid hpg
              have HA := Lib.hid (below_put5 cc hpg (.int .u32 ((i : Nat) : Int)) (.int .u32 ((g.st i : Nat) : Int)) (.int .i64 ((g.kk i : Nat) : Int)) (.int .i64 ((g.M : Nat) : Int)) (.slice A (g.kk i + g.M) C))
              have HS := Lib.hid (HS3.out.put HP3.out (by decide) (by decide) (.int .u32 ((i : Nat) : Int)) (.int .u32 ((g.st i : Nat) : Int)) (.int .i64 ((g.kk i : Nat) : Int)) (.int .i64 ((g.M : Nat) : Int)) (.slice A (g.kk i + g.M) C))
              clear cc HB3 HP3 CQ HMc HS9 HX HZW HZD x0 x1 x2 x3 x4 f0 f1 f2 f3 f4
              go_wp2_with fail
              go_meet
              exact ⟨rfl, _, _, _, rfl, HA, Lib.hid ⟨HR.out, HPW.out⟩, HS⟩

          case rest =>
            obtain ⟨rfl, p, A, C, rfl, HA9, HR9, HS9⟩ := hcut
            obtain ⟨n, hn⟩ : ∃ n, n = g.kk i + g.M := ⟨_, rfl⟩
            rw [← hn] at HR9 HS9
            obtain ⟨cs, hcs⟩ : ∃ cs, cs = Gl.cells g ⟨i, A, C⟩ := ⟨_, rfl⟩
            have HNN := Lib.hid hn
            have HCS := Lib.hid hcs
            have HN14 : Hid (n ≤ 14 ∧ N + 14 ≤ 30 * 14) := Lib.hid (by have := HK1.out; have := HB.out.2.2; have := HSI2.out; omega)
            have HCZ : Hid (cs.size = 5) := Lib.hid (by rw [hcs]; rfl)
            have HCO : Hid (cs.all (·.oneCell') = true) := Lib.hid (by rw [hcs]; simp [Value.oneCell'])
            have HCI2 : Hid ((Try.prog.info? 34).map (·.size) = some cs.size) := Lib.hid (by rw [HCZ.out]; kernel_rfl)
            have HLP : Hid (∀ u, B5 34 u p (.int .u32 ((i : Nat) : Int)) (.int .u32 ((g.st i : Nat) : Int)) (.int .i64 ((g.kk i : Nat) : Int)) (.int .i64 ((g.M : Nat) : Int)) (.slice A n C) → Lies u p 0 cs ∧ u.cell? ⟨p, 4, none⟩ = some (.slice A n C)) := Lib.hid (fun u hu => ⟨by rw [hcs]; show Lies u p 0 #[.int .u32 ((i : Nat) : Int), .int .u32 ((g.st i : Nat) : Int), .int .i64 ((g.kk i : Nat) : Int), .int .i64 ((g.M : Nat) : Int), .slice A (g.kk i + g.M) C]; rw [← hn]; exact hu.lies18, hu.cells.2.2.2.2⟩)
            have HLC : Hid (Lies wc p 0 cs) := Lib.hid (HLP.out wc HR9.out.1).1
            have HBC : Hid (Below W.heap.size W wc) := Lib.hid (HR.out.trans (HA9.out.mono HR.out.size))
            have H12 : Hid (Below wc.heap.size wc (wc.alloc (.cells cs 34))) := Lib.hid ((Below.refl _ _).alloc (Nat.le_refl _) _)
            have HA12 : Hid ((wc.alloc (.cells cs 34)).ownsRow W.heap.size 34 5 (.slice A1 i C1) i (flatC (Gl.cells g) L1)) := Lib.hid ((HA.out.below HA9.out).below H12.out).row
            have HL12 : Hid (Lies (wc.alloc (.cells cs 34)) wc.heap.size 0 cs) := Lib.hid (Lies.new wc _ _ (Below.refl _ _))
            have HS12 : Hid (W.heap.size ≤ (wc.alloc (.cells cs 34)).heap.size) := Lib.hid (Nat.le_trans HBC.out.size H12.out.size)
            have HI12 : Hid (i + 1 ≤ 100000) := Lib.hid (by have := HSI2.out; omega)
            have HZ5 : Hid ((Value.agg #[.int .u32 0, .int .u32 0, .int .i64 0, .int .i64 0, .slice none 0 0]).cells.size = 5) := Lib.hid rfl
            have HZ11 : Hid ((Value.agg #[.int .i64 0, .int .u32 0, .int .u32 0, .int .i64 0, .int .u32 0, .int .u32 0, .int .u32 0, .int .i64 0, .int .i64 0, .int .i64 0, .slice none 0 0]).cells.size = 11) := Lib.hid rfl
            clear hn hcs w1 w2 y1 y2 y3 y4 y5 y6 y7 y8 y9 y10 HZW HZD HMK HIV HIP j5
            go_upto_region 12 with fail
            go_wp2_with (first
              | (with_reducible refine wpList_load_lies rfl 34 (.tmp 9) rfl p 0 rfl cs HLC.out _ Try.underlying34 rfl HCI2.out ?_)
              | (with_reducible refine wpList_build_one rfl 66 34 (.tmp 62) rfl (.agg #[.int .u32 0, .int .u32 0, .int .i64 0, .int .i64 0, .slice none 0 0]) 5 48 cs rfl Try.underlying66 infoGr18 HCZ.out (by decide) (by decide) ?_)
              | (at_builtin; (with_reducible refine wpList_append_el rfl (.tmp 61) (.tmp 63) 66 34 rfl (.agg #[.int .u32 0, .int .u32 0, .int .i64 0, .int .i64 0, .slice none 0 0]) 5 48 Try.underlying66 infoGr18 HZ5.out (by decide) (by decide) W.heap.size A1 i C1 rfl (flatC (Gl.cells g) L1) HA12.out wc.heap.size rfl cs HCZ.out HL12.out HCO.out HI12.out HS12.out ?_); intro A5 C5 w5 HA5 HG5 HX5)
              | fail)
            have HRP : Hid (B5 34 w5 p (.int .u32 ((i : Nat) : Int)) (.int .u32 ((g.st i : Nat) : Int)) (.int .i64 ((g.kk i : Nat) : Int)) (.int .i64 ((g.M : Nat) : Int)) (.slice A n C)) := Lib.hid (by
              have h1 := HR9.out.1.below H12.out HR9.out.1.lt
              refine h1.keep (HX5.out.block p h1.lt (fun ek => ?_))
              have h2 := (HA.out.row.lt p ek.symm).2
              have := HR9.out.2
              omega)
            have HSP : Hid (Shs w5 wr.heap.size (.slice A n C) n (g.by_ i)) := Lib.hid ((HS9.out.below H12.out (Nat.le_refl _)).over18 HG5.out (by decide) (by decide))
            have HAP : Hid (AllIs g w5 W.heap.size A5 (i + 1) C5 (L1 ++ [⟨i, A, C⟩])) := Lib.hid (HA.out.snoc ⟨i, A, C⟩ rfl (HA9.out.trans (H12.out.mono HA9.out.size)) (by
              have h1 := (HS9.out.low HR.out.size).below H12.out (Nat.le_refl _)
              rw [HNN.out] at h1
              exact h1) (by rw [← HCS.out]; exact HA5.out) HG5.out)
            have HOP : Hid (OutIs g (i + 1) w5 W.heap.size A2 N C2 L2) := Lib.hid ((((HO.out.below HA9.out).below H12.out).over (by decide) (by decide) HG5.out).up (Nat.le_succ i))
            have HBP : Hid (Below W.heap.size W w5) := Lib.hid ((HBC.out.trans (H12.out.mono HBC.out.size)).trans HG5.out.bel)
            clear HA5 HG5 HX5 HA9 HR9 HS9 HLC HBC H12 HA12 HL12 HS12 HI12 HSI HIN HWB x0 x1 x2 FIN HA HO
            go_loopw [5, 11] (fun v5 v11 wx => ∃ (x : Nat) (L : List El) (A3 : Option Addr) (C3 : Nat), x ≤ n ∧ v11 = .int .i64 ((x : Nat) : Int) ∧ v5 = .slice A3 (N + x) C3 ∧ Hid (AllIs g wx W.heap.size A5 (i + 1) C5 (L1 ++ [⟨i, A, C⟩])) ∧ Hid (OutIs g (i + 1) wx W.heap.size A3 (N + x) C3 L) ∧ Hid (B5 34 wx p (.int .u32 ((i : Nat) : Int)) (.int .u32 ((g.st i : Nat) : Int)) (.int .i64 ((g.kk i : Nat) : Int)) (.int .i64 ((g.M : Nat) : Int)) (.slice A n C)) ∧ Hid (Shs wx wr.heap.size (.slice A n C) n (g.by_ i)) ∧ Hid (Below W.heap.size W wx)) (fun _ v11 _ => n - (intOf v11).toNat)
            case atStart => exact ⟨0, L2, A2, C2, Nat.zero_le _, rfl, rfl, HAP, HOP, HRP, HSP, HBP⟩
            case round =>
              clear HAP HOP HRP HSP HBP
              obtain ⟨x, L, A3, C3, hxn, rfl, rfl, HAP, HOP, HRP, HSP, HBP⟩ := hrel
              obtain ⟨hlp, c4⟩ := HLP.out wr HRP.out
              have HLX := Lib.hid hlp
              clear hlp
              by_cases hlt : x < n
              case neg =>
                obtain rfl : x = n := by omega
                have j6 : ¬ (x : Int) < x := by omega
                go_wp2
                go_roundw
                case rel =>
                  refine ⟨i + 1, L1 ++ [⟨i, A, C⟩], N + x, L, A5, C5, A3, C3, rfl, rfl, by rw [← Int.natCast_add]; rfl, by go_num, by omega, Lib.hid ⟨by omega, by have := HFT.out; exact this, by have := HN14.out; have := HB.out.2.2; omega⟩, HAP, HOP, HBP⟩
                case measure => simp [intOf] <;> omega
              case pos =>
                have j6 : (x : Int) < n := by omega
                have j7 : (x : Int) ≤ 14 := by have := HN14.out; omega
                have j8 : (0 : Int) ≤ (x : Int) := by omega
                have HXN := Lib.hid hlt
                obtain ⟨b, rA, _, hb, hnC, hCm, _, _, gb, ob, cb, hcell, hc2, hcm, hrw⟩ := HSP.out.cp.at_ x hlt
                obtain ⟨ds, hds⟩ : ∃ ds, ds = El.cells g ⟨i, x, gb, ob, cb⟩ := ⟨_, rfl⟩
                have HDS := Lib.hid hds
                have HOK2 : Hid (2 ≤ cb ∧ cb ≤ maxLen ∧ Rw wr gb ob (g.by_ i x)) := Lib.hid ⟨hc2, hcm, hrw⟩
                have HDG : Hid (Calls Try.prog 16 #[.agg cs, .int .i64 ((x : Nat) : Int)] wr fun e w' => e = .returned (.agg ds) ∧ Hid (Below wr.heap.size wr w')) := Lib.hid (by
                  rw [HCS.out, hds]
                  have h := rdg_any (i : Nat) (g.st i : Nat) (g.kk i : Nat) (g.M : Nat) A n C x b 0 gb ob cb wr hnC (by have := HN14.out; omega) hlt rA (by rw [Nat.zero_add]; exact hcell) hb
                  rw [HNN.out] at h
                  exact h)
                have HDZ : Hid (ds.size = 11) := Lib.hid (by rw [hds]; rfl)
                have HDO : Hid (ds.all (·.oneCell') = true) := Lib.hid (by rw [hds]; simp [Value.oneCell'])
                have HM8 : Hid (N + x + 1 ≤ 100000) := Lib.hid (by have := HN14.out; omega)
                have HSW : Hid (∀ u, Below wr.heap.size wr u → (u.alloc (.cells ds 44)).ownsRow W.heap.size 44 11 (.slice A3 (N + x) C3) (N + x) (flatC (El.cells g) L) ∧ Lies (u.alloc (.cells ds 44)) u.heap.size 0 ds ∧ W.heap.size ≤ (u.alloc (.cells ds 44)).heap.size ∧ Below wr.heap.size wr (u.alloc (.cells ds 44))) := Lib.hid (fun u hu => by
                  have h8 := hu.alloc hu.size (.cells ds 44)
                  exact ⟨(HOP.out.below h8).row, Lies.new u _ _ (Below.refl _ _), Nat.le_trans HBP.out.size h8.size, h8⟩)
                clear hlt rA hb hnC hCm hcell hc2 hcm hrw hds
                go_wp2_with (first
                  | (with_reducible refine wpList_load_lies rfl 34 (.tmp 9) rfl p 0 rfl cs HLX.out _ Try.underlying34 rfl HCI2.out ?_)
                  | (go_at_call 16; (with_reducible refine HDG.out.mono ?_); rintro e w16 ⟨rfl, HB16⟩; obtain ⟨ho8, hl8, hs8, hb8⟩ := HSW.out w16 HB16.out; have HO8 := Lib.hid ho8; have HL8 := Lib.hid hl8; have HS8 := Lib.hid hs8; have HB8 := Lib.hid hb8; clear ho8 hl8 hs8 hb8)
                  | (with_reducible refine wpList_build_one rfl 50 44 (.tmp 75) rfl (.agg #[.int .i64 0, .int .u32 0, .int .u32 0, .int .i64 0, .int .u32 0, .int .u32 0, .int .u32 0, .int .i64 0, .int .i64 0, .int .i64 0, .slice none 0 0]) 11 88 ds rfl Try.underlying50 infoDg18 HDZ.out (by decide) (by decide) ?_)
                  | (at_builtin; (with_reducible refine wpList_append_el rfl (.tmp 72) (.tmp 76) 50 44 rfl (.agg #[.int .i64 0, .int .u32 0, .int .u32 0, .int .i64 0, .int .u32 0, .int .u32 0, .int .u32 0, .int .i64 0, .int .i64 0, .int .i64 0, .slice none 0 0]) 11 88 Try.underlying50 infoDg18 HZ11.out (by decide) (by decide) W.heap.size A3 (N + x) C3 rfl (flatC (El.cells g) L) HO8.out w16.heap.size rfl ds HDZ.out HL8.out HDO.out HM8.out HS8.out ?_); intro A6 C6 w6 HA6 HG6 HX6)
                  | fail)
                go_roundw
                case rel =>
                  refine ⟨x + 1, L ++ [⟨i, x, gb, ob, cb⟩], A6, C6, HXN.out, by go_num, rfl, Lib.hid ?_, Lib.hid ?_, Lib.hid ?_, Lib.hid ?_, Lib.hid ((HBP.out.trans (HB8.out.mono HBP.out.size)).trans HG6.out.bel)⟩
                  · exact (HAP.out.below HB8.out).over (by decide) (by decide) (by decide) HG6.out
                  · refine (HOP.out.below HB8.out).snoc ⟨i, x, gb, ob, cb⟩ ⟨Nat.lt_succ_self i, ?_, HOK2.out.1, HOK2.out.2.1, HOK2.out.2.2.below HB8.out (Nat.le_refl _)⟩ (by rw [← HDS.out]; exact HA6.out) HG6.out
                    show x < g.kk i + g.M
                    rw [← HNN.out]
                    exact HXN.out
                  · exact (HRP.out.below HB8.out HRP.out.lt).keep (HG6.out.typ p _ _ (HRP.out.below HB8.out HRP.out.lt) (by decide))
                  · exact (HSP.out.below HB8.out (Nat.le_refl _)).over18 HG6.out (by decide) (by decide)
                case measure => have := HXN.out; simp [intOf] <;> omega
end Go.Proofs.Ytjcbcdjfhcnhcaa
