/-
  Own text: law GroupAll, walked. (Written by gen_gru.py.)
-/
import Derived.Test.YtphddcbkjikgfaaGrT
import Derived.OrdersHeld
import Derived.Deep.RegionHeld3
namespace Go.Proofs.Ytphddcbkjikgfaa
open Go.RowKit

/-- The sizes' box. -/
theorem box3_17a (w : World) (x y z : Value) (t : TypeId) {W : World} (hW : W = w.alloc (.cells #[x, y, z] t)) : Below w.heap.size w W ∧ ∀ w', Below W.heap.size W w' → w'.cell? ⟨w.heap.size, 0, none⟩ = some x ∧ w'.cell? ⟨w.heap.size, 1, none⟩ = some y ∧ w'.cell? ⟨w.heap.size, 2, none⟩ = some z := by
  have h : W.heap[w.heap.size]? = some (.cells #[x, y, z] t (0, 0)) := by rw [hW]; exact Go.Deep.blk_alloc_new w _
  refine ⟨by rw [hW]; exact below_put w _, fun w' hb => ?_⟩
  have h2 : w'.heap[w.heap.size]? = some (.cells #[x, y, z] t (0, 0)) := (hb.block _ (Array.getElem?_eq_some_iff.1 h).1).trans h
  simp [World.cell?, h2]
theorem cells3_17a {w : World} {b : Nat} {x y z : Value} {t : TypeId} (h : w.heap[b]? = some (.cells #[x, y, z] t (0, 0))) : w.cell? ⟨b, 0, none⟩ = some x ∧ w.cell? ⟨b, 1, none⟩ = some y ∧ w.cell? ⟨b, 2, none⟩ = some z := by
  simp [World.cell?, h]
set_option maxRecDepth 100000 in
set_option maxHeartbeats 2000000 in
theorem all17_bad (size age most : Int) (h : ¬ (1 ≤ size ∧ size ≤ 16 ∧ 1 ≤ age ∧ age ≤ 4096 ∧ 0 ≤ most ∧ most ≤ 16)) (a : Option Addr) (n cp : Nat) (w : World) :
    Calls Try.prog 6 #[.agg #[.int .i64 size, .int .i64 age, .int .i64 most], .slice a n cp] w (Yes17 w) := by
  have C0 := Lib.hid (fun w => awake17_any w)
  have CN := Lib.hid (fun w => new_any w)
  have CG := Lib.hid (fun p w => gnew_no p size age most h w)
  obtain ⟨W, hW⟩ : ∃ W, W = w.alloc (.cells #[.int .i64 size, .int .i64 age, .int .i64 most] 58) := ⟨_, rfl⟩
  obtain ⟨hbw, hcell⟩ := box3_17a w _ _ _ _ hW
  have HBW := Lib.hid hbw
  have HC := Lib.hid hcell
  clear h hbw hcell
  go_enter Try.func6, Try.ntmps6
  go_upto_region 1 with fail
  rw [← hW]
  clear hW
  go_upto_region 3 with (first
    | (go_at_call 7; (with_reducible refine (C0.out _).mono ?_); rintro e w1 ⟨rfl, HB1⟩)
    | fail)
  have HC1 : Hid (∀ w', Below w1.heap.size w1 w' → w'.cell? ⟨w.heap.size, 0, none⟩ = some (.int .i64 size) ∧ w'.cell? ⟨w.heap.size, 1, none⟩ = some (.int .i64 age) ∧ w'.cell? ⟨w.heap.size, 2, none⟩ = some (.int .i64 most)) := Lib.hid (fun w' hb => HC.out w' (b_on HB1.out hb))
  have cc : Below w1.heap.size w1 w1.drew := (Below.refl _ _).drew
  go_region_held3 (fun w' => w'.cell? ⟨w.heap.size, 0, none⟩ = some (.int .i64 size) ∧ w'.cell? ⟨w.heap.size, 1, none⟩ = some (.int .i64 age) ∧ w'.cell? ⟨w.heap.size, 2, none⟩ = some (.int .i64 most))
    (first
      | exact HC1.out _ cc
      | fail "keep")
    (first
      | (go_at_call 9; (with_reducible refine (CN.out _).mono ?_); rintro e w2 ⟨rfl, _, hb⟩; replace cc := cc.trans (hb.mono cc.size); clear hb)
      | (go_at_call 19; (with_reducible refine (CG.out _ _).mono ?_); rintro e w3 ⟨rfl, rfl⟩)
      | fail "arm")
  have HB2 := Lib.hid ((HBW.out.trans (HB1.out.mono HBW.out.size)).trans (cc.mono (Nat.le_trans HBW.out.size HB1.out.size)))
  clear cc HC HC1 CG CN C0 HB1 HBW
  go_wp2
  go_ret
  exact ⟨rfl, HB2.out⟩
set_option maxRecDepth 100000 in
set_option maxHeartbeats 4000000 in
theorem all17_good (size age : Nat) (most : Int) (h1 : 1 ≤ size) (h2 : size ≤ 16) (h3 : 1 ≤ age) (h4 : age ≤ 4096) (h5 : 0 ≤ most) (h6 : most ≤ 16) (a : Option Addr) (n cp : Nat) (w : World) (hp : ∃ P I L, Ops17 w a n P I L) :
    Calls Try.prog 6 #[.agg #[.int .i64 size, .int .i64 age, .int .i64 most], .slice a n cp] w (Yes17 w) := by
  obtain ⟨P, I, L, ho⟩ := hp
  have HO := Lib.hid ho
  have C0 := Lib.hid (fun w => awake17_any w)
  have CN := Lib.hid (fun w => new_any w)
  have CG := Lib.hid (fun t u hu ht => gnew_yes t size age most h1 h2 h3 h4 h5 h6 w.heap.size u hu ht)
  have HOK := Lib.hid (Bd.new_ok h1 h2 h3 h4 h5 h6)
  obtain ⟨W, hW⟩ : ∃ W, W = w.alloc (.cells #[.int .i64 size, .int .i64 age, .int .i64 most] 58) := ⟨_, rfl⟩
  have HSB : Hid (W.heap[w.heap.size]? = some (.cells #[.int .i64 size, .int .i64 age, .int .i64 most] 58 (0, 0))) := Lib.hid (by rw [hW]; exact Go.Deep.blk_alloc_new w _)
  obtain ⟨hbw, hcell⟩ := box3_17a w _ _ _ _ hW
  have HBW := Lib.hid hbw
  have HC := Lib.hid hcell
  clear ho hbw hcell h1 h2 h3 h4 h5 h6
  go_enter Try.func6, Try.ntmps6
  go_upto_region 1 with fail
  rw [← hW]
  clear hW
  go_upto_region 3 with (first
    | (go_at_call 7; (with_reducible refine (C0.out _).mono ?_); rintro e w1 ⟨rfl, HB1⟩)
    | fail)
  have HC1 : Hid (∀ w', Below w1.heap.size w1 w' → w'.cell? ⟨w.heap.size, 0, none⟩ = some (.int .i64 size) ∧ w'.cell? ⟨w.heap.size, 1, none⟩ = some (.int .i64 age) ∧ w'.cell? ⟨w.heap.size, 2, none⟩ = some (.int .i64 most)) := Lib.hid (fun w' hb => HC.out w' (b_on HB1.out hb))
  have HZ1 : Hid (w.heap.size ≤ w1.heap.size) := Lib.hid (Nat.le_trans HBW.out.size HB1.out.size)
  have cc : Below w1.heap.size w1 w1.drew := (Below.refl _ _).drew
  go_region_held3 (fun w' => w'.cell? ⟨w.heap.size, 0, none⟩ = some (.int .i64 size) ∧ w'.cell? ⟨w.heap.size, 1, none⟩ = some (.int .i64 age) ∧ w'.cell? ⟨w.heap.size, 2, none⟩ = some (.int .i64 most))
    (first
      | exact HC1.out _ cc
      | fail "keep")
    (first
      | (go_at_call 9; (with_reducible refine (CN.out _).mono ?_); rintro e w2 ⟨rfl, ht0, hb⟩; have ht : IsTab w2 w1.heap.size := ht0; clear ht0; replace cc := cc.trans (hb.mono cc.size); clear hb)
      | (go_at_call 19; (with_reducible refine (CG.out _ _ (Nat.le_trans HZ1.out cc.size) ht).mono ?_); rintro e w3 ⟨b, c, rfl, HS3, HB3⟩; replace cc := cc.trans (HB3.out.mono cc.size))
      | fail "arm")
  have HB3' := Lib.hid ((HBW.out.trans (HB1.out.mono HBW.out.size)).trans (cc.mono HZ1.out))
  have HAL : Hid (Al17 w b c w1.heap.size none 0 (Bd.new size age most) none 0 0 [] none 0 0 [] #[.int .i64 size, .int .i64 age, .int .i64 most] w3) := Lib.hid ⟨((b_on HB1.out cc).block _ (Array.getElem?_eq_some_iff.1 HSB.out).1).trans HSB.out, HS3.out, OwnU.none _ _, OwnU.none _ _, fun q e _ => by simp [Value.ownBlock] at e, fun q e _ => by simp [Value.ownBlock] at e, fun q e _ => by simp [Value.ownBlock] at e, HB3'.out⟩
  clear cc HC HC1 CG CN C0 HB1 HBW ht HB3 HS3 HB3' HZ1 HSB
  generalize w1.heap.size = t at *
  go_wp2
  go_loopw [7, 8, 9, 10, 11, 12, 13] (fun cm td i _ _ _ _ wr => ∃ (k : Nat) (S : Bd) (A : Option Addr) (C : Nat) (A1 : Option Addr) (n1 C1 : Nat) (l1 : List Int) (A2 : Option Addr) (n2 C2 : Nat) (l2 : List Int), k ≤ n ∧ k ≤ 60 ∧ i = .int .i64 k ∧ cm = .slice A1 n1 C1 ∧ td = .slice A2 n2 C2 ∧ Hid (Al17 w b c t A C S A1 n1 C1 l1 A2 n2 C2 l2 #[.int .i64 size, .int .i64 age, .int .i64 most] wr) ∧ Hid (S.ok k) ∧ Hid (l1 = l2 ++ S.z ∧ n2 + S.z.length = S.frames ∧ n1 = S.frames ∧ S.size = size)) (fun _ _ i _ _ _ _ _ => n - (intOf i).toNat)
  case atStart => exact ⟨0, Bd.new size age most, none, 0, none, 0, 0, [], none, 0, 0, [], by omega, by omega, rfl, rfl, rfl, HAL, HOK, Lib.hid ⟨rfl, rfl, rfl, rfl⟩⟩
  case round =>
    clear HAL HOK
    obtain ⟨k, S, A, C, A1, n1, C1, l1, A2, n2, C2, l2, hk, hk60, rfl, rfl, rfl, HP, HK, HR⟩ := hrel
    obtain ⟨wo, hwo⟩ : ∃ wo, wo = wr := ⟨_, rfl⟩
    subst hwo
    by_cases hlt : k < n ∧ k < 60
    · obtain ⟨hlt1, hlt2⟩ := hlt
      have j0 : (0 : Int) ≤ k := by omega
      have j1 : (k : Int) < n := by omega
      have j2 : (k : Int) < 60 := by omega
      obtain ⟨⟨g, off, rfl, hcell⟩, i0, i1⟩ := HO.out.at_ hlt1
      have HI : Hid (0 ≤ I k ∧ I k ≤ 65535) := Lib.hid ⟨i0, i1⟩
      have HCELL := Lib.hid hcell
      obtain ⟨is, his⟩ : ∃ is, P k = is := ⟨_, rfl⟩
      obtain ⟨iv, hiv⟩ : ∃ iv, I k = iv := ⟨_, rfl⟩
      obtain ⟨lv, hlv⟩ : ∃ lv, L k = lv := ⟨_, rfl⟩
      rw [his, hiv, hlv] at HCELL
      rw [hiv] at HI
      have HKK : Hid (k < n ∧ k < 60) := Lib.hid ⟨hlt1, hlt2⟩
      have HZ1 : Hid (B5 28 (wo.alloc (.cells #[.int .u32 0, .int .u32 0, .int .i64 0, .int .i64 0, .slice none 0 0] 28)) wo.heap.size (.int .u32 0) (.int .u32 0) (.int .i64 0) (.int .i64 0) (.slice none 0 0)) := Lib.hid (B5.new _ _ _ _ _ _ _)
      have HA1 := Lib.hid (HP.out.below (below_put wo (.cells #[.int .u32 0, .int .u32 0, .int .i64 0, .int .i64 0, .slice none 0 0] 28)))
      have HZZ : Hid (w.heap.size ≤ wo.heap.size) := Lib.hid HP.out.bel.size
      clear hcell i0 i1 his hiv hlv HP
      go_upto_region 11 with fail
      generalize wo.alloc (.cells #[.int .u32 0, .int .u32 0, .int .i64 0, .int .i64 0, .slice none 0 0] 28) = w2a at *
      generalize wo.heap.size = z at *
      obtain ⟨c0, c1, c2⟩ := HCELL.out w2a HA1.out.bel
      cases is
      case true =>
        have hcall := btick_any w.heap.size b c t C k A S (by omega) HK.out lv w2a HA1.out.code
        unfold CallTo ClosedTo Gd.val at hcall
        obtain ⟨rt, hrt⟩ : ∃ rt, S.tick lv = rt := ⟨_, rfl⟩
        rw [hrt] at hcall
        have HCA := Lib.hid hcall
        have HRT := Lib.hid hrt
        clear hcall hrt
        go_upto_region 15 with (first
          | (go_at_call 22; (with_reducible refine HCA.out.mono ?_); rintro e w8 ⟨A7, C7, A8, C8, rfl, HS8, HB8, HF8, HV8⟩; have HZ8 := Lib.hid (HZ1.out.keep (HA1.out.code.other rfl rfl HF8.out _ _ _ HZ1.out (by decide) (by decide) (by decide))); obtain ⟨z0, z1, z2, z3, z4⟩ := HZ8.out.cells; have v0 := HZ8.out.frozen 0; have v1 := HZ8.out.frozen 1; have v2 := HZ8.out.frozen 2; have v3 := HZ8.out.frozen 3; have v4 := HZ8.out.frozen 4)
          | fail)
        have hcs := Bd.tick_cases S lv
        have hsz2 := Bd.tick_size S lv
        have hok2 := Bd.tick_ok HK.out lv
        rw [HRT.out] at hcs hsz2 hok2
        have ha8 := HA1.out.call HB8.out HF8.out HV8.out
        have HA9 := Lib.hid (ha8.other HZ8.out (fun q hq => heap_put5 w8 z (.int .u32 rt.2.1.no) (.int .u32 rt.2.1.fst) (.int .i64 (rt.2.1.z.length : Nat)) (.int .i64 (rt.2.1.m : Nat)) (.slice A7 rt.2.1.n C7) q hq) (below_put5 ha8.bel HZZ.out (.int .u32 rt.2.1.no) (.int .u32 rt.2.1.fst) (.int .i64 (rt.2.1.z.length : Nat)) (.int .i64 (rt.2.1.m : Nat)) (.slice A7 rt.2.1.n C7)))
        have HZ9 := Lib.hid (HZ8.out.put (.int .u32 rt.2.1.no) (.int .u32 rt.2.1.fst) (.int .i64 (rt.2.1.z.length : Nat)) (.int .i64 (rt.2.1.m : Nat)) (.slice A7 rt.2.1.n C7))
        have HS9 := Lib.hid ((HS8.out.low HA1.out.bel.size).put HZ8.out (by decide) (by decide) (.int .u32 rt.2.1.no) (.int .u32 rt.2.1.fst) (.int .i64 (rt.2.1.z.length : Nat)) (.int .i64 (rt.2.1.m : Nat)) (.slice A7 rt.2.1.n C7))
        have HK2 := Lib.hid hok2
        have hvals := HK.out.vals
        clear ha8 c0 c1 c2 z0 z1 z2 z3 z4 v0 v1 v2 v3 v4 HCA HS8 HB8 HF8 HV8 HZ8 HA1 HZ1 HZZ hok2 HRT 
        generalize ((((w8.setCell ⟨z, 0, none⟩ (.int .u32 rt.2.1.no)).setCell ⟨z, 1, none⟩ (.int .u32 rt.2.1.fst)).setCell ⟨z, 2, none⟩ (.int .i64 (rt.2.1.z.length : Nat))).setCell ⟨z, 3, none⟩ (.int .i64 (rt.2.1.m : Nat))).setCell ⟨z, 4, none⟩ (.slice A7 rt.2.1.n C7) = w9 at *
        obtain ⟨r1, r2, r3, r4⟩ := HR.out
        rcases hcs with ⟨e1, e2, e3⟩ | ⟨e1, e2, e3, e4, e5, e6⟩
        · rw [e1]
          have HR2 : Hid (l1 = l2 ++ rt.1.z ∧ n2 + rt.1.z.length = rt.1.frames ∧ n1 = rt.1.frames ∧ rt.1.size = size) := Lib.hid ⟨by rw [e2]; exact r1, by rw [e2, e3]; exact r2, by rw [e3]; exact r3, by rw [hsz2]; exact r4⟩
          clear e1 e2 e3 r1 r2 r3 r4 hsz2 hvals HR HK HS9 HZ9
          go_wp2
          go_roundw
          case rel => exact ⟨k + 1, rt.1, A8, C8, A1, n1, C1, l1, A2, n2, C2, l2, by have := HKK.out; omega, by have := HKK.out; omega, by go_num, rfl, rfl, HA9, HK2, HR2⟩
          case measure => have := HKK.out; simp [intOf] <;> omega
        · rw [e1]
          have hfst : rt.2.1.fst = (n2 : Int) := by rw [e5]; have : S.frames - S.z.length = n2 := by omega
                                                    rw [this]
          have hKn : rt.2.1.z.length ≤ rt.2.1.n := Nat.le_add_right _ _
          have hK1 : 1 ≤ rt.2.1.z.length := by rw [e4]; exact e6
          have hKs : rt.2.1.z.length ≤ size := by have := HK.out.wait; rw [e4]; omega
          have hK16 : rt.2.1.z.length ≤ 16 := by have := HK.out.wait; have := HK.out.s1; rw [e4]; omega
          have hv2 : ∀ y ∈ rt.2.1.z, 0 ≤ y ∧ y ≤ 65535 := by rw [e4]; exact hvals
          have HIN := Lib.hid (shs_inputs HS9.out hKn hK16 hv2 w.heap.size HA9.out.bel.size)
          have HR2 : Hid (l1 = (l2 ++ rt.2.1.z) ++ rt.1.z ∧ (n2 + rt.2.1.z.length) + rt.1.z.length = rt.1.frames ∧ n1 = rt.1.frames ∧ rt.1.size = size) := Lib.hid ⟨by rw [e2, e4, List.append_nil]; exact r1, by rw [e2, e3, e4]; exact r2, by rw [e3]; exact r3, by rw [hsz2]; exact r4⟩
          obtain ⟨A7', C7', hsl, hsl1, hsl2, _⟩ := HS9.out.slice
          simp only [Value.slice.injEq] at hsl
          obtain ⟨rfl, _, rfl⟩ := hsl
          have hn2b : n2 ≤ 100 := by have := HK.out.frames; have := HKK.out; omega
          rw [hfst] at HZ9
          obtain ⟨t0, t1, t2⟩ := cells3_17a HA9.out.sz
          obtain ⟨z0, z1, z2, z3, z4⟩ := HZ9.out.cells
          obtain ⟨gz, hgz⟩ : ∃ gz, gz = rt.2.1.z := ⟨_, rfl⟩
          obtain ⟨K, hKK⟩ : ∃ K, K = rt.2.1.z.length := ⟨_, rfl⟩
          obtain ⟨N, hNN⟩ : ∃ N, N = rt.2.1.n := ⟨_, rfl⟩
          rw [← hKK] at HIN hKn hK1 hKs hK16 z2
          rw [← hNN] at hKn hsl1 z4
          rw [← hgz] at HIN HR2
          have HKL : Hid (K = gz.length) := Lib.hid (by rw [hgz]; exact hKK)
          rw [hgz, ← hKK, ← hgz] at HR2
          have w16 : IntKind.i64.wrap (n2 : Int) = (n2 : Int) := by rw [IntKind.wrap_i64]; omega
          have k1 : ¬ (K : Int) < 1 := by omega
          have k2 : ¬ (N : Int) < K := by omega
          have k3 : ¬ (size : Int) < K := by omega
          have hC1 : K ≤ C7 := by omega
          have hC2 : C7 ≤ 9223372036854775807 := by unfold maxLen at hsl2; omega
          have HNB : Hid (n2 + K ≤ 100000) := Lib.hid (by omega)
          clear e1 e2 e3 e4 e5 e6 r1 r2 r3 r4 hsz2 hvals hfst hv2 hsl1 hsl2 HR HK HS9 HZ9 hgz hKK hNN
          go_wp2_with (first
            | (go_at_call 17; (with_reducible refine HIN.out.mono ?_); rintro e w10 ⟨gi, rfl, HGI, HOI, HBI⟩; have HA10 := Lib.hid (HA9.out.below HBI.out); have HI10 := Lib.hid (OwnU.ins HOI.out))
            | ((with_reducible refine wpList_append_us rfl (.tmp 124) (.tmp 125) rfl w.heap.size A2 n2 C2 rfl l2 HA10.out.told (some ⟨gi, 0, none⟩) K K rfl gz HI10.out (fun h => nomatch h) HNB.out HA10.out.bel.size (n2 + K) rfl (l2 ++ gz) rfl ?_); intro A5 C5 w11 HO11 HG11 HV11; have HA11 := Lib.hid (HA10.out.grown2 HO11.out HG11.out HV11.out))
            | fail)
          go_roundw
          case rel => exact ⟨k + 1, rt.1, A8, C8, A1, n1, C1, l1, A5, n2 + K, C5, l2 ++ gz, by have := HKK.out; omega, by have := HKK.out; omega, by go_num, rfl, rfl, HA11, HK2, HR2⟩
          case measure => have := HKK.out; simp [intOf] <;> omega
      case false =>
        have HOW := Lib.hid (HA1.out.came.below (below_put w2a (.cells #[.int .u16 iv] 54)) (Nat.le_refl _))
        have HIN1 : Hid (Ins (w2a.alloc (.cells #[.int .u16 iv] 54)) (some ⟨w2a.heap.size, 0, none⟩) 1 [iv]) := Lib.hid ⟨rfl, .inr ⟨_, 0, rfl, by simp, fun j hj => by
          obtain rfl : j = 0 := by omega
          exact new_box w2a _ _⟩⟩
        have HNB1 : Hid (n1 + 1 ≤ 100000) := Lib.hid (by have := HR.out.2.2.1; have := HK.out.frames; omega)
        have HBS : Hid (w.heap.size ≤ (w2a.alloc (.cells #[.int .u16 iv] 54)).heap.size) := Lib.hid (by have := HA1.out.bel.size; simp; omega)
        go_upto_region 14 with (first
          | ((with_reducible refine wpList_append_us (w := w2a.alloc _) rfl (.tmp 62) (.tmp 68) rfl w.heap.size A1 n1 C1 rfl l1 HOW.out (some ⟨w2a.heap.size, 0, none⟩) 1 1 rfl [iv] HIN1.out (fun h => nomatch h) HNB1.out HBS.out (n1 + 1) rfl (l1 ++ [iv]) rfl ?_); intro A1n C1n w3a HO3 HG3 HV3)
          | fail)
        have HZ3 : Hid (B5 28 w3a z (.int .u32 0) (.int .u32 0) (.int .i64 0) (.int .i64 0) (.slice none 0 0)) := Lib.hid (by
          have hz := HZ1.out.below (below_put w2a (.cells #[.int .u16 iv] 54)) HZ1.out.lt
          refine hz.keep (HG3.out.block z hz.lt (fun e => ?_))
          obtain ⟨cur, hc⟩ := own_type HOW.out e.symm
          exact two_types hc hz (by decide) rfl)
        have HA3 := Lib.hid ((HA1.out.below (below_put w2a (.cells #[.int .u16 iv] 54))).grown1 HO3.out HG3.out HV3.out)
        clear c0 c1 c2 HOW HIN1 HNB1 HBS HO3 HG3 HV3 HA1 HZ1
        have HA1 := HA3
        have HZ1 := HZ3
        clear HA3 HZ3
        have HADD := Lib.hid (fun u (hu : Below w3a.heap.size w3a u) => badd_any w.heap.size b c t C k A S (by omega) HK.out iv lv HI.out.1 HI.out.2 u (Nat.le_trans HA1.out.bel.size hu.size) (HA1.out.code.below hu (Nat.le_refl _)))
        unfold CallTo ClosedTo Gd.val at HADD
        obtain ⟨rt, hrt⟩ : ∃ rt, S.add iv lv = rt := ⟨_, rfl⟩
        rw [hrt] at HADD
        have HRT := Lib.hid hrt
        clear hrt
        have HSC : Hid (∀ u, Below w.heap.size w u → u.cell? ⟨g, off + k * 3 + 1, none⟩ = some (.int .u16 iv) ∧ u.cell? ⟨g, off + k * 3 + 2, none⟩ = some (.int .i64 lv)) := Lib.hid (fun u hu => ⟨(HCELL.out u hu).2.1, (HCELL.out u hu).2.2⟩)
        have cc : Below w3a.heap.size w3a w3a.drew := (Below.refl _ _).drew
        have cb : Below w.heap.size w w3a.drew := HA1.out.bel.drew
        go_region_held3 (fun u => u.cell? ⟨g, off + k * 3 + 1, none⟩ = some (.int .u16 iv) ∧ u.cell? ⟨g, off + k * 3 + 2, none⟩ = some (.int .i64 lv))
          (first
            | exact HSC.out _ cb
            | exact HSC.out _ hb8
            | exact HSC.out _ (below_put5 hb8 HZZ.out _ _ _ _ _)
            | fail "keep")
          (first
            | (go_at_call 23; (with_reducible refine (HADD.out _ cc).mono ?_); rintro e w8 ⟨A7, C7, A8, C8, rfl, HS8, HB8, HF8a, HV8⟩; have HF8 : Hid (FrG b c (.slice A S.z.length C) w3a w8) := Lib.hid ⟨HF8a.out.os, HF8a.out.tape, HF8a.out.output, HF8a.out.size, HF8a.out.block⟩; have hb8 : Below w.heap.size w w8 := HA1.out.code.bel HF8.out HA1.out.bel (Nat.le_refl _); have HZ8 := Lib.hid (HZ1.out.keep (HA1.out.code.other rfl rfl HF8.out _ _ _ HZ1.out (by decide) (by decide) (by decide))); obtain ⟨z0, z1, z2, z3, z4⟩ := HZ8.out.cells; have v0 := HZ8.out.frozen 0; have v1 := HZ8.out.frozen 1; have v2 := HZ8.out.frozen 2; have v3 := HZ8.out.frozen 3; have v4 := HZ8.out.frozen 4)
            | fail "arm")
        clear cc cb hb8 HADD HSC HF8a
        have hcs := Bd.add_cases S iv lv
        have hsz2 := Bd.add_size S iv lv
        have hok2 := Bd.add_ok HK.out iv lv HI.out.1 HI.out.2
        rw [HRT.out] at hcs hsz2 hok2
        have ha8 := HA1.out.call HB8.out HF8.out HV8.out
        have HA9 := Lib.hid (ha8.other HZ8.out (fun q hq => heap_put5 w8 z (.int .u32 rt.2.1.no) (.int .u32 rt.2.1.fst) (.int .i64 (rt.2.1.z.length : Nat)) (.int .i64 (rt.2.1.m : Nat)) (.slice A7 rt.2.1.n C7) q hq) (below_put5 ha8.bel HZZ.out (.int .u32 rt.2.1.no) (.int .u32 rt.2.1.fst) (.int .i64 (rt.2.1.z.length : Nat)) (.int .i64 (rt.2.1.m : Nat)) (.slice A7 rt.2.1.n C7)))
        have HZ9 := Lib.hid (HZ8.out.put (.int .u32 rt.2.1.no) (.int .u32 rt.2.1.fst) (.int .i64 (rt.2.1.z.length : Nat)) (.int .i64 (rt.2.1.m : Nat)) (.slice A7 rt.2.1.n C7))
        have HS9 := Lib.hid ((HS8.out.low HA1.out.bel.size).put HZ8.out (by decide) (by decide) (.int .u32 rt.2.1.no) (.int .u32 rt.2.1.fst) (.int .i64 (rt.2.1.z.length : Nat)) (.int .i64 (rt.2.1.m : Nat)) (.slice A7 rt.2.1.n C7))
        have HK2 := Lib.hid hok2
        have hvals := (show ∀ y ∈ S.z ++ [iv], 0 ≤ y ∧ y ≤ 65535 from fun y hy => by
          rcases List.mem_append.1 hy with h | h
          · exact HK.out.vals y h
          · simp at h
            subst h
            exact HI.out)
        clear ha8 z0 z1 z2 z3 z4 v0 v1 v2 v3 v4 HS8 HB8 HF8 HV8 HZ8 HA1 HZ1 HZZ hok2 HRT 
        generalize ((((w8.setCell ⟨z, 0, none⟩ (.int .u32 rt.2.1.no)).setCell ⟨z, 1, none⟩ (.int .u32 rt.2.1.fst)).setCell ⟨z, 2, none⟩ (.int .i64 (rt.2.1.z.length : Nat))).setCell ⟨z, 3, none⟩ (.int .i64 (rt.2.1.m : Nat))).setCell ⟨z, 4, none⟩ (.slice A7 rt.2.1.n C7) = w9 at *
        obtain ⟨r1, r2, r3, r4⟩ := HR.out
        rcases hcs with ⟨e1, e2, e3⟩ | ⟨e1, e2, e3, e4, e5, e6⟩
        · rw [e1]
          have HR2 : Hid ((l1 ++ [iv]) = l2 ++ rt.1.z ∧ n2 + rt.1.z.length = rt.1.frames ∧ (n1 + 1) = rt.1.frames ∧ rt.1.size = size) := Lib.hid ⟨by rw [e2, r1, List.append_assoc], by rw [e2, e3, List.length_append]; show n2 + (S.z.length + 1) = _; omega, by rw [e3, r3], by rw [hsz2]; exact r4⟩
          clear e1 e2 e3 r1 r2 r3 r4 hsz2 hvals HR HK HS9 HZ9
          go_wp2
          go_roundw
          case rel => exact ⟨k + 1, rt.1, A8, C8, A1n, (n1 + 1), C1n, (l1 ++ [iv]), A2, n2, C2, l2, by have := HKK.out; omega, by have := HKK.out; omega, by go_num, rfl, rfl, HA9, HK2, HR2⟩
          case measure => have := HKK.out; simp [intOf] <;> omega
        · rw [e1]
          have hfst : rt.2.1.fst = (n2 : Int) := by
            have : S.frames + 1 - (S.z ++ [iv]).length = n2 := by rw [List.length_append]; show S.frames + 1 - (S.z.length + 1) = n2; omega
            rw [e5, this]
          have hKn : rt.2.1.z.length ≤ rt.2.1.n := Nat.le_add_right _ _
          have hK1 : 1 ≤ rt.2.1.z.length := by rw [e4]; exact e6
          have hKs : rt.2.1.z.length ≤ size := by have := HK.out.wait; rw [e4, List.length_append]; show S.z.length + 1 ≤ size; omega
          have hK16 : rt.2.1.z.length ≤ 16 := by have := HK.out.wait; have := HK.out.s1; rw [e4, List.length_append]; show S.z.length + 1 ≤ 16; omega
          have hv2 : ∀ y ∈ rt.2.1.z, 0 ≤ y ∧ y ≤ 65535 := by rw [e4]; exact hvals
          have HIN := Lib.hid (shs_inputs HS9.out hKn hK16 hv2 w.heap.size HA9.out.bel.size)
          have HR2 : Hid ((l1 ++ [iv]) = (l2 ++ rt.2.1.z) ++ rt.1.z ∧ (n2 + rt.2.1.z.length) + rt.1.z.length = rt.1.frames ∧ (n1 + 1) = rt.1.frames ∧ rt.1.size = size) := Lib.hid ⟨by rw [e2, e4, List.append_nil, r1, List.append_assoc], by rw [e2, e3, e4, List.length_append]; show n2 + (S.z.length + 1) + 0 = S.frames + 1; omega, by rw [e3, r3], by rw [hsz2]; exact r4⟩
          obtain ⟨A7', C7', hsl, hsl1, hsl2, _⟩ := HS9.out.slice
          simp only [Value.slice.injEq] at hsl
          obtain ⟨rfl, _, rfl⟩ := hsl
          have hn2b : n2 ≤ 100 := by have := HK.out.frames; have := HKK.out; omega
          rw [hfst] at HZ9
          obtain ⟨t0, t1, t2⟩ := cells3_17a HA9.out.sz
          obtain ⟨z0, z1, z2, z3, z4⟩ := HZ9.out.cells
          obtain ⟨gz, hgz⟩ : ∃ gz, gz = rt.2.1.z := ⟨_, rfl⟩
          obtain ⟨K, hKK⟩ : ∃ K, K = rt.2.1.z.length := ⟨_, rfl⟩
          obtain ⟨N, hNN⟩ : ∃ N, N = rt.2.1.n := ⟨_, rfl⟩
          rw [← hKK] at HIN hKn hK1 hKs hK16 z2
          rw [← hNN] at hKn hsl1 z4
          rw [← hgz] at HIN HR2
          have HKL : Hid (K = gz.length) := Lib.hid (by rw [hgz]; exact hKK)
          rw [hgz, ← hKK, ← hgz] at HR2
          have w16 : IntKind.i64.wrap (n2 : Int) = (n2 : Int) := by rw [IntKind.wrap_i64]; omega
          have k1 : ¬ (K : Int) < 1 := by omega
          have k2 : ¬ (N : Int) < K := by omega
          have k3 : ¬ (size : Int) < K := by omega
          have hC1 : K ≤ C7 := by omega
          have hC2 : C7 ≤ 9223372036854775807 := by unfold maxLen at hsl2; omega
          have HNB : Hid (n2 + K ≤ 100000) := Lib.hid (by omega)
          clear e1 e2 e3 e4 e5 e6 r1 r2 r3 r4 hsz2 hvals hfst hv2 hsl1 hsl2 HR HK HS9 HZ9 hgz hKK hNN
          go_wp2_with (first
            | (go_at_call 17; (with_reducible refine HIN.out.mono ?_); rintro e w10 ⟨gi, rfl, HGI, HOI, HBI⟩; have HA10 := Lib.hid (HA9.out.below HBI.out); have HI10 := Lib.hid (OwnU.ins HOI.out))
            | ((with_reducible refine wpList_append_us rfl (.tmp 124) (.tmp 125) rfl w.heap.size A2 n2 C2 rfl l2 HA10.out.told (some ⟨gi, 0, none⟩) K K rfl gz HI10.out (fun h => nomatch h) HNB.out HA10.out.bel.size (n2 + K) rfl (l2 ++ gz) rfl ?_); intro A5 C5 w11 HO11 HG11 HV11; have HA11 := Lib.hid (HA10.out.grown2 HO11.out HG11.out HV11.out))
            | fail)
          go_roundw
          case rel => exact ⟨k + 1, rt.1, A8, C8, A1n, (n1 + 1), C1n, (l1 ++ [iv]), A5, n2 + K, C5, l2 ++ gz, by have := HKK.out; omega, by have := HKK.out; omega, by go_num, rfl, rfl, HA11, HK2, HR2⟩
          case measure => have := HKK.out; simp [intOf] <;> omega
    · skip
      by_cases hkn : k < n
      · have j1 : (k : Int) < n := by omega
        have j2 : ¬ (k : Int) < 60 := by omega
        have HB := Lib.hid HP.out.bel
        obtain ⟨r1, r2, r3, r4⟩ := HR.out
        obtain rfl : n1 = n2 + S.z.length := by omega
        have CW := Lib.hid (waiting_any HP.out.code)
        have hzl : S.z.length ≤ 100 := by have := HK.out.wait; have := HK.out.s1; omega
        have hn2b : n2 ≤ 100 := by have := HK.out.frames; omega
        have HEQ : Hid (∀ i, i < n2 → l1.getD i 0 = l2.getD i 0) := Lib.hid (fun i hi => by
          have := HP.out.told.length
          rw [r1, List.getD_eq_getElem?_getD, List.getElem?_append_left (by omega), List.getD_eq_getElem?_getD])
        clear HK HR r1 r2 r3 r4 hlt
        go_wp2_with (first
          | (go_at_call 24; (with_reducible refine CW.out.mono ?_); rintro e w5 ⟨rfl, rfl⟩)
          | fail)
        go_loopw [14] (fun i wr => ∃ q, ∃ j : Nat, j ≤ n2 ∧ i = .int .i64 j ∧ wr = wo.drewN q) (fun i _ => n2 - (intOf i).toNat)
        case atStart => exact ⟨0, 0, by omega, rfl, rfl⟩
        case round =>
          obtain ⟨q, j, hj, rfl, hw⟩ := hrel
          have HAR : Hid (Al17 w b c t A C S A1 (n2 + S.z.length) C1 l1 A2 n2 C2 l2 #[.int .i64 size, .int .i64 age, .int .i64 most] wr) := Lib.hid (by rw [hw]; exact HP.out.below (below_drewN (Below.refl _ _) q))
          have HW := Lib.hid hw
          clear hw
          obtain ⟨wi, hwi⟩ : ∃ wi, wi = wr := ⟨_, rfl⟩
          subst hwi
          by_cases hlt2 : j < n2
          · have j0 : (0 : Int) ≤ j := by omega
            have j3 : (j : Int) < n2 := by omega
            have j4 : (j : Int) < (n2 : Int) + (S.z.length : Nat) := by omega
            obtain ⟨g1, rfl, _, _, d1, _⟩ := HAR.out.came.at_ j (by omega)
            obtain ⟨g2, rfl, _, _, d2, _⟩ := HAR.out.told.at_ j hlt2
            rw [HEQ.out j hlt2] at d1
            obtain ⟨y, hy⟩ : ∃ y, l2.getD j 0 = y := ⟨_, rfl⟩
            rw [hy] at d1 d2
            clear hy HAR HEQ CW HP
            go_wp2
            go_quiet (fail)
            go_wp2
            go_roundw
            case rel =>
              rw [HW.out, World.drewN_drewN]
              exact ⟨_, j + 1, by omega, by go_num, rfl⟩
            case measure => simp [intOf]; omega
          · obtain rfl : j = n2 := by omega
            have HBR := Lib.hid HAR.out.bel
            go_wp2
            go_ret
            exact ⟨rfl, HBR.out⟩
      · have j1 : ¬ (k : Int) < n := by omega
        have HB := Lib.hid HP.out.bel
        obtain ⟨r1, r2, r3, r4⟩ := HR.out
        obtain rfl : n1 = n2 + S.z.length := by omega
        have CW := Lib.hid (waiting_any HP.out.code)
        have hzl : S.z.length ≤ 100 := by have := HK.out.wait; have := HK.out.s1; omega
        have hn2b : n2 ≤ 100 := by have := HK.out.frames; omega
        have HEQ : Hid (∀ i, i < n2 → l1.getD i 0 = l2.getD i 0) := Lib.hid (fun i hi => by
          have := HP.out.told.length
          rw [r1, List.getD_eq_getElem?_getD, List.getElem?_append_left (by omega), List.getD_eq_getElem?_getD])
        clear HK HR r1 r2 r3 r4 hlt
        go_wp2_with (first
          | (go_at_call 24; (with_reducible refine CW.out.mono ?_); rintro e w5 ⟨rfl, rfl⟩)
          | fail)
        go_loopw [14] (fun i wr => ∃ q, ∃ j : Nat, j ≤ n2 ∧ i = .int .i64 j ∧ wr = wo.drewN q) (fun i _ => n2 - (intOf i).toNat)
        case atStart => exact ⟨0, 0, by omega, rfl, rfl⟩
        case round =>
          obtain ⟨q, j, hj, rfl, hw⟩ := hrel
          have HAR : Hid (Al17 w b c t A C S A1 (n2 + S.z.length) C1 l1 A2 n2 C2 l2 #[.int .i64 size, .int .i64 age, .int .i64 most] wr) := Lib.hid (by rw [hw]; exact HP.out.below (below_drewN (Below.refl _ _) q))
          have HW := Lib.hid hw
          clear hw
          obtain ⟨wi, hwi⟩ : ∃ wi, wi = wr := ⟨_, rfl⟩
          subst hwi
          by_cases hlt2 : j < n2
          · have j0 : (0 : Int) ≤ j := by omega
            have j3 : (j : Int) < n2 := by omega
            have j4 : (j : Int) < (n2 : Int) + (S.z.length : Nat) := by omega
            obtain ⟨g1, rfl, _, _, d1, _⟩ := HAR.out.came.at_ j (by omega)
            obtain ⟨g2, rfl, _, _, d2, _⟩ := HAR.out.told.at_ j hlt2
            rw [HEQ.out j hlt2] at d1
            obtain ⟨y, hy⟩ : ∃ y, l2.getD j 0 = y := ⟨_, rfl⟩
            rw [hy] at d1 d2
            clear hy HAR HEQ CW HP
            go_wp2
            go_quiet (fail)
            go_wp2
            go_roundw
            case rel =>
              rw [HW.out, World.drewN_drewN]
              exact ⟨_, j + 1, by omega, by go_num, rfl⟩
            case measure => simp [intOf]; omega
          · obtain rfl : j = n2 := by omega
            have HBR := Lib.hid HAR.out.bel
            go_wp2
            go_ret
            exact ⟨rfl, HBR.out⟩
theorem all17_walk (size age most : Int) (a : Option Addr) (n cp : Nat) (w : World) (hp : True → ∃ P I L, Ops17 w a n P I L) :
    Calls Try.prog 6 #[.agg #[.int .i64 size, .int .i64 age, .int .i64 most], .slice a n cp] w (Yes17 w) := by
  by_cases h : 1 ≤ size ∧ size ≤ 16 ∧ 1 ≤ age ∧ age ≤ 4096 ∧ 0 ≤ most ∧ most ≤ 16
  · obtain ⟨h1, h2, h3, h4, h5, h6⟩ := h
    obtain ⟨s, rfl⟩ : ∃ s : Nat, size = s := ⟨size.toNat, by omega⟩
    obtain ⟨g, rfl⟩ : ∃ g : Nat, age = g := ⟨age.toNat, by omega⟩
    exact all17_good s g most (by omega) (by omega) (by omega) (by omega) h5 h6 a n cp w (hp trivial)
  · exact all17_bad size age most h a n cp w
end Go.Proofs.Ytphddcbkjikgfaa
