/-
  Own text: law GroupBuilds, walked.
-/
import Derived.Test.YtphddcbkjikgfaaGrR
import Derived.Test.YtphddcbkjikgfaaGrow
namespace Go.Proofs.Ytphddcbkjikgfaa
open Go.RowKit

/-- The sizes' box. -/
theorem box3_17 (w : World) (x y z : Value) (t : TypeId) {W : World} (hW : W = w.alloc (.cells #[x, y, z] t)) : Below w.heap.size w W ∧ ∀ w', Below W.heap.size W w' → w'.cell? ⟨w.heap.size, 0, none⟩ = some x ∧ w'.cell? ⟨w.heap.size, 1, none⟩ = some y ∧ w'.cell? ⟨w.heap.size, 2, none⟩ = some z := by
  have h : W.heap[w.heap.size]? = some (.cells #[x, y, z] t (0, 0)) := by rw [hW]; exact Go.Deep.blk_alloc_new w _
  refine ⟨by rw [hW]; exact below_put w _, fun w' hb => ?_⟩
  have h2 : w'.heap[w.heap.size]? = some (.cells #[x, y, z] t (0, 0)) := (hb.block _ (Array.getElem?_eq_some_iff.1 h).1).trans h
  simp [World.cell?, h2]
theorem cells3_17 {w : World} {b : Nat} {x y z : Value} {t : TypeId} (h : w.heap[b]? = some (.cells #[x, y, z] t (0, 0))) : w.cell? ⟨b, 0, none⟩ = some x ∧ w.cell? ⟨b, 1, none⟩ = some y ∧ w.cell? ⟨b, 2, none⟩ = some z := by
  simp [World.cell?, h]
set_option maxRecDepth 100000 in
set_option maxHeartbeats 2000000 in
theorem builds17_bad (size age most : Int) (h : ¬ (1 ≤ size ∧ size ≤ 16 ∧ 1 ≤ age ∧ age ≤ 4096 ∧ 0 ≤ most ∧ most ≤ 16)) (a : Option Addr) (n cp : Nat) (w : World) :
    Calls Try.prog 5 #[.agg #[.int .i64 size, .int .i64 age, .int .i64 most], .slice a n cp] w (Yes17 w) := by
  have C0 := Lib.hid (fun w => awake17_any w)
  have CN := Lib.hid (fun w => new_any w)
  have CG := Lib.hid (fun p w => gnew_no p size age most h w)
  obtain ⟨W, hW⟩ : ∃ W, W = w.alloc (.cells #[.int .i64 size, .int .i64 age, .int .i64 most] 58) := ⟨_, rfl⟩
  obtain ⟨hbw, hcell⟩ := box3_17 w _ _ _ _ hW
  have HBW := Lib.hid hbw
  have HC := Lib.hid hcell
  have hc : size < 1 ∨ ¬ size < 1 ∧ 16 < size ∨ ¬ size < 1 ∧ ¬ 16 < size ∧ age < 1 ∨ ¬ size < 1 ∧ ¬ 16 < size ∧ ¬ age < 1 ∧ 4096 < age ∨ ¬ size < 1 ∧ ¬ 16 < size ∧ ¬ age < 1 ∧ ¬ 4096 < age ∧ most < 0 ∨ ¬ size < 1 ∧ ¬ 16 < size ∧ ¬ age < 1 ∧ ¬ 4096 < age ∧ ¬ most < 0 ∧ 16 < most := by omega
  clear h hbw hcell
  go_enter Try.func5, Try.ntmps5
  go_upto_region 1 with fail
  rw [← hW]
  clear hW
  go_upto_region 3 with (first
    | (go_at_call 7; (with_reducible refine (C0.out _).mono ?_); rintro e w1 ⟨rfl, HB1⟩)
    | fail)
  have HC1 : Hid (∀ w', Below w1.heap.size w1 w' → w'.cell? ⟨w.heap.size, 0, none⟩ = some (.int .i64 size) ∧ w'.cell? ⟨w.heap.size, 1, none⟩ = some (.int .i64 age) ∧ w'.cell? ⟨w.heap.size, 2, none⟩ = some (.int .i64 most)) := Lib.hid (fun w' hb => HC.out w' (b_on HB1.out hb))
  have cc : Below w1.heap.size w1 w1.drew := (Below.refl _ _).drew
  go_region_held3 (fun w' => w'.cell? ⟨w.heap.size, 0, none⟩ = some (.int .i64 size) ∧ w'.cell? ⟨w.heap.size, 1, none⟩ = some (.int .i64 age) ∧ w'.cell? ⟨w.heap.size, 2, none⟩ = some (.int .i64 most))
    (first
      | exact HC1.out _ cc
      | fail "keep")
    (first
      | (go_at_call 9; (with_reducible refine (CN.out _).mono ?_); rintro e w2 ⟨rfl, _, hb⟩; replace cc := cc.trans (hb.mono cc.size); clear hb)
      | (go_at_call 19; (with_reducible refine (CG.out _ _).mono ?_); rintro e w3 ⟨rfl, rfl⟩)
      | fail "arm")
  have HB2 := Lib.hid ((HBW.out.trans (HB1.out.mono HBW.out.size)).trans (cc.mono (Nat.le_trans HBW.out.size HB1.out.size)))
  obtain ⟨c0, c1, c2⟩ := HC1.out _ cc
  clear cc HC HC1 CG CN C0 HB1 HBW
  rcases hc with h1 | ⟨h1, h2⟩ | ⟨h1, h2, h3⟩ | ⟨h1, h2, h3, h4⟩ | ⟨h1, h2, h3, h4, h5⟩ | ⟨h1, h2, h3, h4, h5, h6⟩
  all_goals
    go_wp2
    go_ret
    exact ⟨rfl, HB2.out⟩
set_option maxRecDepth 100000 in
set_option maxHeartbeats 4000000 in
theorem builds17_good (size age : Nat) (most : Int) (h1 : 1 ≤ size) (h2 : size ≤ 16) (h3 : 1 ≤ age) (h4 : age ≤ 4096) (h5 : 0 ≤ most) (h6 : most ≤ 16) (a : Option Addr) (n cp : Nat) (w : World) (hp : ∃ P I L, Ops17 w a n P I L) :
    Calls Try.prog 5 #[.agg #[.int .i64 size, .int .i64 age, .int .i64 most], .slice a n cp] w (Yes17 w) := by
  obtain ⟨P, I, L, ho⟩ := hp
  have HO := Lib.hid ho
  have C0 := Lib.hid (fun w => awake17_any w)
  have CN := Lib.hid (fun w => new_any w)
  have CG := Lib.hid (fun t u hu ht => gnew_yes t size age most h1 h2 h3 h4 h5 h6 w.heap.size u hu ht)
  have HOK := Lib.hid (Bd.new_ok h1 h2 h3 h4 h5 h6)
  obtain ⟨W, hW⟩ : ∃ W, W = w.alloc (.cells #[.int .i64 size, .int .i64 age, .int .i64 most] 58) := ⟨_, rfl⟩
  obtain ⟨hbw, hcell⟩ := box3_17 w _ _ _ _ hW
  have HBW := Lib.hid hbw
  have HC := Lib.hid hcell
  have k1 : ¬ (size : Int) < 1 := by omega
  have k2 : ¬ (16 : Int) < size := by omega
  have k3 : ¬ (age : Int) < 1 := by omega
  have k4 : ¬ (4096 : Int) < age := by omega
  have k5 : ¬ most < 0 := by omega
  have k6 : ¬ (16 : Int) < most := by omega
  clear ho hbw hcell h1 h2 h3 h4 h5 h6
  go_enter Try.func5, Try.ntmps5
  go_upto_region 1 with fail
  rw [← hW]
  clear hW
  go_upto_region 3 with (first
    | (go_at_call 7; (with_reducible refine (C0.out _).mono ?_); rintro e w1 ⟨rfl, HB1⟩)
    | fail)
  have HC1 : Hid (∀ w', Below w1.heap.size w1 w' → w'.cell? ⟨w.heap.size, 0, none⟩ = some (.int .i64 size) ∧ w'.cell? ⟨w.heap.size, 1, none⟩ = some (.int .i64 age) ∧ w'.cell? ⟨w.heap.size, 2, none⟩ = some (.int .i64 most)) := Lib.hid (fun w' hb => HC.out w' (b_on HB1.out hb))
  have HZ1 : Hid (w.heap.size ≤ w1.heap.size) := Lib.hid (Nat.le_trans HBW.out.size HB1.out.size)
  have cc : Below w1.heap.size w1 w1.drew := (Below.refl _ _).drew
  go_region_held3 (fun w' => w'.cell? ⟨w.heap.size, 0, none⟩ = some (.int .i64 size) ∧ w'.cell? ⟨w.heap.size, 1, none⟩ = some (.int .i64 age) ∧ w'.cell? ⟨w.heap.size, 2, none⟩ = some (.int .i64 most))
    (first
      | exact HC1.out _ cc
      | fail "keep")
    (first
      | (go_at_call 9; (with_reducible refine (CN.out _).mono ?_); rintro e w2 ⟨rfl, ht0, hb⟩; have ht : IsTab w2 w1.heap.size := ht0; clear ht0; replace cc := cc.trans (hb.mono cc.size); clear hb)
      | (go_at_call 19; (with_reducible refine (CG.out _ _ (Nat.le_trans HZ1.out cc.size) ht).mono ?_); rintro e w3 ⟨b, c, rfl, HS3, HB3⟩; replace cc := cc.trans (HB3.out.mono cc.size))
      | fail "arm")
  have HB3' := Lib.hid ((HBW.out.trans (HB1.out.mono HBW.out.size)).trans (cc.mono HZ1.out))
  obtain ⟨c0, c1, c2⟩ := HC1.out _ cc
  have HCB : Hid (∀ w', Below w3.heap.size w3 w' → w'.cell? ⟨w.heap.size, 0, none⟩ = some (.int .i64 size) ∧ w'.cell? ⟨w.heap.size, 1, none⟩ = some (.int .i64 age) ∧ w'.cell? ⟨w.heap.size, 2, none⟩ = some (.int .i64 most)) := Lib.hid (fun w' hb => HC1.out w' (cc.trans (hb.mono cc.size)))
  clear cc HC HC1 CG CN C0 HB1 HBW ht HB3
  go_wp2
  have HPL : Hid (Pl17 w b c w1.heap.size w3.heap.size none 0 none 0 (Bd.new size age most) (w3.alloc (.cells #[.int .i64 0, .int .i64 most, .int .i64 0, .int .i64 size, .int .i64 age, .int .i64 0, .int .u32 0, .int .u32 0, .slice none 0 0] 66))) := Lib.hid
    ⟨HS3.out.below (below_put w3 _) (Nat.le_refl _), B9.new w3 66 (.int .i64 0) (.int .i64 most) (.int .i64 0) (.int .i64 size) (.int .i64 age) (.int .i64 0) (.int .u32 0) (.int .u32 0) (.slice none 0 0), OwnU.none _ _, fun q e _ => by simp [Value.ownBlock] at e, HB3'.out.size, HB3'.out.alloc HB3'.out.size _⟩
  clear c0 c1 c2 HCB HS3 HB3' k1 k2 k3 k4 k5 k6 HZ1
  generalize w3.alloc (.cells #[.int .i64 0, .int .i64 most, .int .i64 0, .int .i64 size, .int .i64 age, .int .i64 0, .int .u32 0, .int .u32 0, .slice none 0 0] 66) = w4 at *
  generalize w3.heap.size = p at *
  generalize w1.heap.size = t at *
  go_loopw [8, 9, 10, 11, 12, 13, 14, 15] (fun fr i _ _ _ _ _ _ wr => ∃ (k : Nat) (S : Bd) (A : Option Addr) (C : Nat) (A2 : Option Addr) (C2 : Nat), k ≤ n ∧ k ≤ 60 ∧ i = .int .i64 k ∧ fr = .int .i64 (S.frames : Nat) ∧ Hid (Pl17 w b c t p A C A2 C2 S wr) ∧ Hid (S.ok k)) (fun _ i _ _ _ _ _ _ _ => n - (intOf i).toNat)
  case atStart => exact ⟨0, Bd.new size age most, none, 0, none, 0, by omega, by omega, rfl, rfl, HPL, HOK⟩
  case round =>
    clear HPL HOK
    obtain ⟨k, S, A, C, A2, C2, hk, hk60, rfl, rfl, HP, HK⟩ := hrel
    obtain ⟨wo, hwo⟩ : ∃ wo, wo = wr := ⟨_, rfl⟩
    subst hwo
    by_cases hlt : k < n ∧ k < 60
    · obtain ⟨hlt1, hlt2⟩ := hlt
      have j0 : (0 : Int) ≤ k := by omega
      have j1 : (k : Int) < n := by omega
      have j2 : (k : Int) < 60 := by omega
      obtain ⟨⟨g, off, rfl, hcell⟩, i0, i1⟩ := HO.out.at_ hlt1
      obtain ⟨c0, c1, c2⟩ := hcell wo HP.out.bel
      have HI : Hid (0 ≤ I k ∧ I k ≤ 65535) := Lib.hid ⟨i0, i1⟩
      obtain ⟨is, his⟩ : ∃ is, P k = is := ⟨_, rfl⟩
      obtain ⟨iv, hiv⟩ : ∃ iv, I k = iv := ⟨_, rfl⟩
      obtain ⟨lv, hlv⟩ : ∃ lv, L k = lv := ⟨_, rfl⟩
      rw [his] at c0
      rw [hiv] at c1 HI
      rw [hlv] at c2
      have HKK : Hid (k < n ∧ k < 60) := Lib.hid ⟨hlt1, hlt2⟩
      clear hcell i0 i1 his hiv hlv
      go_upto_region 14 with fail
      have HP1 := Lib.hid (HP.out.below (below_put wo (.cells #[.bool is, .int .u16 iv, .int .i64 lv] 68)))
      obtain ⟨W1, hW1⟩ : ∃ W1, W1 = wo.alloc (.cells #[.bool is, .int .u16 iv, .int .i64 lv] 68) := ⟨_, rfl⟩
      obtain ⟨hbo, hopc⟩ := box3_17 wo _ _ _ _ hW1
      rw [← hW1] at HP1 ⊢
      have HOB : Hid (W1.heap[wo.heap.size]? = some (.cells #[.bool is, .int .u16 iv, .int .i64 lv] 68 (0, 0))) := Lib.hid (by rw [hW1]; exact Go.Deep.blk_alloc_new wo _)
      have HOP := Lib.hid hopc
      clear c0 c1 c2 hbo hopc hW1 HP
      generalize wo.heap.size = ob at *
      have ht := rtick_any w.heap.size C2 k A2 S (by omega) HK.out lv W1 HP1.out.bel.size HP1.out.doc
      unfold RCallTo DV Gd.val at ht
      have HT := Lib.hid ht
      clear ht
      obtain ⟨rt, hrt⟩ : ∃ rt, S.tick lv = rt := ⟨_, rfl⟩
      rw [hrt] at HT
      obtain ⟨c0, c1, c2⟩ := HOP.out W1 (Below.refl _ _)
      have hbx := HP1.out.box
      unfold D9 at hbx
      obtain ⟨d0, d1, d2, d3, d4, d5, d6, d7, d8⟩ := hbx.cells
      clear hbx
      go_upto_region 15 with (first
        | (go_at_call 20; (with_reducible refine HT.out.mono ?_); rintro e w5 ⟨A4, C4, A3, C3, rfl, HS5, HO5, HV5, HB5⟩)
        | fail)
      have hsz : (w5.alloc (.cells #[.int .i64 rt.1.ctl.now, .int .i64 rt.1.ctl.most, .int .i64 rt.1.ctl.calm, .int .i64 (rt.1.size : Nat), .int .i64 (rt.1.age : Nat), .int .i64 (rt.1.old : Nat), .int .u32 (rt.1.groups : Nat), .int .u32 ((rt.1.frames - rt.1.z.length : Nat) : Int), .slice A3 rt.1.z.length C3] 66)).heap.size = w5.heap.size + 1 := by simp
      have hb6 : Below w5.heap.size w5 ((w5.alloc (.cells #[.int .i64 rt.1.ctl.now, .int .i64 rt.1.ctl.most, .int .i64 rt.1.ctl.calm, .int .i64 (rt.1.size : Nat), .int .i64 (rt.1.age : Nat), .int .i64 (rt.1.old : Nat), .int .u32 (rt.1.groups : Nat), .int .u32 ((rt.1.frames - rt.1.z.length : Nat) : Int), .slice A3 rt.1.z.length C3] 66)).alloc (.cells #[.int .u32 rt.2.1.no, .int .u32 rt.2.1.fst, .int .i64 (rt.2.1.z.length : Nat), .int .i64 (rt.2.1.m : Nat), .slice A4 rt.2.1.n C4] 34)) := ((Below.refl w5.heap.size w5).alloc (Nat.le_refl _) _).alloc (by simp) _
      have HM6 : Hid (Mid17 w b c t p w5.heap.size (w5.heap.size + 1) A C A2 C2 S rt A3 C3 A4 C4 ((w5.alloc (.cells #[.int .i64 rt.1.ctl.now, .int .i64 rt.1.ctl.most, .int .i64 rt.1.ctl.calm, .int .i64 (rt.1.size : Nat), .int .i64 (rt.1.age : Nat), .int .i64 (rt.1.old : Nat), .int .u32 (rt.1.groups : Nat), .int .u32 ((rt.1.frames - rt.1.z.length : Nat) : Int), .slice A3 rt.1.z.length C3] 66)).alloc (.cells #[.int .u32 rt.2.1.no, .int .u32 rt.2.1.fst, .int .i64 (rt.2.1.z.length : Nat), .int .i64 (rt.2.1.m : Nat), .slice A4 rt.2.1.n C4] 34))) := Lib.hid (HP1.out.asked HS5.out HO5.out HV5.out HB5.out hb6 (Nat.le_refl _) (Nat.le_succ _) (by
        have h := B9.new w5 66 (.int .i64 rt.1.ctl.now) (.int .i64 rt.1.ctl.most) (.int .i64 rt.1.ctl.calm) (.int .i64 (rt.1.size : Nat)) (.int .i64 (rt.1.age : Nat)) (.int .i64 (rt.1.old : Nat)) (.int .u32 (rt.1.groups : Nat)) (.int .u32 ((rt.1.frames - rt.1.z.length : Nat) : Int)) (.slice A3 rt.1.z.length C3)
        exact h.keep (Below.heap_alloc _ _ _ h.lt)) (by
        rw [← hsz]
        exact B5.new _ _ _ _ _ _ _))
      have HOP6 : Hid (∀ w', Below ((w5.alloc (.cells #[.int .i64 rt.1.ctl.now, .int .i64 rt.1.ctl.most, .int .i64 rt.1.ctl.calm, .int .i64 (rt.1.size : Nat), .int .i64 (rt.1.age : Nat), .int .i64 (rt.1.old : Nat), .int .u32 (rt.1.groups : Nat), .int .u32 ((rt.1.frames - rt.1.z.length : Nat) : Int), .slice A3 rt.1.z.length C3] 66)).alloc (.cells #[.int .u32 rt.2.1.no, .int .u32 rt.2.1.fst, .int .i64 (rt.2.1.z.length : Nat), .int .i64 (rt.2.1.m : Nat), .slice A4 rt.2.1.n C4] 34)).heap.size ((w5.alloc (.cells #[.int .i64 rt.1.ctl.now, .int .i64 rt.1.ctl.most, .int .i64 rt.1.ctl.calm, .int .i64 (rt.1.size : Nat), .int .i64 (rt.1.age : Nat), .int .i64 (rt.1.old : Nat), .int .u32 (rt.1.groups : Nat), .int .u32 ((rt.1.frames - rt.1.z.length : Nat) : Int), .slice A3 rt.1.z.length C3] 66)).alloc (.cells #[.int .u32 rt.2.1.no, .int .u32 rt.2.1.fst, .int .i64 (rt.2.1.z.length : Nat), .int .i64 (rt.2.1.m : Nat), .slice A4 rt.2.1.n C4] 34)) w' → w'.cell? ⟨ob, 0, none⟩ = some (.bool is) ∧ w'.cell? ⟨ob, 1, none⟩ = some (.int .u16 iv) ∧ w'.cell? ⟨ob, 2, none⟩ = some (.int .i64 lv)) := Lib.hid (fun w' h => HOP.out w' (b_on (b_on HB5.out hb6) h))
      have HOBW : Hid (∀ w', Below ((w5.alloc (.cells #[.int .i64 rt.1.ctl.now, .int .i64 rt.1.ctl.most, .int .i64 rt.1.ctl.calm, .int .i64 (rt.1.size : Nat), .int .i64 (rt.1.age : Nat), .int .i64 (rt.1.old : Nat), .int .u32 (rt.1.groups : Nat), .int .u32 ((rt.1.frames - rt.1.z.length : Nat) : Int), .slice A3 rt.1.z.length C3] 66)).alloc (.cells #[.int .u32 rt.2.1.no, .int .u32 rt.2.1.fst, .int .i64 (rt.2.1.z.length : Nat), .int .i64 (rt.2.1.m : Nat), .slice A4 rt.2.1.n C4] 34)).heap.size ((w5.alloc (.cells #[.int .i64 rt.1.ctl.now, .int .i64 rt.1.ctl.most, .int .i64 rt.1.ctl.calm, .int .i64 (rt.1.size : Nat), .int .i64 (rt.1.age : Nat), .int .i64 (rt.1.old : Nat), .int .u32 (rt.1.groups : Nat), .int .u32 ((rt.1.frames - rt.1.z.length : Nat) : Int), .slice A3 rt.1.z.length C3] 66)).alloc (.cells #[.int .u32 rt.2.1.no, .int .u32 rt.2.1.fst, .int .i64 (rt.2.1.z.length : Nat), .int .i64 (rt.2.1.m : Nat), .slice A4 rt.2.1.n C4] 34)) w' → w'.heap[ob]? = some (.cells #[.bool is, .int .u16 iv, .int .i64 lv] 68 (0, 0))) := Lib.hid (fun w' h => ((b_on (b_on HB5.out hb6) h).block ob (Array.getElem?_eq_some_iff.1 HOB.out).1).trans HOB.out)
      have HRT := Lib.hid hrt
      clear hsz hb6 hrt HOB HT HS5 HO5 HV5 HB5 c0 c1 c2 d0 d1 d2 d3 d4 d5 d6 d7 d8 HOP HP1
      generalize (w5.alloc (.cells #[.int .i64 rt.1.ctl.now, .int .i64 rt.1.ctl.most, .int .i64 rt.1.ctl.calm, .int .i64 (rt.1.size : Nat), .int .i64 (rt.1.age : Nat), .int .i64 (rt.1.old : Nat), .int .u32 (rt.1.groups : Nat), .int .u32 ((rt.1.frames - rt.1.z.length : Nat) : Int), .slice A3 rt.1.z.length C3] 66)).alloc (.cells #[.int .u32 rt.2.1.no, .int .u32 rt.2.1.fst, .int .i64 (rt.2.1.z.length : Nat), .int .i64 (rt.2.1.m : Nat), .slice A4 rt.2.1.n C4] 34) = w6 at *
      generalize w5.heap.size + 1 = y at *
      generalize w5.heap.size = x at *
      cases is
      case true =>
        obtain ⟨c0, c1, c2⟩ := HOP6.out w6 (Below.refl _ _)
        obtain ⟨a0, a1, a2⟩ := HOP6.out _ (below_put w6 (.cells #[.int .u32 0, .int .u32 0, .int .i64 0, .int .i64 0, .slice none 0 0] 28))
        have HZW : Hid (B5 28 (w6.alloc (.cells #[.int .u32 0, .int .u32 0, .int .i64 0, .int .i64 0, .slice none 0 0] 28)) w6.heap.size (.int .u32 0) (.int .u32 0) (.int .i64 0) (.int .i64 0) (.slice none 0 0)) := Lib.hid (B5.new _ _ _ _ _ _ _)
        go_upto_region 20 with fail
        have HM7 := Lib.hid (HM6.out.below (below_put w6 (.cells #[.int .u32 0, .int .u32 0, .int .i64 0, .int .i64 0, .slice none 0 0] 28)))
        have HZZ : Hid (w.heap.size ≤ w6.heap.size) := Lib.hid HM6.out.pl.bel.size
        clear c0 c1 c2 HM6 HOP6
        generalize w6.alloc (.cells #[.int .u32 0, .int .u32 0, .int .i64 0, .int .i64 0, .slice none 0 0] 28) = w7 at *
        generalize w6.heap.size = z at *
        have hcall := btick_any w.heap.size b c t C k A S (by omega) HK.out lv w7 HM7.out.pl.code
        unfold CallTo ClosedTo Gd.val at hcall
        rw [HRT.out] at hcall
        have HCA := Lib.hid hcall
        clear hcall
        go_upto_region 22 with (first
          | (go_at_call 22; (with_reducible refine HCA.out.mono ?_); rintro e w8 ⟨A7, C7, A8, C8, rfl, HS8, HB8, HF8, HV8⟩; have HZ8 := Lib.hid (HZW.out.keep (HM7.out.pl.code.other rfl rfl HF8.out _ _ _ HZW.out (by decide) (by decide) (by decide))); obtain ⟨z0, z1, z2, z3, z4⟩ := HZ8.out.cells; have v0 := HZ8.out.frozen 0; have v1 := HZ8.out.frozen 1; have v2 := HZ8.out.frozen 2; have v3 := HZ8.out.frozen 3; have v4 := HZ8.out.frozen 4)
          | fail)
        obtain ⟨HE, hp8⟩ := HM7.out.done HZW.out HZZ.out HS8.out HB8.out HF8.out HV8.out rfl
        have hx8 : B9 66 w8 x (.int .i64 rt.1.ctl.now) (.int .i64 rt.1.ctl.most) (.int .i64 rt.1.ctl.calm) (.int .i64 (rt.1.size : Nat)) (.int .i64 (rt.1.age : Nat)) (.int .i64 (rt.1.old : Nat)) (.int .u32 (rt.1.groups : Nat)) (.int .u32 ((rt.1.frames - rt.1.z.length : Nat) : Int)) (.slice A3 rt.1.z.length C3) := B9.keep HM7.out.x9 (HM7.out.pl.code.other rfl rfl HF8.out x _ _ HM7.out.x9 (by decide) (by decide) (by decide))
        have hx9 := hx8.keep (heap_put5 w8 z (.int .u32 rt.2.1.no) (.int .u32 rt.2.1.fst) (.int .i64 (rt.2.1.z.length : Nat)) (.int .i64 (rt.2.1.m : Nat)) (.slice A7 rt.2.1.n C7) x (two_types hx8 HZ8.out (by decide)))
        have hp9 := hp8.keep (heap_put5 w8 z (.int .u32 rt.2.1.no) (.int .u32 rt.2.1.fst) (.int .i64 (rt.2.1.z.length : Nat)) (.int .i64 (rt.2.1.m : Nat)) (.slice A7 rt.2.1.n C7) p (two_types hp8 HZ8.out (by decide)))
        have HE' := Lib.hid HE
        have hxp := HM7.out.xp
        have HFR : Hid (rt.1.frames = S.frames) := Lib.hid (by rw [← HRT.out]; exact Bd.tick_frames S lv)
        have HK2 : Hid (rt.1.ok (k + 1)) := Lib.hid (by rw [← HRT.out]; exact Bd.tick_ok HK.out lv)
        have HGN : Hid (rt.2.1.n ≤ 1000) := Lib.hid (by rw [← HRT.out]; exact Bd.tick_n HK.out lv)
        clear a0 a1 a2 z0 z1 z2 z3 z4 v0 v1 v2 v3 v4 HCA HS8 HB8 HF8 HV8 HZ8 HE hp8 hx8 HM7 HZW HZZ HRT HK
        generalize ((((w8.setCell ⟨z, 0, none⟩ (.int .u32 rt.2.1.no)).setCell ⟨z, 1, none⟩ (.int .u32 rt.2.1.fst)).setCell ⟨z, 2, none⟩ (.int .i64 (rt.2.1.z.length : Nat))).setCell ⟨z, 3, none⟩ (.int .i64 (rt.2.1.m : Nat))).setCell ⟨z, 4, none⟩ (.slice A7 rt.2.1.n C7) = w9 at *
        obtain ⟨c0, c1, c2, c3, c4, c5, c6, c7, c8⟩ := hx9.cells
        obtain ⟨q0, q1, q2, q3, q4, q5, q6, q7, q8⟩ := hp9.cells
        have f0 := hp9.frozen 0
        have f1 := hp9.frozen 1
        have f2 := hp9.frozen 2
        have f3 := hp9.frozen 3
        have f4 := hp9.frozen 4
        have f5 := hp9.frozen 5
        have f6 := hp9.frozen 6
        have f7 := hp9.frozen 7
        have f8 := hp9.frozen 8
        clear hx9 hp9
        go_upto_region 23 with fail
        unfold put9 at HE'
        clear c0 c1 c2 c3 c4 c5 c6 c7 c8 q0 q1 q2 q3 q4 q5 q6 q7 q8 f0 f1 f2 f3 f4 f5 f6 f7 f8 hxp
        generalize ((((((((w9.setCell ⟨p, 0, none⟩ (.int .i64 rt.1.ctl.now)).setCell ⟨p, 1, none⟩ (.int .i64 rt.1.ctl.most)).setCell ⟨p, 2, none⟩ (.int .i64 rt.1.ctl.calm)).setCell ⟨p, 3, none⟩ (.int .i64 (rt.1.size : Nat))).setCell ⟨p, 4, none⟩ (.int .i64 (rt.1.age : Nat))).setCell ⟨p, 5, none⟩ (.int .i64 (rt.1.old : Nat))).setCell ⟨p, 6, none⟩ (.int .u32 (rt.1.groups : Nat))).setCell ⟨p, 7, none⟩ (.int .u32 ((rt.1.frames - rt.1.z.length : Nat) : Int))).setCell ⟨p, 8, none⟩ (.slice A3 rt.1.z.length C3) = w10 at *
        have CR : Hid (∀ w', Below w10.heap.size w10 w' → Calls Try.prog 12 #[.agg #[.int .u32 rt.2.1.no, .int .u32 rt.2.1.fst, .int .i64 (rt.2.1.z.length : Nat), .int .i64 (rt.2.1.m : Nat), .slice A7 rt.2.1.n C7]] w' fun e w1 => e = .returned (.agg #[.int .u32 rt.2.1.no, .int .u32 rt.2.1.fst, .int .i64 (rt.2.1.z.length : Nat), .int .i64 (rt.2.1.m : Nat), .slice A7 rt.2.1.n C7]) ∧ Below w10.heap.size w10 w1) := Lib.hid (fun w' h => (ref17_any _ _ _ _ _ _ _ w').mono fun e w1 hx => ⟨hx.1, b_on h hx.2.out⟩)
        have CS : Hid (∀ w', Below w10.heap.size w10 w' → Calls Try.prog 11 #[.agg #[.int .u32 rt.2.1.no, .int .u32 rt.2.1.fst, .int .i64 (rt.2.1.z.length : Nat), .int .i64 (rt.2.1.m : Nat), .slice A7 rt.2.1.n C7], .agg #[.int .u32 rt.2.1.no, .int .u32 rt.2.1.fst, .int .i64 (rt.2.1.z.length : Nat), .int .i64 (rt.2.1.m : Nat), .slice A4 rt.2.1.n C4]] w' fun e w1 => e = .returned (.bool true) ∧ Below w10.heap.size w10 w1) := Lib.hid (fun w' h => (rsame17_true _ _ _ _ A7 A4 rt.2.1.n C7 C4 _ _ _ _ w' (HE'.out.below h).sz (HE'.out.below h).sy HGN.out (fun _ _ _ _ => rfl)).mono fun e w1 hx => ⟨hx.1, b_on h hx.2.out⟩)
        have CW : Hid (∀ w', Below w10.heap.size w10 w' → Calls Try.prog 24 #[.pointer (some ⟨b, 0, none⟩)] w' fun e w1 => e = .returned (.int .i64 (rt.1.z.length : Nat)) ∧ Below w10.heap.size w10 w1) := Lib.hid (fun w' h => (waiting_any (HE'.out.below h).pl.code).mono fun e w1 hx => ⟨hx.1, hx.2 ▸ h⟩)
        have CF : Hid (∀ w', Below w10.heap.size w10 w' → Calls Try.prog 25 #[.pointer (some ⟨b, 0, none⟩)] w' fun e w1 => e = .returned (.int .i64 ((S.frames : Nat))) ∧ Below w10.heap.size w10 w1) := Lib.hid (fun w' h => (frames_any (HE'.out.below h).pl.code).mono fun e w1 hx => ⟨by rw [hx.1, HFR.out], hx.2 ▸ h⟩)
        have CH : Hid (∀ w', Below w10.heap.size w10 w' → Calls Try.prog 26 #[.pointer (some ⟨b, 0, none⟩)] w' fun e w1 => e = .returned (.int .i64 (rt.1.groups : Nat)) ∧ Below w10.heap.size w10 w1) := Lib.hid (fun w' h => (groups_any (HE'.out.below h).pl.code).mono fun e w1 hx => ⟨hx.1, hx.2 ▸ h⟩)
        have kg : IntKind.i64.wrap (rt.1.groups : Int) = (rt.1.groups : Int) := by
          have := HK2.out.groups
          have := HKK.out
          rw [IntKind.wrap_i64]
          omega
        have kb : (rt.2.2 != rt.2.2) = false := by simp
        refine (wpIn_wide (n := 3)).1 ?_
        refine wpIn_class (fun w' => Below w10.heap.size w10 w') (Below.refl _ _).drew rfl (by kernel_rfl) (by kernel_rfl) ?_
        iterate 4 (refine wpQuietIn_step (fun _ _ _ _ => trivial) (fun K hK => ?_); go_simp; refine ⟨_, fun _ _ => rfl, hK _ ?_⟩; clear hK K)
        refine wpQ_readw (.agg #[.int .u32 rt.2.1.no, .int .u32 rt.2.1.fst, .int .i64 (rt.2.1.z.length : Nat), .int .i64 (rt.2.1.m : Nat), .slice A7 rt.2.1.n C7]) (fun _ _ _ _ => trivial) rfl (fun w' hw => ?_) ?_
        · obtain ⟨c0, c1, c2, c3, c4⟩ := B5.cells (HE'.out.below hw).z5
          unfold Oper.quietAtIn
          go_simp
        simp only [Act.put, List.setIfInBounds_toArray, List.set_cons_zero, List.set_cons_succ]
        refine wpQuietIn_step (fun _ _ _ _ => trivial) (fun K hK => ?_)
        go_simp
        refine ⟨.agg #[.int .u32 rt.2.1.no, .int .u32 rt.2.1.fst, .int .i64 (rt.2.1.z.length : Nat), .int .i64 (rt.2.1.m : Nat), .slice A7 rt.2.1.n C7], fun w' hw => callsIn_wide.2 (CR.out w' hw), hK _ ?_⟩
        clear hK K
        refine wpQ_readw (.agg #[.int .u32 rt.2.1.no, .int .u32 rt.2.1.fst, .int .i64 (rt.2.1.z.length : Nat), .int .i64 (rt.2.1.m : Nat), .slice A4 rt.2.1.n C4]) (fun _ _ _ _ => trivial) rfl (fun w' hw => ?_) ?_
        · obtain ⟨c0, c1, c2, c3, c4⟩ := B5.cells (HE'.out.below hw).y5
          unfold Oper.quietAtIn
          go_simp
        simp only [Act.put, List.setIfInBounds_toArray, List.set_cons_zero, List.set_cons_succ]
        refine wpQuietIn_step (fun _ _ _ _ => trivial) (fun K hK => ?_)
        go_simp
        refine ⟨.bool true, fun w' hw => callsIn_wide.2 (CS.out w' hw), hK _ ?_⟩
        clear hK K
        iterate 4 (refine wpQuietIn_step (fun _ _ _ _ => trivial) (fun K hK => ?_); go_simp; refine ⟨_, fun _ _ => rfl, hK _ ?_⟩; clear hK K)
        refine wpQuietIn_step (fun _ _ _ _ => trivial) (fun K hK => ?_)
        go_simp
        refine ⟨.int .i64 (rt.1.z.length : Nat), fun w' hw => callsIn_wide.2 (CW.out w' hw), hK _ ?_⟩
        clear hK K
        (refine wpQuietIn_step (fun _ _ _ _ => trivial) (fun K hK => ?_); go_simp; refine ⟨_, fun _ _ => rfl, hK _ ?_⟩; clear hK K)
        refine wpQ_readw (.slice A3 rt.1.z.length C3) (fun _ _ _ _ => trivial) rfl (fun w' hw => ?_) ?_
        · obtain ⟨c0, c1, c2, c3, c4, c5, c6, c7, c8⟩ := B9.cells (HE'.out.below hw).pl.box
          unfold Oper.quietAtIn
          go_simp
        simp only [Act.put, List.setIfInBounds_toArray, List.set_cons_zero, List.set_cons_succ]
        iterate 5 (refine wpQuietIn_step (fun _ _ _ _ => trivial) (fun K hK => ?_); go_simp; refine ⟨_, fun _ _ => rfl, hK _ ?_⟩; clear hK K)
        refine wpQuietIn_step (fun _ _ _ _ => trivial) (fun K hK => ?_)
        go_simp
        refine ⟨.int .i64 ((S.frames : Nat)), fun w' hw => callsIn_wide.2 (CF.out w' hw), hK _ ?_⟩
        clear hK K
        iterate 5 (refine wpQuietIn_step (fun _ _ _ _ => trivial) (fun K hK => ?_); go_simp; refine ⟨_, fun _ _ => rfl, hK _ ?_⟩; clear hK K)
        refine wpQuietIn_step (fun _ _ _ _ => trivial) (fun K hK => ?_)
        go_simp
        refine ⟨.int .i64 (rt.1.groups : Nat), fun w' hw => callsIn_wide.2 (CH.out w' hw), hK _ ?_⟩
        clear hK K
        (refine wpQuietIn_step (fun _ _ _ _ => trivial) (fun K hK => ?_); go_simp; refine ⟨_, fun _ _ => rfl, hK _ ?_⟩; clear hK K)
        refine wpQ_readw (.int .u32 (rt.1.groups : Nat)) (fun _ _ _ _ => trivial) rfl (fun w' hw => ?_) ?_
        · obtain ⟨c0, c1, c2, c3, c4, c5, c6, c7, c8⟩ := B9.cells (HE'.out.below hw).pl.box
          unfold Oper.quietAtIn
          go_simp
        simp only [Act.put, List.setIfInBounds_toArray, List.set_cons_zero, List.set_cons_succ]
        iterate 3 (refine wpQuietIn_step (fun _ _ _ _ => trivial) (fun K hK => ?_); go_simp; refine ⟨_, fun _ _ => rfl, hK _ ?_⟩; clear hK K)
        refine wpQuietIn_nil ?_
        rintro w11 hw
        have HP11 := Lib.hid (HE'.out.below hw).pl
        clear hw CR CS CW CF CH HE' kg kb
        go_wp2
        go_roundw
        case rel => exact ⟨k + 1, rt.1, A8, C8, A3, C3, by have := HKK.out; omega, by have := HKK.out; omega, by go_num, by rw [HFR.out], HP11, HK2⟩
        case measure => have := HKK.out; simp [intOf] <;> omega
      case false =>
        obtain ⟨c0, c1, c2⟩ := HOP6.out w6 (Below.refl _ _)
        have ha := radd_any w.heap.size C2 k A2 S (by omega) HK.out iv lv HI.out.1 HI.out.2 w6 HM6.out.pl.bel.size HM6.out.pl.doc
        unfold RCallTo DV Gd.val at ha
        have HA := Lib.hid ha
        clear ha HRT
        obtain ⟨rt, hrt⟩ : ∃ rt, S.add iv lv = rt := ⟨_, rfl⟩
        rw [hrt] at HA
        have hbx := HM6.out.pl.box
        unfold D9 at hbx
        obtain ⟨d0, d1, d2, d3, d4, d5, d6, d7, d8⟩ := hbx.cells
        clear hbx
        have hfrs : (S.frames : Int) ≤ 100 := by have := HK.out.frames; omega
        go_upto_region 17 with (first
          | (go_at_call 21; (with_reducible refine HA.out.mono ?_); rintro e w5b ⟨A4, C4, A3, C3, rfl, HS5, HO5, HV5, HB5⟩; have HMb := Lib.hid (HM6.out.below HB5.out); obtain ⟨q0, q1, q2, q3, q4, q5, q6, q7, q8⟩ := B9.cells HMb.out.x9; obtain ⟨r0, r1, r2, r3, r4⟩ := B5.cells HMb.out.y5; have f0 := B9.frozen HMb.out.x9 0; have f1 := B9.frozen HMb.out.x9 1; have f2 := B9.frozen HMb.out.x9 2; have f3 := B9.frozen HMb.out.x9 3; have f4 := B9.frozen HMb.out.x9 4; have f5 := B9.frozen HMb.out.x9 5; have f6 := B9.frozen HMb.out.x9 6; have f7 := B9.frozen HMb.out.x9 7; have f8 := B9.frozen HMb.out.x9 8; have v0 := B5.frozen HMb.out.y5 0; have v1 := B5.frozen HMb.out.y5 1; have v2 := B5.frozen HMb.out.y5 2; have v3 := B5.frozen HMb.out.y5 3; have v4 := B5.frozen HMb.out.y5 4; have hyx : y ≠ x := two_types HMb.out.y5 HMb.out.x9 (by decide))
          | fail)
        have hob5 := HOBW.out w5b HB5.out
        obtain ⟨w6c, hw6c⟩ : ∃ w6c, w6c = ((((((((((((((w5b).setCell ⟨x, 0, none⟩ (.int .i64 rt.1.ctl.now)).setCell ⟨x, 1, none⟩ (.int .i64 rt.1.ctl.most)).setCell ⟨x, 2, none⟩ (.int .i64 rt.1.ctl.calm)).setCell ⟨x, 3, none⟩ (.int .i64 (rt.1.size : Nat))).setCell ⟨x, 4, none⟩ (.int .i64 (rt.1.age : Nat))).setCell ⟨x, 5, none⟩ (.int .i64 (rt.1.old : Nat))).setCell ⟨x, 6, none⟩ (.int .u32 (rt.1.groups : Nat))).setCell ⟨x, 7, none⟩ (.int .u32 ((rt.1.frames - rt.1.z.length : Nat) : Int))).setCell ⟨x, 8, none⟩ (.slice A3 rt.1.z.length C3)).setCell ⟨y, 0, none⟩ (.int .u32 rt.2.1.no)).setCell ⟨y, 1, none⟩ (.int .u32 rt.2.1.fst)).setCell ⟨y, 2, none⟩ (.int .i64 (rt.2.1.z.length : Nat))).setCell ⟨y, 3, none⟩ (.int .i64 (rt.2.1.m : Nat))).setCell ⟨y, 4, none⟩ (.slice A4 rt.2.1.n C4) := ⟨_, rfl⟩
        rw [← hw6c]
        have HM6c := Lib.hid (HM6.out.again HS5.out HO5.out HV5.out HB5.out hw6c)
        have hob6 : w6c.heap[ob]? = some (.cells #[.bool false, .int .u16 iv, .int .i64 lv] 68 (0, 0)) := by
          rw [hw6c]
          exact ((heap_put5 _ _ _ _ _ _ _ _ (two_types hob5 HMb.out.y5 (by decide))).trans (heap_put9 _ _ _ _ _ _ _ _ _ _ _ _ (two_types hob5 HMb.out.x9 (by decide)))).trans hob5
        have HOB6 := Lib.hid hob6
        have HRT := Lib.hid hrt
        clear c0 c1 c2 d0 d1 d2 d3 d4 d5 d6 d7 d8 q0 q1 q2 q3 q4 q5 q6 q7 q8 r0 r1 r2 r3 r4 f0 f1 f2 f3 f4 f5 f6 f7 f8 v0 v1 v2 v3 v4 hyx hob5 hob6 hrt HA HMb HS5 HO5 HV5 HB5 HM6 HOP6 HOBW hw6c
        have HM6 := HM6c
        have HOP6 : Hid (∀ w', Below w6c.heap.size w6c w' → w'.cell? ⟨ob, 0, none⟩ = some (.bool false) ∧ w'.cell? ⟨ob, 1, none⟩ = some (.int .u16 iv) ∧ w'.cell? ⟨ob, 2, none⟩ = some (.int .i64 lv)) := Lib.hid (fun w' h => cells3_17 ((h.block ob (Array.getElem?_eq_some_iff.1 HOB6.out).1).trans HOB6.out))
        clear HM6c HOB6
        generalize w6c = w6 at *
        obtain ⟨c0, c1, c2⟩ := HOP6.out w6 (Below.refl _ _)
        obtain ⟨a0, a1, a2⟩ := HOP6.out _ (below_put w6 (.cells #[.int .u32 0, .int .u32 0, .int .i64 0, .int .i64 0, .slice none 0 0] 28))
        have HZW : Hid (B5 28 (w6.alloc (.cells #[.int .u32 0, .int .u32 0, .int .i64 0, .int .i64 0, .slice none 0 0] 28)) w6.heap.size (.int .u32 0) (.int .u32 0) (.int .i64 0) (.int .i64 0) (.slice none 0 0)) := Lib.hid (B5.new _ _ _ _ _ _ _)
        go_upto_region 21 with fail
        have HM7 := Lib.hid (HM6.out.below (below_put w6 (.cells #[.int .u32 0, .int .u32 0, .int .i64 0, .int .i64 0, .slice none 0 0] 28)))
        have HZZ : Hid (w.heap.size ≤ w6.heap.size) := Lib.hid HM6.out.pl.bel.size
        clear c0 c1 c2 HM6 HOP6
        generalize w6.alloc (.cells #[.int .u32 0, .int .u32 0, .int .i64 0, .int .i64 0, .slice none 0 0] 28) = w7 at *
        generalize w6.heap.size = z at *
        have hcall := badd_any w.heap.size b c t C k A S (by omega) HK.out iv lv HI.out.1 HI.out.2 w7 HM7.out.pl.bel.size HM7.out.pl.code
        unfold CallTo ClosedTo Gd.val at hcall
        rw [HRT.out] at hcall
        have HCA := Lib.hid hcall
        clear hcall
        go_upto_region 22 with (first
          | (go_at_call 23; (with_reducible refine HCA.out.mono ?_); rintro e w8 ⟨A7, C7, A8, C8, rfl, HS8, HB8, HF8, HV8⟩; have HZ8 := Lib.hid (HZW.out.keep (HM7.out.pl.code.other rfl rfl HF8.out _ _ _ HZW.out (by decide) (by decide) (by decide))); obtain ⟨z0, z1, z2, z3, z4⟩ := HZ8.out.cells; have v0 := HZ8.out.frozen 0; have v1 := HZ8.out.frozen 1; have v2 := HZ8.out.frozen 2; have v3 := HZ8.out.frozen 3; have v4 := HZ8.out.frozen 4)
          | fail)
        obtain ⟨HE, hp8⟩ := HM7.out.done HZW.out HZZ.out HS8.out HB8.out HF8.out HV8.out rfl
        have hx8 : B9 66 w8 x (.int .i64 rt.1.ctl.now) (.int .i64 rt.1.ctl.most) (.int .i64 rt.1.ctl.calm) (.int .i64 (rt.1.size : Nat)) (.int .i64 (rt.1.age : Nat)) (.int .i64 (rt.1.old : Nat)) (.int .u32 (rt.1.groups : Nat)) (.int .u32 ((rt.1.frames - rt.1.z.length : Nat) : Int)) (.slice A3 rt.1.z.length C3) := B9.keep HM7.out.x9 (HM7.out.pl.code.other rfl rfl HF8.out x _ _ HM7.out.x9 (by decide) (by decide) (by decide))
        have hx9 := hx8.keep (heap_put5 w8 z (.int .u32 rt.2.1.no) (.int .u32 rt.2.1.fst) (.int .i64 (rt.2.1.z.length : Nat)) (.int .i64 (rt.2.1.m : Nat)) (.slice A7 rt.2.1.n C7) x (two_types hx8 HZ8.out (by decide)))
        have hp9 := hp8.keep (heap_put5 w8 z (.int .u32 rt.2.1.no) (.int .u32 rt.2.1.fst) (.int .i64 (rt.2.1.z.length : Nat)) (.int .i64 (rt.2.1.m : Nat)) (.slice A7 rt.2.1.n C7) p (two_types hp8 HZ8.out (by decide)))
        have HE' := Lib.hid HE
        have hxp := HM7.out.xp
        have HFR : Hid (rt.1.frames = S.frames + 1) := Lib.hid (by rw [← HRT.out]; exact Bd.add_frames S iv lv)
        have HK2 : Hid (rt.1.ok (k + 1)) := Lib.hid (by rw [← HRT.out]; exact Bd.add_ok HK.out iv lv HI.out.1 HI.out.2)
        have HGN : Hid (rt.2.1.n ≤ 1000) := Lib.hid (by rw [← HRT.out]; exact Bd.add_n HK.out iv lv)
        clear a0 a1 a2 z0 z1 z2 z3 z4 v0 v1 v2 v3 v4 HCA HS8 HB8 HF8 HV8 HZ8 HE hp8 hx8 HM7 HZW HZZ HRT HK
        generalize ((((w8.setCell ⟨z, 0, none⟩ (.int .u32 rt.2.1.no)).setCell ⟨z, 1, none⟩ (.int .u32 rt.2.1.fst)).setCell ⟨z, 2, none⟩ (.int .i64 (rt.2.1.z.length : Nat))).setCell ⟨z, 3, none⟩ (.int .i64 (rt.2.1.m : Nat))).setCell ⟨z, 4, none⟩ (.slice A7 rt.2.1.n C7) = w9 at *
        obtain ⟨c0, c1, c2, c3, c4, c5, c6, c7, c8⟩ := hx9.cells
        obtain ⟨q0, q1, q2, q3, q4, q5, q6, q7, q8⟩ := hp9.cells
        have f0 := hp9.frozen 0
        have f1 := hp9.frozen 1
        have f2 := hp9.frozen 2
        have f3 := hp9.frozen 3
        have f4 := hp9.frozen 4
        have f5 := hp9.frozen 5
        have f6 := hp9.frozen 6
        have f7 := hp9.frozen 7
        have f8 := hp9.frozen 8
        clear hx9 hp9
        go_upto_region 23 with fail
        unfold put9 at HE'
        clear c0 c1 c2 c3 c4 c5 c6 c7 c8 q0 q1 q2 q3 q4 q5 q6 q7 q8 f0 f1 f2 f3 f4 f5 f6 f7 f8 hxp
        generalize ((((((((w9.setCell ⟨p, 0, none⟩ (.int .i64 rt.1.ctl.now)).setCell ⟨p, 1, none⟩ (.int .i64 rt.1.ctl.most)).setCell ⟨p, 2, none⟩ (.int .i64 rt.1.ctl.calm)).setCell ⟨p, 3, none⟩ (.int .i64 (rt.1.size : Nat))).setCell ⟨p, 4, none⟩ (.int .i64 (rt.1.age : Nat))).setCell ⟨p, 5, none⟩ (.int .i64 (rt.1.old : Nat))).setCell ⟨p, 6, none⟩ (.int .u32 (rt.1.groups : Nat))).setCell ⟨p, 7, none⟩ (.int .u32 ((rt.1.frames - rt.1.z.length : Nat) : Int))).setCell ⟨p, 8, none⟩ (.slice A3 rt.1.z.length C3) = w10 at *
        have CR : Hid (∀ w', Below w10.heap.size w10 w' → Calls Try.prog 12 #[.agg #[.int .u32 rt.2.1.no, .int .u32 rt.2.1.fst, .int .i64 (rt.2.1.z.length : Nat), .int .i64 (rt.2.1.m : Nat), .slice A7 rt.2.1.n C7]] w' fun e w1 => e = .returned (.agg #[.int .u32 rt.2.1.no, .int .u32 rt.2.1.fst, .int .i64 (rt.2.1.z.length : Nat), .int .i64 (rt.2.1.m : Nat), .slice A7 rt.2.1.n C7]) ∧ Below w10.heap.size w10 w1) := Lib.hid (fun w' h => (ref17_any _ _ _ _ _ _ _ w').mono fun e w1 hx => ⟨hx.1, b_on h hx.2.out⟩)
        have CS : Hid (∀ w', Below w10.heap.size w10 w' → Calls Try.prog 11 #[.agg #[.int .u32 rt.2.1.no, .int .u32 rt.2.1.fst, .int .i64 (rt.2.1.z.length : Nat), .int .i64 (rt.2.1.m : Nat), .slice A7 rt.2.1.n C7], .agg #[.int .u32 rt.2.1.no, .int .u32 rt.2.1.fst, .int .i64 (rt.2.1.z.length : Nat), .int .i64 (rt.2.1.m : Nat), .slice A4 rt.2.1.n C4]] w' fun e w1 => e = .returned (.bool true) ∧ Below w10.heap.size w10 w1) := Lib.hid (fun w' h => (rsame17_true _ _ _ _ A7 A4 rt.2.1.n C7 C4 _ _ _ _ w' (HE'.out.below h).sz (HE'.out.below h).sy HGN.out (fun _ _ _ _ => rfl)).mono fun e w1 hx => ⟨hx.1, b_on h hx.2.out⟩)
        have CW : Hid (∀ w', Below w10.heap.size w10 w' → Calls Try.prog 24 #[.pointer (some ⟨b, 0, none⟩)] w' fun e w1 => e = .returned (.int .i64 (rt.1.z.length : Nat)) ∧ Below w10.heap.size w10 w1) := Lib.hid (fun w' h => (waiting_any (HE'.out.below h).pl.code).mono fun e w1 hx => ⟨hx.1, hx.2 ▸ h⟩)
        have CF : Hid (∀ w', Below w10.heap.size w10 w' → Calls Try.prog 25 #[.pointer (some ⟨b, 0, none⟩)] w' fun e w1 => e = .returned (.int .i64 ((S.frames : Int) + 1)) ∧ Below w10.heap.size w10 w1) := Lib.hid (fun w' h => (frames_any (HE'.out.below h).pl.code).mono fun e w1 hx => ⟨by rw [hx.1, HFR.out]; rfl, hx.2 ▸ h⟩)
        have CH : Hid (∀ w', Below w10.heap.size w10 w' → Calls Try.prog 26 #[.pointer (some ⟨b, 0, none⟩)] w' fun e w1 => e = .returned (.int .i64 (rt.1.groups : Nat)) ∧ Below w10.heap.size w10 w1) := Lib.hid (fun w' h => (groups_any (HE'.out.below h).pl.code).mono fun e w1 hx => ⟨hx.1, hx.2 ▸ h⟩)
        have kg : IntKind.i64.wrap (rt.1.groups : Int) = (rt.1.groups : Int) := by
          have := HK2.out.groups
          have := HKK.out
          rw [IntKind.wrap_i64]
          omega
        have kb : (rt.2.2 != rt.2.2) = false := by simp
        refine (wpIn_wide (n := 3)).1 ?_
        refine wpIn_class (fun w' => Below w10.heap.size w10 w') (Below.refl _ _).drew rfl (by kernel_rfl) (by kernel_rfl) ?_
        iterate 4 (refine wpQuietIn_step (fun _ _ _ _ => trivial) (fun K hK => ?_); go_simp; refine ⟨_, fun _ _ => rfl, hK _ ?_⟩; clear hK K)
        refine wpQ_readw (.agg #[.int .u32 rt.2.1.no, .int .u32 rt.2.1.fst, .int .i64 (rt.2.1.z.length : Nat), .int .i64 (rt.2.1.m : Nat), .slice A7 rt.2.1.n C7]) (fun _ _ _ _ => trivial) rfl (fun w' hw => ?_) ?_
        · obtain ⟨c0, c1, c2, c3, c4⟩ := B5.cells (HE'.out.below hw).z5
          unfold Oper.quietAtIn
          go_simp
        simp only [Act.put, List.setIfInBounds_toArray, List.set_cons_zero, List.set_cons_succ]
        refine wpQuietIn_step (fun _ _ _ _ => trivial) (fun K hK => ?_)
        go_simp
        refine ⟨.agg #[.int .u32 rt.2.1.no, .int .u32 rt.2.1.fst, .int .i64 (rt.2.1.z.length : Nat), .int .i64 (rt.2.1.m : Nat), .slice A7 rt.2.1.n C7], fun w' hw => callsIn_wide.2 (CR.out w' hw), hK _ ?_⟩
        clear hK K
        refine wpQ_readw (.agg #[.int .u32 rt.2.1.no, .int .u32 rt.2.1.fst, .int .i64 (rt.2.1.z.length : Nat), .int .i64 (rt.2.1.m : Nat), .slice A4 rt.2.1.n C4]) (fun _ _ _ _ => trivial) rfl (fun w' hw => ?_) ?_
        · obtain ⟨c0, c1, c2, c3, c4⟩ := B5.cells (HE'.out.below hw).y5
          unfold Oper.quietAtIn
          go_simp
        simp only [Act.put, List.setIfInBounds_toArray, List.set_cons_zero, List.set_cons_succ]
        refine wpQuietIn_step (fun _ _ _ _ => trivial) (fun K hK => ?_)
        go_simp
        refine ⟨.bool true, fun w' hw => callsIn_wide.2 (CS.out w' hw), hK _ ?_⟩
        clear hK K
        iterate 4 (refine wpQuietIn_step (fun _ _ _ _ => trivial) (fun K hK => ?_); go_simp; refine ⟨_, fun _ _ => rfl, hK _ ?_⟩; clear hK K)
        refine wpQuietIn_step (fun _ _ _ _ => trivial) (fun K hK => ?_)
        go_simp
        refine ⟨.int .i64 (rt.1.z.length : Nat), fun w' hw => callsIn_wide.2 (CW.out w' hw), hK _ ?_⟩
        clear hK K
        (refine wpQuietIn_step (fun _ _ _ _ => trivial) (fun K hK => ?_); go_simp; refine ⟨_, fun _ _ => rfl, hK _ ?_⟩; clear hK K)
        refine wpQ_readw (.slice A3 rt.1.z.length C3) (fun _ _ _ _ => trivial) rfl (fun w' hw => ?_) ?_
        · obtain ⟨c0, c1, c2, c3, c4, c5, c6, c7, c8⟩ := B9.cells (HE'.out.below hw).pl.box
          unfold Oper.quietAtIn
          go_simp
        simp only [Act.put, List.setIfInBounds_toArray, List.set_cons_zero, List.set_cons_succ]
        iterate 5 (refine wpQuietIn_step (fun _ _ _ _ => trivial) (fun K hK => ?_); go_simp; refine ⟨_, fun _ _ => rfl, hK _ ?_⟩; clear hK K)
        refine wpQuietIn_step (fun _ _ _ _ => trivial) (fun K hK => ?_)
        go_simp
        refine ⟨.int .i64 ((S.frames : Int) + 1), fun w' hw => callsIn_wide.2 (CF.out w' hw), hK _ ?_⟩
        clear hK K
        iterate 5 (refine wpQuietIn_step (fun _ _ _ _ => trivial) (fun K hK => ?_); go_simp; refine ⟨_, fun _ _ => rfl, hK _ ?_⟩; clear hK K)
        refine wpQuietIn_step (fun _ _ _ _ => trivial) (fun K hK => ?_)
        go_simp
        refine ⟨.int .i64 (rt.1.groups : Nat), fun w' hw => callsIn_wide.2 (CH.out w' hw), hK _ ?_⟩
        clear hK K
        (refine wpQuietIn_step (fun _ _ _ _ => trivial) (fun K hK => ?_); go_simp; refine ⟨_, fun _ _ => rfl, hK _ ?_⟩; clear hK K)
        refine wpQ_readw (.int .u32 (rt.1.groups : Nat)) (fun _ _ _ _ => trivial) rfl (fun w' hw => ?_) ?_
        · obtain ⟨c0, c1, c2, c3, c4, c5, c6, c7, c8⟩ := B9.cells (HE'.out.below hw).pl.box
          unfold Oper.quietAtIn
          go_simp
        simp only [Act.put, List.setIfInBounds_toArray, List.set_cons_zero, List.set_cons_succ]
        iterate 3 (refine wpQuietIn_step (fun _ _ _ _ => trivial) (fun K hK => ?_); go_simp; refine ⟨_, fun _ _ => rfl, hK _ ?_⟩; clear hK K)
        refine wpQuietIn_nil ?_
        rintro w11 hw
        have HP11 := Lib.hid (HE'.out.below hw).pl
        clear hw CR CS CW CF CH HE' kg kb
        go_wp2
        go_roundw
        case rel => exact ⟨k + 1, rt.1, A8, C8, A3, C3, by have := HKK.out; omega, by have := HKK.out; omega, by go_num, by rw [HFR.out]; rfl, HP11, HK2⟩
        case measure => have := HKK.out; simp [intOf] <;> omega
    · have HB := Lib.hid HP.out.bel
      by_cases hkn : k < n
      · have j1 : (k : Int) < n := by omega
        have j2 : ¬ (k : Int) < 60 := by omega
        clear HP HK hlt
        go_wp2
        go_ret
        exact ⟨rfl, HB.out⟩
      · have j1 : ¬ (k : Int) < n := by omega
        clear HP HK hlt
        go_wp2
        go_ret
        exact ⟨rfl, HB.out⟩
theorem builds17_walk (size age most : Int) (a : Option Addr) (n cp : Nat) (w : World) (hp : True → ∃ P I L, Ops17 w a n P I L) :
    Calls Try.prog 5 #[.agg #[.int .i64 size, .int .i64 age, .int .i64 most], .slice a n cp] w (Yes17 w) := by
  by_cases h : 1 ≤ size ∧ size ≤ 16 ∧ 1 ≤ age ∧ age ≤ 4096 ∧ 0 ≤ most ∧ most ≤ 16
  · obtain ⟨h1, h2, h3, h4, h5, h6⟩ := h
    obtain ⟨s, rfl⟩ : ∃ s : Nat, size = s := ⟨size.toNat, by omega⟩
    obtain ⟨g, rfl⟩ : ∃ g : Nat, age = g := ⟨age.toNat, by omega⟩
    exact builds17_good s g most (by omega) (by omega) (by omega) (by omega) h5 h6 a n cp w (hp trivial)
  · exact builds17_bad size age most h a n cp w
end Go.Proofs.Ytphddcbkjikgfaa
