/-
  Own text: the document's swapped, walked.
-/
import Derived.Test.YtipaolkgafhliaaRPick
namespace Go.Proofs.Ytipaolkgafhliaa
open Go.RowKit

/-- Bytes don't lie in a matrix's box. -/
theorem rx_apart {w : World} {b : Nat} {i j : Int} {p : Option Addr} {m k n : Nat} {A : Option Addr} {l : List Int} (h : Rx w b (.int .i64 i) (.int .i64 j) (.slice p m k)) (hs : Bytes w A n l) (h0 : 0 < n) {c o : Nat} (e : A = some ⟨c, o, none⟩) : c ≠ b := by
  intro e2
  rcases hs.cell with h1 | ⟨_, c', o', e', _, hc⟩
  · omega
  · rw [e] at e'
    cases e'
    subst e2
    have := hc 0 h0
    unfold Rx at h
    simp only [World.cell?, h] at this
    match o with
    | 0 => simp at this
    | 1 => simp at this
    | 2 => simp at this
    | o + 3 => simp at this
set_option maxRecDepth 100000 in
set_option maxHeartbeats 4000000 in
theorem rswap_any (R Cn i j cap : Nat) (hR : R ≤ 255) (hC : Cn ≤ 255) (hi : i < R) (hj : j < R) (a : Option Addr) (l : List Int) (w : World) (ha : Bytes w a (R * Cn) l) :
    Calls Try.prog 47 #[.agg #[.int .i64 R, .int .i64 Cn, .slice a ((R * Cn : Nat)) cap], .int .i64 (i : Nat), .int .i64 (j : Nat)] w (HandedR R Cn (fun x k => co l (sw i j x * Cn + k)) w) := by
  have hm : R * Cn ≤ 65025 := Nat.mul_le_mul hR hC
  have HPK : Hid (∀ w' aP capP, Below w.heap.size w w' → Nums w' aP R (sw i j) → Calls Try.prog 29 #[.agg #[.int .i64 R, .int .i64 Cn, .slice a ((R * Cn : Nat)) cap], .slice aP R capP] w' (HandedR R Cn (fun x k => co l (sw i j x * Cn + k)) w')) :=
    Lib.hid (fun w' aP capP h hn => rpick_any R R Cn (R * Cn) cap capP hR hC a aP l (sw i j) w' (ha.below h (Nat.le_refl _)) hm hn (fun x k hx hk => spot_lt (sw_lt hi hj hx) hk))
  unfold HandedR at HPK
  obtain ⟨m, hmm⟩ : ∃ m, R * Cn = m := ⟨_, rfl⟩
  have HMM := Lib.hid hmm
  rw [hmm] at hm HPK
  rw [hmm]
  unfold HandedR
  rw [hmm]
  clear hmm ha
  go_enter Try.func47, Try.ntmps47
  go_wp2
  have HX3 : Hid (Rx ((w.alloc (.cells #[.int .i64 R, .int .i64 Cn, .slice a m cap] 27)).alloc (.cells #[.int .i64 0, .int .i64 0, .slice none 0 0] 27)) w.heap.size (.int .i64 R) (.int .i64 Cn) (.slice a m cap)) := Lib.hid (alloc_two _ _ _ _)
  have HX6 : Hid (Rx ((w.alloc (.cells #[.int .i64 R, .int .i64 Cn, .slice a m cap] 27)).alloc (.cells #[.int .i64 0, .int .i64 0, .slice none 0 0] 27)) (w.heap.size + 1) (.int .i64 0) (.int .i64 0) (.slice none 0 0)) := Lib.hid (alloc_last _ _ _ _)
  have HB0 : Hid (Below w.heap.size w ((w.alloc (.cells #[.int .i64 R, .int .i64 Cn, .slice a m cap] 27)).alloc (.cells #[.int .i64 0, .int .i64 0, .slice none 0 0] 27))) := Lib.hid (by go_grown)
  generalize (w.alloc (.cells #[.int .i64 R, .int .i64 Cn, .slice a m cap] 27)).alloc (.cells #[.int .i64 0, .int .i64 0, .slice none 0 0] 27) = w0 at *
  have HBR := Lib.hid (Below.refl w0.heap.size w0)
  have HO0 := Lib.hid (OwnI.none w0 w0.heap.size)
  go_loopw [7, 8] (fun s x wr => ∃ (X : Nat) (A : Option Addr) (C : Nat), X ≤ R ∧ x = .int .i64 (X : Nat) ∧ s = .slice A X C ∧ Hid (OwnI wr w0.heap.size (.slice A X C) X (ofF (sw i j) X)) ∧ Hid (Below w0.heap.size w0 wr)) (fun _ x _ => R - (intOf x).toNat)
  case atStart => exact ⟨0, none, 0, by omega, rfl, rfl, HO0, HBR⟩
  case round =>
    obtain ⟨X, A, C, hX, rfl, rfl, HO, HB⟩ := hrel
    obtain ⟨wo, ho⟩ : ∃ wo, wo = wr := ⟨_, rfl⟩
    subst ho
    obtain ⟨a0, a1, a2, af⟩ := (HX3.out.below HB.out HX3.out.lt).cells
    by_cases hlt : X < R
    · have HAP : Hid (∀ z : Int, OwnI (wo.alloc (.cells #[.int .i64 z] 3)) w0.heap.size (.slice A X C) X (ofF (sw i j) X) ∧ (wo.alloc (.cells #[.int .i64 z] 3)).cell? ⟨wo.heap.size, 0, none⟩ = some (.int .i64 z) ∧ w0.heap.size ≤ (wo.alloc (.cells #[.int .i64 z] 3)).heap.size ∧ Below w0.heap.size w0 (wo.alloc (.cells #[.int .i64 z] 3))) :=
        Lib.hid (fun z => ⟨HO.out.below ((Below.refl wo.heap.size wo).alloc (Nat.le_refl _) _) (Nat.le_refl _), by simp only [World.cell?]; rw [Go.Deep.blk_alloc_new]; rfl, Nat.le_trans HB.out.size (Nat.le_of_lt (alloc_lt _ _)), HB.out.alloc HB.out.size _⟩)
      have HSF : Hid (ofF (sw i j) X ++ [((sw i j X : Nat) : Int)] = ofF (sw i j) (X + 1)) := Lib.hid (ofF_succ _ _).symm
      have h6 : X + 1 ≤ 100000 := by omega
      have hcase : (X = i ∧ sw i j X = j) ∨ (X ≠ i ∧ X = j ∧ sw i j X = i) ∨ (X ≠ i ∧ X ≠ j ∧ sw i j X = X) := by
        unfold sw
        by_cases e : X = i
        · exact .inl ⟨e, if_pos e⟩
        · by_cases e2 : X = j
          · exact .inr (.inl ⟨e, e2, by rw [if_neg e, if_pos e2]⟩)
          · exact .inr (.inr ⟨e, e2, by rw [if_neg e, if_neg e2]⟩)
      generalize hsv : sw i j X = v at *
      rcases hcase with ⟨e1, e2⟩ | ⟨e1, e2, e3⟩ | ⟨e1, e2, e3⟩
      case inl =>
        have hb1 : ((X : Int) == i) = true := by simp [e1]
        subst e2
        clear hsv e1
        go_wp2_with ((with_reducible refine wpList_append_int rfl (.tmp 23) (.tmp 25) rfl w0.heap.size _ _ _ rfl _ (HAP.out _).1 _ rfl _ (HAP.out _).2.1 h6 (HAP.out _).2.2.1 ?_); intro A2 C2 w3 ho3 hb3; have HO3 := Lib.hid ho3; have HB3 := Lib.hid ((HAP.out _).2.2.2.trans hb3); clear ho3 hb3)
        rw [HSF.out] at HO3
        go_roundw
        case rel => exact ⟨X + 1, A2, C2, by omega, by go_num, rfl, HO3, HB3⟩
        case measure => simp [intOf]; omega
      case inr.inl =>
        have hb1 : ((X : Int) == i) = false := by simp; omega
        have hb2 : ((X : Int) == j) = true := by simp [e2]
        subst e3
        clear hsv e1 e2
        go_wp2_with ((with_reducible refine wpList_append_int rfl (.tmp 30) (.tmp 32) rfl w0.heap.size _ _ _ rfl _ (HAP.out _).1 _ rfl _ (HAP.out _).2.1 h6 (HAP.out _).2.2.1 ?_); intro A2 C2 w3 ho3 hb3; have HO3 := Lib.hid ho3; have HB3 := Lib.hid ((HAP.out _).2.2.2.trans hb3); clear ho3 hb3)
        rw [HSF.out] at HO3
        go_roundw
        case rel => exact ⟨X + 1, A2, C2, by omega, by go_num, rfl, HO3, HB3⟩
        case measure => simp [intOf]; omega
      case inr.inr =>
        have hb1 : ((X : Int) == i) = false := by simp; omega
        have hb2 : ((X : Int) == j) = false := by simp; omega
        obtain rfl : X = v := e3.symm
        clear hsv e1 e2
        go_wp2_with ((with_reducible refine wpList_append_int rfl (.tmp 16) (.tmp 18) rfl w0.heap.size _ _ _ rfl _ (HAP.out _).1 _ rfl _ (HAP.out _).2.1 h6 (HAP.out _).2.2.1 ?_); intro A2 C2 w3 ho3 hb3; have HO3 := Lib.hid ho3; have HB3 := Lib.hid ((HAP.out _).2.2.2.trans hb3); clear ho3 hb3)
        rw [HSF.out] at HO3
        go_roundw
        case rel => exact ⟨X + 1, A2, C2, by omega, by go_num, rfl, HO3, HB3⟩
        case measure => simp [intOf]; omega
    · obtain rfl : X = R := by omega
      have HNM := Lib.hid HO.out.nums
      go_wp2_with (go_at_call 29; refine (HPK.out _ A C (HB0.out.trans (HB.out.mono HB0.out.size)) HNM.out).mono ?_; rintro e w5 ⟨A5, C5, l5, rfl, hs5, hc5, hb5⟩; have HS5 := Lib.hid hs5; have HC5 := Lib.hid hc5; have HB5 := Lib.hid hb5; clear hs5 hc5 hb5; obtain ⟨q0, q1, q2, qf⟩ := (HX6.out.below (HB.out.trans (HB5.out.mono HB.out.size)) HX6.out.lt).cells)
      clear q0 q1 q2 qf a0 a1 a2 af
      obtain ⟨z0, z1, z2, _⟩ := ((HX6.out.below (HB.out.trans (HB5.out.mono HB.out.size)) HX6.out.lt).write (x' := .int .i64 X) (y' := .int .i64 Cn) (z' := .slice A5 m C5)).cells
      refine bodyPost_ret (v := .agg #[.int .i64 X, .int .i64 Cn, .slice A5 ((m : Nat)) C5]) (by simp [results, Try.results47, go_sem, z0, z1, z2]) rfl ?_
      clear z0 z1 z2
      refine ⟨A5, C5, l5, rfl, sl_set3 HS5.out (fun c o e h0 => ?_), HC5.out, below_set3 ((HB0.out.trans (HB.out.mono HB0.out.size)).trans (HB5.out.mono (HB0.out.trans (HB.out.mono HB0.out.size)).size)) (Nat.le_succ _)⟩
      exact rx_apart (HX6.out.below (HB.out.trans (HB5.out.mono HB.out.size)) HX6.out.lt) HS5.out.bytes h0 e
set_option maxRecDepth 100000 in
set_option maxHeartbeats 4000000 in
theorem rwith_any (R Cn d k cap : Nat) (hR : R ≤ 255) (hC : Cn ≤ 255) (hd : d < R) (hk : k < Cn) (a : Option Addr) (l : List Int) (w : World) (ha : Sl w a (R * Cn) cap l) (hp : co l (d * Cn + k) ≠ 0) :
    Calls Try.prog 46 #[.agg #[.int .i64 R, .int .i64 Cn, .slice a ((R * Cn : Nat)) cap], .int .i64 (d : Nat), .int .i64 (k : Nat)] w (HandedR R Cn (fun i c => if d < i then co l (i * Cn + c) ^^^ mu (mu (co l (i * Cn + k)) (gi (co l (d * Cn + k)))) (co l (d * Cn + c)) else co l (i * Cn + c)) w) := by
  have hm : R * Cn ≤ 65025 := Nat.mul_le_mul hR hC
  have HAT : Hid (∀ i c w', i < R → c < Cn → Below w.heap.size w w' → Calls Try.prog 35 #[.agg #[.int .i64 R, .int .i64 Cn, .slice a ((R * Cn : Nat)) cap], .int .i64 (i : Nat), .int .i64 (c : Nat)] w' fun e w'' => e = .returned (.int .u8 (co l (i * Cn + c))) ∧ Below w'.heap.size w' w'') :=
    Lib.hid (fun i c w' hi hc h => rat_any R Cn i c (R * Cn) cap a l w' (ha.bytes.below h (Nat.le_refl _)) (spot_lt hi hc) (by omega))
  have HSP : Hid (∀ i c, i < R → c < Cn → i * Cn + c < R * Cn) := Lib.hid (fun i c hi hc => spot_lt hi hc)
  have HA := Lib.hid ha
  have HY := Lib.hid ha.bytes.by_
  obtain ⟨m, hmm⟩ : ∃ m, R * Cn = m := ⟨_, rfl⟩
  have HMM := Lib.hid hmm
  rw [hmm] at hm HAT HSP HA
  rw [hmm]
  unfold HandedR
  rw [hmm]
  have hmk := fun w => run_make_row' (P := Try.prog) 22 5 (.int .u8 0) 1 Try.underlying22 info_u8 rfl .i64 .i64 m (by omega) (by omega) w
  have HMK := Lib.hid (fun w b => made_row' w m 5 b)
  generalize madeCells #[Value.int .u8 0] m = M at *
  clear hmm ha
  have HX3 : Hid (Rx (((w.alloc (.cells #[.int .i64 R, .int .i64 Cn, .slice a m cap] 27)).alloc (.cells #[.int .i64 0, .int .i64 0, .slice none 0 0] 27)).alloc (.cells M 5)) w.heap.size (.int .i64 R) (.int .i64 Cn) (.slice a m cap)) := Lib.hid ((Below.heap_alloc _ _ _ (alloc_lt2 _ _ _)).trans (alloc_two _ _ _ _))
  have HX6 : Hid (Rx (((w.alloc (.cells #[.int .i64 R, .int .i64 Cn, .slice a m cap] 27)).alloc (.cells #[.int .i64 0, .int .i64 0, .slice none 0 0] 27)).alloc (.cells M 5)) (w.heap.size + 1) (.int .i64 0) (.int .i64 0) (.slice none 0 0)) := Lib.hid ((Below.heap_alloc _ _ _ (alloc_lt3 _ _ _)).trans (alloc_last _ _ _ _))
  have HD0 : Hid (Dat (((w.alloc (.cells #[.int .i64 R, .int .i64 Cn, .slice a m cap] 27)).alloc (.cells #[.int .i64 0, .int .i64 0, .slice none 0 0] 27)).alloc (.cells M 5)) (w.heap.size + 1 + 1) m (List.replicate m 0)) := Lib.hid (by
    have := (HMK.out ((w.alloc (.cells #[.int .i64 R, .int .i64 Cn, .slice a m cap] 27)).alloc (.cells #[.int .i64 0, .int .i64 0, .slice none 0 0] 27)) (w.heap.size + 1 + 1) (by simp)).dat (by_zero m)
    rwa [List.length_replicate] at this)
  have HB0 : Hid (Below w.heap.size w (((w.alloc (.cells #[.int .i64 R, .int .i64 Cn, .slice a m cap] 27)).alloc (.cells #[.int .i64 0, .int .i64 0, .slice none 0 0] 27)).alloc (.cells M 5))) := Lib.hid (by go_grown)
  have HAB : Hid (Bytes (((w.alloc (.cells #[.int .i64 R, .int .i64 Cn, .slice a m cap] 27)).alloc (.cells #[.int .i64 0, .int .i64 0, .slice none 0 0] 27)).alloc (.cells M 5)) a m l) := Lib.hid (HA.out.bytes.below HB0.out (Nat.le_refl _))
  have HSPL : Hid (splice (List.replicate m (0 : Int)) 0 l = l) := Lib.hid (by
    unfold splice
    rw [List.take_zero, List.nil_append, List.drop_eq_nil_of_le (by rw [List.length_replicate, HA.out.bytes.size]; omega), List.append_nil])
  have hmd : d * Cn + k < m := HSP.out d k hd hk
  have hp256 := HY.out.lt (d * Cn + k)
  have HINV := Lib.hid (fun w => rinv_any (co l (d * Cn + k)) hp256 hp w)
  have HBW : Hid (∀ w1, World.grownBy (((w.alloc (.cells #[.int .i64 R, .int .i64 Cn, .slice a m cap] 27)).alloc (.cells #[.int .i64 0, .int .i64 0, .slice none 0 0] 27)).alloc (.cells M 5)) w1 (some (w.heap.size + 1 + 1)) → Below w.heap.size w w1) := Lib.hid (fun w1 h => HB0.out.trans (below_grows h (by omega) HB0.out.size))
  have HP256 := Lib.hid hp256
  clear hmd hp256 hp
  go_enter Try.func46, Try.ntmps46
  go_wp2_with first
    | ((with_reducible refine wpList_copy_dat rfl (.tmp 16) (.tmp 18) rfl _ _ _ _ _ _ rfl rfl (w.heap.size + 1 + 1) 0 m _ HD0.out _ HAB.out rfl (fun _ => rfl) (Nat.le_of_eq (Nat.zero_add m)) ?_); intro w1 hd1 hw1; have HD1 := Lib.hid hd1; have HW1 := Lib.hid hw1; clear hd1 hw1; have HX31 := Lib.hid (HX3.out.grown HW1.out (fun e => absurd (Option.some.inj e) (Nat.ne_of_lt (Nat.lt_succ_of_lt (Nat.lt_succ_self _))))); obtain ⟨k0, k1, k2, kf⟩ := HX31.out.cells)
    | (go_at_call 35; refine (HAT.out d k _ hd hk (HBW.out _ HW1.out)).mono ?_; rintro e w2 ⟨rfl, hb2⟩; have HB2 := Lib.hid hb2; clear hb2)
    | (go_at_call 56; refine (HINV.out _).mono ?_; rintro e w3 ⟨rfl, rfl⟩)
  clear k0 k1 k2 kf
  have HD2 : Hid (Dat w2 (w.heap.size + 1 + 1) m l) := Lib.hid (by have := HD1.out; rw [HSPL.out] at this; exact this.below HB2.out this.lt)
  have HX32 := Lib.hid (HX31.out.below HB2.out HX31.out.lt)
  have HX62 := Lib.hid ((HX6.out.grown HW1.out (fun e => absurd (Option.some.inj e) (Nat.ne_of_lt (Nat.lt_succ_self _)))).below HB2.out (Nat.lt_trans (Nat.lt_succ_self _) HD1.out.lt))
  have HB02 : Hid (Below w.heap.size w w2) := Lib.hid ((HBW.out _ HW1.out).trans (HB2.out.mono (HBW.out _ HW1.out).size))
  have HGG : Hid (∃ g, g = w.heap.size + 1 + 1) := Lib.hid ⟨_, rfl⟩
  clear HX3 HX6 HD0 HB0 HAB HD1 HW1 HX31 HB2 HBW HSPL hmk HMK HINV
  obtain ⟨p, hpp⟩ : ∃ p, p = gi (co l (d * Cn + k)) := ⟨_, rfl⟩
  have HPI := Lib.hid hpp
  have hpl : p < 256 := by rw [hpp]; exact gi_lt _
  rw [← hpp]
  clear hpp
  obtain ⟨E, hE⟩ : ∃ E : Nat → Nat → Nat, E = fun i c => if d < i then co l (i * Cn + c) ^^^ mu (mu (co l (i * Cn + k)) p) (co l (d * Cn + c)) else co l (i * Cn + c) := ⟨_, rfl⟩
  have HE := Lib.hid (fun i c => congrFun (congrFun hE i) c)
  clear hE
  have HD2' := HD2
  generalize hg : w.heap.size + 1 + 1 = g at *
  have HGE := Lib.hid hg
  clear hg HD2' HGG
  have HGR0 := Lib.hid (grown_refl w2 (some g))
  go_loopw [9, 10, 11] (fun i _ _ wr => ∃ (I : Nat) (lc : List Int), d < I ∧ I ≤ R ∧ i = .int .i64 (I : Nat) ∧ Hid (Dat wr g m lc) ∧ Hid (∀ i c, i < R → c < Cn → co lc (i * Cn + c) = if i < I then E i c else co l (i * Cn + c)) ∧ Hid (w2.grownBy wr (some g))) (fun i _ _ _ => R - (intOf i).toNat)
  case atStart => exact ⟨d + 1, l, by omega, by omega, by go_num, HD2, Lib.hid (fun i c _ _ => by
    by_cases h : i < d + 1
    · rw [if_pos h, HE.out, if_neg (by omega)]
    · rw [if_neg h]), HGR0⟩
  case round =>
    obtain ⟨I, lc, hdI, hI, rfl, HDj, HCj, HGj⟩ := hrel
    obtain ⟨wo, ho⟩ : ∃ wo, wo = wr := ⟨_, rfl⟩
    subst ho
    have HXb := Lib.hid (HX32.out.grown HGj.out (fun e => by have := HGE.out; cases e; omega))
    obtain ⟨a0, a1, a2, af⟩ := HXb.out.cells
    by_cases hlt : I < R
    · have HA1 := Lib.hid (HAT.out I k wo hlt hk (HB02.out.trans (below_grows HGj.out (by have := HGE.out; omega) HB02.out.size)))
      have hu := HY.out.lt (I * Cn + k)
      have HM1 := Lib.hid (fun w => rmul_any (co l (I * Cn + k)) p hu hpl w)
      have hcl := gm_lt hu hpl
      have HCC : Hid (gm (co l (I * Cn + k)) p = mu (co l (I * Cn + k)) p) := Lib.hid (mu_eq hu hpl).symm
      generalize gm (co l (I * Cn + k)) p = cc at *
      generalize hu2 : co l (I * Cn + k) = u at *
      have HUU := Lib.hid hu2
      clear hu2
      go_wp2_with first
        | (go_at_call 35; refine HA1.out.mono ?_; rintro e w4 ⟨rfl, hb4⟩; have HB4 := Lib.hid hb4; clear hb4)
        | (go_at_call 34; refine (HM1.out _).mono ?_; rintro e w5 ⟨rfl, rfl⟩)
      clear a0 a1 a2 af
      have HG4 : Hid (w2.grownBy w4 (some g)) := Lib.hid (grown_trans HGj.out (grown_below HB4.out _))
      have HD4 := Lib.hid (HDj.out.below HB4.out HDj.out.lt)
      have HC4 : Hid (∀ i c, i < R → c < Cn → co lc (i * Cn + c) = if i < I ∨ (i = I ∧ c < 0) then E i c else co l (i * Cn + c)) := Lib.hid (fun i c hi hc => by
        rw [HCj.out i c hi hc]
        by_cases h : i < I
        · rw [if_pos h, if_pos (.inl h)]
        · rw [if_neg h, if_neg (by omega)])
      clear HXb HA1 HM1 HB4 HDj HGj HCj
      go_loopw [11] (fun kk wr => ∃ (K : Nat) (lc : List Int), K ≤ Cn ∧ kk = .int .i64 (K : Nat) ∧ Hid (Dat wr g m lc) ∧ Hid (∀ i c, i < R → c < Cn → co lc (i * Cn + c) = if i < I ∨ (i = I ∧ c < K) then E i c else co l (i * Cn + c)) ∧ Hid (w2.grownBy wr (some g))) (fun kk _ => Cn - (intOf kk).toNat)
      case atStart => exact ⟨0, lc, by omega, rfl, HD4, HC4, HG4⟩
      case round =>
        clear HD4 HC4 HG4 lc
        obtain ⟨K, lc, hK, rfl, HDj, HCj, HGj⟩ := hrel
        obtain ⟨wi, hi⟩ : ∃ wi, wi = wr := ⟨_, rfl⟩
        subst hi
        have HXb := Lib.hid (HX32.out.grown HGj.out (fun e => by have := HGE.out; cases e; omega))
        obtain ⟨a0, a1, a2, af⟩ := HXb.out.cells
        by_cases hlk : K < Cn
        · have c0 := HDj.out.cell (I * Cn + K) (HSP.out I K hlt hlk)
          have f0 := HDj.out.frozen (I * Cn + K)
          rw [HCj.out I K hlt hlk, if_neg (by omega)] at c0
          have hx := HY.out.lt (I * Cn + K)
          have hy := HY.out.lt (d * Cn + K)
          have HA2 := Lib.hid (HAT.out d K wi.drew hd hlk ((HB02.out.trans (below_grows HGj.out (by have := HGE.out; omega) HB02.out.size)).drew))
          have HM2 := Lib.hid (fun w => rmul_any cc (co l (d * Cn + K)) hcl hy w)
          have hgl := gm_lt hcl hy
          have HEE : Hid (E I K = co l (I * Cn + K) ^^^ gm cc (co l (d * Cn + K))) := Lib.hid (by rw [HE.out, if_pos hdI, HUU.out, ← HCC.out, mu_eq hcl hy])
          have hbx := bits_u8 (co l (I * Cn + K)) (gm cc (co l (d * Cn + K))) hx hgl
          have HXL := Lib.hid (xor_lt hx hgl)
          generalize gm cc (co l (d * Cn + K)) = z at *
          generalize co l (d * Cn + K) = y at *
          generalize co l (I * Cn + K) = x at *
          have HSP1 := Lib.hid (HSP.out I K hlt hlk)
          obtain ⟨q, hq⟩ : ∃ q, q = I * Cn := ⟨_, rfl⟩
          have HQ := Lib.hid hq
          have hqi : (I : Int) * Cn = q := by rw [hq]; omega
          rw [← hq] at c0 f0 HSP1
          have hw0 : IntKind.i64.wrap (q : Int) = q := IntWalk.i64_in _ (by have := HSP1.out; omega)
          have hw1 : IntKind.i64.wrap ((q : Int) + K) = (q : Int) + K := IntWalk.i64_in _ (by have := HSP1.out; omega)
          have hw2 : (0 : Int) ≤ (q : Int) + K := by omega
          have hw3 : (q : Int) + K < m := by have := HSP1.out; omega
          have hw4 : ((q : Int) + K).toNat = q + K := by omega
          clear hq
          have HS : Hid (∀ w', wi.grownBy w' (some g) → wi.grownBy w' (some g) ∧ w'.cell? ⟨w.heap.size, 0, none⟩ = some (.int .i64 (R : Int)) ∧ w'.cell? ⟨w.heap.size, 1, none⟩ = some (.int .i64 (Cn : Int)) ∧ w'.cell? ⟨w.heap.size, 2, none⟩ = some (.slice a m cap)) :=
            Lib.hid (fun w' h => by
              have hh := (HXb.out.grown h (fun e => by have := HGE.out; cases e; omega)).cells
              exact ⟨h, hh.1, hh.2.1, hh.2.2.1⟩)
          have HC5 : Hid (∀ w5, Below wi.drew.heap.size wi.drew w5 → w5.cell? ⟨g, q + K, none⟩ = some (.int .u8 (x : Int)) ∧ w5.frozen? ⟨g, q + K, none⟩ = false ∧ Dat w5 g m lc) := Lib.hid (fun w5 h => by
            have hd5 : Dat w5 g m lc := (show Dat wi.drew g m lc from HDj.out.keep rfl).below h HDj.out.lt
            refine ⟨(World.cell?_of_block (w := wi) ((h.block g HDj.out.lt).trans rfl)).trans c0, hd5.frozen _, hd5⟩)
          have HB5 : Hid (∀ w5, Below wi.drew.heap.size wi.drew w5 → w5.cell? ⟨w.heap.size, 0, none⟩ = some (.int .i64 (R : Int)) ∧ w5.cell? ⟨w.heap.size, 1, none⟩ = some (.int .i64 (Cn : Int)) ∧ w5.cell? ⟨w.heap.size, 2, none⟩ = some (.slice a m cap) ∧ ∀ i, w5.frozen? ⟨w.heap.size, i, none⟩ = false) := Lib.hid (fun w5 h => (show Rx w5 w.heap.size _ _ _ from (h.block _ HXb.out.lt).trans HXb.out).cells)
          go_wp2
          go_region_law (first
            | (go_simp; go_at_call 35; (with_reducible refine HA2.out.mono ?_); rintro e w5 ⟨rfl, hb5⟩; obtain ⟨c5, f5, hd5⟩ := HC5.out w5 hb5; have HD5 := Lib.hid hd5; clear hd5; obtain ⟨b0, b1, b2, bf⟩ := HB5.out w5 hb5)
            | (go_simp; go_at_call 34; (with_reducible refine (HM2.out _).mono ?_); rintro e w6 ⟨rfl, rfl⟩))
          all_goals
            have HG9 := Lib.hid (grown_trans (grown_trans HGj.out (grown_trans (grown_drew (grown_refl wi (some g)) 1) (grown_below hb5 (some g)))) (grown_set w5 g (q + K) (.int .u8 ((x ^^^ z : Nat) : Int))))
            clear hb5 c5 f5
            go_wp2
            go_roundw
            case rel =>
              refine ⟨K + 1, lc.set (q + K) ((x ^^^ z : Nat) : Int), by omega, by go_num, Lib.hid (HD5.out.set (q + K) (x ^^^ z) HXL.out), Lib.hid (fun i c hi hc => ?_), HG9⟩
              rw [co_set lc (q + K) (x ^^^ z) (i * Cn + c) (by rw [HD5.out.size]; exact HSP1.out), HQ.out]
              by_cases g1 : i = I ∧ c = K
              · rw [g1.1, g1.2, if_pos rfl, if_pos (by omega), HEE.out]
              · rw [if_neg (spot_ne hc hlk g1), HCj.out i c hi hc]
                by_cases g2 : i < I ∨ (i = I ∧ c < K)
                · rw [if_pos g2, if_pos (by omega)]
                · rw [if_neg g2, if_neg (by omega)]
            case measure => simp [intOf]; omega
        · obtain rfl : K = Cn := by omega
          go_wp2
          go_roundw
          case rel =>
            refine ⟨I + 1, lc, by omega, by omega, by go_num, HDj, Lib.hid (fun i c hi hc => ?_), HGj⟩
            rw [HCj.out i c hi hc]
            by_cases h : i < I ∨ (i = I ∧ c < K)
            · rw [if_pos h, if_pos (by omega)]
            · rw [if_neg h, if_neg (by omega)]
          case measure => simp [intOf]; omega
    · obtain rfl : I = R := by omega
      have HXr := Lib.hid (HX62.out.grown HGj.out (fun e => by have := HGE.out; cases e; omega))
      obtain ⟨r0, r1, r2, rf⟩ := HXr.out.cells
      go_wp2
      clear r0 r1 r2 rf a0 a1 a2 af
      have HXs : Hid (Rx (wo.setCell ⟨w.heap.size, 2, none⟩ (.slice (some ⟨g, 0, none⟩) m m)) (w.heap.size + 1) (.int .i64 0) (.int .i64 0) (.slice none 0 0)) := Lib.hid (HXr.out.keep (Below.heap_setCell _ _ _ _ (by show w.heap.size + 1 ≠ w.heap.size; omega)))
      obtain ⟨z0, z1, z2, _⟩ := (HXs.out.write (x' := .int .i64 I) (y' := .int .i64 Cn) (z' := .slice (some ⟨g, 0, none⟩) m m)).cells
      refine bodyPost_ret (v := .agg #[.int .i64 I, .int .i64 Cn, .slice (some ⟨g, 0, none⟩) ((m : Nat)) m]) (by simp [results, Try.results46, go_sem, z0, z1, z2]) rfl ?_
      clear z0 z1 z2
      have hd9 : Dat (wo.setCell ⟨w.heap.size, 2, none⟩ (.slice (some ⟨g, 0, none⟩) m m)) g m lc := HDj.out.keep (Below.heap_setCell _ _ _ _ (by have := HGE.out; show g ≠ w.heap.size; omega))
      have hb9 : Below w.heap.size w (wo.setCell ⟨w.heap.size, 2, none⟩ (.slice (some ⟨g, 0, none⟩) m m)) := (HB02.out.trans (below_grows HGj.out (by have := HGE.out; omega) HB02.out.size)).setCell (p := ⟨w.heap.size, 2, none⟩) (Nat.le_refl _) _
      refine ⟨some ⟨g, 0, none⟩, m, lc, rfl, (dat_set3 hd9 (by have := HGE.out; omega)).sl (by omega), fun i c hi hc => ?_, below_set3 hb9 (by omega)⟩
      rw [HCj.out i c hi hc, if_pos hi, HE.out, HPI.out]
end Go.Proofs.Ytipaolkgafhliaa
