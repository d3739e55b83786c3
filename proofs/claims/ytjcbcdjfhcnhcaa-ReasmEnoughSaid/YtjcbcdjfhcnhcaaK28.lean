/-
  Own text: layer 18 (reasm): the law ReasmEnough, walked.
  Own text: layer 18 (reasm): the law ReasmEnough as its frame wants it.
-/
import Derived.Test.YtjcbcdjfhcnhcaaK26
import Derived.Test.YtjcbcdjfhcnhcaaK27
import Derived.BigQuiet
namespace Go.Proofs.Ytjcbcdjfhcnhcaa
open Go.RowKit
/-- What is when the groups from i on have come. -/
def After (g : Gs) (G i n : Nat) (S : Wn) : Prop := match i with
  | 0 => S.ok n ∧ S.base = G ∧ S.frames = g.st G ∧ S.ready = g.Z.take (g.st G)
  | i + 1 => Near g G i n S []
theorem After.start {g : Gs} (hg : g.ok) : ∀ G, After g G G 0 Wn.zero
  | 0 => ⟨Wn.zero_ok, rfl, rfl, by simp [Wn.zero, Gs.st]⟩
  | _ + 1 => Near.start hg
/-- While group i comes, and when it has. -/
def Mid18 (g : Gs) (G i n : Nat) (S : Wn) (sh : List Nat) : Prop := (sh.length < g.kk i ∧ Near g G i n S sh) ∨ (sh.length = g.kk i ∧ After g G i n S)
theorem Mid18.next {g : Gs} {G i n : Nat} {S : Wn} {sh : List Nat} {e : El} (h : Near g G i n S sh) (hg : g.ok) (hG : G ≤ 30) (hZ : g.st G ≤ g.Z.length) (hi : e.i = i) (hx : e.x < g.kk i + g.M) (hn : e.x ∉ sh) : S.code (e.cd g) = 0 ∧ Mid18 g G i (n + 1) (S.take (e.cd g)) (sh ++ [e.x]) := by
  have hs : g.st i < 4294967296 := by
    have := g.st_mono (Nat.le_of_lt h.lt)
    have := hg.len
    omega
  refine ⟨h.code hg hG hi hx hn, ?_⟩
  have hf := h.few
  by_cases hl : sh.length + 1 < g.kk i
  · exact .inl ⟨by rw [List.length_append, List.length_singleton]; exact hl, h.more hg hG hi hs hx hn hl⟩
  · refine .inr ⟨by rw [List.length_append, List.length_singleton]; omega, ?_⟩
    cases i with
    | zero => exact h.fin hg hG hZ hi hx hn (by omega)
    | succ i => exact h.down hg hG hi hs hx hn (by omega)
theorem below_drewN18 {B : Nat} {w w' : World} (h : Below B w w') : ∀ k, Below B w (w'.drewN k)
  | 0 => h
  | k + 1 => (below_drewN18 h k).drew
/-- Which shards have come: 32 truths. -/
def Cme (w : World) (q : Nat) (sh : List Nat) : Prop := ∃ C, w.heap[q]? = some (.cells C 71 (0, 0)) ∧ C.size = 32 ∧ ∀ j, j < 32 → C[j]? = some (.bool (decide (j ∈ sh)))
theorem Cme.cell {w : World} {q : Nat} {sh : List Nat} (h : Cme w q sh) {j : Nat} (hj : j < 32) : w.cell? ⟨q, j, none⟩ = some (.bool (decide (j ∈ sh))) := by
  obtain ⟨C, h1, h2, h3⟩ := h
  rw [cell_of18 h1, h3 j hj]
theorem Cme.frozen {w : World} {q : Nat} {sh : List Nat} (h : Cme w q sh) (j : Nat) : w.frozen? ⟨q, j, none⟩ = false := by
  obtain ⟨C, h1, _⟩ := h
  simp [World.frozen?, h1]
theorem Cme.keep {w w' : World} {q : Nat} {sh : List Nat} (h : Cme w q sh) (e : w'.heap[q]? = w.heap[q]?) : Cme w' q sh := by
  obtain ⟨C, h1, h2⟩ := h
  exact ⟨C, e.trans h1, h2⟩
theorem Cme.lt {w : World} {q : Nat} {sh : List Nat} (h : Cme w q sh) : q < w.heap.size := by
  obtain ⟨C, h1, _⟩ := h
  exact (Array.getElem?_eq_some_iff.1 h1).1
theorem Cme.set {w : World} {q x : Nat} {sh : List Nat} (h : Cme w q sh) (hx : x < 32) : Cme (w.setCell ⟨q, x, none⟩ (.bool true)) q (sh ++ [x]) := by
  obtain ⟨C, h1, h2, h3⟩ := h
  refine ⟨C.setIfInBounds x (.bool true), by simp [World.setCell, Array.getElem?_modify, h1], by simpa using h2, fun j hj => ?_⟩
  rw [Array.getElem?_setIfInBounds]
  by_cases e : x = j
  · subst e
    rw [if_pos rfl, if_pos (by omega)]
    simp
  · rw [if_neg e, h3 j hj]
    have : ¬ j = x := fun c => e c.symm
    simp [this]
theorem cyc18 {n x f : Nat} (hx : x < n) (hf : f < n) (hne : x ≠ f) : (f + n - (x + 1) % n) % n < (f + n - x) % n := by
  by_cases h1 : x + 1 = n
  · rw [h1, Nat.mod_self, Nat.sub_zero, Nat.add_mod_right, Nat.mod_eq_of_lt hf, show f + n - x = f + 1 by omega, Nat.mod_eq_of_lt (by omega)]
    omega
  · rw [Nat.mod_eq_of_lt (show x + 1 < n by omega)]
    by_cases h2 : x < f
    · rw [show f + n - (x + 1) = (f - x - 1) + n by omega, show f + n - x = (f - x) + n by omega, Nat.add_mod_right, Nat.add_mod_right, Nat.mod_eq_of_lt (by omega), Nat.mod_eq_of_lt (by omega)]
      omega
    · rw [Nat.mod_eq_of_lt (by omega), Nat.mod_eq_of_lt (by omega)]
      omega
/-- Some number is free. -/
theorem free18 {n : Nat} {sh : List Nat} (h : sh.length < n) : ∃ f, f < n ∧ f ∉ sh := by
  by_cases hh : ∃ f, f < n ∧ f ∉ sh
  · exact hh
  · have h1 : ∀ f, f < n → f ∈ sh := fun f hf => Decidable.byContradiction (fun c => hh ⟨f, hf, c⟩)
    have h2 : (List.range n).Subset sh := fun f hf => h1 f (List.mem_range.1 hf)
    have h3 := List.Nodup.length_le_of_subset List.nodup_range h2
    rw [List.length_range] at h3
    omega
set_option maxRecDepth 100000 in
set_option maxHeartbeats 8000000 in
theorem enough18 (Z zs cz : List Int) (M : Int) (ai az ac : Option Addr) (ni ci ns cs nc cc : Nat) (w : World) (hI : Ins w ai ni Z) (hci : ni ≤ ci ∧ ci ≤ 9223372036854775807) (hS : Ints w az ns (fun i => zs.getD i 0)) (hC : Ints w ac nc (fun i => cz.getD i 0)) (hv : ∀ z ∈ Z, 0 ≤ z ∧ z ≤ 65535) (hns : ns ≤ 9223372036854775807) (hnc : nc ≤ 9223372036854775807) :
    Calls Try.prog 6 #[.agg #[.slice ai ni ci, .slice az ns cs, .int .i64 M, .slice ac nc cc]] w fun e w' => e = .returned (.bool true) ∧ Below w.heap.size w w' := by
  obtain ⟨W, hW⟩ : ∃ W, W = w.alloc (.cells #[.slice ai ni ci, .slice az ns cs, .int .i64 M, .slice ac nc cc] 65) := ⟨_, rfl⟩
  have hbW : Below w.heap.size w W := by rw [hW]; exact (Below.refl _ _).alloc (Nat.le_refl _) _
  have hX : Lies W w.heap.size 0 #[.slice ai ni ci, .slice az ns cs, .int .i64 M, .slice ac nc cc] := by rw [hW]; exact Lies.new _ _ _ (Below.refl _ _)
  have HX : Hid (∀ u, Below W.heap.size W u → u.cell? ⟨w.heap.size, 0, none⟩ = some (.slice ai ni ci) ∧ u.cell? ⟨w.heap.size, 3, none⟩ = some (.slice ac nc cc) ∧ Lies u w.heap.size 0 #[.slice ai ni ci, .slice az ns cs, .int .i64 M, .slice ac nc cc] ∧ Ins u ai ni Z ∧ Ints u az ns (fun i => zs.getD i 0) ∧ Ints u ac nc (fun i => cz.getD i 0)) := Lib.hid (fun u hu => by
    have h2 := hX.below hu hX.lt
    have h3 := hbW.trans (hu.mono hbW.size)
    exact ⟨lies_get h2 0 rfl, lies_get h2 3 rfl, h2, hI.below h3 (Nat.le_refl _), hS.below h3 (Nat.le_refl _), hC.below h3 (Nat.le_refl _)⟩)
  have HBW := Lib.hid hbW
  have HAW := Lib.hid (awake18 W)
  have HSI : Hid ((Try.prog.info? 65).map (·.size) = some (#[.slice ai ni ci, .slice az ns cs, .int .i64 M, .slice ac nc cc] : Array Value).size) := Lib.hid (by show _ = some 4; kernel_rfl)
  have CN := Lib.hid (fun w => new_any w)
  have CWN := Lib.hid (fun t w ht => new18 t w ht)
  have HCI := Lib.hid hci
  have HV := Lib.hid hv
  have HNS := Lib.hid hns
  have HNC := Lib.hid hnc
  have HIL : Hid (Z.length = ni) := Lib.hid hI.1
  have k0 := (HX.out W (Below.refl _ _)).1
  clear hI hci hS hC hv hns hX hbW hnc
  go_enter Try.func6, Try.ntmps6
  go_upto_region 1 with fail
  rw [← hW]
  clear hW k0
  go_upto_region 3 with (first
    | (go_at_call 17; (with_reducible refine HAW.out.mono ?_); rintro e w1 ⟨rfl, hb1⟩; have HB1 := Lib.hid hb1; clear hb1)
    | fail "arm1")
  obtain ⟨k0, k3, hl1, _⟩ := HX.out w1 HB1.out
  have HL1 := Lib.hid hl1
  clear hl1
  by_cases hni : ni ≤ 100
  case neg =>
    have j1 : (100 : Int) < ni := by omega
    go_wp2
    go_ret
    exact ⟨rfl, HBW.out.trans (HB1.out.mono HBW.out.size)⟩
  case pos =>
    have j1 : ¬ (100 : Int) < ni := by omega
    by_cases hn0 : nc = 0
    case pos =>
      subst hn0
      go_wp2
      go_ret
      exact ⟨rfl, HBW.out.trans (HB1.out.mono HBW.out.size)⟩
    have j0 : ¬ (nc : Int) = 0 := by omega
    have j0' : (0 : Int) < (nc : Int) := by omega
    have HNI := Lib.hid hni
    have HGR : Hid (Calls Try.prog 24 #[.agg #[.slice ai ni ci, .slice az ns cs, .int .i64 M, .slice ac nc cc]] w1 (GroupsTo (gsOf Z zs M) ni w1)) := Lib.hid (by
      obtain ⟨_, _, _, h1, h2, _⟩ := HX.out w1 HB1.out
      exact groups18 Z zs M ai az ac ni ci ns cs nc cc w1 h1 hni HCI.out h2 HV.out HNS.out)
    have HOK : Hid ((gsOf Z zs M).ok) := Lib.hid (gsOf_ok HV.out (by rw [HIL.out]; exact hni))
    have HGZ : Hid ((gsOf Z zs M).Z = Z) := Lib.hid rfl
    clear hni
    generalize gsOf Z zs M = g at *
    go_upto_region 7 with (first
      | (with_reducible refine wpList_load_lies rfl 65 (.tmp 1) rfl w.heap.size 0 rfl #[.slice ai ni ci, .slice az ns cs, .int .i64 M, .slice ac nc cc] HL1.out _ Try.underlying65 rfl HSI.out ?_)
      | (go_at_call 24; (with_reducible refine HGR.out.mono ?_); rintro e w2 ⟨G, A1, C1, L1, A2, C2, N, L2, rfl, HA, HO, HG, HB2⟩)
      | (go_at_call 9; (with_reducible refine (CN.out w2).mono ?_); rintro e w3 ⟨rfl, ht3, hb3⟩; have HT3 := Lib.hid ht3; have HB3 := Lib.hid hb3; clear ht3 hb3)
      | (go_at_call 18; (with_reducible refine (CWN.out _ w3 HT3.out).mono ?_); rintro e w4 ⟨rfl, HCW, HB4⟩)
      | fail "arm5")
    have HBW3 : Hid (Below W.heap.size W w3) := Lib.hid (HB1.out.trans ((HB2.out.trans (HB3.out.mono HB2.out.size)).mono HB1.out.size))
    have HF : Hid (∀ u, Below w3.heap.size w3 u → u.cell? ⟨w.heap.size, 0, none⟩ = some (.slice ai ni ci) ∧ u.cell? ⟨w.heap.size, 3, none⟩ = some (.slice ac nc cc) ∧ Ins u ai ni Z ∧ Ints u ac nc (fun i => cz.getD i 0) ∧ AllIs g u w1.heap.size A1 G C1 L1) := Lib.hid (fun u hu => by
      obtain ⟨a1, a2, _, a4, _, a6⟩ := HX.out u (HBW3.out.trans (hu.mono HBW3.out.size))
      exact ⟨a1, a2, a4, a6, HA.out.below (HB3.out.trans (hu.mono HB3.out.size))⟩)
    obtain ⟨b, hb⟩ : ∃ b, b = w3.heap.size := ⟨_, rfl⟩
    have HBB := Lib.hid hb
    have HCW2 : Hid (CW w4 b w2.heap.size b (fun k => k = b) none Wn.zero) := Lib.hid (by rw [hb]; exact HCW.out)
    rw [← hb]
    clear HCW hb HX HAW CN CWN HL1 HSI HGR HA HO k0 k3
    have g1 : (G : Int) ≤ 30 := by have := HG.out.1; omega
    have g2 : IntKind.i64.wrap ((G : Int) - 1) = (G : Int) - 1 := by rw [IntKind.wrap_i64]; omega
    have HZG : Hid (g.st G ≤ g.Z.length) := Lib.hid (by rw [HGZ.out, HIL.out]; exact HG.out.2.1)
    go_wp2
    go_loopw [6, 7, 8] (fun v6 v7 v8 wr => ∃ (i c n : Nat) (S : Wn) (O : Nat → Prop), v6 = .int .i64 ((g.st G - g.st i : Nat) : Int) ∧ v7 = .int .i64 ((c : Nat) : Int) ∧ v8 = .int .i64 (((i : Nat) : Int) - 1) ∧ i ≤ G ∧ Hid (c ≤ (G - i) * 8 ∧ n ≤ (G - i) * 8) ∧ Hid (After g G i n S) ∧ Hid (CW wr b w2.heap.size b O none S) ∧ Hid (Below w3.heap.size w3 wr)) (fun _ _ v8 _ => (intOf v8 + 1).toNat)
    case atStart => exact ⟨G, 0, 0, Wn.zero, _, by rw [Nat.sub_self]; rfl, rfl, rfl, Nat.le_refl _, Lib.hid ⟨Nat.zero_le _, Nat.zero_le _⟩, Lib.hid (After.start HOK.out G), HCW2, HB4⟩
    case round =>
      obtain ⟨i, c, n, S, O, rfl, rfl, rfl, hiG, HCN, HAF, HCW, HBR⟩ := hrel
      obtain ⟨k0, k3, hins, hic, hall⟩ := HF.out wr HBR.out
      cases i with
      | zero =>
        have j2 : ¬ (0 : Int) ≤ ((0 : Nat) : Int) - 1 := by omega
        have HM2 : Hid (S.ok n ∧ S.base = G ∧ S.frames = g.st G ∧ S.ready = g.Z.take (g.st G)) := Lib.hid HAF.out
        have hmany : ((g.st G - g.st 0 : Nat) : Int) = ((g.st G : Nat) : Int) := by rw [show g.st 0 = 0 from rfl, Nat.sub_zero]
        rw [hmany]
        obtain ⟨m, hm⟩ : ∃ m, m = g.st G := ⟨_, rfl⟩
        have HM3 : Hid (m ≤ ni) := Lib.hid (by rw [hm]; exact HG.out.2.1)
        rw [← hm] at HM2 ⊢
        have HSM : Hid (∀ u A5 C5, Below w3.heap.size w3 u → Ins u A5 m (Z.take m) → Calls Try.prog 22 #[.slice A5 m C5, .slice ai m ci] u fun x w' => x = .returned (.bool true) ∧ Below u.heap.size u w') := Lib.hid (fun u A5 C5 hu h5 => by
          obtain ⟨_, _, hi5, _⟩ := HF.out u hu
          exact same18 A5 ai m C5 ci (Z.take m) (Z.take m) u h5 (hi5.take18 HM3.out) (by have := HM3.out; have := HNI.out; omega) rfl)
        have HFR : Hid (∀ u, Below wr.heap.size wr u → Calls Try.prog 25 #[.pointer (some ⟨b, 0, none⟩)] u fun e w' => e = .returned (.int .i64 ((m : Nat) : Int)) ∧ u = w') := Lib.hid (fun u hu => by rw [← HM2.out.2.2.1]; exact frames18 (HCW.out.below hu))
        have HRY : Hid (∀ u, Below wr.heap.size wr u → Calls Try.prog 23 #[.pointer (some ⟨b, 0, none⟩)] u fun e w' => ∃ A5 C5, e = .returned (.slice A5 m C5) ∧ Hid (Ins w' A5 m (Z.take m)) ∧ Hid (∃ O', CW w' b w2.heap.size b O' none S.read) ∧ Hid (Below w3.heap.size w3 w')) := Lib.hid (fun u hu => by
          have hl : S.ready.length = m := by
            rw [HM2.out.2.2.2, List.length_take, HGZ.out, HIL.out]
            have := HM3.out
            omega
          refine (ready18 b w2.heap.size b O S u (HCW.out.below hu)).mono fun e w' h => ?_
          obtain ⟨A5, C5, h1, h2, _, h4, h5⟩ := h
          rw [hl] at h1 h2
          rw [HM2.out.2.2.2, HGZ.out] at h2
          exact ⟨A5, C5, h1, h2, Lib.hid ⟨_, h4.out⟩, Lib.hid (h5.out.bel (HBR.out.trans (hu.mono HBR.out.size)) (Nat.le_trans HBR.out.size hu.size) (fun k0 hk0 => by rw [← HBB.out]; exact (HCW.out.own k0 hk0).1))⟩)
        have HBA : Hid (∀ u O', CW u b w2.heap.size b O' none S.read → Calls Try.prog 26 #[.pointer (some ⟨b, 0, none⟩)] u fun e w' => e = .returned (.int .u32 ((G : Nat) : Int)) ∧ u = w') := Lib.hid (fun u O' hu => by
          have h := base18 hu
          rw [show S.read.base = G from HM2.out.2.1] at h
          exact h)
        have j7 : (m : Int) ≤ (ci : Int) := by have := HCI.out; have := HM3.out; omega
        have j8 : (0 : Int) ≤ (m : Int) := by omega
        have g30 : IntKind.i64.wrap (G : Int) = (G : Int) := by rw [IntKind.wrap_i64]; omega
        have cc : Below wr.heap.size wr wr.drew := (Below.refl _ _).drew
        have dd : Below w3.heap.size w3 wr.drew := HBR.out.trans (cc.mono HBR.out.size)
        clear hm hmany hins hic hall k3 HAF
        go_wp2
        go_region_held3 (fun u => u.cell? ⟨w.heap.size, 0, none⟩ = some (.slice ai ni ci))
          (first
            | exact (HF.out _ dd).1
            | fail "keep")
          (first
            | (go_at_call 25; (with_reducible refine (HFR.out _ cc).mono ?_); rintro e w10 ⟨rfl, rfl⟩)
            | (go_at_call 23; (with_reducible refine (HRY.out _ cc).mono ?_); rintro e w11 ⟨A5, C5, rfl, HI11, HC11, HB11⟩; replace dd := HB11.out)
            | (go_at_call 22; (with_reducible refine (HSM.out w11 A5 C5 dd HI11.out).mono ?_); rintro e w12 ⟨rfl, HB12⟩; obtain ⟨O', hc12⟩ := HC11.out; replace hc12 := hc12.below HB12; replace dd := dd.trans (HB12.mono dd.size))
            | (go_at_call 26; (with_reducible refine (HBA.out w12 O' hc12).mono ?_); rintro e w13 ⟨rfl, rfl⟩)
            | fail "arm26")
        all_goals
          go_wp2
          go_ret
          exact ⟨rfl, HBW.out.trans ((HBW3.out.trans (dd.mono HBW3.out.size)).mono HBW.out.size)⟩
      | succ i =>
        have j2 : (0 : Int) ≤ ((i + 1 : Nat) : Int) - 1 := by omega
        have j3 : ((i + 1 : Nat) : Int) - 1 = (i : Int) := by omega
        rw [j3]
        have hAF : Near g G i n S [] := HAF.out
        have hiG2 : i < G := hiG
        obtain ⟨el, hel, hei, hsh⟩ := hall.els i hiG2
        obtain ⟨b1, rfl, hb1, hGC, hCm, hlies⟩ := row_lies (f := Gl.cells g) (fun _ => rfl) hall.row hall.len hel
        obtain ⟨A, hA⟩ : ∃ A, A = el.A := ⟨_, rfl⟩
        obtain ⟨C, hC⟩ : ∃ C, C = el.C := ⟨_, rfl⟩
        obtain ⟨nn, hnn⟩ : ∃ nn, nn = g.kk i + g.M := ⟨_, rfl⟩
        rw [← hA, ← hC, ← hnn] at hsh
        have hl5 : Lies wr b1 (i * 5) #[.int .u32 ((i : Nat) : Int), .int .u32 ((g.st i : Nat) : Int), .int .i64 ((g.kk i : Nat) : Int), .int .i64 ((g.M : Nat) : Int), .slice A nn C] := by
          have hc : Gl.cells g el = #[.int .u32 ((i : Nat) : Int), .int .u32 ((g.st i : Nat) : Int), .int .i64 ((g.kk i : Nat) : Int), .int .i64 ((g.M : Nat) : Int), .slice A nn C] := by
            simp only [Gl.cells, hei, hA, hC, hnn]
          rw [← hc]
          exact hlies
        have HL5 := Lib.hid hl5
        have HEL : Hid (∃ el, L1[i]? = some el ∧ A = el.A ∧ C = el.C) := Lib.hid ⟨el, hel, hA, hC⟩
        have HNN := Lib.hid hnn
        have HSH := Lib.hid hsh
        have HK : Hid (1 ≤ g.kk i ∧ g.kk i ≤ 8 ∧ g.M ≤ 6) := Lib.hid ⟨HOK.out.k1 i, HOK.out.k8 i, HOK.out.m6⟩
        have HD5 : Hid ((Try.prog.info? 34).map (·.size) = some (#[.int .u32 ((i : Nat) : Int), .int .u32 ((g.st i : Nat) : Int), .int .i64 ((g.kk i : Nat) : Int), .int .i64 ((g.M : Nat) : Int), .slice A nn C] : Array Value).size) := Lib.hid (by show _ = some 5; kernel_rfl)
        have HNE : Hid (Near g G i n S []) := Lib.hid hAF
        have y1 : (i : Int) < G := by omega
        have y2 : (0 : Int) ≤ i := by omega
        clear hA hC hnn hel hei hsh hlies hl5 hb1 hGC hCm hall hins hic HAF hAF
        go_upto_region 12 with (first
          | (with_reducible refine wpList_load_lies rfl 34 (.tmp 41) rfl b1 (i * 5) rfl #[.int .u32 ((i : Nat) : Int), .int .u32 ((g.st i : Nat) : Int), .int .i64 ((g.kk i : Nat) : Int), .int .i64 ((g.M : Nat) : Int), .slice A nn C] HL5.out _ Try.underlying34 rfl HD5.out ?_)
          | fail "arm11")
        obtain ⟨W5, hW5⟩ : ∃ W5, W5 = wr.alloc (.cells #[.int .u32 ((i : Nat) : Int), .int .u32 ((g.st i : Nat) : Int), .int .i64 ((g.kk i : Nat) : Int), .int .i64 ((g.M : Nat) : Int), .slice A nn C] 34) := ⟨_, rfl⟩
        rw [← hW5]
        have HB5 : Hid (Below wr.heap.size wr W5) := Lib.hid (by rw [hW5]; exact (Below.refl _ _).alloc (Nat.le_refl _) _)
        have HP5 : Hid (B5 34 W5 wr.heap.size (.int .u32 ((i : Nat) : Int)) (.int .u32 ((g.st i : Nat) : Int)) (.int .i64 ((g.kk i : Nat) : Int)) (.int .i64 ((g.M : Nat) : Int)) (.slice A nn C)) := Lib.hid (by rw [hW5]; exact B5.new _ _ _ _ _ _ _)
        have HSZ5 : Hid (W5.heap.size = wr.heap.size + 1) := Lib.hid (by rw [hW5]; simp)
        obtain ⟨p, hp⟩ : ∃ p, p = wr.heap.size := ⟨_, rfl⟩
        have HPP := Lib.hid hp
        rw [← hp] at HP5 ⊢
        obtain ⟨x0, x1, x2, x3, x4⟩ := HP5.out.cells
        have hst : g.st G ≤ 100 := Nat.le_trans HG.out.2.1 HNI.out
        have hst2 : g.st (i + 1) ≤ g.st G := g.st_mono hiG2
        have hst3 : g.st (i + 1) = g.st i + g.kk i := rfl
        have k8 := HK.out.2.1
        have y3 : ((g.st G - g.st (i + 1) : Nat) : Int) + ((g.kk i : Nat) : Int) = ((g.st G - g.st i : Nat) : Int) := by omega
        have y4 : ((g.st G - g.st i : Nat) : Int) ≤ 100 := by omega
        have y5 : (0 : Int) ≤ ((g.st G - g.st i : Nat) : Int) := by omega
        clear hW5 hp hst hst2 hst3 k8
        go_upto_region 14 with fail
        clear y3 x0 x1 x2 x3 x4
        obtain ⟨W6, hW6⟩ : ∃ W6, W6 = W5.alloc (.cells #[.bool false, .bool false, .bool false, .bool false, .bool false, .bool false, .bool false, .bool false, .bool false, .bool false, .bool false, .bool false, .bool false, .bool false, .bool false, .bool false, .bool false, .bool false, .bool false, .bool false, .bool false, .bool false, .bool false, .bool false, .bool false, .bool false, .bool false, .bool false, .bool false, .bool false, .bool false, .bool false] 71) := ⟨_, rfl⟩
        rw [← hW6]
        have HB6 : Hid (Below W5.heap.size W5 W6) := Lib.hid (by rw [hW6]; exact (Below.refl _ _).alloc (Nat.le_refl _) _)
        have HQ0 : Hid (Cme W6 W5.heap.size []) := Lib.hid (by
          rw [hW6]
          refine ⟨_, Go.Deep.blk_alloc_new W5 _, rfl, fun j hj => ?_⟩
          rw [show (#[.bool false, .bool false, .bool false, .bool false, .bool false, .bool false, .bool false, .bool false, .bool false, .bool false, .bool false, .bool false, .bool false, .bool false, .bool false, .bool false, .bool false, .bool false, .bool false, .bool false, .bool false, .bool false, .bool false, .bool false, .bool false, .bool false, .bool false, .bool false, .bool false, .bool false, .bool false, .bool false] : Array Value) = Array.replicate 32 (.bool false) from rfl, Array.getElem?_replicate, if_pos hj]
          simp)
        obtain ⟨q, hq⟩ : ∃ q, q = W5.heap.size := ⟨_, rfl⟩
        have HQQ : Hid (q = p + 1 ∧ b ≤ p) := Lib.hid ⟨by rw [hq, HSZ5.out, HPP.out], by rw [HPP.out]; exact HCW.out.low⟩
        rw [← hq] at HQ0 ⊢
        have HCW6 : Hid (CW W6 b w2.heap.size b O none S) := Lib.hid ((HCW.out.below HB5.out).below HB6.out)
        have HOO6 : Hid (¬ O p ∧ ¬ O q) := Lib.hid ⟨fun ho => by have := (HCW.out.own _ ho).2; have := HPP.out; omega, fun ho => by have := (HCW.out.own _ ho).2; have := HQQ.out; have := HPP.out; omega⟩
        have HP6 : Hid (B5 34 W6 p (.int .u32 ((i : Nat) : Int)) (.int .u32 ((g.st i : Nat) : Int)) (.int .i64 ((g.kk i : Nat) : Int)) (.int .i64 ((g.M : Nat) : Int)) (.slice A nn C)) := Lib.hid (HP5.out.below HB6.out HP5.out.lt)
        have HB36 : Hid (Below w3.heap.size w3 W6) := Lib.hid (HBR.out.trans ((HB5.out.trans (HB6.out.mono HB5.out.size)).mono HBR.out.size))
        clear hq hW6 HP5 HB5 HB6 HCW HL5 HD5
        go_wp2
        go_loopw [7, 11] (fun v7 v11 wx => ∃ (c n : Nat) (S : Wn) (sh : List Nat) (O : Nat → Prop), v7 = .int .i64 ((c : Nat) : Int) ∧ v11 = .int .i64 ((sh.length : Nat) : Int) ∧ Hid (c ≤ (G - (i + 1)) * 8 + sh.length ∧ n ≤ (G - (i + 1)) * 8 + sh.length) ∧ Hid (Mid18 g G i n S sh) ∧ Hid (∀ x ∈ sh, x < nn) ∧ Hid (CW wx b w2.heap.size b O none S) ∧ Hid (¬ O p ∧ ¬ O q) ∧ Hid (B5 34 wx p (.int .u32 ((i : Nat) : Int)) (.int .u32 ((g.st i : Nat) : Int)) (.int .i64 ((g.kk i : Nat) : Int)) (.int .i64 ((g.M : Nat) : Int)) (.slice A nn C)) ∧ Hid (Cme wx q sh) ∧ Hid (Below w3.heap.size w3 wx)) (fun _ v11 _ => (g.kk i : Nat) - (intOf v11).toNat)
        case atStart => exact ⟨c, n, S, [], O, rfl, rfl, HCN, Lib.hid (.inl ⟨HNE.out.few, HNE.out⟩), Lib.hid (fun x hx => by cases hx), HCW6, HOO6, HP6, HQ0, HB36⟩
        case round =>
          clear HCW6 HOO6 HP6 HQ0 HB36 HNE HBR
          obtain ⟨c, n, S, sh, O, rfl, rfl, HCN2, HMI, HXS, HCW, HOO, HP, HQ, HBR⟩ := hrel
          obtain ⟨k0, k3, _, hic, hall⟩ := HF.out wr HBR.out
          obtain ⟨x0, x1, x2, x3, x4⟩ := HP.out.cells
          by_cases hlt : sh.length < g.kk i
          case neg =>
            have j6 : ¬ ((sh.length : Nat) : Int) < ((g.kk i : Nat) : Int) := by omega
            have HAF : Hid (After g G i n S ∧ sh.length = g.kk i) := Lib.hid (by
              rcases HMI.out with ⟨h1, _⟩ | ⟨h1, h2⟩
              · exact absurd h1 hlt
              · exact ⟨h2, h1⟩)
            go_wp2
            go_roundw
            case rel =>
              have h8 : (G - (i + 1)) * 8 + 8 = (G - i) * 8 := by omega
              exact ⟨i, c, n, S, O, rfl, rfl, rfl, by omega, Lib.hid (by have := HCN2.out; have := HAF.out.2; have := HK.out; omega), Lib.hid HAF.out.1, HCW, HBR⟩
            case measure => simp [intOf] <;> omega
          case pos =>
            have j6 : ((sh.length : Nat) : Int) < ((g.kk i : Nat) : Int) := by omega
            have HNR : Hid (Near g G i n S sh) := Lib.hid (by
              rcases HMI.out with ⟨_, h2⟩ | ⟨h1, _⟩
              · exact h2
              · omega)
            obtain ⟨bc, oc, rfl, hbc, hcc⟩ : ∃ b off, ac = some ⟨b, off, none⟩ ∧ b < wr.heap.size ∧ ∀ j, j < nc → wr.cell? ⟨b, off + j, none⟩ = some (.int .i64 (cz.getD j 0)) := hic.resolve_left (by omega)
            obtain ⟨cm, hcm⟩ : ∃ cm, cm = c % nc := ⟨_, rfl⟩
            have hcmlt : cm < nc := by rw [hcm]; exact Nat.mod_lt _ (by omega)
            have cz1 := hcc cm hcmlt
            obtain ⟨z, hz⟩ : ∃ z, z = cz.getD cm 0 := ⟨_, rfl⟩
            rw [← hz] at cz1
            have hcmod : ((c : Nat) : Int).tmod (nc : Int) = (cm : Int) := by rw [hcm]; rfl
            have hc300 : c ≤ 300 := by have := HCN2.out; have := HK.out; omega
            have hcw : IntKind.i64.wrap (cm : Int) = (cm : Int) := by rw [IntKind.wrap_i64]; have := HNC.out; omega
            have m1 : (0 : Int) ≤ (cm : Int) := by omega
            have m2 : (cm : Int) < (nc : Int) := by omega
            have hnn14 : nn ≤ 14 := by have := HNN.out; have := HK.out; omega
            have j4 : (0 : Int) < nn := by have := HNN.out; have := HK.out; omega
            have j5 : ¬ (nn : Int) = 0 := by omega
            have hr : IntKind.i64.wrap (z.tmod nn) = z.tmod nn := by
              have q1 := Int.tmod_lt_of_pos z j4
              have q2 := Int.lt_tmod_of_pos z j4
              rw [IntKind.wrap_i64]
              omega
            have q1 : z.tmod nn < nn := Int.tmod_lt_of_pos z j4
            have q2 : -(nn : Int) < z.tmod nn := Int.lt_tmod_of_pos z j4
            have HC300 := Lib.hid hc300
            clear hz hcc hic hcm hcmlt
            go_upto_region 16 with fail
            go_cut [12] from 47 to 91 (fun s12 wx => s12 = .int .i64 (z.tmod nn) ∧ Hid (Below wr.heap.size wr wx))
            case first =>
              have HBD : Hid (∀ k, Below wr.heap.size wr (wr.drewN k)) := Lib.hid (fun k => below_drewN18 (Below.refl _ _) k)
              go_quiet (fail)
              go_wp2_with fail
              go_meet
              exact ⟨rfl, Lib.hid (HBD.out _)⟩
            obtain ⟨rfl, HBD⟩ := hcut
            obtain ⟨k0', k3', hins', _, hall'⟩ := HF.out wc (HBR.out.trans (HBD.out.mono HBR.out.size))
            have HCWD : Hid (CW wc b w2.heap.size b O none S) := Lib.hid (HCW.out.below HBD.out)
            have HPD : Hid (B5 34 wc p (.int .u32 ((i : Nat) : Int)) (.int .u32 ((g.st i : Nat) : Int)) (.int .i64 ((g.kk i : Nat) : Int)) (.int .i64 ((g.M : Nat) : Int)) (.slice A nn C)) := Lib.hid (HP.out.below HBD.out HP.out.lt)
            have HQD : Hid (Cme wc q sh) := Lib.hid (HQ.out.keep (HBD.out.block q HQ.out.lt))
            have HBRD : Hid (Below w3.heap.size w3 wc) := Lib.hid (HBR.out.trans (HBD.out.mono HBR.out.size))
            clear x0 x1 x2 x3 x4 k0 k3 hall hins' k3' cz1 hr HCW HP HQ HBR HBD k0' hcw m1 m2 hcmod
            generalize z.tmod (nn : Int) = r at *
            obtain ⟨x0, x1, x2, x3, x4⟩ := HPD.out.cells
            obtain ⟨k, hk, hkz⟩ : ∃ k : Nat, k < nn ∧ ((r < 0 ∧ ((k : Nat) : Int) = r + nn) ∨ (¬ r < 0 ∧ ((k : Nat) : Int) = r)) := by
              by_cases hh : r < 0
              · exact ⟨(r + nn).toNat, by omega, .inl ⟨hh, by omega⟩⟩
              · exact ⟨r.toNat, by omega, .inr ⟨hh, by omega⟩⟩
            have p3 : r < 0 → IntKind.i64.wrap (r + nn) = r + nn := fun _ => by rw [IntKind.wrap_i64]; omega
            have hc300' : (c : Int) ≤ 300 := by omega
            have c0 : (0 : Int) ≤ c := by omega
            have j9 : ((sh.length : Nat) : Int) ≤ 8 := by have := HK.out; omega
            obtain ⟨f, hf, hfs⟩ := free18 (n := nn) (sh := sh) (by have := HNN.out; omega)
            have HFF : Hid (f < nn ∧ f ∉ sh) := Lib.hid ⟨hf, hfs⟩
            have HN14 : Hid (nn ≤ 14) := Lib.hid hnn14
            clear hf hfs
            have HSHW : Hid (Shs wc w1.heap.size (.slice A nn C) nn (g.by_ i)) := Lib.hid (by
              obtain ⟨el, h1, h2, h3⟩ := HEL.out
              obtain ⟨el2, g1, g2, g3⟩ := hall'.els i hiG2
              rw [h1] at g1
              cases g1
              rw [h2, h3, HNN.out]
              exact g3)
            clear hall'
            rcases hkz with ⟨p1, p2⟩ | ⟨p1, p2⟩
            all_goals
              (try have p4 := p3 p1)
              clear p3
              go_upto_region 20 with fail
              rw [← p2]
              clear p1 p2
              (try clear p4)
              clear q1 q2
              go_loopw [12] (fun v12 wx => ∃ x : Nat, v12 = .int .i64 ((x : Nat) : Int) ∧ x < nn ∧ wx = wc) (fun v12 _ => (f + nn - (intOf v12).toNat) % nn)
              case atStart => exact ⟨k, rfl, hk, rfl⟩
              case round =>
                clear hk
                obtain ⟨x, rfl, hx, hwx⟩ := hrel
                rw [hwx]
                have z1 : ((x : Nat) : Int) < nn := by omega
                have z2 : (0 : Int) ≤ ((x : Nat) : Int) := by omega
                have z3 : ((x : Nat) : Int) < 32 := by omega
                have z4 : x < 32 := by omega
                have cx := HQD.out.cell z4
                have fx := HQD.out.frozen x
                have HX := Lib.hid hx
                have HWX := Lib.hid hwx
                clear hwx hx
                by_cases hin : x ∈ sh
                · have HMS : Hid ((f + nn - (x + 1) % nn) % nn < (f + nn - x) % nn) := Lib.hid (cyc18 HX.out HFF.out.1 (fun e => HFF.out.2 (e ▸ hin)))
                  have hd : decide (x ∈ sh) = true := decide_eq_true hin
                  rw [hd] at cx
                  have z5 : (((x : Nat) : Int) + 1).tmod (nn : Int) = (((x + 1) % nn : Nat) : Int) := rfl
                  have z6 : IntKind.i64.wrap (((x + 1) % nn : Nat) : Int) = (((x + 1) % nn : Nat) : Int) := by
                    have := Nat.mod_lt (x + 1) (show 0 < nn by omega)
                    rw [IntKind.wrap_i64]; omega
                  clear hin
                  go_wp2
                  go_roundw
                  case rel => exact ⟨(x + 1) % nn, rfl, Nat.mod_lt _ (by omega), trivial⟩
                  case measure => exact HMS.out
                · have hd : decide (x ∈ sh) = false := decide_eq_false hin
                  rw [hd] at cx
                  have HIN := Lib.hid hin
                  clear hin
                  go_upto_region 23 with fail
                  obtain ⟨w6, hw6⟩ : ∃ w6, w6 = wc.setCell ⟨q, x, none⟩ (.bool true) := ⟨_, rfl⟩
                  rw [← hw6]
                  have hpq : p ≠ q := by have := HQQ.out; omega
                  have hk6 : ∀ k0, k0 ≠ q → w6.heap[k0]? = wc.heap[k0]? := fun k0 h0 => by rw [hw6]; exact Below.heap_setCell wc ⟨q, x, none⟩ _ k0 h0
                  have hs6 : w6.heap.size = wc.heap.size := by rw [hw6]; simp
                  have HP6 : Hid (B5 34 w6 p (.int .u32 ((i : Nat) : Int)) (.int .u32 ((g.st i : Nat) : Int)) (.int .i64 ((g.kk i : Nat) : Int)) (.int .i64 ((g.M : Nat) : Int)) (.slice A nn C)) := Lib.hid (HPD.out.keep (hk6 p hpq))
                  have HQ6 : Hid (Cme w6 q (sh ++ [x])) := Lib.hid (by rw [hw6]; exact HQD.out.set z4)
                  have HB6 : Hid (Below w3.heap.size w3 w6) := Lib.hid (by rw [hw6]; exact HBRD.out.setCell (p := ⟨q, x, none⟩) (by show w3.heap.size ≤ q; have := HQQ.out; have := HBB.out; omega) _)
                  have HCW6 : Hid (CW w6 b w2.heap.size b O none S) := Lib.hid (CW.keepO HCWD.out (by rw [hs6]; exact Nat.le_refl _) (fun k0 hk0 => hk6 k0 (fun e => HOO.out.2 (e ▸ hk0))) (hk6 _ (fun e => by have := HCWD.out.tb; have := HQQ.out; omega)) (fun g2 cur hg2 => hk6 g2 (fun e => by
                    obtain ⟨C2, h1, _⟩ := HQD.out
                    rw [e, h1] at hg2
                    cases hg2)))
                  have HSH6 : Hid (Shs w6 w1.heap.size (.slice A nn C) nn (g.by_ i)) := Lib.hid (HSHW.out.keep (fun k0 C2 t hk0 ht => hk6 k0 (fun e => by
                    obtain ⟨C3, h1, _⟩ := HQD.out
                    rw [e, h1] at hk0
                    have h2 := Option.some.inj hk0
                    injection h2 with _ h3 _
                    rw [← h3] at ht
                    rcases ht with h4 | h4 <;> exact absurd h4 (by decide))))
                  have HLX : Hid (Lies w6 p 0 #[.int .u32 ((i : Nat) : Int), .int .u32 ((g.st i : Nat) : Int), .int .i64 ((g.kk i : Nat) : Int), .int .i64 ((g.M : Nat) : Int), .slice A nn C]) := Lib.hid HP6.out.lies18
                  have HD5 : Hid ((Try.prog.info? 34).map (·.size) = some (#[.int .u32 ((i : Nat) : Int), .int .u32 ((g.st i : Nat) : Int), .int .i64 ((g.kk i : Nat) : Int), .int .i64 ((g.M : Nat) : Int), .slice A nn C] : Array Value).size) := Lib.hid (by show _ = some 5; kernel_rfl)
                  obtain ⟨rb, rA, _, hb, hnC, _, _, _, gb, ob, cb, hcell, hc2, hcm2, hrw⟩ := HSH6.out.cp.at_ x HX.out
                  obtain ⟨e, he⟩ : ∃ e, e = El.mk i x gb ob cb := ⟨_, rfl⟩
                  obtain ⟨ds, hds⟩ : ∃ ds, ds = El.cells g e := ⟨_, rfl⟩
                  have hei : e.i = i := by rw [he]
                  have hex : e.x = x := by rw [he]
                  have HDG : Hid (Calls Try.prog 16 #[.agg #[.int .u32 ((i : Nat) : Int), .int .u32 ((g.st i : Nat) : Int), .int .i64 ((g.kk i : Nat) : Int), .int .i64 ((g.M : Nat) : Int), .slice A nn C], .int .i64 ((x : Nat) : Int)] w6 fun e w' => e = .returned (.agg ds) ∧ Hid (Below w6.heap.size w6 w')) := Lib.hid (by
                    rw [hds, he]
                    have h := rdg_any (i : Nat) (g.st i : Nat) (g.kk i : Nat) (g.M : Nat) A nn C x rb 0 gb ob cb w6 hnC (by have := HN14.out; omega) HX.out rA (by rw [Nat.zero_add]; exact hcell) hb
                    exact h)
                  have hmn := Mid18.next (e := e) HNR.out HOK.out HG.out.1 HZG.out hei (by rw [hex, ← HNN.out]; exact HX.out) (by rw [hex]; exact HIN.out)
                  have HTK : Hid (∀ u, Below w6.heap.size w6 u → Calls Try.prog 20 #[.pointer (some ⟨b, 0, none⟩), .agg ds] u fun e' w' => e' = .returned (.int .i64 0) ∧ Hid (CW w' b w2.heap.size b (OO O u w') none (S.take (e.cd g))) ∧ Hid (FrO O u w')) := Lib.hid (fun u hu => by
                    rw [hds]
                    have hok : e.ok g G u := ⟨by rw [hei]; exact hiG2, by rw [hei, hex, ← HNN.out]; exact HX.out, by rw [he]; exact hc2, by rw [he]; exact hcm2, by rw [he]; exact hrw.below hu (Nat.le_refl _)⟩
                    have h9 := g.st_mono (Nat.le_of_lt hiG2)
                    refine (dg_take18 HOK.out hok HG.out.1 (HCW6.out.below hu) HNR.out.ok (by have := HCN2.out; have := HK.out; have := HG.out.1; omega) HNR.out.stuck (by rw [hei]; have := HG.out.2.1; have := HNI.out; omega)).mono fun e' w' h => ?_
                    exact ⟨by rw [h.1, hmn.1], h.2.1, h.2.2⟩)
                  have HMN : Hid (Mid18 g G i (n + 1) (S.take (e.cd g)) (sh ++ [x])) := Lib.hid (by rw [← hex]; exact hmn.2)
                  generalize S.take (e.cd g) = S2 at *
                  clear hmn hei hex he hds hb hnC hcell hc2 hcm2 hrw rA hk6 hs6 hpq hw6 x0 x1 x2 x3 x4 cx fx hd
                  go_wp2_with (first
                    | (with_reducible refine wpList_load_lies rfl 34 (.tmp 9) rfl p 0 rfl #[.int .u32 ((i : Nat) : Int), .int .u32 ((g.st i : Nat) : Int), .int .i64 ((g.kk i : Nat) : Int), .int .i64 ((g.M : Nat) : Int), .slice A nn C] HLX.out _ Try.underlying34 rfl HD5.out ?_)
                    | (go_at_call 16; (with_reducible refine HDG.out.mono ?_); rintro e' w7 ⟨rfl, HB7⟩)
                    | (go_at_call 20; (with_reducible refine (HTK.out w7 HB7.out).mono ?_); rintro e' w8 ⟨rfl, HC8, HF8⟩)
                    | fail "arm23")
                  go_roundw
                  case rel =>
                    have hlp := HP6.out.lt
                    have hlq := HQ6.out.lt
                    have h67 := HB7.out.size
                    refine ⟨c + 1, n + 1, S2, sh ++ [x], OO O w7 w8, by go_num, by rw [List.length_append]; rfl, Lib.hid (by rw [List.length_append, List.length_singleton]; have := HCN2.out; omega), HMN, Lib.hid (fun y hy => ?_), HC8, Lib.hid ⟨?_, ?_⟩, Lib.hid ?_, Lib.hid ?_, Lib.hid ?_⟩
                    · rcases List.mem_append.1 hy with h1 | h1
                      · exact HXS.out y h1
                      · rw [List.mem_singleton] at h1
                        rw [h1]
                        exact HX.out
                    · rintro (h1 | h1)
                      · exact HOO.out.1 h1
                      · omega
                    · rintro (h1 | h1)
                      · exact HOO.out.2 h1
                      · omega
                    · exact (HP6.out.below HB7.out hlp).keep (HF8.out.block p (by omega) HOO.out.1)
                    · exact (HQ6.out.keep (HB7.out.block q hlq)).keep (HF8.out.block q (by omega) HOO.out.2)
                    · exact HF8.out.bel (HB6.out.trans (HB7.out.mono HB6.out.size)) (Nat.le_trans HB6.out.size HB7.out.size) (fun k0 hk0 => by rw [← HBB.out]; exact (HCWD.out.own k0 hk0).1)
                  case measure => have := HK.out; simp [intOf] <;> omega
end Go.Proofs.Ytjcbcdjfhcnhcaa
namespace Go.Proofs.Ytjcbcdjfhcnhcaa
open Go.ChangeShapes Go.WideShapes Go.ChangeAt Go.RowKit Go.Deep
theorem enough18_walk (ai : Option Addr) (ni ci : Nat) (Z : List Int) (az : Option Addr) (ns cs : Nat) (zs : List Int) (M : Int) (ac : Option Addr) (nc cc : Nat) (cz : List Int) (w : World) (h0 : IsRow .u16 w ai ni ci Z) (h1 : IsRow .i64 w az ns cs zs) (h2 : IsRow .i64 w ac nc cc cz) :
    Calls Try.prog 6 #[.agg #[.slice ai ni ci, .slice az ns cs, .int .i64 M, .slice ac nc cc]] w fun e w' => e = .returned (.bool true) ∧ Below w.heap.size w w' := by
  obtain ⟨q1, q2⟩ := row_ins18 h0
  have c1 := isrow_cap18 h1
  have c2 := isrow_cap18 h2
  exact enough18 (Z.take ni) zs cz M ai az ac ni ci ns cs nc cc w q1 (isrow_cap18 h0) (isrow_ints18 h1) (isrow_ints18 h2) q2 (by omega) (by omega)
end Go.Proofs.Ytjcbcdjfhcnhcaa
