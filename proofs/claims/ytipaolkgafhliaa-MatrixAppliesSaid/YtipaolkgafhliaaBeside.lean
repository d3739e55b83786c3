/-
  Own text: beside, walked.
-/
import Derived.Test.YtipaolkgafhliaaIdent
import Derived.Deep.RegionLaw
namespace Go.Proofs.Ytipaolkgafhliaa
open Go.RowKit

/-- A copy of bytes, as one step of a region that draws. -/
theorem step_copy_dat {w : World} {ops : Array Oper} {o : Oper} {a : Act} {K : Act → World → Prop} {Q : Exit → Act → World → Prop} {E : Prop} (hgd : o.guard = none) (d s : Operand)
    (ho : o.op = .call { callee := .builtin .copy, args := #[d, s], argTypes := #[22, 22] })
    (dp sp : Option Addr) (dLen dCap sLen sCap : Nat) (hd : a.eval d = .slice dp dLen dCap) (hs : a.eval s = .slice sp sLen sCap)
    (g off n : Nat) (Z : List Int) (hg : Dat w g n Z) (l : List Int) (hl : Bytes w sp sLen l) (hk : sLen ≤ dLen) (hpos : 0 < sLen → dp = some ⟨g, off, none⟩) (hfit : off + sLen ≤ n)
    (h : ∀ w', Dat w' g n (splice Z off l) → w.grownBy w' (some g) → K (a.put o.dst (goInt sLen)) w') :
    if Region.wanted o (yielded ops a.tmps) = true then Oper.wp Try.prog o a w K Q else E := by
  have hw : Region.wanted o (yielded ops a.tmps) = true := by simp [Region.wanted, hgd]
  rw [if_pos hw]
  have sl := hl.size
  have hZ := hg.size
  have hmin : Nat.min sLen dLen = sLen := Nat.min_eq_left hk
  have hby : By (splice Z off l) := fun z hz => by
    unfold splice at hz
    rcases List.mem_append.1 hz with g1 | g1
    · exact hg.by_ z (List.mem_of_mem_take g1)
    · rcases List.mem_append.1 g1 with g2 | g2
      · exact hl.range z g2
      · exact hg.by_ z (List.mem_of_mem_drop g2)
  by_cases h0 : sLen = 0
  · obtain rfl : l = [] := List.eq_nil_of_length_eq_zero (by omega)
    have hrun := run_copy_none (P := Try.prog) w 22 22 o.type 5 dp sp dLen dCap sLen sCap Try.underlying22 (by kernel_rfl) (by rw [hmin]; exact h0)
    unfold Oper.wp
    simp [execOp, ho, resolve, invoke, builtin, hd, hs, hrun, Result.andThen]
    have := h w (by simpa [splice] using hg) (grown_refl w _)
    rw [h0] at this
    exact this
  · obtain ⟨cur, hc, hn, ht⟩ := hg.mem
    obtain rfl := hpos (by omega)
    rcases hl.cell with h1 | ⟨_, b, p, rfl, _, hcs⟩
    · exact absurd h1 h0
    have ecs : (l.map (Value.int .u8)).length = sLen := by rw [List.length_map, sl]
    have hrun := run_copy_row (P := Try.prog) w 22 22 o.type 5 g off dLen dCap ⟨b, p, none⟩ sLen sCap cur.toArray 5 (l.map (Value.int .u8)) Try.underlying22 (by kernel_rfl) hc (by rw [ecs, hmin]) (fun j v hv => by
      have hj : j < sLen := by
        rcases Nat.lt_or_ge j sLen with g | g
        · exact g
        · rw [List.getElem?_eq_none (by rw [ecs]; exact g)] at hv; simp at hv
      rw [add_any, hcs j hj, ← hv, List.getElem?_map, List.getD_eq_getElem?_getD, List.getElem?_eq_getElem (by omega)]
      rfl) (by rw [ecs]; simp; omega) (fun v hv => by
      obtain ⟨z, _, rfl⟩ := List.mem_map.1 hv
      rfl)
    have hrow : (cur.toArray.toList.take off ++ l.map (Value.int .u8) ++ cur.toArray.toList.drop (off + (l.map (Value.int .u8)).length)).toArray = (splice cur off (l.map (Value.int .u8))).toArray := by unfold splice; rw [List.append_assoc]
    rw [hrow, ecs] at hrun
    have hK := h (w.setRow g (splice cur off (l.map (Value.int .u8))).toArray) ⟨hby, by rw [length_splice _ _ _ (by omega)]; exact hZ, splice cur off (l.map (Value.int .u8)), setRow_heap w g _ _ 5 (0, 0) hc, by rw [length_splice _ _ _ (by rw [ecs]; omega)]; exact hn, by rw [splice_take _ _ _ _ (by rw [ecs]; omega), ht, map_splice]⟩ ⟨rfl, rfl, rfl, by simp [World.setRow], fun k _ hk => setRow_other w g k _ (fun e => hk (by rw [e]))⟩
    generalize (splice cur off (l.map (Value.int .u8))).toArray = row at hrun hK
    unfold Oper.wp
    simp [execOp, ho, resolve, invoke, builtin, hd, hs, hrun, Result.andThen]
    exact hK
theorem Bytes.part {w : World} {a : Option Addr} {N : Nat} {l : List Int} (h : Bytes w a N l) (o m : Nat) (ho : o + m ≤ N) : Bytes w (onA a o) m (seg l o m) := by
  have hs := h.size
  have hm := h.max
  refine ⟨seg_length l o m (by omega), by omega, fun i hi => by rw [seg_get l o m i hi]; exact h.byte _ (by omega), ?_⟩
  by_cases h0 : m = 0
  · exact .inl h0
  · rcases h.cell with g | ⟨_, b, off, rfl, hb, hc⟩
    · omega
    · refine .inr ⟨by omega, b, off + o, onA_at b off o, hb, fun i hi => ?_⟩
      rw [seg_get l o m i hi, Nat.add_assoc]
      exact hc _ (by omega)
theorem Bytes.by_ {w : World} {a : Option Addr} {N : Nat} {l : List Int} (h : Bytes w a N l) : By l := h.range
theorem Bytes.grown {w w' : World} {a : Option Addr} {N : Nat} {l : List Int} {row : Option Nat} (h : Bytes w a N l) (hb : w.grownBy w' row) (hr : ∀ b off, a = some ⟨b, off, none⟩ → some b ≠ row) : Bytes w' a N l :=
  ⟨h.size, h.max, h.byte, h.cell.imp id fun ⟨h0, b, off, e, hl, hc⟩ => ⟨h0, b, off, e, Nat.lt_of_lt_of_le hl hb.size, fun i hi => hb.cell (a := ⟨b, off + i, none⟩) (hc i hi) (hr b off e)⟩⟩
theorem beside_step {n W q j : Nat} {la lb lc : List Int} (hW : W = n + n) (hq : q = n * W) (hA : la.length = n * n) (hB : lb.length = n * n) (hl : lc.length = q) (hj : j < n)
    (h : ∀ i k, i < n → k < W → co lc (i * W + k) = if i < j then (if k < n then co la (i * n + k) else co lb (i * n + (k - n))) else 0) :
    ∀ i k, i < n → k < W → co (splice (splice lc (j * W) (seg la (j * n) n)) (j * W + n) (seg lb (j * n) n)) (i * W + k) = if i < j + 1 then (if k < n then co la (i * n + k) else co lb (i * n + (k - n))) else 0 := by
  intro i k hi hk
  have f1 : j * n + n ≤ n * n := by have := spot_lt hj (show n - 1 < n by omega); omega
  have f2 : j * W + W ≤ q := by have := spot_lt hj (show W - 1 < W by omega); omega
  have e1 : (seg la (j * n) n).length = n := seg_length _ _ _ (by omega)
  have e2 : (seg lb (j * n) n).length = n := seg_length _ _ _ (by omega)
  have e3 : (splice lc (j * W) (seg la (j * n) n)).length = lc.length := length_splice _ _ _ (by omega)
  rw [splice_co _ _ _ _ (by omega), splice_co _ _ _ _ (by omega), e1, e2]
  by_cases e : i = j
  · subst e
    by_cases g : k < n
    · rw [if_neg (by omega), if_pos (by omega), if_pos (by omega), if_pos g, seg_co _ _ _ _ (by omega), show i * n + (i * W + k - i * W) = i * n + k by omega]
    · rw [if_pos (by omega), if_pos (by omega), if_neg g, seg_co _ _ _ _ (by omega), show i * n + (i * W + k - (i * W + n)) = i * n + (k - n) by omega]
  · have hap := (laid_rows n W q (by omega)).apart i j hi hj e
    rw [if_neg (by omega), if_neg (by omega), h i k hi hk]
    by_cases g : i < j
    · rw [if_pos g, if_pos (show i < j + 1 by omega)]
    · rw [if_neg g, if_neg (show ¬ i < j + 1 by omega)]
/-- Two matrices as wide as high, beside each other. -/
def Besided (n : Nat) (la lb : List Int) (w : World) (e : Ending) (w' : World) : Prop :=
  ∃ h g l, e = .returned (.slice (some ⟨h, 0, none⟩) n n) ∧ w.heap.size ≤ g ∧ g < h ∧ Lst w' h n (n + n) (fun i => some ⟨g, i * (n + n), none⟩) ∧ Dat w' g (n * (n + n)) l ∧
    (∀ i k, i < n → k < n + n → co l (i * (n + n) + k) = if k < n then co la (i * n + k) else co lb (i * n + (k - n))) ∧ Below w.heap.size w w'
set_option maxRecDepth 100000 in
set_option maxHeartbeats 4000000 in
theorem beside_any (n : Nat) (hn : n ≤ 255) (aA aB : Option Addr) (ca cb : Nat) (la lb : List Int) (w : World) (ha : Sl w aA (n * n) ca la) (hb : Sl w aB (n * n) cb lb) :
    Calls Try.prog 44 #[.agg #[.int .i64 n, .int .i64 n, .slice aA ((n * n : Nat)) ca], .agg #[.int .i64 n, .int .i64 n, .slice aB ((n * n : Nat)) cb]] w (Besided n la lb w) := by
  have hm : n * n ≤ 65025 := Nat.mul_le_mul hn hn
  have hq2 : n * (n + n) ≤ 130050 := by rw [Nat.mul_add]; omega
  have HPA := Lib.hid (parts_any aA (n * n) ca n n (by omega) ha.cap (Nat.le_refl _) (by omega) ha.nilc)
  have HPB := Lib.hid (parts_any aB (n * n) cb n n (by omega) hb.cap (Nat.le_refl _) (by omega) hb.nilc)
  have HYA := Lib.hid ha.bytes
  have HYB := Lib.hid hb.bytes
  obtain ⟨W, hW⟩ : ∃ W, W = n + n := ⟨_, rfl⟩
  have HWW := Lib.hid hW
  have hWi : (n : Int) + n = W := by omega
  unfold Besided
  rw [← hW] at hq2 ⊢
  obtain ⟨q, hq⟩ : ∃ q, q = n * W := ⟨_, rfl⟩
  have HQQ := Lib.hid hq
  have hqi : (n : Int) * W = q := by rw [hq]; omega
  rw [← hq] at hq2 ⊢
  have HCU := Lib.hid (fun (x : Addr) => cut_some x q q n W (by omega) (Nat.le_refl _) (by omega) (by omega))
  have hmk := fun w => run_make_row' (P := Try.prog) 22 5 (.int .u8 0) 1 Try.underlying22 info_u8 rfl .i64 .i64 q (by omega) (by omega) w
  have HM := Lib.hid (fun w b => made_row' w q 5 b)
  generalize madeCells #[Value.int .u8 0] q = M at *
  obtain ⟨m, hmm⟩ : ∃ m, n * n = m := ⟨_, rfl⟩
  have HMM := Lib.hid hmm
  rw [hmm] at hm HPA HPB HYA HYB ⊢
  clear hmm hW hq ha hb
  have h1 : W ≤ 510 := by have := HWW.out; omega
  have hwq : IntKind.i64.wrap (q : Int) = q := IntWalk.i64_in _ (by omega)
  go_enter Try.func44, Try.ntmps44
  go_wp2
  have HX2 : Hid (Bx ((w.alloc (.cells #[.int .i64 n, .int .i64 n, .slice aA m ca] 24)).alloc (.cells #[.int .i64 n, .int .i64 n, .slice aB m cb] 24)) w.heap.size (.int .i64 n) (.int .i64 n) (.slice aA m ca)) := Lib.hid (alloc_two _ _ _ _)
  have HX3 : Hid (Bx ((w.alloc (.cells #[.int .i64 n, .int .i64 n, .slice aA m ca] 24)).alloc (.cells #[.int .i64 n, .int .i64 n, .slice aB m cb] 24)) (w.heap.size + 1) (.int .i64 n) (.int .i64 n) (.slice aB m cb)) := Lib.hid (alloc_last _ _ _ _)
  have HB0 : Hid (Below w.heap.size w ((w.alloc (.cells #[.int .i64 n, .int .i64 n, .slice aA m ca] 24)).alloc (.cells #[.int .i64 n, .int .i64 n, .slice aB m cb] 24))) := Lib.hid (by go_grown)
  generalize (w.alloc (.cells #[.int .i64 n, .int .i64 n, .slice aA m ca] 24)).alloc (.cells #[.int .i64 n, .int .i64 n, .slice aB m cb] 24) = w0 at *
  have HL2 : Hid (w.heap.size < w0.heap.size ∧ w.heap.size + 1 < w0.heap.size) := Lib.hid ⟨HX2.out.lt, HX3.out.lt⟩
  have HS1 : Hid (∀ w', Below w0.heap.size w0 w' → Below w0.heap.size w0 w' ∧ w'.cell? ⟨w.heap.size, 0, none⟩ = some (.int .i64 (n : Int))) :=
    Lib.hid (fun w' h => ⟨h, (HX2.out.below h HL2.out.1).cells.1⟩)
  go_region_held3 (fun w' => Below w0.heap.size w0 w' ∧ w'.cell? ⟨w.heap.size, 0, none⟩ = some (.int .i64 (n : Int)))
    (first
      | exact HS1.out _ (Below.refl _ _)
      | exact HS1.out _ (Below.refl _ _).drew
      | exact HS1.out _ ((Below.refl _ _).drew.alloc (Nat.le_refl _) _)
      | exact HS1.out _ (((Below.refl _ _).drew.alloc (Nat.le_refl _) _).trans (hb1.mono (Nat.le_of_lt (alloc_lt _ _))))
      | exact HS1.out _ ((Below.refl _ _).alloc (Nat.le_refl _) _).drew
      | exact HS1.out _ (((Below.refl _ _).alloc (Nat.le_refl _) _).drew.trans (hb1.mono (Nat.le_of_lt (alloc_lt _ _)))))
    (first
      | (go_at_call 50; refine (HCU.out _ _).mono ?_; rintro e w1 ⟨h, rfl, hh1, hl1, hb1⟩))
  have HB1 : Hid (Below w0.heap.size w0 w1) := Lib.hid (((Below.refl _ _).alloc (Nat.le_refl _) _).drew.trans (hb1.mono (Nat.le_of_lt (alloc_lt _ _))))
  have HO1 : Hid (w.heap.size + 1 < w0.heap.size ∧ w0.heap.size < h ∧ h < w1.heap.size) := Lib.hid ⟨HL2.out.2, Nat.lt_of_lt_of_le (alloc_lt _ _) hh1, hl1.lt⟩
  have HD1 : Hid (Dat w1 w0.heap.size q (List.replicate q 0)) := Lib.hid (by
    have := (HM.out w0 w0.heap.size rfl).dat (by_zero q)
    rw [List.length_replicate] at this
    have this2 : Dat (w0.alloc (.cells M 5)).drew w0.heap.size q (List.replicate q 0) := this.keep rfl
    exact this2.below hb1 this.lt)
  have HL1 : Hid (Lst w1 h n W (fun i => some ⟨w0.heap.size, i * W, none⟩)) := Lib.hid (World.rowIs.congr hl1 (fun i _ => by dsimp only; rw [onA_at, Nat.zero_add]))
  have HX21 := Lib.hid (HX2.out.below HB1.out HL2.out.1)
  have HX31 := Lib.hid (HX3.out.below HB1.out HL2.out.2)
  have HB01 : Hid (Below w.heap.size w w1) := Lib.hid (HB0.out.trans (HB1.out.mono (Nat.le_of_lt HL2.out.1)))
  rename_i hHeld1
  clear hl1 hb1 hh1 hHeld1 HM HB1 HX2 HX3 HS1 HB0 HL2 hmk
  generalize w0.heap.size = g at *
  have HS2 : Hid (∀ w', Below w1.heap.size w1 w' → Below w1.heap.size w1 w' ∧ w'.cell? ⟨w.heap.size, 0, none⟩ = some (.int .i64 (n : Int)) ∧ w'.cell? ⟨w.heap.size, 1, none⟩ = some (.int .i64 (n : Int)) ∧ w'.cell? ⟨w.heap.size, 2, none⟩ = some (.slice aA m ca) ∧
      w'.cell? ⟨w.heap.size + 1, 0, none⟩ = some (.int .i64 (n : Int)) ∧ w'.cell? ⟨w.heap.size + 1, 1, none⟩ = some (.int .i64 (n : Int)) ∧ w'.cell? ⟨w.heap.size + 1, 2, none⟩ = some (.slice aB m cb)) :=
    Lib.hid (fun w' h => ⟨h, (HX21.out.below h HX21.out.lt).cells.1, (HX21.out.below h HX21.out.lt).cells.2.1, (HX21.out.below h HX21.out.lt).cells.2.2.1, (HX31.out.below h HX31.out.lt).cells.1, (HX31.out.below h HX31.out.lt).cells.2.1, (HX31.out.below h HX31.out.lt).cells.2.2.1⟩)
  go_wp2
  go_region_held3 (fun w' => Below w1.heap.size w1 w' ∧ w'.cell? ⟨w.heap.size, 0, none⟩ = some (.int .i64 (n : Int)) ∧ w'.cell? ⟨w.heap.size, 1, none⟩ = some (.int .i64 (n : Int)) ∧ w'.cell? ⟨w.heap.size, 2, none⟩ = some (.slice aA m ca) ∧
      w'.cell? ⟨w.heap.size + 1, 0, none⟩ = some (.int .i64 (n : Int)) ∧ w'.cell? ⟨w.heap.size + 1, 1, none⟩ = some (.int .i64 (n : Int)) ∧ w'.cell? ⟨w.heap.size + 1, 2, none⟩ = some (.slice aB m cb))
    (first
      | exact HS2.out _ (Below.refl _ _)
      | exact HS2.out _ (Below.refl _ _).drew
      | exact HS2.out _ (((Below.refl _ _).drew.trans hb2).trans (hb3.mono hb2.size))
      | exact HS2.out _ ((Below.refl _ _).drew.trans hb2))
    (first
      | (go_at_call 39; (with_reducible refine (HPA.out _).mono ?_); rintro e w2 ⟨hA, rfl, hhA, hlA, hb2⟩)
      | (go_at_call 39; (with_reducible refine (HPB.out _).mono ?_); rintro e w3 ⟨hB, rfl, hhB, hlB, hb3⟩))
  have HB13 : Hid (Below w1.heap.size w1 w3) := Lib.hid (((Below.refl _ _).drew.trans hb2).trans (hb3.mono hb2.size))
  have HO3 : Hid (h < hA ∧ hA < hB) := Lib.hid ⟨Nat.lt_of_lt_of_le HO1.out.2.2 hhA, Nat.lt_of_lt_of_le hlA.lt hhB⟩
  have HLh := Lib.hid (HL1.out.below HB13.out HO1.out.2.2)
  have HLa := Lib.hid (hlA.below hb3 hlA.lt)
  have HLb := Lib.hid hlB
  have HD3 := Lib.hid (HD1.out.below HB13.out (Nat.lt_trans HO1.out.2.1 HO1.out.2.2))
  have HB3 : Hid (Below w.heap.size w w3) := Lib.hid (HB01.out.trans (HB13.out.mono HB01.out.size))
  have HYA3 := Lib.hid (HYA.out.below HB3.out (Nat.le_refl _))
  have HYB3 := Lib.hid (HYB.out.below HB3.out (Nat.le_refl _))
  have HOW : Hid ((∀ b off, aA = some ⟨b, off, none⟩ → 0 < m → some b ≠ some g) ∧ ∀ b off, aB = some ⟨b, off, none⟩ → 0 < m → some b ≠ some g) := Lib.hid (by
    refine ⟨fun b off e hm0 e2 => ?_, fun b off e hm0 e2 => ?_⟩
    · rcases HYA.out.cell with h0 | ⟨_, b', off', e', hl, _⟩
      · omega
      · rw [e] at e'; cases e'; cases e2; have := HO1.out.1; omega
    · rcases HYB.out.cell with h0 | ⟨_, b', off', e', hl, _⟩
      · omega
      · rw [e] at e'; cases e'; cases e2; have := HO1.out.1; omega)
  have HG0 := Lib.hid (grown_refl w3 (some g))
  clear hhA hlA hb2 hhB hlB hb3 HL1 HD1 HX21 HX31 HS2 HPA HPB HCU
  go_wp2
  go_loopw [9, 10, 31] (fun _ _ i wr => ∃ (j : Nat) (lc : List Int), j ≤ n ∧ i = .int .i64 (j : Nat) ∧ Hid (Dat wr g q lc) ∧ Hid (∀ i k, i < n → k < W → co lc (i * W + k) = if i < j then (if k < n then co la (i * n + k) else co lb (i * n + (k - n))) else 0) ∧ Hid (w3.grownBy wr (some g))) (fun _ _ i _ => n - (intOf i).toNat)
  case atStart => exact ⟨0, _, by omega, rfl, HD3, Lib.hid (fun i k _ _ => by rw [co_zero, if_neg (by omega)]), HG0⟩
  case round =>
    obtain ⟨j, lc, hj, rfl, HDj, HCj, HGj⟩ := hrel
    obtain ⟨wo, ho⟩ : ∃ wo, wo = wr := ⟨_, rfl⟩
    subst ho
    by_cases hlt : j < n
    · have ch := (HLh.out.grown HGj.out (fun e => by have := HO1.out; cases e; omega)).cell j hlt
      have ca1 := (HLa.out.grown HGj.out (fun e => by have := HO1.out; have := HO3.out; cases e; omega)).cell j hlt
      have cb1 := (HLb.out.grown HGj.out (fun e => by have := HO1.out; have := HO3.out; cases e; omega)).cell j hlt
      have hm0 : 0 < m := by rw [← HMM.out]; exact Nat.mul_pos (by omega) (by omega)
      have HSA : Hid (Bytes wo (onA aA (j * n)) n (seg la (j * n) n)) := Lib.hid ((HYA3.out.grown HGj.out (fun b off e => HOW.out.1 b off e hm0)).part (j * n) n (by have := spot_lt hlt (show n - 1 < n by omega); rw [HMM.out] at this; omega))
      have HSB : Hid (∀ w4, w3.grownBy w4 (some g) → Bytes w4 (onA aB (j * n)) n (seg lb (j * n) n)) := Lib.hid (fun w4 hw4 => (HYB3.out.grown hw4 (fun b off e => HOW.out.2 b off e hm0)).part (j * n) n (by have := spot_lt hlt (show n - 1 < n by omega); rw [HMM.out] at this; omega))
      have hW := HWW.out
      have fq : j * W + W ≤ q := by have := spot_lt hlt (show W - 1 < W by omega); rw [← HQQ.out] at this; omega
      have HF1 : Hid (j * W + n ≤ q ∧ j * W + n + n ≤ q ∧ n ≤ W ∧ n ≤ W - n) := Lib.hid (by omega)
      have HDd : Hid (Dat wo.drew g q lc) := Lib.hid (HDj.out.keep rfl)
      have HGd : Hid (w3.grownBy wo.drew (some g)) := Lib.hid (grown_drew HGj.out 1)
      have hcut : ¬ W = n := by omega
      have hcut1 : (n : Int) ≤ W := by omega
      have hcut0 : (0 : Int) ≤ n := by omega
      clear hW fq hWi
      go_wp2
      go_region_law (first
        | (refine step_copy_dat (w := wo.drew) rfl (.tmp 37) (.tmp 41) rfl (some ⟨g, j * W, none⟩) (onA aA (j * n)) W W n n rfl rfl g (j * W) q lc HDd.out (seg la (j * n) n) HSA.out.drew HF1.out.2.2.1 (fun _ => rfl) HF1.out.1 ?_; intro w4 hd4 hw4; have cb2 := (HLb.out.grown (grown_trans HGd.out hw4) (fun e => by have := HO1.out; have := HO3.out; cases e; omega)).cell j hlt)
        | (refine step_copy_dat (w := w4) rfl (.tmp 43) (.tmp 47) rfl (some ⟨g, j * W + n, none⟩) (onA aB (j * n)) (W - n) (W - n) n n rfl rfl g (j * W + n) q _ hd4 (seg lb (j * n) n) (HSB.out w4 (grown_trans HGd.out hw4)) HF1.out.2.2.2 (fun _ => rfl) HF1.out.2.1 ?_; intro w5 hd5 hw5))
      all_goals
        have HD5 := Lib.hid hd5
        have HG5 := Lib.hid (grown_trans (grown_trans HGd.out hw4) hw5)
        clear hd4 hw4 hd5 hw5 cb2
        go_wp2
        go_roundw
        case rel => exact ⟨j + 1, _, by omega, by go_num, HD5, Lib.hid (beside_step HWW.out HQQ.out (HYA.out.size.trans HMM.out.symm) (HYB.out.size.trans HMM.out.symm) HDj.out.size hlt HCj.out), HG5⟩
        case measure => simp [intOf]; omega
    · obtain rfl : j = n := by omega
      go_wp2
      go_ret
      refine ⟨h, g, lc, rfl, by have := HO1.out; omega, HO1.out.2.1, HLh.out.grown HGj.out (fun e => by have := HO1.out; cases e; omega), HDj.out, fun i k hi hk => ?_, HB3.out.trans (below_grows HGj.out (by have := HO1.out; omega) HB3.out.size)⟩
      rw [HCj.out i k hi hk, if_pos hi]
end Go.Proofs.Ytipaolkgafhliaa
