/-
  Own text: Identity, walked.
    beside, walked.
    Invert, walked.
    small facts of matrices that need no walk.
-/
import Derived.Test.YtjcbcdjfhcnhcaaK04
import Derived.Deep.RegionLaw
namespace Go.Proofs.Ytjcbcdjfhcnhcaa
open Go.RowKit

/-- A matrix in a box. -/
def Bx (w : World) (b : Nat) (x y z : Value) : Prop := w.heap[b]? = some (.cells #[x, y, z] 137 (0, 0))
theorem Bx.keep {w w' : World} {b : Nat} {x y z : Value} (h : Bx w b x y z) (e : w'.heap[b]? = w.heap[b]?) : Bx w' b x y z := e.trans h
theorem Bx.lt {w : World} {b : Nat} {x y z : Value} (h : Bx w b x y z) : b < w.heap.size := (Array.getElem?_eq_some_iff.1 h).1
theorem Bx.below {w w' : World} {b B : Nat} {x y z : Value} (h : Bx w b x y z) (hb : Below B w w') (hB : b < B) : Bx w' b x y z := h.keep (hb.block b hB)
theorem Bx.cells {w : World} {b : Nat} {x y z : Value} (h : Bx w b x y z) : w.cell? ⟨b, 0, none⟩ = some x ∧ w.cell? ⟨b, 1, none⟩ = some y ∧ w.cell? ⟨b, 2, none⟩ = some z ∧ ∀ i, w.frozen? ⟨b, i, none⟩ = false := box_cells h
theorem Bx.write {w : World} {b : Nat} {x y z x' y' z' : Value} (h : Bx w b x y z) : Bx (((w.setCell ⟨b, 0, none⟩ x').setCell ⟨b, 1, none⟩ y').setCell ⟨b, 2, none⟩ z') b x' y' z' := set_box h
theorem dat_set3 {w : World} {g n b : Nat} {x y z : Value} {l : List Int} (h : Dat w g n l) (hne : g ≠ b) : Dat (((w.setCell ⟨b, 0, none⟩ x).setCell ⟨b, 1, none⟩ y).setCell ⟨b, 2, none⟩ z) g n l :=
  h.keep ((Below.heap_setCell _ ⟨b, 2, none⟩ _ g hne).trans ((Below.heap_setCell _ ⟨b, 1, none⟩ _ g hne).trans (Below.heap_setCell _ ⟨b, 0, none⟩ _ g hne)))
theorem below_set3 {w w0 : World} {B b : Nat} {x y z : Value} (h : Below B w0 w) (hb : B ≤ b) : Below B w0 (((w.setCell ⟨b, 0, none⟩ x).setCell ⟨b, 1, none⟩ y).setCell ⟨b, 2, none⟩ z) :=
  ((h.setCell (p := ⟨b, 0, none⟩) hb _).setCell (p := ⟨b, 1, none⟩) hb _).setCell (p := ⟨b, 2, none⟩) hb _
/-- A matrix in a block of its own is handed back. -/
def Handed (r c : Nat) (F : Nat → Nat → Nat) (w : World) (e : Ending) (w' : World) : Prop :=
  ∃ g l, e = .returned (.tuple #[.agg #[.int .i64 r, .int .i64 c, .slice (some ⟨g, 0, none⟩) (r * c) (r * c)], .int .i64 0]) ∧ w.heap.size ≤ g ∧ Dat w' g (r * c) l ∧ (∀ i k, i < r → k < c → co l (i * c + k) = F i k) ∧ Below w.heap.size w w'
theorem spot_ne {c i k j m : Nat} (hk : k < c) (hm : m < c) (h : ¬ (i = j ∧ k = m)) : i * c + k ≠ j * c + m := by
  intro e
  rcases Nat.lt_trichotomy i j with g | g | g
  · have := Nat.mul_le_mul_right c (show i + 1 ≤ j from g); rw [Nat.succ_mul] at this; omega
  · subst g; exact h ⟨rfl, by omega⟩
  · have := Nat.mul_le_mul_right c (show j + 1 ≤ i from g); rw [Nat.succ_mul] at this; omega
theorem spot_lt {r c i k : Nat} (hi : i < r) (hk : k < c) : i * c + k < r * c := by
  have := Nat.mul_le_mul_right c (show i + 1 ≤ r from hi); rw [Nat.succ_mul] at this; omega
theorem by_zero (n : Nat) : By (List.replicate n 0) := fun z hz => by rw [(List.mem_replicate.1 hz).2]; omega
theorem co_zero (n i : Nat) : co (List.replicate n 0) i = 0 := by
  unfold co
  rw [List.getD_eq_getElem?_getD, List.getElem?_replicate]
  split <;> rfl
theorem alloc_bx (w : World) (x y z : Value) : Bx (w.alloc (.cells #[x, y, z] 137)) w.heap.size x y z := Go.Deep.blk_alloc_new _ _
theorem bx_alloc {w : World} {b : Nat} {x y z : Value} (h : Bx w b x y z) (o : Obj) : Bx (w.alloc o) b x y z := h.keep (Below.heap_alloc _ _ _ h.lt)
theorem alloc_lt (w : World) (o : Obj) : w.heap.size < (w.alloc o).heap.size := by simp
set_option maxRecDepth 100000 in
set_option maxHeartbeats 1000000 in
theorem ident_some (n : Nat) (hn : n ≤ 255) (w : World) : Calls Try.prog 104 #[.int .i64 n] w (Handed n n (fun i k => if i = k then 1 else 0) w) := by
  have hm : n * n ≤ 65025 := Nat.mul_le_mul hn hn
  have HN := Lib.hid (new_some n n hn hn)
  have HP := Lib.hid (fun g => parts_any (some ⟨g, 0, none⟩) (n * n) (n * n) n n (by omega) (Nat.le_refl _) (Nat.le_refl _) (by omega) (fun h => nomatch h))
  have HLD := Lib.hid (laid_rows n n (n * n) (Nat.le_refl _))
  unfold Handed
  have HSP : Hid (∀ i, i < n → i * n + i < n * n) := Lib.hid (fun i hi => spot_lt hi hi)
  obtain ⟨m, hmm⟩ : ∃ m, n * n = m := ⟨_, rfl⟩
  have HMM := Lib.hid hmm
  unfold Newed at HN
  rw [hmm] at hm HN HP HLD HSP ⊢
  clear hmm
  go_enter Try.func104, Try.ntmps104
  go_wp2_with first
    | (go_at_call 98; refine (HN.out _).mono ?_; rintro e w1 ⟨g, rfl, hg, hr, hb⟩; have HG := Lib.hid hg; have HR := Lib.hid hr; have HB := Lib.hid hb; clear hg hr hb)
    | (go_at_call 99; refine (HP.out _ _).mono ?_; rintro e w3 ⟨h, rfl, hh, hl, hb⟩; have HH := Lib.hid hh; have HL := Lib.hid hl; have HB3 := Lib.hid hb; clear hh hl hb)
  have HO1 : Hid (w.heap.size < g ∧ g < w1.heap.size ∧ w1.heap.size < h) := Lib.hid ⟨Nat.lt_of_lt_of_le (alloc_lt _ _) HG.out, HR.out.lt, Nat.lt_of_lt_of_le (alloc_lt _ _) HH.out⟩
  have HD3 : Hid (Dat w3 g m (List.replicate m 0)) := Lib.hid (by
    have := HR.out.dat (by_zero m)
    rw [List.length_replicate] at this
    exact (this.keep (Below.heap_alloc _ _ _ this.lt)).below HB3.out (Nat.lt_trans this.lt (alloc_lt _ _)))
  have HX2 : Hid (Bx w3 w.heap.size (.int .i64 0) (.int .i64 0) (.slice none 0 0)) := Lib.hid ((bx_alloc ((alloc_bx w _ _ _).below HB.out (alloc_lt _ _)) _).below HB3.out (Nat.lt_trans (Nat.lt_trans HO1.out.1 HO1.out.2.1) (alloc_lt _ _)))
  have HX4 : Hid (Bx w3 w1.heap.size (.int .i64 n) (.int .i64 n) (.slice (some ⟨g, 0, none⟩) m m)) := Lib.hid ((alloc_bx w1 _ _ _).below HB3.out (alloc_lt _ _))
  have HB0 : Hid (Below w.heap.size w w3) := Lib.hid (((((Below.refl _ w).alloc (Nat.le_refl _) _).trans (HB.out.mono (Nat.le_of_lt (alloc_lt _ _)))).alloc (Nat.le_of_lt (Nat.lt_trans HO1.out.1 HO1.out.2.1)) _).trans (HB3.out.mono (Nat.le_of_lt (Nat.lt_trans (Nat.lt_trans HO1.out.1 HO1.out.2.1) (alloc_lt _ _)))))
  clear HG HR HB HH HB3
  generalize w1.heap.size = b4 at *
  go_loopw [6, 7, 21] (fun _ _ i wr => ∃ (j : Nat) (lc : List Int), j ≤ n ∧ i = .int .i64 (j : Nat) ∧ Hid (Dat wr g m lc) ∧ Hid (∀ i k, i < n → k < n → co lc (i * n + k) = if i = k ∧ i < j then 1 else 0) ∧ Hid (Lst wr h n n (fun i => onA (some ⟨g, 0, none⟩) (i * n))) ∧
    Hid (Bx wr w.heap.size (.int .i64 0) (.int .i64 0) (.slice none 0 0)) ∧ Hid (Bx wr b4 (.int .i64 n) (.int .i64 n) (.slice (some ⟨g, 0, none⟩) m m)) ∧ Hid (Below w.heap.size w wr)) (fun _ _ i _ => n - (intOf i).toNat)
  case atStart => exact ⟨0, _, by omega, rfl, HD3, Lib.hid (fun i k _ _ => by rw [co_zero, if_neg (by omega)]), HL, HX2, HX4, HB0⟩
  case round =>
    obtain ⟨j, lc, hj, rfl, HDj, HCj, HLj, HX2j, HX4j, HBj⟩ := hrel
    obtain ⟨wo, ho⟩ : ∃ wo, wo = wr := ⟨_, rfl⟩
    subst ho
    by_cases hlt : j < n
    · have cr := HLj.out.cell j hlt
      rw [onA_at, Nat.zero_add] at cr
      have c0 := HDj.out.cell (j * n + j) (HSP.out j hlt)
      have f0 := HDj.out.frozen (j * n + j)
      go_wp2
      go_roundw
      case rel =>
        refine ⟨j + 1, lc.set (j * n + j) 1, by omega, by go_num, Lib.hid (HDj.out.set (j * n + j) 1 (by omega)), Lib.hid (fun i k hi hk => ?_), Lib.hid (HLj.out.keep (Below.heap_setCell _ ⟨g, j * n + j, none⟩ _ _ (by have := HO1.out; show h ≠ g; omega))),
          Lib.hid (HX2j.out.keep (Below.heap_setCell _ ⟨g, j * n + j, none⟩ _ _ (by have := HO1.out; show w.heap.size ≠ g; omega))), Lib.hid (HX4j.out.keep (Below.heap_setCell _ ⟨g, j * n + j, none⟩ _ _ (by have := HO1.out; show b4 ≠ g; omega))),
          Lib.hid (HBj.out.setCell (p := ⟨g, j * n + j, none⟩) (by have := HO1.out; show w.heap.size ≤ g; omega) _)⟩
        have e := co_set lc (j * n + j) 1 (i * n + k) (by rw [HDj.out.size]; exact HSP.out j hlt)
        refine e.trans ?_
        by_cases g1 : i = j ∧ k = j
        · rw [g1.1, g1.2, if_pos rfl, if_pos (by omega)]
        · rw [if_neg (spot_ne hk hlt g1), HCj.out i k hi hk]
          by_cases g2 : i = k ∧ i < j
          · rw [if_pos g2, if_pos (by omega)]
          · rw [if_neg g2, if_neg (by omega)]
      case measure => simp [intOf]; omega
    · obtain rfl : j = n := by omega
      obtain ⟨k0, k1, k2, kf⟩ := HX2j.out.cells
      obtain ⟨i0, i1, i2, _⟩ := HX4j.out.cells
      go_wp2
      clear k0 k1 k2 kf i0 i1 i2
      obtain ⟨z0, z1, z2, _⟩ := (HX2j.out.write (x' := .int .i64 j) (y' := .int .i64 j) (z' := .slice (some ⟨g, 0, none⟩) m m)).cells
      refine bodyPost_ret (v := .tuple #[.agg #[.int .i64 j, .int .i64 j, .slice (some ⟨g, 0, none⟩) m m], .int .i64 0]) (by simp [results, Try.results104, go_sem, z0, z1, z2]) rfl ?_
      clear z0 z1 z2
      refine ⟨g, lc, rfl, Nat.le_of_lt HO1.out.1, dat_set3 HDj.out (by have := HO1.out; omega), fun i k hi hk => ?_, below_set3 HBj.out (Nat.le_refl _)⟩
      rw [HCj.out i k hi hk]
      by_cases e : i = k
      · rw [if_pos ⟨e, hi⟩, if_pos e]
      · rw [if_neg (fun h => e h.1), if_neg e]
end Go.Proofs.Ytjcbcdjfhcnhcaa
namespace Go.Proofs.Ytjcbcdjfhcnhcaa
open Go.RowKit

/-- A copy of bytes, as one step of a region that draws. -/
theorem step_copy_dat {w : World} {ops : Array Oper} {o : Oper} {a : Act} {K : Act → World → Prop} {Q : Exit → Act → World → Prop} {E : Prop} (hgd : o.guard = none) (d s : Operand)
    (ho : o.op = .call { callee := .builtin .copy, args := #[d, s], argTypes := #[42, 42] })
    (dp sp : Option Addr) (dLen dCap sLen sCap : Nat) (hd : a.eval d = .slice dp dLen dCap) (hs : a.eval s = .slice sp sLen sCap)
    (g off n : Nat) (Z : List Int) (hg : Dat w g n Z) (l : List Int) (hl : Bytes w sp sLen l) (hk : sLen ≤ dLen) (hpos : 0 < sLen → dp = some ⟨g, off, none⟩) (hfit : off + sLen ≤ n)
    (h : ∀ w', Dat w' g n (splice Z off l) → w.grownBy w' (some g) → K (a.put o.dst (goInt sLen)) w') :
    if Region.wanted o (yielded ops a.tmps) = true then Oper.wp Try.prog o a w K Q else E := by
  have hw : Region.wanted o (yielded ops a.tmps) = true := by simp [Region.wanted, hgd]
  rw [if_pos hw]
  have sl := hl.size
  have hZ := hg.size
  have hmin : Nat.min sLen dLen = sLen := Nat.min_eq_left hk
  have hby : By (splice Z off l) := fun z hz => by
    unfold splice at hz
    rcases List.mem_append.1 hz with g1 | g1
    · exact hg.by_ z (List.mem_of_mem_take g1)
    · rcases List.mem_append.1 g1 with g2 | g2
      · exact hl.range z g2
      · exact hg.by_ z (List.mem_of_mem_drop g2)
  by_cases h0 : sLen = 0
  · obtain rfl : l = [] := List.eq_nil_of_length_eq_zero (by omega)
    have hrun := run_copy_none (P := Try.prog) w 42 42 o.type 5 dp sp dLen dCap sLen sCap Try.underlying42 (by kernel_rfl) (by rw [hmin]; exact h0)
    unfold Oper.wp
    simp [execOp, ho, resolve, invoke, builtin, hd, hs, hrun, Result.andThen]
    have := h w (by simpa [splice] using hg) (grown_refl w _)
    rw [h0] at this
    exact this
  · obtain ⟨cur, hc, hn, ht⟩ := hg.mem
    obtain rfl := hpos (by omega)
    rcases hl.cell with h1 | ⟨_, b, p, rfl, _, hcs⟩
    · exact absurd h1 h0
    have ecs : (l.map (Value.int .u8)).length = sLen := by rw [List.length_map, sl]
    have hrun := run_copy_row (P := Try.prog) w 42 42 o.type 5 g off dLen dCap ⟨b, p, none⟩ sLen sCap cur.toArray 5 (l.map (Value.int .u8)) Try.underlying42 (by kernel_rfl) hc (by rw [ecs, hmin]) (fun j v hv => by
      have hj : j < sLen := by
        rcases Nat.lt_or_ge j sLen with g | g
        · exact g
        · rw [List.getElem?_eq_none (by rw [ecs]; exact g)] at hv; simp at hv
      rw [onto_any, hcs j hj, ← hv, List.getElem?_map, List.getD_eq_getElem?_getD, List.getElem?_eq_getElem (by omega)]
      rfl) (by rw [ecs]; simp; omega) (fun v hv => by
      obtain ⟨z, _, rfl⟩ := List.mem_map.1 hv
      rfl)
    have hrow : (cur.toArray.toList.take off ++ l.map (Value.int .u8) ++ cur.toArray.toList.drop (off + (l.map (Value.int .u8)).length)).toArray = (splice cur off (l.map (Value.int .u8))).toArray := by unfold splice; rw [List.append_assoc]
    rw [hrow, ecs] at hrun
    have hK := h (w.setRow g (splice cur off (l.map (Value.int .u8))).toArray) ⟨hby, by rw [length_splice _ _ _ (by omega)]; exact hZ, splice cur off (l.map (Value.int .u8)), setRow_heap w g _ _ 5 (0, 0) hc, by rw [length_splice _ _ _ (by rw [ecs]; omega)]; exact hn, by rw [splice_take _ _ _ _ (by rw [ecs]; omega), ht, map_splice]⟩ ⟨rfl, rfl, rfl, by simp [World.setRow], fun k _ hk => setRow_other w g k _ (fun e => hk (by rw [e]))⟩
    generalize (splice cur off (l.map (Value.int .u8))).toArray = row at hrun hK
    unfold Oper.wp
    simp [execOp, ho, resolve, invoke, builtin, hd, hs, hrun, Result.andThen]
    exact hK
theorem Bytes.part {w : World} {a : Option Addr} {N : Nat} {l : List Int} (h : Bytes w a N l) (o m : Nat) (ho : o + m ≤ N) : Bytes w (onA a o) m (seg l o m) := by
  have hs := h.size
  have hm := h.max
  refine ⟨seg_length l o m (by omega), by omega, fun i hi => by rw [seg_get l o m i hi]; exact h.byte _ (by omega), ?_⟩
  by_cases h0 : m = 0
  · exact .inl h0
  · rcases h.cell with g | ⟨_, b, off, rfl, hb, hc⟩
    · omega
    · refine .inr ⟨by omega, b, off + o, onA_at b off o, hb, fun i hi => ?_⟩
      rw [seg_get l o m i hi, Nat.add_assoc]
      exact hc _ (by omega)
theorem Bytes.by_ {w : World} {a : Option Addr} {N : Nat} {l : List Int} (h : Bytes w a N l) : By l := h.range
theorem Bytes.grown {w w' : World} {a : Option Addr} {N : Nat} {l : List Int} {row : Option Nat} (h : Bytes w a N l) (hb : w.grownBy w' row) (hr : ∀ b off, a = some ⟨b, off, none⟩ → some b ≠ row) : Bytes w' a N l :=
  ⟨h.size, h.max, h.byte, h.cell.imp id fun ⟨h0, b, off, e, hl, hc⟩ => ⟨h0, b, off, e, Nat.lt_of_lt_of_le hl hb.size, fun i hi => hb.cell (a := ⟨b, off + i, none⟩) (hc i hi) (hr b off e)⟩⟩
theorem beside_step {n W q j : Nat} {la lb lc : List Int} (hW : W = n + n) (hq : q = n * W) (hA : la.length = n * n) (hB : lb.length = n * n) (hl : lc.length = q) (hj : j < n)
    (h : ∀ i k, i < n → k < W → co lc (i * W + k) = if i < j then (if k < n then co la (i * n + k) else co lb (i * n + (k - n))) else 0) :
    ∀ i k, i < n → k < W → co (splice (splice lc (j * W) (seg la (j * n) n)) (j * W + n) (seg lb (j * n) n)) (i * W + k) = if i < j + 1 then (if k < n then co la (i * n + k) else co lb (i * n + (k - n))) else 0 := by
  intro i k hi hk
  have f1 : j * n + n ≤ n * n := by have := spot_lt hj (show n - 1 < n by omega); omega
  have f2 : j * W + W ≤ q := by have := spot_lt hj (show W - 1 < W by omega); omega
  have e1 : (seg la (j * n) n).length = n := seg_length _ _ _ (by omega)
  have e2 : (seg lb (j * n) n).length = n := seg_length _ _ _ (by omega)
  have e3 : (splice lc (j * W) (seg la (j * n) n)).length = lc.length := length_splice _ _ _ (by omega)
  rw [splice_co _ _ _ _ (by omega), splice_co _ _ _ _ (by omega), e1, e2]
  by_cases e : i = j
  · subst e
    by_cases g : k < n
    · rw [if_neg (by omega), if_pos (by omega), if_pos (by omega), if_pos g, seg_co _ _ _ _ (by omega), show i * n + (i * W + k - i * W) = i * n + k by omega]
    · rw [if_pos (by omega), if_pos (by omega), if_neg g, seg_co _ _ _ _ (by omega), show i * n + (i * W + k - (i * W + n)) = i * n + (k - n) by omega]
  · have hap := (laid_rows n W q (by omega)).apart i j hi hj e
    rw [if_neg (by omega), if_neg (by omega), h i k hi hk]
    by_cases g : i < j
    · rw [if_pos g, if_pos (show i < j + 1 by omega)]
    · rw [if_neg g, if_neg (show ¬ i < j + 1 by omega)]
/-- Two matrices as wide as high, beside each other. -/
def Besided (n : Nat) (la lb : List Int) (w : World) (e : Ending) (w' : World) : Prop :=
  ∃ h g l, e = .returned (.slice (some ⟨h, 0, none⟩) n n) ∧ w.heap.size ≤ g ∧ g < h ∧ Lst w' h n (n + n) (fun i => some ⟨g, i * (n + n), none⟩) ∧ Dat w' g (n * (n + n)) l ∧
    (∀ i k, i < n → k < n + n → co l (i * (n + n) + k) = if k < n then co la (i * n + k) else co lb (i * n + (k - n))) ∧ Below w.heap.size w w'
set_option maxRecDepth 100000 in
set_option maxHeartbeats 4000000 in
theorem beside_any (n : Nat) (hn : n ≤ 255) (aA aB : Option Addr) (ca cb : Nat) (la lb : List Int) (w : World) (ha : Sl w aA (n * n) ca la) (hb : Sl w aB (n * n) cb lb) :
    Calls Try.prog 105 #[.agg #[.int .i64 n, .int .i64 n, .slice aA ((n * n : Nat)) ca], .agg #[.int .i64 n, .int .i64 n, .slice aB ((n * n : Nat)) cb]] w (Besided n la lb w) := by
  have hm : n * n ≤ 65025 := Nat.mul_le_mul hn hn
  have hq2 : n * (n + n) ≤ 130050 := by rw [Nat.mul_add]; omega
  have HPA := Lib.hid (parts_any aA (n * n) ca n n (by omega) ha.cap (Nat.le_refl _) (by omega) ha.nilc)
  have HPB := Lib.hid (parts_any aB (n * n) cb n n (by omega) hb.cap (Nat.le_refl _) (by omega) hb.nilc)
  have HYA := Lib.hid ha.bytes
  have HYB := Lib.hid hb.bytes
  obtain ⟨W, hW⟩ : ∃ W, W = n + n := ⟨_, rfl⟩
  have HWW := Lib.hid hW
  have hWi : (n : Int) + n = W := by omega
  unfold Besided
  rw [← hW] at hq2 ⊢
  obtain ⟨q, hq⟩ : ∃ q, q = n * W := ⟨_, rfl⟩
  have HQQ := Lib.hid hq
  have hqi : (n : Int) * W = q := by rw [hq]; omega
  rw [← hq] at hq2 ⊢
  have HCU := Lib.hid (fun (x : Addr) => cut_some x q q n W (by omega) (Nat.le_refl _) (by omega) (by omega))
  have hmk := fun w => run_make_row' (P := Try.prog) 42 5 (.int .u8 0) 1 Try.underlying42 info_u8 rfl .i64 .i64 q (by omega) (by omega) w
  have HM := Lib.hid (fun w b => made_row' w q 5 b)
  generalize madeCells #[Value.int .u8 0] q = M at *
  obtain ⟨m, hmm⟩ : ∃ m, n * n = m := ⟨_, rfl⟩
  have HMM := Lib.hid hmm
  rw [hmm] at hm HPA HPB HYA HYB ⊢
  clear hmm hW hq ha hb
  have h1 : W ≤ 510 := by have := HWW.out; omega
  have hwq : IntKind.i64.wrap (q : Int) = q := IntWalk.i64_in _ (by omega)
  go_enter Try.func105, Try.ntmps105
  go_wp2
  have HX2 : Hid (Bx ((w.alloc (.cells #[.int .i64 n, .int .i64 n, .slice aA m ca] 137)).alloc (.cells #[.int .i64 n, .int .i64 n, .slice aB m cb] 137)) w.heap.size (.int .i64 n) (.int .i64 n) (.slice aA m ca)) := Lib.hid (alloc_two _ _ _ _)
  have HX3 : Hid (Bx ((w.alloc (.cells #[.int .i64 n, .int .i64 n, .slice aA m ca] 137)).alloc (.cells #[.int .i64 n, .int .i64 n, .slice aB m cb] 137)) (w.heap.size + 1) (.int .i64 n) (.int .i64 n) (.slice aB m cb)) := Lib.hid (alloc_last _ _ _ _)
  have HB0 : Hid (Below w.heap.size w ((w.alloc (.cells #[.int .i64 n, .int .i64 n, .slice aA m ca] 137)).alloc (.cells #[.int .i64 n, .int .i64 n, .slice aB m cb] 137))) := Lib.hid (by go_grown)
  generalize (w.alloc (.cells #[.int .i64 n, .int .i64 n, .slice aA m ca] 137)).alloc (.cells #[.int .i64 n, .int .i64 n, .slice aB m cb] 137) = w0 at *
  have HL2 : Hid (w.heap.size < w0.heap.size ∧ w.heap.size + 1 < w0.heap.size) := Lib.hid ⟨HX2.out.lt, HX3.out.lt⟩
  have HS1 : Hid (∀ w', Below w0.heap.size w0 w' → Below w0.heap.size w0 w' ∧ w'.cell? ⟨w.heap.size, 0, none⟩ = some (.int .i64 (n : Int))) :=
    Lib.hid (fun w' h => ⟨h, (HX2.out.below h HL2.out.1).cells.1⟩)
  go_region_held3 (fun w' => Below w0.heap.size w0 w' ∧ w'.cell? ⟨w.heap.size, 0, none⟩ = some (.int .i64 (n : Int)))
    (first
      | exact HS1.out _ (Below.refl _ _)
      | exact HS1.out _ (Below.refl _ _).drew
      | exact HS1.out _ ((Below.refl _ _).drew.alloc (Nat.le_refl _) _)
      | exact HS1.out _ (((Below.refl _ _).drew.alloc (Nat.le_refl _) _).trans (hb1.mono (Nat.le_of_lt (alloc_lt _ _))))
      | exact HS1.out _ ((Below.refl _ _).alloc (Nat.le_refl _) _).drew
      | exact HS1.out _ (((Below.refl _ _).alloc (Nat.le_refl _) _).drew.trans (hb1.mono (Nat.le_of_lt (alloc_lt _ _)))))
    (first
      | (go_at_call 110; refine (HCU.out _ _).mono ?_; rintro e w1 ⟨h, rfl, hh1, hl1, hb1⟩))
  have HB1 : Hid (Below w0.heap.size w0 w1) := Lib.hid (((Below.refl _ _).alloc (Nat.le_refl _) _).drew.trans (hb1.mono (Nat.le_of_lt (alloc_lt _ _))))
  have HO1 : Hid (w.heap.size + 1 < w0.heap.size ∧ w0.heap.size < h ∧ h < w1.heap.size) := Lib.hid ⟨HL2.out.2, Nat.lt_of_lt_of_le (alloc_lt _ _) hh1, hl1.lt⟩
  have HD1 : Hid (Dat w1 w0.heap.size q (List.replicate q 0)) := Lib.hid (by
    have := (HM.out w0 w0.heap.size rfl).dat (by_zero q)
    rw [List.length_replicate] at this
    have this2 : Dat (w0.alloc (.cells M 5)).drew w0.heap.size q (List.replicate q 0) := this.keep rfl
    exact this2.below hb1 this.lt)
  have HL1 : Hid (Lst w1 h n W (fun i => some ⟨w0.heap.size, i * W, none⟩)) := Lib.hid (World.rowIs.congr hl1 (fun i _ => by dsimp only; rw [onA_at, Nat.zero_add]))
  have HX21 := Lib.hid (HX2.out.below HB1.out HL2.out.1)
  have HX31 := Lib.hid (HX3.out.below HB1.out HL2.out.2)
  have HB01 : Hid (Below w.heap.size w w1) := Lib.hid (HB0.out.trans (HB1.out.mono (Nat.le_of_lt HL2.out.1)))
  rename_i hHeld1
  clear hl1 hb1 hh1 hHeld1 HM HB1 HX2 HX3 HS1 HB0 HL2 hmk
  generalize w0.heap.size = g at *
  have HS2 : Hid (∀ w', Below w1.heap.size w1 w' → Below w1.heap.size w1 w' ∧ w'.cell? ⟨w.heap.size, 0, none⟩ = some (.int .i64 (n : Int)) ∧ w'.cell? ⟨w.heap.size, 1, none⟩ = some (.int .i64 (n : Int)) ∧ w'.cell? ⟨w.heap.size, 2, none⟩ = some (.slice aA m ca) ∧
      w'.cell? ⟨w.heap.size + 1, 0, none⟩ = some (.int .i64 (n : Int)) ∧ w'.cell? ⟨w.heap.size + 1, 1, none⟩ = some (.int .i64 (n : Int)) ∧ w'.cell? ⟨w.heap.size + 1, 2, none⟩ = some (.slice aB m cb)) :=
    Lib.hid (fun w' h => ⟨h, (HX21.out.below h HX21.out.lt).cells.1, (HX21.out.below h HX21.out.lt).cells.2.1, (HX21.out.below h HX21.out.lt).cells.2.2.1, (HX31.out.below h HX31.out.lt).cells.1, (HX31.out.below h HX31.out.lt).cells.2.1, (HX31.out.below h HX31.out.lt).cells.2.2.1⟩)
  go_wp2
  go_region_held3 (fun w' => Below w1.heap.size w1 w' ∧ w'.cell? ⟨w.heap.size, 0, none⟩ = some (.int .i64 (n : Int)) ∧ w'.cell? ⟨w.heap.size, 1, none⟩ = some (.int .i64 (n : Int)) ∧ w'.cell? ⟨w.heap.size, 2, none⟩ = some (.slice aA m ca) ∧
      w'.cell? ⟨w.heap.size + 1, 0, none⟩ = some (.int .i64 (n : Int)) ∧ w'.cell? ⟨w.heap.size + 1, 1, none⟩ = some (.int .i64 (n : Int)) ∧ w'.cell? ⟨w.heap.size + 1, 2, none⟩ = some (.slice aB m cb))
    (first
      | exact HS2.out _ (Below.refl _ _)
      | exact HS2.out _ (Below.refl _ _).drew
      | exact HS2.out _ (((Below.refl _ _).drew.trans hb2).trans (hb3.mono hb2.size))
      | exact HS2.out _ ((Below.refl _ _).drew.trans hb2))
    (first
      | (go_at_call 99; (with_reducible refine (HPA.out _).mono ?_); rintro e w2 ⟨hA, rfl, hhA, hlA, hb2⟩)
      | (go_at_call 99; (with_reducible refine (HPB.out _).mono ?_); rintro e w3 ⟨hB, rfl, hhB, hlB, hb3⟩))
  have HB13 : Hid (Below w1.heap.size w1 w3) := Lib.hid (((Below.refl _ _).drew.trans hb2).trans (hb3.mono hb2.size))
  have HO3 : Hid (h < hA ∧ hA < hB) := Lib.hid ⟨Nat.lt_of_lt_of_le HO1.out.2.2 hhA, Nat.lt_of_lt_of_le hlA.lt hhB⟩
  have HLh := Lib.hid (HL1.out.below HB13.out HO1.out.2.2)
  have HLa := Lib.hid (hlA.below hb3 hlA.lt)
  have HLb := Lib.hid hlB
  have HD3 := Lib.hid (HD1.out.below HB13.out (Nat.lt_trans HO1.out.2.1 HO1.out.2.2))
  have HB3 : Hid (Below w.heap.size w w3) := Lib.hid (HB01.out.trans (HB13.out.mono HB01.out.size))
  have HYA3 := Lib.hid (HYA.out.below HB3.out (Nat.le_refl _))
  have HYB3 := Lib.hid (HYB.out.below HB3.out (Nat.le_refl _))
  have HOW : Hid ((∀ b off, aA = some ⟨b, off, none⟩ → 0 < m → some b ≠ some g) ∧ ∀ b off, aB = some ⟨b, off, none⟩ → 0 < m → some b ≠ some g) := Lib.hid (by
    refine ⟨fun b off e hm0 e2 => ?_, fun b off e hm0 e2 => ?_⟩
    · rcases HYA.out.cell with h0 | ⟨_, b', off', e', hl, _⟩
      · omega
      · rw [e] at e'; cases e'; cases e2; have := HO1.out.1; omega
    · rcases HYB.out.cell with h0 | ⟨_, b', off', e', hl, _⟩
      · omega
      · rw [e] at e'; cases e'; cases e2; have := HO1.out.1; omega)
  have HG0 := Lib.hid (grown_refl w3 (some g))
  clear hhA hlA hb2 hhB hlB hb3 HL1 HD1 HX21 HX31 HS2 HPA HPB HCU
  go_wp2
  go_loopw [9, 10, 31] (fun _ _ i wr => ∃ (j : Nat) (lc : List Int), j ≤ n ∧ i = .int .i64 (j : Nat) ∧ Hid (Dat wr g q lc) ∧ Hid (∀ i k, i < n → k < W → co lc (i * W + k) = if i < j then (if k < n then co la (i * n + k) else co lb (i * n + (k - n))) else 0) ∧ Hid (w3.grownBy wr (some g))) (fun _ _ i _ => n - (intOf i).toNat)
  case atStart => exact ⟨0, _, by omega, rfl, HD3, Lib.hid (fun i k _ _ => by rw [co_zero, if_neg (by omega)]), HG0⟩
  case round =>
    obtain ⟨j, lc, hj, rfl, HDj, HCj, HGj⟩ := hrel
    obtain ⟨wo, ho⟩ : ∃ wo, wo = wr := ⟨_, rfl⟩
    subst ho
    by_cases hlt : j < n
    · have ch := (HLh.out.grown HGj.out (fun e => by have := HO1.out; cases e; omega)).cell j hlt
      have ca1 := (HLa.out.grown HGj.out (fun e => by have := HO1.out; have := HO3.out; cases e; omega)).cell j hlt
      have cb1 := (HLb.out.grown HGj.out (fun e => by have := HO1.out; have := HO3.out; cases e; omega)).cell j hlt
      have hm0 : 0 < m := by rw [← HMM.out]; exact Nat.mul_pos (by omega) (by omega)
      have HSA : Hid (Bytes wo (onA aA (j * n)) n (seg la (j * n) n)) := Lib.hid ((HYA3.out.grown HGj.out (fun b off e => HOW.out.1 b off e hm0)).part (j * n) n (by have := spot_lt hlt (show n - 1 < n by omega); rw [HMM.out] at this; omega))
      have HSB : Hid (∀ w4, w3.grownBy w4 (some g) → Bytes w4 (onA aB (j * n)) n (seg lb (j * n) n)) := Lib.hid (fun w4 hw4 => (HYB3.out.grown hw4 (fun b off e => HOW.out.2 b off e hm0)).part (j * n) n (by have := spot_lt hlt (show n - 1 < n by omega); rw [HMM.out] at this; omega))
      have hW := HWW.out
      have fq : j * W + W ≤ q := by have := spot_lt hlt (show W - 1 < W by omega); rw [← HQQ.out] at this; omega
      have HF1 : Hid (j * W + n ≤ q ∧ j * W + n + n ≤ q ∧ n ≤ W ∧ n ≤ W - n) := Lib.hid (by omega)
      have HDd : Hid (Dat wo.drew g q lc) := Lib.hid (HDj.out.keep rfl)
      have HGd : Hid (w3.grownBy wo.drew (some g)) := Lib.hid (grown_drew HGj.out 1)
      have hcut : ¬ W = n := by omega
      have hcut1 : (n : Int) ≤ W := by omega
      have hcut0 : (0 : Int) ≤ n := by omega
      clear hW fq hWi
      go_wp2
      go_region_law (first
        | (refine step_copy_dat (w := wo.drew) rfl (.tmp 37) (.tmp 41) rfl (some ⟨g, j * W, none⟩) (onA aA (j * n)) W W n n rfl rfl g (j * W) q lc HDd.out (seg la (j * n) n) HSA.out.drew HF1.out.2.2.1 (fun _ => rfl) HF1.out.1 ?_; intro w4 hd4 hw4; have cb2 := (HLb.out.grown (grown_trans HGd.out hw4) (fun e => by have := HO1.out; have := HO3.out; cases e; omega)).cell j hlt)
        | (refine step_copy_dat (w := w4) rfl (.tmp 43) (.tmp 47) rfl (some ⟨g, j * W + n, none⟩) (onA aB (j * n)) (W - n) (W - n) n n rfl rfl g (j * W + n) q _ hd4 (seg lb (j * n) n) (HSB.out w4 (grown_trans HGd.out hw4)) HF1.out.2.2.2 (fun _ => rfl) HF1.out.2.1 ?_; intro w5 hd5 hw5))
      all_goals
        have HD5 := Lib.hid hd5
        have HG5 := Lib.hid (grown_trans (grown_trans HGd.out hw4) hw5)
        clear hd4 hw4 hd5 hw5 cb2
        go_wp2
        go_roundw
        case rel => exact ⟨j + 1, _, by omega, by go_num, HD5, Lib.hid (beside_step HWW.out HQQ.out (HYA.out.size.trans HMM.out.symm) (HYB.out.size.trans HMM.out.symm) HDj.out.size hlt HCj.out), HG5⟩
        case measure => simp [intOf]; omega
    · obtain rfl : j = n := by omega
      go_wp2
      go_ret
      refine ⟨h, g, lc, rfl, by have := HO1.out; omega, HO1.out.2.1, HLh.out.grown HGj.out (fun e => by have := HO1.out; cases e; omega), HDj.out, fun i k hi hk => ?_, HB3.out.trans (below_grows HGj.out (by have := HO1.out; omega) HB3.out.size)⟩
      rw [HCj.out i k hi hk, if_pos hi]
end Go.Proofs.Ytjcbcdjfhcnhcaa
namespace Go.Proofs.Ytjcbcdjfhcnhcaa
open Go.RowKit

theorem alloc_lt3 (w : World) (o p : Obj) : w.heap.size + 1 < ((w.alloc o).alloc p).heap.size := by simp
theorem alloc_lt2 (w : World) (o p : Obj) : w.heap.size < ((w.alloc o).alloc p).heap.size := by simp; omega
theorem Dat.sl {w : World} {g n : Nat} {l : List Int} (h : Dat w g n l) (hn : n ≤ 1000000) : Sl w (some ⟨g, 0, none⟩) n n l := by
  have hb := h.bytes 0 n (by omega) (by omega)
  have e : seg l 0 n = l := by unfold seg; rw [List.drop_zero, List.take_of_length_le (by rw [h.size]; exact Nat.le_refl _)]
  rw [e] at hb
  exact ⟨hb, Nat.le_refl _, by omega, fun e => nomatch e⟩
theorem bx_cells_alloc {w : World} {b : Nat} {x y z : Value} (h : Bx w b x y z) : (∀ o, (w.alloc o).cell? ⟨b, 0, none⟩ = some x) ∧ (∀ o, (w.alloc o).cell? ⟨b, 1, none⟩ = some y) ∧ (∀ o, (w.alloc o).cell? ⟨b, 2, none⟩ = some z) ∧ ∀ o i, (w.alloc o).frozen? ⟨b, i, none⟩ = false :=
  ⟨fun o => (bx_alloc h o).cells.1, fun o => (bx_alloc h o).cells.2.1, fun o => (bx_alloc h o).cells.2.2.1, fun o => (bx_alloc h o).cells.2.2.2⟩
/-- What Invert answers: there is none; or it is handed back. -/
def InvertedTo (n : Nat) (F : Nat → Nat → Nat) (w : World) (e : Ending) (w' : World) : Prop :=
  (∃ d, d < n ∧ RankIs F n n d ∧ Refused 51 w e w') ∨
  ∃ V : Nat → Nat → Nat, RankIs F n n n ∧ (∀ i k, V i k < 256) ∧ (∀ i k, i < n → k < n → dots (V i) (fun j => F j k) n = if i = k then 1 else 0) ∧ Handed n n V w e w'
theorem RankIs.congr {M M' : Nat → Nat → Nat} {R C n : Nat} (h : RankIs M R C n) (e : ∀ i k, i < R → k < C → M i k = M' i k) : RankIs M' R C n := by
  obtain ⟨U, a, b, c⟩ := h
  refine ⟨U, a, fun i hi => ?_, fun i hi => ?_⟩
  · obtain ⟨x, hx⟩ := b i hi
    exact ⟨x, fun k hk => by rw [hx k hk]; exact dots_congr _ (fun _ _ => rfl) (fun j hj => e j k hj hk)⟩
  · obtain ⟨x, hx⟩ := c i hi
    exact ⟨x, fun k hk => by rw [← e i k hi hk]; exact hx k hk⟩
theorem Red.from {M M' N : Nat → Nat → Nat} {R C k d : Nat} {p : Nat → Nat} (h : Red M N R C k d p) (e : ∀ i c, i < R → c < C → M i c = M' i c) : Red M' N R C k d p := by
  have hm : Mates M' N R C := ⟨fun i hi => by
      obtain ⟨x, hx⟩ := h.ech.mates.1 i hi
      exact ⟨x, fun k hk => by rw [hx k hk]; exact dots_congr _ (fun _ _ => rfl) (fun j hj => e j k hj hk)⟩,
    fun i hi => by
      obtain ⟨x, hx⟩ := h.ech.mates.2 i hi
      exact ⟨x, fun k hk => by rw [← e i k hi hk]; exact hx k hk⟩⟩
  exact ⟨⟨hm, h.ech.dR, h.ech.piv, h.ech.low, h.ech.rest⟩, h.up, h.one, h.alone, h.dk⟩
set_option maxRecDepth 100000 in
set_option maxHeartbeats 4000000 in
theorem invert_any (t n : Nat) (hn : n ≤ 255) (a : Option Addr) (cap : Nat) (l : List Int) (w : World) (hl : Sl w a (n * n) cap l) (ht : IsTab w t) :
    Calls Try.prog 84 #[.pointer (some ⟨t, 0, none⟩), .agg #[.int .i64 n, .int .i64 n, .slice a ((n * n : Nat)) cap]] w (InvertedTo n (gr (fun i => i * n) l) w) := by
  have hm : n * n ≤ 65025 := Nat.mul_le_mul hn hn
  have HR := Lib.hid (right_yes n n (n * n) hn hn rfl a cap)
  have HID := Lib.hid (ident_some n hn)
  have HBS : Hid (∀ w' g lo, Below w.heap.size w w' → Dat w' g (n * n) lo → Calls Try.prog 105 #[.agg #[.int .i64 n, .int .i64 n, .slice a ((n * n : Nat)) cap], .agg #[.int .i64 n, .int .i64 n, .slice (some ⟨g, 0, none⟩) ((n * n : Nat)) (n * n)]] w' (Besided n l lo w')) :=
    Lib.hid (fun w' g lo hb hd => beside_any n hn a _ cap _ l lo w' (hl.below hb (Nat.le_refl _)) (hd.sl (by omega)))
  have HRD : Hid (∀ h g lc B w', Lst w' h n (n + n) (fun i => some ⟨g, i * (n + n), none⟩) → Dat w' g (n * (n + n)) lc → IsTab w' t → t < B → B ≤ g → g < h → Calls Try.prog 106 #[.pointer (some ⟨t, 0, none⟩), .slice (some ⟨h, 0, none⟩) n n, .int .i64 n] w' (Reduced B h g n (n + n) (n * (n + n)) n (gr (fun i => i * (n + n)) lc) w')) :=
    Lib.hid (fun h g lc B w' h1 h2 h3 h4 h5 h6 => reduce_any t h g n n (n + n) (n * (n + n)) n B _ lc w' h1 h2 (laid_rows n (n + n) _ (Nat.le_refl _)) h3 (by rw [Nat.mul_add]; omega) (by omega) (by omega) (by omega) (Nat.le_refl _) (by omega) h4 h5 (by omega))
  have HP := Lib.hid (fun g => parts_any (some ⟨g, 0, none⟩) (n * n) (n * n) n n (by omega) (Nat.le_refl _) (Nat.le_refl _) (by omega) (fun h => nomatch h))
  have HT := Lib.hid ht
  have HY : Hid (By l) := Lib.hid hl.bytes.range
  obtain ⟨m, hmm⟩ : ∃ m, m = n * n := ⟨_, rfl⟩
  have HMM := Lib.hid hmm
  unfold Handed at HID
  rw [← hmm] at hm HR HID HBS HP ⊢
  clear hmm hl ht
  go_enter Try.func84, Try.ntmps84
  have HXa0 : Hid (∀ w1 c1 c2, Below ((w.alloc (.cells c1 137)).alloc (.cells c2 137)).heap.size ((w.alloc (.cells c1 137)).alloc (.cells c2 137)) w1 → w1.heap[w.heap.size]? = some (.cells c1 137 (0, 0)) ∧ w1.heap[w.heap.size + 1]? = some (.cells c2 137 (0, 0)) ∧ Below w.heap.size w w1 ∧ w.heap.size + 1 < w1.heap.size) :=
    Lib.hid (fun w1 c1 c2 h => ⟨(h.block _ (alloc_lt2 _ _ _)).trans (alloc_two w _ _ _), (h.block (w.heap.size + 1) (alloc_lt3 _ _ _)).trans (alloc_last w _ _ _), ((((Below.refl _ w).alloc (Nat.le_refl _) _).alloc (Nat.le_of_lt (alloc_lt _ _)) _).trans (h.mono (Nat.le_of_lt (alloc_lt2 _ _ _)))), Nat.lt_of_lt_of_le (alloc_lt3 _ _ _) h.size⟩)
  go_wp2_with first
    | (go_at_call 101; refine (HR.out _).mono ?_; rintro e w1 ⟨rfl, hb⟩; obtain ⟨hxa, hxr, hbb, hsz⟩ := HXa0.out _ _ _ hb; have HXa1 : Hid (Bx w1 w.heap.size _ _ _) := Lib.hid hxa; have HXr1 : Hid (Bx w1 (w.heap.size + 1) _ _ _) := Lib.hid hxr; have HB1 := Lib.hid hbb; have HS1 := Lib.hid hsz; clear hb hxa hxr hbb hsz; obtain ⟨k0, k1, k2, kf⟩ := HXa1.out.cells)
    | (go_at_call 104; refine (HID.out _).mono ?_; rintro e w2 ⟨g1, l1, rfl, hg1, hd1, hc1, hb1⟩; clear k0 k1 k2 kf; have HG1 := Lib.hid hg1; have HD1 := Lib.hid hd1; have HC1 := Lib.hid hc1; have HB2 := Lib.hid hb1; clear hg1 hd1 hc1 hb1; have HXa2 := Lib.hid (HXa1.out.below HB2.out HXa1.out.lt); have HXr2 := Lib.hid (HXr1.out.below HB2.out HXr1.out.lt); obtain ⟨k0, k1, k2, kf⟩ := bx_cells_alloc HXa2.out)
    | (go_at_call 105; refine (HBS.out (w2.alloc _) g1 l1 ((HB1.out.trans (HB2.out.mono HB1.out.size)).alloc (Nat.le_trans HB1.out.size HB2.out.size) _) (HD1.out.keep (Below.heap_alloc _ _ _ HD1.out.lt))).mono ?_; rintro e w4 ⟨h, g, lb, rfl, hg, hgh, hL4, hD4, hC4, hb4⟩; clear k0 k1 k2 kf; have HG := Lib.hid hg; have HGH := Lib.hid hgh; have HL4 := Lib.hid hL4; have HD4 := Lib.hid hD4; have HC4 := Lib.hid hC4; have HB4 := Lib.hid hb4; clear hg hgh hL4 hD4 hC4 hb4)
    | (go_at_call 106; refine (HRD.out h g lb (w2.alloc _).heap.size _ HL4.out HD4.out (((HT.out.below (HB1.out.trans (HB2.out.mono HB1.out.size)) HT.out.lt).keep (Below.heap_alloc _ _ _ (Nat.lt_of_lt_of_le HT.out.lt (Nat.le_trans HB1.out.size HB2.out.size)))).below HB4.out (Nat.lt_of_lt_of_le HT.out.lt (Nat.le_trans (Nat.le_trans HB1.out.size HB2.out.size) (Nat.le_of_lt (alloc_lt _ _))))) (Nat.lt_of_lt_of_le HT.out.lt (Nat.le_trans (Nat.le_trans HB1.out.size HB2.out.size) (Nat.le_of_lt (alloc_lt _ _)))) HG.out HGH.out).mono ?_; rintro e w5 ⟨d, O', l', p, rfl, hL5, hD5, hO5, hR5, hb5⟩; have HL5 := Lib.hid hL5; have HD5 := Lib.hid hD5; have HO5 := Lib.hid hO5; have HR5 := Lib.hid hR5; have HB5 := Lib.hid (HB4.out.trans hb5); clear hL5 hD5 hO5 hR5 hb5; have HXo5 : Hid (Bx w5 w2.heap.size _ _ _) := Lib.hid ((alloc_bx w2 _ _ _).below HB5.out (alloc_lt _ _)); have HXr5 := Lib.hid ((bx_alloc HXr2.out _).below HB5.out (Nat.lt_trans HXr2.out.lt (alloc_lt _ _))); obtain ⟨o0, o1, o2, of⟩ := HXo5.out.cells; obtain ⟨r0, r1, r2, rf⟩ := HXr5.out.cells)
    | (go_at_call 99; refine (HP.out g1 _).mono ?_; rintro e w6 ⟨hp, rfl, hhp, hlp, hb6⟩; have HHP := Lib.hid hhp; have HLP := Lib.hid hlp; have HB6 := Lib.hid hb6; clear hhp hlp hb6 o0 o1 o2 of r0 r1 r2 rf)
  · rename_i hdn
    clear o0 o1 o2 of r0 r1 r2 rf
    obtain ⟨z0, z1, z2, _⟩ := (HXr5.out.write (x' := .int .i64 0) (y' := .int .i64 0) (z' := .slice none 0 0)).cells
    refine bodyPost_ret (v := .tuple #[.agg #[.int .i64 0, .int .i64 0, .slice none 0 0], .int .i64 51]) (by simp [results, Try.results84, go_sem, z0, z1, z2]) rfl ?_
    clear z0 z1 z2
    refine .inl ⟨d, by omega, ?_, rfl, below_set3 ?_ (Nat.le_succ _)⟩
    · exact (HR5.out.ech.rank (gr_lt HD5.out.by_ O') (by omega)).congr (fun i k hi hk => by show co lb (i * (n + n) + k) = co l (i * n + k); rw [HC4.out i k hi (by omega), if_pos hk])
    · exact ((HB1.out.trans (HB2.out.mono HB1.out.size)).alloc (Nat.le_trans HB1.out.size HB2.out.size) _).trans (HB5.out.mono (Nat.le_trans (Nat.le_trans HB1.out.size HB2.out.size) (Nat.le_of_lt (alloc_lt _ _))))
  · rename_i hdn
    have hd : d = n := by have := HR5.out.ech.dR; omega
    subst hd
    have HRK : Hid (RankIs (gr (fun i => i * d) l) d d d) := Lib.hid ((HR5.out.ech.rank (gr_lt HD5.out.by_ O') (by omega)).congr (fun i k hi hk => by show co lb (i * (d + d) + k) = co l (i * d + k); rw [HC4.out i k hi (by omega), if_pos hk]))
    have HINV : Hid (∀ i k, i < d → k < d → dots (fun j => gr O' l' i (d + j)) (fun j => gr (fun i => i * d) l j k) d = if i = k then 1 else 0) := Lib.hid (by
      have h1 := HR5.out.from (M' := fun i c => if c < d then gr (fun i => i * d) l i c else if c = d + i then 1 else 0) (fun i c hi hc => by
        show co lb (i * (d + d) + c) = _
        rw [HC4.out i c hi hc]
        by_cases g : c < d
        · rw [if_pos g, if_pos g]; rfl
        · rw [if_neg g, if_neg g, HC1.out i (c - d) hi (by omega)]
          by_cases e : c = d + i
          · rw [if_pos e, if_pos (by omega)]
          · rw [if_neg e, if_neg (by omega)])
      rw [← Nat.two_mul] at h1
      exact h1.inverse (gr_lt HD5.out.by_ O'))
    have HO : Hid (w.heap.size + 1 < g1 ∧ g1 < w2.heap.size ∧ w2.heap.size < g ∧ g < h ∧ h < w5.heap.size) := Lib.hid ⟨Nat.lt_of_lt_of_le HS1.out HG1.out, HD1.out.lt, Nat.lt_of_lt_of_le (alloc_lt _ _) HG.out, HGH.out, HL5.out.lt⟩
    have HB05 : Hid (Below w.heap.size w w5) := Lib.hid (((HB1.out.trans (HB2.out.mono HB1.out.size)).alloc (Nat.le_trans HB1.out.size HB2.out.size) _).trans (HB5.out.mono (Nat.le_trans (Nat.le_trans HB1.out.size HB2.out.size) (Nat.le_of_lt (alloc_lt _ _)))))
    have HB06 := Lib.hid (HB05.out.trans (HB6.out.mono HB05.out.size))
    have HXo6 := Lib.hid (HXo5.out.below HB6.out HXo5.out.lt)
    have HXr6 := Lib.hid (HXr5.out.below HB6.out HXr5.out.lt)
    have HL6 := Lib.hid (HL5.out.below HB6.out HL5.out.lt)
    have HD6 := Lib.hid (HD5.out.below HB6.out HD5.out.lt)
    have HO6 : Hid (Dat w6 g1 m l1) := Lib.hid (((HD1.out.keep (Below.heap_alloc _ _ _ HD1.out.lt)).below HB5.out (Nat.lt_trans HD1.out.lt (alloc_lt _ _))).below HB6.out (by have := HO.out; omega))
    have HF : Hid (∀ i, i < d → O' i + (d + d) ≤ d * (d + d)) := Lib.hid HO5.out.fit
    have HB8 : Hid (d * (d + d) ≤ 130050) := Lib.hid (by rw [Nat.mul_add]; have := HMM.out; omega)
    have HGR0 := Lib.hid (grown_refl w6 (some g1))
    clear HXa0 HXa1 HXr1 HB1 HS1 HG1 HD1 HB2 HXa2 HXr2 HG HGH HL4 HD4 HC4 HB4 HL5 HD5 HR5 HB5 HXo5 HXr5 HB05 HB6 HBS HRD HP HID HR
    generalize w2.heap.size = b7 at *
    obtain ⟨W, hW⟩ : ∃ W, W = d + d := ⟨_, rfl⟩
    have HWW := Lib.hid hW
    rw [← hW] at HL6 HF
    clear hW
    go_loopw [10, 11, 43] (fun _ _ i wr => ∃ (j : Nat) (lc : List Int), j ≤ d ∧ i = .int .i64 (j : Nat) ∧ Hid (Dat wr g1 m lc) ∧ Hid (∀ i k, i < d → k < d → co lc (i * d + k) = if i < j then gr O' l' i (d + k) else if i = k then 1 else 0) ∧ Hid (w6.grownBy wr (some g1))) (fun _ _ i _ => d - (intOf i).toNat)
    case atStart => exact ⟨0, l1, by omega, rfl, HO6, Lib.hid (fun i k hi hk => by rw [if_neg (by omega), HC1.out i k hi hk]), HGR0⟩
    case round =>
      obtain ⟨j, lc, hj, rfl, HDj, HCj, HGj⟩ := hrel
      obtain ⟨wo, ho⟩ : ∃ wo, wo = wr := ⟨_, rfl⟩
      subst ho
      by_cases hlt : j < d
      · have cr := (HLP.out.grown HGj.out (fun e => by have := HO.out; have := HHP.out; cases e; omega)).cell j hlt
        rw [onA_at, Nat.zero_add] at cr
        have ch := (HL6.out.grown HGj.out (fun e => by have := HO.out; cases e; omega)).cell j hlt
        have hw := HWW.out
        have HBY : Hid (Bytes wo (some ⟨g, O' j + d, none⟩) (W - d) (seg l' (O' j + d) (W - d))) := Lib.hid ((HD6.out.grown HGj.out (fun e => by have := HO.out; cases e; omega)).bytes (O' j + d) (W - d) (by have := HF.out j hlt; rw [← hw]; omega) (by omega))
        have HFI : Hid (W - d = d ∧ j * d + (W - d) ≤ m) := Lib.hid (by have := spot_lt hlt (show d - 1 < d by omega); have := HMM.out; constructor <;> omega)
        have hcut : ¬ W = d := by omega
        have hcut1 : (d : Int) ≤ W := by omega
        have hcut0 : (0 : Int) ≤ d := by omega
        clear hw
        go_wp2_with ((with_reducible refine wpList_copy_dat rfl (.tmp 48) (.tmp 54) rfl _ _ _ _ _ _ rfl rfl g1 (j * d) m _ HDj.out _ HBY.out HFI.out.1 (fun _ => rfl) HFI.out.2 ?_); intro w7 hd7 hw7; have HD7 := Lib.hid hd7; have HW7 := Lib.hid hw7; clear hd7 hw7)
        refine ⟨⟨j + 1, _, by omega, by go_num, HD7, Lib.hid (fun i k hi hk => ?_), Lib.hid (grown_trans HGj.out HW7.out)⟩, by simp [intOf]; omega⟩
        have h1 := HFI.out
        have h2 : (seg l' (O' j + d) (W - d)).length = W - d := seg_length _ _ _ (by have := HF.out j hlt; have := HD6.out.size; rw [← HWW.out] at this; have := HWW.out; omega)
        rw [splice_co _ _ _ _ (by have := HDj.out.size; omega), h2]
        by_cases e : i = j
        · subst e
          rw [if_pos (by omega), if_pos (show i < i + 1 by omega), seg_co _ _ _ _ (by omega), show O' i + d + (i * d + k - i * d) = O' i + (d + k) by omega]
          rfl
        · have hap : i * d + d ≤ j * d ∨ j * d + d ≤ i * d := (laid_rows d d (d * d) (Nat.le_refl _)).apart i j hi hlt e
          rw [if_neg (by omega), HCj.out i k hi hk]
          by_cases g : i < j
          · rw [if_pos g, if_pos (show i < j + 1 by omega)]
          · rw [if_neg g, if_neg (show ¬ i < j + 1 by omega)]
      · obtain rfl : j = d := by omega
        obtain ⟨k0, k1, k2, kf⟩ := (HXo6.out.keep (HGj.out.block b7 HXo6.out.lt (fun e => by have := HO.out; cases e; omega))).cells
        have HXr7 := Lib.hid (HXr6.out.keep (HGj.out.block _ HXr6.out.lt (fun e => by have := HO.out; cases e; omega)))
        obtain ⟨r0, r1, r2, rf⟩ := HXr7.out.cells
        go_wp2
        clear k0 k1 k2 kf r0 r1 r2 rf
        obtain ⟨z0, z1, z2, _⟩ := (HXr7.out.write (x' := .int .i64 j) (y' := .int .i64 j) (z' := .slice (some ⟨g1, 0, none⟩) m m)).cells
        refine bodyPost_ret (v := .tuple #[.agg #[.int .i64 j, .int .i64 j, .slice (some ⟨g1, 0, none⟩) m m], .int .i64 0]) (by simp [results, Try.results84, go_sem, z0, z1, z2]) rfl ?_
        clear z0 z1 z2
        refine .inr ⟨fun i k => gr O' l' i (j + k), HRK.out, fun i k => gr_lt HD6.out.by_ O' _ _, HINV.out, ?_⟩
        unfold Handed
        rw [← HMM.out]
        refine ⟨g1, lc, rfl, by have := HO.out; omega, dat_set3 HDj.out (by have := HO.out; omega), fun i k hi hk => ?_, below_set3 (HB06.out.trans (below_grows HGj.out (by have := HO.out; omega) HB06.out.size)) (Nat.le_succ _)⟩
        rw [HCj.out i k hi hk, if_pos hi]
end Go.Proofs.Ytjcbcdjfhcnhcaa
namespace Go.Proofs.Ytjcbcdjfhcnhcaa
open Go.RowKit

theorem later1 {w1 w2 : World} {o : Obj} (hb : Below (w1.alloc o).heap.size (w1.alloc o) w2) : Below w1.heap.size w1 w2 := ((Below.refl _ w1).alloc (Nat.le_refl _) o).trans (hb.mono (Nat.le_of_lt (alloc_lt _ _)))
end Go.Proofs.Ytjcbcdjfhcnhcaa
