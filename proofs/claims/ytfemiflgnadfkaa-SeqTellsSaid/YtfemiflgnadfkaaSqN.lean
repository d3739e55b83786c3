/-
  Own text: awake; law SeqTakes, walked.
-/
import Derived.Test.YtfemiflgnadfkaaSqL
namespace Go.Proofs.Ytfemiflgnadfkaa
open Go.RowKit

def sA : Sn := ⟨true, 5, 1#64, 1, 0, 0⟩
def sB : Sn := ⟨true, 7, 5#64, 2, 0, 2⟩
def sC : Sn := ⟨true, 7, 5#64, 2, 1, 2⟩
theorem takeA : Sn.zero.take 5 = (sA, 0) := by kernel_rfl
theorem takeB : sA.take 7 = (sB, 0) := by kernel_rfl
theorem takeC : sB.take 5 = (sC, 171) := by kernel_rfl
theorem fitZ (k : Nat) : Sn.zero.fit k := ⟨by decide, Nat.zero_le _, Nat.zero_le _, Nat.zero_le _, fun _ => rfl⟩
theorem fitA : sA.fit 1 := by have := Sn.take_fit (n := 5) (by omega) (fitZ 0); rwa [takeA] at this
theorem fitB : sB.fit 2 := by have := Sn.take_fit (n := 7) (by omega) fitA; rwa [takeB] at this
theorem takesA (b : Nat) (w : World) (h : SBlk w b Sn.zero) : Calls Try.prog 12 #[.pointer (some ⟨b, 0, none⟩), .int .u32 5] w fun e w' => e = .returned (.int .i64 0) ∧ Hid (SBlk w' b sA) ∧ Hid (Only b w w') := by
  have := take_any b Sn.zero 5 0 (by omega) (fitZ 0) (by omega) w h
  rwa [takeA] at this
theorem takesB (b : Nat) (w : World) (h : SBlk w b sA) : Calls Try.prog 12 #[.pointer (some ⟨b, 0, none⟩), .int .u32 7] w fun e w' => e = .returned (.int .i64 0) ∧ Hid (SBlk w' b sB) ∧ Hid (Only b w w') := by
  have := take_any b sA 7 1 (by omega) fitA (by omega) w h
  rwa [takeB] at this
theorem takesC (b : Nat) (w : World) (h : SBlk w b sB) : Calls Try.prog 12 #[.pointer (some ⟨b, 0, none⟩), .int .u32 5] w fun e w' => e = .returned (.int .i64 171) ∧ Hid (SBlk w' b sC) ∧ Hid (Only b w w') := by
  have := take_any b sB 5 2 (by omega) fitB (by omega) w h
  rwa [takeC] at this
theorem holesC (b : Nat) (w : World) (h : SBlk w b sC) : Calls Try.prog 10 #[.pointer (some ⟨b, 0, none⟩), .int .i64 2] w fun e w' => e = .returned (.int .i64 1) ∧ w = w' := by
  have := holes_any b sC 2 (by omega) (by omega) w h
  have e : cnt sC.gone.getLsbD (upto64 2) = 1 := by kernel_rfl
  rwa [e] at this
theorem hasC (b : Nat) (w : World) (h : SBlk w b sC) : Calls Try.prog 9 #[.pointer (some ⟨b, 0, none⟩), .int .u32 7] w fun e w' => e = .returned (.bool true) ∧ ∃ k, w' = w.drewN k := by
  have := has_any b sC 7 (by omega) (show 7 < 4294967296 by omega) w h
  have e : sC.bts.getLsbD (dist sC.top 7) = true := by kernel_rfl
  rwa [e] at this
theorem awake8_any (w : World) :
    Calls Try.prog 6 #[] w fun e w' => e = .returned (.bool true) ∧ Below w.heap.size w w' := by
  have H0 : Hid (SBlk (w.alloc (.cells #[Value.bool false, Value.int .u32 0, Value.int .u64 0, Value.int .i64 0, Value.int .i64 0, Value.int .i64 0] 27)) w.heap.size Sn.zero) := Lib.hid (Go.Deep.blk_alloc_new w _)
  have HB := Lib.hid ((Below.refl w.heap.size w).alloc (Nat.le_refl _) (.cells #[Value.bool false, Value.int .u32 0, Value.int .u64 0, Value.int .i64 0, Value.int .i64 0, Value.int .i64 0] 27))
  go_enter Try.func6, Try.ntmps6
  go_upto_region 2 with fail
  generalize w.alloc (.cells #[Value.bool false, Value.int .u32 0, Value.int .u64 0, Value.int .i64 0, Value.int .i64 0, Value.int .i64 0] 27) = W at *
  go_wp2_with (first
    | (go_at_call 12; (with_reducible refine (takesA _ _ H0.out).mono ?_); rintro e w1 ⟨rfl, H1, O1⟩)
    | (go_at_call 12; (with_reducible refine (takesB _ _ H1.out).mono ?_); rintro e w2 ⟨rfl, H2, O2⟩)
    | (go_at_call 12; (with_reducible refine (takesC _ _ H2.out).mono ?_); rintro e w3 ⟨rfl, H3, O3⟩)
    | (go_at_call 10; (with_reducible refine (holesC _ _ H3.out).mono ?_); rintro e w4 ⟨rfl, rfl⟩)
    | (go_at_call 9; (with_reducible refine (hasC _ _ H3.out).mono ?_); rintro e w5 ⟨rfl, k, rfl⟩)
    | fail)
  go_ret
  exact ⟨rfl, below_drewN (O3.out.bel _ _ (Nat.le_refl _) (O2.out.bel _ _ (Nat.le_refl _) (O1.out.bel _ _ (Nat.le_refl _) HB.out))) k⟩
theorem wpList_store_sblk {w : World} {ops : Array Oper} {rest : List Oper} {o : Oper} {a : Act} {Q : Exit → Act → World → Prop} (hgd : o.guard = none) (x y : Operand) (ho : o.op = .store 27 x y)
    (g : Nat) (hx : a.eval x = .pointer (some ⟨g, 0, none⟩)) (s s0 : Sn) (hy : a.eval y = .agg s.cells) (hg : SBlk w g s0)
    (h : ∀ w', Hid (SBlk w' g s) → Hid (∀ c, c ≠ g → w'.heap[c]? = w.heap[c]?) → Hid (Below g w w') → w'.heap.size = w.heap.size → wpList Try.prog ops Q rest (a.put o.dst undef) w') :
    wpList Try.prog ops Q (o :: rest) a w := by
  refine wpList_store_row hgd 27 x y ho g s.cells hx hy 27 s0.cells hg info27 rfl s.cells_one ?_
  refine h _ (Lib.hid ?_) (Lib.hid ?_) (Lib.hid (below_setRow (Below.refl _ _) (Nat.le_refl _) _)) (size_setRow _ _ _)
  · unfold SBlk at *
    simp [World.setRow, Array.getElem?_modify, hg]
  · intro c hc
    simp only [World.setRow, Array.getElem?_modify]
    rw [if_neg (fun e => hc e.symm)]
theorem Sn.dc_one (s : Sn) : ∀ i, (s.dc i).oneCell' = true := dcl_one _ _ _ _ _ _
theorem two_blocks (w : World) : SBlk ((w.alloc (.cells #[Value.bool false, Value.int .u32 0, Value.int .u64 0, Value.int .i64 0, Value.int .i64 0, Value.int .i64 0] 27)).alloc (.cells (rowOf 69 Sn.zero.dc) 30)) w.heap.size Sn.zero ∧ DRow ((w.alloc (.cells #[Value.bool false, Value.int .u32 0, Value.int .u64 0, Value.int .i64 0, Value.int .i64 0, Value.int .i64 0] 27)).alloc (.cells (rowOf 69 Sn.zero.dc) 30)) (w.heap.size + 1) Sn.zero.dc := by
  constructor
  · have h : SBlk (w.alloc (.cells #[Value.bool false, Value.int .u32 0, Value.int .u64 0, Value.int .i64 0, Value.int .i64 0, Value.int .i64 0] 27)) w.heap.size Sn.zero := Go.Deep.blk_alloc_new w _
    exact h.keep (Below.heap_alloc _ _ _ (by simp))
  · have := rowIs_new (w.alloc (.cells #[Value.bool false, Value.int .u32 0, Value.int .u64 0, Value.int .i64 0, Value.int .i64 0, Value.int .i64 0] 27)) 69 Sn.zero.dc 30
    simpa using this
theorem laid_below {w w2 w3 w4 : World} (h : Below w.heap.size w w2) (A B : Array Value) {t1 t2 : TypeId} (h3 : Below w2.heap.size ((w2.alloc (.cells A t1)).alloc (.cells B t2)) w3) (h4 : Below (w2.heap.size + 1) w3 w4) : Below w.heap.size w w4 := by
  have hs := h.size
  exact ((((h.alloc hs _).alloc (by simp; omega) _).trans (h3.mono hs)).trans (h4.mono (by omega)))
theorem beh_self (n : Nat) : beh n n = 0 := by
  unfold beh
  rw [if_neg (by omega), if_neg (by omega)]
  omega
/-- A number that has come is among the last ones, and marked; or it was too old, and nothing changed. -/
theorem take_mark {s : Sn} {n k : Nat} (hn : n < 4294967296) (hf : s.fit k) :
    (((s.take n).2 = 0 ∨ (s.take n).2 = 171) ∧ (s.take n).1.any = true ∧ beh n (s.take n).1.top ≤ 0 ∧ -64 < beh n (s.take n).1.top ∧ (s.take n).1.bts.getLsbD (dist (s.take n).1.top n) = true) ∨
    (s.take n = (s, 90) ∧ s.any = true ∧ beh n s.top ≤ -64) := by
  have ht := hf.top
  cases hs : s.any
  · have e : s.take n = (⟨true, n, 1#64, 1, 0, 0⟩, 0) := by unfold Sn.take; rw [hs]; rfl
    rw [e]
    refine .inl ⟨.inl rfl, rfl, ?_, ?_, ?_⟩
    · show beh n n ≤ 0; rw [beh_self]; omega
    · show -64 < beh n n; rw [beh_self]; omega
    · show (1#64).getLsbD (dist n n) = true; rw [dist_self]; rfl
  · by_cases ho : beh n s.top ≤ -64
    · exact .inr ⟨by unfold Sn.take; simp [hs, ho], rfl, ho⟩
    · refine .inl ?_
      by_cases hy : 0 < beh n s.top
      · have e : s.take n = ({ s.moved n (beh n s.top).toNat with bts := (s.bts <<< (beh n s.top).toNat) ||| 1#64, came := s.came + 1 }, 0) := by unfold Sn.take; simp [hs, ho, hy]
        rw [e]
        refine ⟨.inl rfl, hs, ?_, ?_, ?_⟩
        · show beh n n ≤ 0; rw [beh_self]; omega
        · show -64 < beh n n; rw [beh_self]; omega
        · show ((s.bts <<< (beh n s.top).toNat) ||| 1#64).getLsbD (dist n n) = true
          rw [dist_self]; simp
      · have hd := dist_old hn ht (by omega)
        have hd0 : dist s.top n < 64 := by omega
        cases hb : s.bts.getLsbD (dist s.top n)
        · have e : s.take n = ({ s with bts := s.bts ||| (1#64 <<< dist s.top n), came := s.came + 1 }, 0) := by unfold Sn.take; simp [hs, ho, hy, hb]
          rw [e]
          refine ⟨.inl rfl, hs, by show beh n s.top ≤ 0; omega, by show -64 < beh n s.top; omega, ?_⟩
          show (s.bts ||| (1#64 <<< dist s.top n)).getLsbD (dist s.top n) = true
          simp [hd0]
        · have e : s.take n = ({ s with twice := s.twice + 1 }, 171) := by unfold Sn.take; simp [hs, ho, hy, hb]
          rw [e]
          exact ⟨.inr rfl, hs, by show beh n s.top ≤ 0; omega, by show -64 < beh n s.top; omega, hb⟩
theorem take_again {s : Sn} {n : Nat} (hs : s.any = true) (h0 : beh n s.top ≤ 0) (h1 : -64 < beh n s.top) (hb : s.bts.getLsbD (dist s.top n) = true) : s.take n = ({ s with twice := s.twice + 1 }, 171) := by
  have ho : ¬ beh n s.top ≤ -64 := by omega
  have hy : ¬ 0 < beh n s.top := by omega
  unfold Sn.take
  simp [hs, ho, hy, hb]
theorem keep_alloc {w : World} {b : Nat} {s : Sn} (h : SBlk w b s) (o : Obj) : SBlk (w.alloc o) b s := h.keep (Below.heap_alloc w o b h.lt)
theorem was_kept {w : World} {b : Nat} {s : Sn} (h : SBlk w b s) (w' : World) (ho : Only b (w.alloc (.cells s.cells 27)) w') : SBlk w' w.heap.size s := by
  have h0 : SBlk (w.alloc (.cells s.cells 27)) w.heap.size s := Go.Deep.blk_alloc_new w _
  exact h0.keep (ho.blk _ (by have := h.lt; omega))
set_option maxRecDepth 100000 in
theorem takes8_walk (a : Option Addr) (len cap : Nat) (zs : List Int)  (w : World) (h : IsRow .u32 w a len cap zs) :
    Calls Try.prog 3 #[.slice a len cap] w fun e w' => e = .returned (.bool true) ∧ Below w.heap.size w w' := by
  have z := zero30
  have HU := Lib.hid h.u32s
  clear h
  obtain ⟨Z, hz⟩ : ∃ Z, Z = rowOf 69 Sn.zero.dc := ⟨_, rfl⟩
  rw [← hz] at z
  have HZ : Hid (∀ w' : World, SBlk ((w'.alloc (.cells #[Value.bool false, Value.int .u32 0, Value.int .u64 0, Value.int .i64 0, Value.int .i64 0, Value.int .i64 0] 27)).alloc (.cells Z 30)) w'.heap.size Sn.zero ∧ DRow ((w'.alloc (.cells #[Value.bool false, Value.int .u32 0, Value.int .u64 0, Value.int .i64 0, Value.int .i64 0, Value.int .i64 0] 27)).alloc (.cells Z 30)) (w'.heap.size + 1) Sn.zero.dc) := Lib.hid (fun w' => by
    rw [hz]
    exact two_blocks w')
  have HZ2 : Hid (∀ w' w3 : World, (∀ c, c ≠ w'.heap.size → w3.heap[c]? = ((w'.alloc (.cells #[Value.bool false, Value.int .u32 0, Value.int .u64 0, Value.int .i64 0, Value.int .i64 0, Value.int .i64 0] 27)).alloc (.cells Z 30)).heap[c]?) → DRow w3 (w'.heap.size + 1) Sn.zero.dc) := Lib.hid (fun w' w3 h => (HZ.out w').2.of_block (h _ (by omega)))
  clear hz
  have I30 := Lib.hid info30
  go_enter Try.func3, Try.ntmps3
  go_upto_region 4 with (first
    | (go_at_call 6; (refine (awake8_any _).mono ?_); rintro e w1 ⟨rfl, hb1⟩; have HB1 := Lib.hid hb1; have HU1 := Lib.hid (HU.out.below hb1 (Nat.le_refl _)); clear hb1)
    | (go_at_call 7; (refine (played_any _ _ _ _ HU1.out).mono ?_); rintro e w2 ⟨s, rfl, hf, hb2⟩; have HF := Lib.hid hf; have HB2 := Lib.hid (HB1.out.trans (hb2.mono HB1.out.size)); have HFO := Lib.hid s.dc_one; clear hf hb2)
    | (with_reducible refine wpList_store_sblk rfl (.tmp 3) (.tmp 11) rfl w2.heap.size rfl s Sn.zero rfl (HZ.out w2).1 ?_; intro w3 J1 J2 J3 J4)
    | (with_reducible refine wpList_store_rowIs rfl 30 (.tmp 4) (.tmp 12) rfl (w2.heap.size + 1) rfl 69 s.dc rfl 30 Sn.zero.dc (HZ2.out w2 w3 J2.out) I30.out HFO.out ?_; intro w4 N1 N2 N3 N4)
    | fail)
  have HS : Hid (SBlk w4 w2.heap.size s) := Lib.hid (J1.out.keep (N2.out _ (by omega)))
  have HW : Hid (Below w.heap.size w w4) := Lib.hid (laid_below HB2.out #[Value.bool false, Value.int .u32 0, Value.int .u64 0, Value.int .i64 0, Value.int .i64 0, Value.int .i64 0] Z J3.out N3.out)
  have HBS := HB2
  clear J1 J2 J3 J4 N2 N3 N4 HZ HZ2 z HB1 HB2 HU HU1 HFO
  clear HBS
  go_wp2
  go_ret
  exact ⟨rfl, HW.out⟩
set_option maxRecDepth 100000 in
theorem once8_walk (a : Option Addr) (len cap : Nat) (zs : List Int) (n : Nat) (HN : Hid (n < 4294967296)) (w : World) (h : IsRow .u32 w a len cap zs) :
    Calls Try.prog 5 #[.slice a len cap, .int .u32 n] w fun e w' => e = .returned (.bool true) ∧ Below w.heap.size w w' := by
  have z := zero30
  have HU := Lib.hid h.u32s
  clear h
  obtain ⟨Z, hz⟩ : ∃ Z, Z = rowOf 69 Sn.zero.dc := ⟨_, rfl⟩
  rw [← hz] at z
  have HZ : Hid (∀ w' : World, SBlk ((w'.alloc (.cells #[Value.bool false, Value.int .u32 0, Value.int .u64 0, Value.int .i64 0, Value.int .i64 0, Value.int .i64 0] 27)).alloc (.cells Z 30)) w'.heap.size Sn.zero ∧ DRow ((w'.alloc (.cells #[Value.bool false, Value.int .u32 0, Value.int .u64 0, Value.int .i64 0, Value.int .i64 0, Value.int .i64 0] 27)).alloc (.cells Z 30)) (w'.heap.size + 1) Sn.zero.dc) := Lib.hid (fun w' => by
    rw [hz]
    exact two_blocks w')
  have HZ2 : Hid (∀ w' w3 : World, (∀ c, c ≠ w'.heap.size → w3.heap[c]? = ((w'.alloc (.cells #[Value.bool false, Value.int .u32 0, Value.int .u64 0, Value.int .i64 0, Value.int .i64 0, Value.int .i64 0] 27)).alloc (.cells Z 30)).heap[c]?) → DRow w3 (w'.heap.size + 1) Sn.zero.dc) := Lib.hid (fun w' w3 h => (HZ.out w').2.of_block (h _ (by omega)))
  clear hz
  have I30 := Lib.hid info30
  go_enter Try.func5, Try.ntmps5
  go_upto_region 6 with (first
    | (go_at_call 6; (refine (awake8_any _).mono ?_); rintro e w1 ⟨rfl, hb1⟩; have HB1 := Lib.hid hb1; have HU1 := Lib.hid (HU.out.below hb1 (Nat.le_refl _)); clear hb1)
    | (go_at_call 7; (refine (played_any _ _ _ _ HU1.out).mono ?_); rintro e w2 ⟨s, rfl, hf, hb2⟩; have HF := Lib.hid hf; have HB2 := Lib.hid (HB1.out.trans (hb2.mono HB1.out.size)); have HFO := Lib.hid s.dc_one; clear hf hb2)
    | (with_reducible refine wpList_store_sblk rfl (.tmp 5) (.tmp 16) rfl w2.heap.size rfl s Sn.zero rfl (HZ.out w2).1 ?_; intro w3 J1 J2 J3 J4)
    | (with_reducible refine wpList_store_rowIs rfl 30 (.tmp 6) (.tmp 17) rfl (w2.heap.size + 1) rfl 69 s.dc rfl 30 Sn.zero.dc (HZ2.out w2 w3 J2.out) I30.out HFO.out ?_; intro w4 N1 N2 N3 N4)
    | fail)
  have HS : Hid (SBlk w4 w2.heap.size s) := Lib.hid (J1.out.keep (N2.out _ (by omega)))
  have HW : Hid (Below w.heap.size w w4) := Lib.hid (laid_below HB2.out #[Value.bool false, Value.int .u32 0, Value.int .u64 0, Value.int .i64 0, Value.int .i64 0, Value.int .i64 0] Z J3.out N3.out)
  have HBS := HB2
  clear J1 J2 J3 J4 N2 N3 N4 HZ HZ2 z HB1 HB2 HU HU1 HFO
  have hft : (s.take n).1.fit 201 := Sn.take_fit HN.out HF.out
  have CT1 : Hid (∀ w', SBlk w' w2.heap.size s → Calls Try.prog 12 #[.pointer (some ⟨w2.heap.size, 0, none⟩), .int .u32 n] w' fun e w'' => e = .returned (.int .i64 (s.take n).2) ∧ Hid (SBlk w'' w2.heap.size (s.take n).1) ∧ Hid (Only w2.heap.size w' w'')) := Lib.hid (fun w' hb => take_any _ s n 200 HN.out HF.out (by omega) w' hb)
  have CT2 : Hid (∀ w', SBlk w' w2.heap.size (s.take n).1 → Calls Try.prog 12 #[.pointer (some ⟨w2.heap.size, 0, none⟩), .int .u32 n] w' fun e w'' => e = .returned (.int .i64 ((s.take n).1.take n).2) ∧ Hid (SBlk w'' w2.heap.size ((s.take n).1.take n).1) ∧ Hid (Only w2.heap.size w' w'')) := Lib.hid (fun w' hb => take_any _ (s.take n).1 n 201 HN.out hft (by omega) w' hb)
  have HH : Hid (∀ w', SBlk w' w2.heap.size ((s.take n).1.take n).1 → Calls Try.prog 9 #[.pointer (some ⟨w2.heap.size, 0, none⟩), .int .u32 n] w' fun e w'' => e = .returned (.bool (((s.take n).1.take n).1.bts.getLsbD (dist ((s.take n).1.take n).1.top n))) ∧ ∃ k, w'' = w'.drewN k) := Lib.hid (fun w' hb => has_any _ ((s.take n).1.take n).1 n HN.out (Sn.take_fit HN.out hft).top w' hb)
  have hm := take_mark HN.out HF.out
  have htop := HF.out.top
  have HLE : Hid (w.heap.size ≤ w2.heap.size) := Lib.hid HBS.out.size
  clear hft N1 HBS
  rcases hm with ⟨hc, ha, h0, h1, hb⟩ | ⟨he, ha, ho⟩
  · rw [take_again ha h0 h1 hb] at CT2 HH
    generalize hs1 : (s.take n).1 = s1 at *
    generalize hc1 : (s.take n).2 = c1 at *
    have HH2 : Hid (∀ w', SBlk w' w2.heap.size { s1 with twice := s1.twice + 1 } → Calls Try.prog 9 #[.pointer (some ⟨w2.heap.size, 0, none⟩), .int .u32 n] w' fun e w'' => e = .returned (.bool true) ∧ ∃ k, w'' = w'.drewN k) := Lib.hid (fun w' hb' => by have := HH.out w' hb'; rwa [hb] at this)
    clear HH hs1 hc1 ha h0 h1 hb htop
    rcases hc with rfl | rfl
    · go_upto_region 11 with (first
        | (go_at_call 12; (with_reducible refine (CT1.out _ HS.out).mono ?_); rintro e w5 ⟨rfl, H5, O5⟩; obtain ⟨q0, q1, q2, q3, q4, q5⟩ := H5.out.six; have HK := Lib.hid (keep_alloc H5.out); have HV := Lib.hid (was_kept H5.out))
        | (go_at_call 12; (with_reducible refine (CT2.out _ (HK.out _)).mono ?_); rintro e w6 ⟨rfl, H6, O6⟩; obtain ⟨p0, p1, p2, p3, p4, p5⟩ := (HV.out w6 O6.out).six; obtain ⟨r0, r1, r2, r3, r4, r5⟩ := H6.out.six)
        | fail)
      go_wp2_with (first
        | (go_at_call 9; (with_reducible refine (HH2.out _ H6.out).mono ?_); rintro e w7 ⟨rfl, k, rfl⟩)
        | fail)
      go_ret
      exact ⟨rfl, below_drewN (O6.out.bel _ _ HLE.out ((O5.out.bel _ _ HLE.out HW.out).alloc (Nat.le_trans HLE.out (Nat.le_of_lt H5.out.lt)) _)) k⟩
    · go_upto_region 11 with (first
        | (go_at_call 12; (with_reducible refine (CT1.out _ HS.out).mono ?_); rintro e w5 ⟨rfl, H5, O5⟩; obtain ⟨q0, q1, q2, q3, q4, q5⟩ := H5.out.six; have HK := Lib.hid (keep_alloc H5.out); have HV := Lib.hid (was_kept H5.out))
        | (go_at_call 12; (with_reducible refine (CT2.out _ (HK.out _)).mono ?_); rintro e w6 ⟨rfl, H6, O6⟩; obtain ⟨p0, p1, p2, p3, p4, p5⟩ := (HV.out w6 O6.out).six; obtain ⟨r0, r1, r2, r3, r4, r5⟩ := H6.out.six)
        | fail)
      go_wp2_with (first
        | (go_at_call 9; (with_reducible refine (HH2.out _ H6.out).mono ?_); rintro e w7 ⟨rfl, k, rfl⟩)
        | fail)
      go_ret
      exact ⟨rfl, below_drewN (O6.out.bel _ _ HLE.out ((O5.out.bel _ _ HLE.out HW.out).alloc (Nat.le_trans HLE.out (Nat.le_of_lt H5.out.lt)) _)) k⟩
  · have hbf : s.bts.getLsbD (dist s.top n) = false := BitVec.getLsbD_of_ge _ _ (by have := dist_old HN.out htop (by omega); omega)
    rw [he] at CT1 CT2 HH
    dsimp only at CT2 HH
    rw [he] at CT2 HH
    have HH2 : Hid (∀ w', SBlk w' w2.heap.size s → Calls Try.prog 9 #[.pointer (some ⟨w2.heap.size, 0, none⟩), .int .u32 n] w' fun e w'' => e = .returned (.bool false) ∧ ∃ k, w'' = w'.drewN k) := Lib.hid (fun w' hb' => by have := HH.out w' hb'; rwa [hbf] at this)
    clear HH he ha ho hbf htop
    go_upto_region 11 with (first
      | (go_at_call 12; (with_reducible refine (CT1.out _ HS.out).mono ?_); rintro e w5 ⟨rfl, H5, O5⟩; obtain ⟨q0, q1, q2, q3, q4, q5⟩ := H5.out.six; have HK := Lib.hid (keep_alloc H5.out); have HV := Lib.hid (was_kept H5.out))
      | (go_at_call 12; (with_reducible refine (CT2.out _ (HK.out _)).mono ?_); rintro e w6 ⟨rfl, H6, O6⟩; obtain ⟨p0, p1, p2, p3, p4, p5⟩ := (HV.out w6 O6.out).six; obtain ⟨r0, r1, r2, r3, r4, r5⟩ := H6.out.six)
      | fail)
    go_wp2_with (first
      | (go_at_call 9; (with_reducible refine (HH2.out _ H6.out).mono ?_); rintro e w7 ⟨rfl, k, rfl⟩)
      | fail)
    go_ret
    exact ⟨rfl, below_drewN (O6.out.bel _ _ HLE.out ((O5.out.bel _ _ HLE.out HW.out).alloc (Nat.le_trans HLE.out (Nat.le_of_lt H5.out.lt)) _)) k⟩
theorem once8_full (a : Option Addr) (len cap : Nat) (zs : List Int) (x : Int) (w : World) (h : IsRow .u32 w a len cap zs) (hx : (Lit.int .u32 x).wf = true) :
    Calls Try.prog 5 #[.slice a len cap, .int .u32 x] w fun e w' => e = .returned (.bool true) ∧ Below w.heap.size w w' := by
  obtain ⟨h0, h1⟩ := u32_lo hx
  have e : x = (x.toNat : Int) := by omega
  rw [e]
  exact once8_walk a len cap zs x.toNat (Lib.hid (by omega)) w h
end Go.Proofs.Ytfemiflgnadfkaa
