/-
  Own text: Choose, walked. (Written by gen_mpu.py.)
-/
import Derived.Test.YtldhlknmabpanaaGreatK20
import Derived.Test.YtldhlknmabpanaaGreatK06
import Derived.Deep.DeepCutAuto
namespace Go.Proofs.YtldhlknmabpanaaGreat.Mp
open Go.RowKit
variable [Ghost]

omit [Ghost] in
theorem info_ptr : (Tryz.prog.info? 121).map (fun i => (i.zero, i.size, i.bytes)) = some (some (.pointer none), 1, 8) := by kernel_rfl
omit [Ghost] in
theorem one_ptr (W : World) (z : Value) (t : TypeId) (j : Nat) (u : Value) (h : ([z] : List Value)[j]? = some u) : (W.alloc (.cells #[z] t)).cell? ((⟨W.heap.size, 0, none⟩ : Addr).add j) = some u := by
  cases j with
  | zero =>
    have e : z = u := by simpa using h
    subst e
    simp only [World.cell?, Addr.add_mid, Go.Deep.blk_alloc_new]
    rfl
  | succ j => simp at h
omit [Ghost] in
theorem row_ptr {w : World} {base n : Nat} {t : TypeId} {v : Value} {xs : List Value} (h : w.ownsRow base t 1 v n xs) : ∃ A C, v = .slice A n C ∧ n ≤ C := by
  rcases h.2 with ⟨rfl, rfl⟩ | ⟨g, cap, cur, rfl, _, _, h1, _⟩
  · exact ⟨_, _, rfl, Nat.le_refl _⟩
  · exact ⟨_, _, rfl, h1⟩
omit [Ghost] in
/-- One pointer is appended to a slice of the call's own, as a step of a region that draws its order. -/
theorem step_append_ptr {ops : Array Oper} {o : Oper} {a : Act} {w1 : World} {K : Act → World → Prop} {Q : Exit → Act → World → Prop} {E : Prop} (hgd : o.guard = none) (W : World) (s x : Operand)
    (hop : o.op = .call { callee := .builtin .append, args := #[s, x], argTypes := #[120, 120] }) (base k C : Nat) (A : Option Addr) (xs : List Value) (z : Value) (hs : a.eval s = .slice A k C)
    (hx : a.eval x = .slice (some ⟨W.heap.size, 0, none⟩) 1 1) (hown : W.ownsRow base 121 1 (.slice A k C) k xs) (hz : z.oneCell' = true) (hk : k ≤ 1000) (hb : base ≤ W.heap.size) (hw1 : w1 = W.alloc (.cells #[z] 121))
    (hK : ∀ A' C' w', Hid (w'.ownsRow base 121 1 (.slice A' (k + 1) C') (k + 1) (xs ++ [z])) → Hid ((W.alloc (.cells #[z] 121)).grownBy w' (Value.slice A k C).ownBlock) → K (a.put o.dst (.slice A' (k + 1) C')) w') :
    if Region.wanted o (yielded ops a.tmps) = true then Oper.wp Tryz.prog o a w1 K Q else E := by
  have hw : Region.wanted o (yielded ops a.tmps) = true := by simp [Region.wanted, hgd]
  rw [if_pos hw]
  subst hw1
  obtain ⟨i, hi, hzz⟩ := Option.map_eq_some_iff.1 info_ptr
  simp only [Prod.mk.injEq] at hzz
  obtain ⟨hiz, hsz, hby⟩ := hzz
  refine wp_append_own (W.alloc (.cells #[z] 121)) s x 120 hop base 121 i (.pointer none) 1 8 Tryz.underlying120 hi hiz hsz hby rfl (by decide) (.slice A k C) k xs hs (hown.alloc _) ⟨W.heap.size, 0, none⟩ 1 1 [z] hx rfl (one_ptr W z 121) ?_ ?_ ?_ ?_ ?_
  · intro u hu
    rw [List.mem_singleton.1 hu]
    exact hz
  · unfold maxLen; omega
  · omega
  · simp; omega
  · intro v' w' h1 h2 _
    obtain ⟨A', C', rfl, _⟩ := row_ptr h1
    exact hK A' C' w' (Lib.hid h1) (Lib.hid h2)
def ptrs (p j : Nat) : List Value := (List.range j).map (fun i => .pointer (some ⟨p, i * 15, none⟩))
omit [Ghost] in
theorem ptrs_succ (p j : Nat) : ptrs p j ++ [.pointer (some ⟨p, j * 15, none⟩)] = ptrs p (j + 1) := by
  unfold ptrs
  rw [List.range_succ, List.map_append]
  rfl
/-- The list of ways that Choose makes, behind j of them. -/
structure Lst (w : World) (p j : Nat) (A : Option Addr) (C : Nat) (W : World) : Prop where
  bel : Below w.heap.size w W
  lt : w.heap.size < W.heap.size
  cell : W.cell? ⟨w.heap.size, 0, none⟩ = some (.slice A j C)
  fr : W.frozen? ⟨w.heap.size, 0, none⟩ = false
  own : W.ownsRow (w.heap.size + 1) 121 1 (.slice A j C) j (ptrs p j)
omit [Ghost] in
theorem Lst.below {w W W' : World} {p j C : Nat} {A : Option Addr} (h : Lst w p j A C W) (hb : Below W.heap.size W W') : Lst w p j A C W' :=
  ⟨h.bel.trans (hb.mono h.bel.size), Nat.lt_of_lt_of_le h.lt hb.size, (hb.cell (p := ⟨w.heap.size, 0, none⟩) h.lt).trans h.cell, (by
    have := h.fr
    unfold World.frozen? at *
    rw [hb.block w.heap.size h.lt]
    exact this), ownsRow_below h.own hb (Nat.le_refl _)⟩
omit [Ghost] in
theorem Lst.drew {w W : World} {p j C : Nat} {A : Option Addr} (h : Lst w p j A C W) : Lst w p j A C W.drew := h.below (Below.refl _ _).drew
omit [Ghost] in
theorem Lst.start (w : World) (p : Nat) : Lst w p 0 none 0 (w.alloc (.cells #[.slice none 0 0] 120)) := by
  have hL := Lies.new w #[.slice none 0 0] 120 (Below.refl _ _)
  exact ⟨(Below.refl _ _).alloc (Nat.le_refl _) _, hL.lt, hL.cell 0 (by decide : 0 < 1), hL.frozen 0, rfl, .inl ⟨rfl, rfl⟩⟩
omit [Ghost] in
theorem Lst.put {w W w5 : World} {p j C C' : Nat} {A A' : Option Addr} {z : Value} (h : Lst w p j A C W) (ho : w5.ownsRow (w.heap.size + 1) 121 1 (.slice A' (j + 1) C') (j + 1) (ptrs p j ++ [.pointer (some ⟨p, j * 15, none⟩)])) (hg : (W.alloc (.cells #[z] 121)).grownBy w5 (Value.slice A j C).ownBlock) : (w5.cell? ⟨w.heap.size, 0, none⟩ = some (.slice A j C) ∧ w5.frozen? ⟨w.heap.size, 0, none⟩ = false) ∧ Lst w p (j + 1) A' C' (w5.setCell ⟨w.heap.size, 0, none⟩ (.slice A' (j + 1) C')) := by
  have hL1 := h.below ((Below.refl W.heap.size W).alloc (Nat.le_refl _) (.cells #[z] 121))
  have hb5 : Below w.heap.size w w5 := below_grown hL1.bel hg hL1.bel.size (fun k hk => by have := (h.own.lt k hk).1; omega)
  have e : w5.heap[w.heap.size]? = (W.alloc (.cells #[z] 121)).heap[w.heap.size]? := hg.block _ hL1.lt (fun e => by have := (h.own.lt _ e.symm).1; omega)
  have hl5 : w.heap.size < w5.heap.size := Nat.lt_of_lt_of_le hL1.lt hg.size
  have hc5 : w5.cell? ⟨w.heap.size, 0, none⟩ = some (.slice A j C) := (World.cell?_of_block (a := ⟨w.heap.size, 0, none⟩) e).trans hL1.cell
  have hf5 : w5.frozen? ⟨w.heap.size, 0, none⟩ = false := by
    have := hL1.fr
    unfold World.frozen? at *
    rw [show w5.heap[w.heap.size]? = _ from e]
    exact this
  refine ⟨⟨hc5, hf5⟩, hb5.setCell (p := ⟨w.heap.size, 0, none⟩) (Nat.le_refl _) _, by simpa using hl5, ?_, ?_, ?_⟩
  · exact World.cell?_setCell_same w5 _ _ hc5
  · exact (World.frozen?_setCell w5 _ _ _).trans hf5
  · rw [← ptrs_succ]
    exact ownsRow_keep ho (fun g cur hg' _ => Below.heap_setCell w5 ⟨w.heap.size, 0, none⟩ _ g (by have := (ho.lt g hg').1; show g ≠ w.heap.size; omega))
omit [Ghost] in
theorem Lst.ways {w W : World} {p C : Nat} {A : Option Addr} {P : Nat → Pn} (h : Lst w p 2 A C W) (hp : ∀ i, i < 2 → PLie W p (i * 15) (P i)) : Ways W A 2 (fun _ => p) (fun i => i * 15) P ∧ ∃ lb, A = some ⟨lb, 0, none⟩ ∧ w.heap.size < lb := by
  have ho := h.own
  rcases ho.2 with ⟨_, h0⟩ | ⟨g, cap, cur, e, h1, hg, h3, h4, h5, h6⟩
  · omega
  · simp only [Value.slice.injEq, true_and] at e
    obtain ⟨rfl, rfl⟩ := e
    refine ⟨fun i hi => ⟨g, rfl, ?_, hp i hi⟩, g, rfl, h1⟩
    have hc : cur.toList.take (2 * 1) = ptrs p 2 := h6
    have : W.cell? ⟨g, i, none⟩ = cur[i]? := by simp [World.cell?, hg]
    rw [this, ← Array.getElem?_toList]
    have e2 : cur.toList[i]? = (cur.toList.take (2 * 1))[i]? := by rw [List.getElem?_take_of_lt (by omega)]
    rw [e2, hc]
    rcases (by omega : i = 0 ∨ i = 1) with rfl | rfl <;> rfl
omit [Ghost] in
theorem both_dbl (s : Sd) (r : Int) : dbl r (s.wy s.d0).st.lo (s.wy s.d0).state = decide (s.all r) := by
  unfold dbl Sd.all
  by_cases h1 : r = 1
  · rw [if_pos h1]
    by_cases h2 : 6553 ≤ (s.wy s.d0).st.lo
    · simp [h1, h2]
    · simp [h1, h2]
  · simp [h1]
/-- The numbers that Choose tells. -/
def Chose (w : World) (l : List Nat) (e : Ending) (w' : World) : Prop := ∃ g, e = .returned (.slice (some ⟨g, 0, none⟩) l.length 2) ∧ Hid ((∀ (i j : Nat), l[i]? = some j → w'.cell? ⟨g, i, none⟩ = some (.int .i64 (j : Int))) ∧ w.heap.size ≤ g) ∧ Hid (Below w.heap.size w w')
set_option maxRecDepth 100000 in
set_option maxHeartbeats 2000000 in
theorem choose_sb {w : World} {S : Nat → Prop} {p k : Nat} {s : Sd} (r : Int) (h : SB w S p s) (hf : s.fit k) :
    Calls Tryz.prog 21 #[.pointer (some ⟨p, 0, none⟩), .int .i64 r] w (Chose w (s.choose r)) := by
  obtain ⟨kb, qb, A, C, h⟩ := h
  have hpl := h.lt p h.inS.1
  have HP : Hid (∀ w', Below w.heap.size w w' → ∀ i, i < 2 → PLie w' p (i * 15) (s.wy i)) := Lib.hid (fun w' hb i hi => by
    rcases (by omega : i = 0 ∨ i = 1) with rfl | rfl
    · exact h.blk.w0.below hb hpl
    · exact h.blk.w1.below hb hpl)
  have HF := Lib.hid hf.wy
  have HPL := Lib.hid hpl
  have HST := Lib.hid (Lst.start w p)
  clear h hf hpl
  go_enter Tryz.func21, Tryz.ntmps21
  go_upto_region 2 with fail
  generalize w.alloc (.cells #[.slice none 0 0] 120) = W1 at *
  go_wp2
  go_loopw [9] (fun s9 wr => ∃ (j : Nat) (A : Option Addr) (C : Nat), j ≤ 2 ∧ s9 = .int .i64 (j : Int) ∧ Hid (Lst w p j A C wr)) (fun s9 _ => 2 - (intOf s9).toNat)
  case atStart => exact ⟨0, none, 0, by decide, rfl, HST⟩
  case round =>
    obtain ⟨j, A1, C1, hj, rfl, HL⟩ := hrel
    clear HST
    by_cases hlt : j < 2
    · have j0 : (0 : Int) ≤ (j : Int) := by omega
      have j1 : (j : Int) < 2 := by omega
      have HJ := Lib.hid hlt
      have HO := Lib.hid HL.out.own
      clear hj hlt
      go_upto_region 5 with fail
      have c0 := HL.out.cell
      have HK5 : Hid (j ≤ 1000) := Lib.hid (by have := HJ.out; omega)
      have HB5 : Hid (w.heap.size + 1 ≤ wr.drew.heap.size) := Lib.hid HL.out.lt
      have HS1 : Hid ((wr.alloc (.cells #[.pointer (some ⟨p, j * 15, none⟩)] 121)).cell? ⟨w.heap.size, 0, none⟩ = some (.slice A1 j C1)) := Lib.hid ((((Below.refl wr.heap.size wr).alloc (Nat.le_refl _) _).cell (p := ⟨w.heap.size, 0, none⟩) HL.out.lt).trans c0)
      refine wp_region_held_drew (S := fun _ => True) (by kernel_rfl) True.intro (fun hHeld => ?_)
      clear c0
      refine taken_at (i := 1) (v := .pointer (some ⟨p, 0, none⟩)) (some 13) rfl rfl (by kernel_rfl) (by kernel_rfl) (by kernel_rfl) (fun _ _ _ h => h) (Or.inl ⟨rfl, fun w' hw => by go_simp⟩) hHeld ?_
      try simp only [Act.put, List.setIfInBounds_toArray, List.set_cons_zero, List.set_cons_succ]
      refine taken_at (i := 2) (v := .int .i64 (j : Int)) (some 14) rfl rfl (by kernel_rfl) (by kernel_rfl) (by kernel_rfl) (fun _ _ _ h => h) (Or.inl ⟨rfl, fun w' hw => by go_simp⟩) hHeld ?_
      try simp only [Act.put, List.setIfInBounds_toArray, List.set_cons_zero, List.set_cons_succ]
      refine taken_at (i := 3) (v := .pointer (some ⟨p, 0, none⟩)) (some 15) rfl rfl (by kernel_rfl) (by kernel_rfl) (by kernel_rfl) (fun _ _ _ h => h) (Or.inl ⟨rfl, fun w' hw => by go_simp⟩) hHeld ?_
      try simp only [Act.put, List.setIfInBounds_toArray, List.set_cons_zero, List.set_cons_succ]
      refine taken_at (i := 4) (v := .pointer (some ⟨p, 0, none⟩)) (some 16) rfl rfl (by kernel_rfl) (by kernel_rfl) (by kernel_rfl) (fun _ _ _ h => h) (Or.inl ⟨rfl, fun w' hw => by go_simp⟩) hHeld ?_
      try simp only [Act.put, List.setIfInBounds_toArray, List.set_cons_zero, List.set_cons_succ]
      refine taken_at (i := 5) (v := .pointer (some ⟨p, j * 15, none⟩)) (some 17) rfl rfl (by kernel_rfl) (by kernel_rfl) (by kernel_rfl) (fun _ _ _ h => h) (Or.inl ⟨rfl, fun w' hw => by go_simp⟩) hHeld ?_
      try simp only [Act.put, List.setIfInBounds_toArray, List.set_cons_zero, List.set_cons_succ]
      refine wpAnyH_ready (rs := [0, 6]) (by kernel_rfl) (by simp) ?_
      refine AllReadyH.cons rfl (fun K hK => ?_) (AllReadyH.cons rfl (fun K hK => ?_) AllReadyH.nil)
      · have cc := HL.out.cell
        go_simp
        refine hK.out _ _ True.intro (fun hHeld => ?_)
        clear hK K
        try simp only [Act.put, List.setIfInBounds_toArray, List.set_cons_zero, List.set_cons_succ]
        refine wpAnyH_ready (rs := [6]) (by kernel_rfl) (by simp) ?_
        refine AllReadyH.cons rfl (fun K hK => ?_) AllReadyH.nil
        skip
        go_simp
        refine hK.out _ _ True.intro (fun hHeld => ?_)
        clear hK K
        try simp only [Act.put, List.setIfInBounds_toArray, List.set_cons_zero, List.set_cons_succ]
        refine wpAnyH_ready (rs := [7]) (by kernel_rfl) (by simp) ?_
        refine AllReadyH.cons rfl (fun K hK => ?_) AllReadyH.nil
        refine step_append_ptr rfl wr.drew (.tmp 12) (.tmp 18) rfl (w.heap.size + 1) j C1 A1 (ptrs p j) (.pointer (some ⟨p, j * 15, none⟩)) rfl rfl HO.out rfl HK5.out HB5.out rfl ?_
        intro A6 C6 w6 HO6 HG6
        have HP6 := Lib.hid (HL.out.drew.put HO6.out HG6.out)
        refine hK.out _ _ True.intro (fun hHeld => ?_)
        clear hK K
        try simp only [Act.put, List.setIfInBounds_toArray]
        refine wpAnyH_ready (rs := [8]) (by kernel_rfl) (by simp) ?_
        refine AllReadyH.cons rfl (fun K hK => ?_) AllReadyH.nil
        have c6 := HP6.out.1.1
        have f6 := HP6.out.1.2
        go_simp
        refine hK.out _ _ True.intro (fun hHeld => ?_)
        clear hK K c6 f6
        try simp only [Act.put, List.setIfInBounds_toArray, List.set_cons_zero, List.set_cons_succ]
        refine wpAnyH_done (by kernel_rfl) ?_ _
        clear hHeld
        have HL7 := Lib.hid HP6.out.2
        generalize w6.setCell ⟨w.heap.size, 0, none⟩ (.slice A6 (j + 1) C6) = w7 at *
        go_wp2
        go_roundw
        case rel => exact ⟨j + 1, A6, C6, HJ.out, by go_num, HL7⟩
        case measure =>
          have := HJ.out
          simp [intOf]
          omega
      · skip
        go_simp
        refine hK.out _ _ True.intro (fun hHeld => ?_)
        clear hK K
        try simp only [Act.put, List.setIfInBounds_toArray, List.set_cons_zero, List.set_cons_succ]
        refine wpAnyH_ready (rs := [0]) (by kernel_rfl) (by simp) ?_
        refine AllReadyH.cons rfl (fun K hK => ?_) AllReadyH.nil
        have cc := HS1.out
        go_simp
        refine hK.out _ _ True.intro (fun hHeld => ?_)
        clear hK K
        try simp only [Act.put, List.setIfInBounds_toArray, List.set_cons_zero, List.set_cons_succ]
        refine wpAnyH_ready (rs := [7]) (by kernel_rfl) (by simp) ?_
        refine AllReadyH.cons rfl (fun K hK => ?_) AllReadyH.nil
        refine step_append_ptr rfl wr.drew (.tmp 12) (.tmp 18) rfl (w.heap.size + 1) j C1 A1 (ptrs p j) (.pointer (some ⟨p, j * 15, none⟩)) rfl rfl HO.out rfl HK5.out HB5.out rfl ?_
        intro A6 C6 w6 HO6 HG6
        have HP6 := Lib.hid (HL.out.drew.put HO6.out HG6.out)
        refine hK.out _ _ True.intro (fun hHeld => ?_)
        clear hK K
        try simp only [Act.put, List.setIfInBounds_toArray]
        refine wpAnyH_ready (rs := [8]) (by kernel_rfl) (by simp) ?_
        refine AllReadyH.cons rfl (fun K hK => ?_) AllReadyH.nil
        have c6 := HP6.out.1.1
        have f6 := HP6.out.1.2
        go_simp
        refine hK.out _ _ True.intro (fun hHeld => ?_)
        clear hK K c6 f6
        try simp only [Act.put, List.setIfInBounds_toArray, List.set_cons_zero, List.set_cons_succ]
        refine wpAnyH_done (by kernel_rfl) ?_ _
        clear hHeld
        have HL7 := Lib.hid HP6.out.2
        generalize w6.setCell ⟨w.heap.size, 0, none⟩ (.slice A6 (j + 1) C6) = w7 at *
        go_wp2
        go_roundw
        case rel => exact ⟨j + 1, A6, C6, HJ.out, by go_num, HL7⟩
        case measure =>
          have := HJ.out
          simp [intOf]
          omega
    · obtain rfl : j = 2 := by omega
      clear hj hlt
      obtain ⟨hw2, lb, rfl, hlb⟩ := HL.out.ways (P := s.wy) (fun i hi => HP.out wr HL.out.bel i hi)
      have CO := Lib.hid (order_any (K := k) (some ⟨lb, 0, none⟩) 2 C1 (fun _ => p) (fun i => i * 15) s.wy (fun i hi => HF.out i hi) (by decide) wr hw2)
      have HW2 := Lib.hid hw2
      have HLB := Lib.hid hlb
      have c5 := HL.out.cell
      clear hw2 hlb
      go_upto_region 8 with (first
        | (go_at_call 52; (with_reducible refine (CO.out).mono ?_); rintro e w3 ⟨g, D, rfl, HS, HD, HB3, HG3⟩)
        | fail)
      have hsrt := srt_two s D HS.out
      have HL3 := Lib.hid (HL.out.below HB3.out)
      have HW3 := Lib.hid (HW2.out.below HB3.out (Nat.le_refl _))
      have HG0 : Hid (w3.cell? ⟨g, 0, none⟩ = some (.int .i64 (s.d0 : Int)) ∧ w3.cell? ⟨g, 1, none⟩ = some (.int .i64 (s.d1 : Int))) := Lib.hid ⟨by rw [← hsrt.1]; exact HD.out.cell (by decide), by rw [← hsrt.2]; exact HD.out.cell (by decide)⟩
      have HGF : Hid (∀ i, w3.frozen? ⟨g, i, none⟩ = false) := Lib.hid (fun i => HD.out.frozen i)
      have HD0 := Lib.hid s.d0_lt
      have HD1 := Lib.hid s.d1_lt
      have HGW : Hid (w.heap.size ≤ g) := Lib.hid (Nat.le_trans HL.out.bel.size HG3.out)
      have HLX : Hid (∀ i, i < 2 → w3.cell? ⟨lb, i, none⟩ = some (.pointer (some ⟨p, i * 15, none⟩))) := Lib.hid (fun i hi => by
        obtain ⟨lb', e, hc, _⟩ := HW3.out i hi
        obtain rfl : lb = lb' := by simpa using e
        exact hc)
      have HBW : Hid (Below w.heap.size w w3) := HL3.out.bel |> Lib.hid
      have HCH : Hid (s.choose r = if s.both r then [s.d0, s.d1] else [s.d0]) := Lib.hid rfl
      have HBO : Hid (s.both r ↔ s.all r ∧ lost s.wy s.d1 s.d0 = false) := Lib.hid (by
        unfold Sd.both lost
        rw [decide_eq_false_iff_not]
        constructor
        · exact fun h => ⟨h.1, fun h2 => h.2 ⟨h2.2, h2.1⟩⟩
        · exact fun h => ⟨h.1, fun h2 => h.2 ⟨h2.2, h2.1⟩⟩)
      have HDB := Lib.hid (both_dbl s r)
      have HL0 : Hid (lost s.wy s.d0 s.d0 = false) := Lib.hid (decide_eq_false (fun h => h.2 h.1))
      clear hsrt c5 HD HS HW2 HL
      generalize s.choose r = L at *
      generalize s.d0 = d0 at *
      generalize s.d1 = d1 at *
      obtain ⟨o0, ho0⟩ : ∃ o0, o0 = d0 * 15 := ⟨_, rfl⟩
      have i0 : (0 : Int) ≤ (d0 : Int) := by omega
      have i1 : (d0 : Int) < 2 := by have := HD0.out; omega
      have cl := HLX.out d0 HD0.out
      rw [← ho0] at cl
      have HO0 := Lib.hid ho0
      clear ho0
      have c0 := HL3.out.cell
      have cg := HG0.out.1
      have HS8 : Hid ((w3.drew.alloc (.cells #[.pointer none] 121)).cell? ⟨w.heap.size, 0, none⟩ = some (.slice (some ⟨lb, 0, none⟩) 2 C1) ∧ (w3.drew.alloc (.cells #[.pointer none] 121)).cell? ⟨g, 0, none⟩ = some (.int .i64 (d0 : Int)) ∧ (w3.drew.alloc (.cells #[.pointer none] 121)).cell? ⟨lb, d0, none⟩ = some (.pointer (some ⟨p, o0, none⟩))) := Lib.hid (by
        have hb : Below w3.heap.size w3 (w3.drew.alloc (.cells #[.pointer none] 121)) := (Below.refl _ _).drew.alloc (Nat.le_refl _) _
        exact ⟨(hb.cell (p := ⟨w.heap.size, 0, none⟩) HL3.out.lt).trans c0, (hb.cell (p := ⟨g, 0, none⟩) (World.block_lt_of_cell? w3 _ cg)).trans cg, (hb.cell (p := ⟨lb, d0, none⟩) (World.block_lt_of_cell? w3 _ cl)).trans cl⟩)
      obtain ⟨W8, hW8⟩ : ∃ W8, W8 = (w3.alloc (.cells #[.pointer (some ⟨p, o0, none⟩)] 121)).drew := ⟨_, rfl⟩
      have HN8 : Hid ((w3.drew.alloc (.cells #[.pointer none] 121)).cell? ⟨w3.heap.size, 0, none⟩ = some (.pointer none) ∧ (w3.drew.alloc (.cells #[.pointer none] 121)).frozen? ⟨w3.heap.size, 0, none⟩ = false) := Lib.hid (by
        have hL := Lies.new w3.drew #[.pointer none] 121 (Below.refl _ _)
        exact ⟨hL.cell 0 (by decide : 0 < 1), hL.frozen 0⟩)
      have HB8 : Hid (Below w3.heap.size w3 W8) := Lib.hid (by rw [hW8]; exact ((Below.refl _ _).alloc (Nat.le_refl _) _).drew)
      have HC8 : Hid (W8.cell? ⟨w3.heap.size, 0, none⟩ = some (.pointer (some ⟨p, o0, none⟩))) := Lib.hid (by
        rw [hW8]
        exact (Lies.new w3 #[.pointer (some ⟨p, o0, none⟩)] 121 (Below.refl _ _)).cell 0 (by decide : 0 < 1))
      have HS9 : Hid (W8.cell? ⟨w.heap.size, 0, none⟩ = some (.slice (some ⟨lb, 0, none⟩) 2 C1) ∧ W8.cell? ⟨g, 0, none⟩ = some (.int .i64 (d0 : Int)) ∧ W8.cell? ⟨lb, d0, none⟩ = some (.pointer (some ⟨p, o0, none⟩))) := Lib.hid
        ⟨(HB8.out.cell (p := ⟨w.heap.size, 0, none⟩) HL3.out.lt).trans c0, (HB8.out.cell (p := ⟨g, 0, none⟩) (World.block_lt_of_cell? w3 _ cg)).trans cg, (HB8.out.cell (p := ⟨lb, d0, none⟩) (World.block_lt_of_cell? w3 _ cl)).trans cl⟩
      have HW8 := Lib.hid hW8
      rw [hW8] at HS9
      clear hW8
      refine wp_region_held_drew (S := fun w' => w'.cell? ⟨w.heap.size, 0, none⟩ = some (.slice (some ⟨lb, 0, none⟩) 2 C1) ∧ w'.cell? ⟨g, 0, none⟩ = some (.int .i64 (d0 : Int)) ∧ w'.cell? ⟨lb, d0, none⟩ = some (.pointer (some ⟨p, o0, none⟩))) (by kernel_rfl) ⟨c0, cg, cl⟩ (fun hHeld => ?_)
      clear c0 cg cl
      refine taken_at (i := 0) (v := .slice (some ⟨lb, 0, none⟩) 2 C1) (some 23) rfl rfl (by kernel_rfl) (by kernel_rfl) (by kernel_rfl) (fun _ _ _ h => h) (Or.inl ⟨rfl, fun w' hw => by obtain ⟨k0, k1, k2⟩ := hw; go_simp⟩) hHeld ?_
      try simp only [Act.put, List.setIfInBounds_toArray, List.set_cons_zero, List.set_cons_succ]
      refine taken_at (i := 1) (v := .slice (some ⟨g, 0, none⟩) 2 2) (some 24) rfl rfl (by kernel_rfl) (by kernel_rfl) (by kernel_rfl) (fun _ _ _ h => h) (Or.inl ⟨rfl, fun _ _ => rfl⟩) hHeld ?_
      try simp only [Act.put, List.setIfInBounds_toArray, List.set_cons_zero, List.set_cons_succ]
      refine taken_at (i := 2) (v := .pointer (some ⟨g, 0, none⟩)) (some 25) rfl rfl (by kernel_rfl) (by kernel_rfl) (by kernel_rfl) (fun _ _ _ h => h) (Or.inl ⟨rfl, fun w' hw => by obtain ⟨k0, k1, k2⟩ := hw; go_simp⟩) hHeld ?_
      try simp only [Act.put, List.setIfInBounds_toArray, List.set_cons_zero, List.set_cons_succ]
      refine taken_at (i := 3) (v := .int .i64 (d0 : Int)) (some 26) rfl rfl (by kernel_rfl) (by kernel_rfl) (by kernel_rfl) (fun _ _ _ h => h) (Or.inl ⟨rfl, fun w' hw => by obtain ⟨k0, k1, k2⟩ := hw; go_simp⟩) hHeld ?_
      try simp only [Act.put, List.setIfInBounds_toArray, List.set_cons_zero, List.set_cons_succ]
      refine taken_at (i := 4) (v := .pointer (some ⟨lb, d0, none⟩)) (some 27) rfl rfl (by kernel_rfl) (by kernel_rfl) (by kernel_rfl) (fun _ _ _ h => h) (Or.inl ⟨rfl, fun w' hw => by obtain ⟨k0, k1, k2⟩ := hw; go_simp⟩) hHeld ?_
      try simp only [Act.put, List.setIfInBounds_toArray, List.set_cons_zero, List.set_cons_succ]
      refine taken_at (i := 5) (v := .pointer (some ⟨p, o0, none⟩)) (some 28) rfl rfl (by kernel_rfl) (by kernel_rfl) (by kernel_rfl) (fun _ _ _ h => h) (Or.inl ⟨rfl, fun w' hw => by obtain ⟨k0, k1, k2⟩ := hw; go_simp⟩) hHeld ?_
      try simp only [Act.put, List.setIfInBounds_toArray, List.set_cons_zero, List.set_cons_succ]
      refine wpAnyH_ready (rs := [6]) (by kernel_rfl) (by simp) ?_
      refine AllReadyH.cons rfl (fun K hK => ?_) AllReadyH.nil
      go_simp
      refine hK.out _ _ HS8.out (fun hHeld => ?_)
      clear hK K
      try simp only [Act.put, List.setIfInBounds_toArray, List.set_cons_zero, List.set_cons_succ]
      refine wpAnyH_ready (rs := [7]) (by kernel_rfl) (by simp) ?_
      refine AllReadyH.cons rfl (fun K hK => ?_) AllReadyH.nil
      have cc := HN8.out.1
      have cf := HN8.out.2
      go_simp
      refine hK.out _ _ HS9.out (fun hHeld => ?_)
      clear hK K cc cf
      try simp only [Act.put, List.setIfInBounds_toArray, List.set_cons_zero, List.set_cons_succ]
      refine wpAnyH_done (by kernel_rfl) ?_ _
      clear hHeld
      rw [← HW8.out] at HS9 ⊢
      have HP8 : Hid (∀ i, i < 2 → PLie W8 p (i * 15) (s.wy i)) := Lib.hid (fun i hi => HP.out W8 (HBW.out.trans (HB8.out.mono HBW.out.size)) i hi)
      have CD := Lib.hid (doubled_any r p (d0 * 15) (s.wy d0) W8 (HP8.out d0 HD0.out))
      rw [HDB.out] at CD
      have C0 := Lib.hid (closure_any w.heap.size w3.heap.size p lb C1 d0 d0 s.wy W8 HD0.out HS9.out.1 (HC8.out.trans (by rw [HO0.out])) (HS9.out.2.2.trans (by rw [HO0.out])) (HP8.out d0 HD0.out) (HP8.out d0 HD0.out))
      have C1' := Lib.hid (closure_any w.heap.size w3.heap.size p lb C1 d1 d0 s.wy W8 HD1.out HS9.out.1 (HC8.out.trans (by rw [HO0.out])) ((HB8.out.cell (p := ⟨lb, d1, none⟩) (World.block_lt_of_cell? w3 _ (HLX.out d1 HD1.out))).trans (HLX.out d1 HD1.out)) (HP8.out d1 HD1.out) (HP8.out d0 HD0.out))
      rw [HL0.out] at C0
      have hg0 : W8.cell? ⟨g, 0, none⟩ = some (.int .i64 (d0 : Int)) := HS9.out.2.1
      have hg1 : W8.cell? ⟨g, 1, none⟩ = some (.int .i64 (d1 : Int)) := (HB8.out.cell (p := ⟨g, 1, none⟩) (World.block_lt_of_cell? w3 _ HG0.out.2)).trans HG0.out.2
      have hgf : W8.frozen? ⟨g, 1, none⟩ = false := by
        have := HGF.out 1
        unfold World.frozen? at *
        rw [HB8.out.block g (World.block_lt_of_cell? w3 _ HG0.out.2)]
        exact this
      have CX := Lib.hid (delete2_any g w.heap.size w3.heap.size d0 d1 (lost s.wy d1 d0) W8 hg0 hg1 hgf C0.out C1'.out)
      have HG8 := Lib.hid (And.intro hg0 hg1)
      have HBE : Hid (Below w.heap.size w W8) := Lib.hid (HBW.out.trans (HB8.out.mono HBW.out.size))
      have c8 := HC8.out
      rw [← HO0.out] at CD
      clear hg0 hg1 hgf C0 C1' HS9 HS8 HN8
      by_cases hall : s.all r
      · rw [decide_eq_true hall] at CD
        have HAL := Lib.hid hall
        clear hall
        generalize lost s.wy d1 d0 = z at *
        cases z with
        | true =>
          have HE : Hid (L = [d0]) := Lib.hid (by rw [HCH.out, if_neg (fun h => by have := (HBO.out.1 h).2; cases this)])
          go_wp2_with (first
            | (go_at_call 53; (with_reducible refine (CD.out).mono ?_); rintro e w9 ⟨rfl, rfl⟩)
            | (go_at_call 54; (with_reducible refine (CX.out).mono ?_); rintro e w9 hx; obtain ⟨rfl, rfl⟩ := hx.2 True.intro)
            | fail)
          go_ret
          refine ⟨g, by rw [HE.out]; rfl, Lib.hid ⟨fun i j hij => ?_, HGW.out⟩, Lib.hid (HBE.out.setCell (p := ⟨g, 1, none⟩) HGW.out _)⟩
          rw [HE.out] at hij
          cases i with
          | zero =>
            obtain rfl : d0 = j := by simpa using hij
            exact (World.cell?_setCell_other _ _ _ _ (by simp)).trans HG8.out.1
          | succ i => simp at hij
        | false =>
          have HE : Hid (L = [d0, d1]) := Lib.hid (by rw [HCH.out, if_pos (HBO.out.2 ⟨HAL.out, rfl⟩)])
          go_wp2_with (first
            | (go_at_call 53; (with_reducible refine (CD.out).mono ?_); rintro e w9 ⟨rfl, rfl⟩)
            | (go_at_call 54; (with_reducible refine (CX.out).mono ?_); rintro e w9 hx; obtain ⟨rfl, rfl⟩ := hx.1 True.intro)
            | fail)
          go_ret
          refine ⟨g, by rw [HE.out]; rfl, Lib.hid ⟨fun i j hij => ?_, HGW.out⟩, HBE⟩
          rw [HE.out] at hij
          rcases i with _ | _ | i
          · obtain rfl : d0 = j := by simpa using hij
            exact HG8.out.1
          · obtain rfl : d1 = j := by simpa using hij
            exact HG8.out.2
          · simp at hij
      · rw [decide_eq_false hall] at CD
        have HE : Hid (L = [d0]) := Lib.hid (by rw [HCH.out, if_neg (fun h => hall (HBO.out.1 h).1)])
        clear hall
        go_wp2_with (first
          | (go_at_call 53; (with_reducible refine (CD.out).mono ?_); rintro e w9 ⟨rfl, rfl⟩)
          | fail)
        go_ret
        refine ⟨g, by rw [HE.out]; rfl, Lib.hid ⟨fun i j hij => ?_, HGW.out⟩, HBE⟩
        rw [HE.out] at hij
        cases i with
        | zero =>
          obtain rfl : d0 = j := by simpa using hij
          exact HG8.out.1
        | succ i => simp at hij
end Go.Proofs.YtldhlknmabpanaaGreat.Mp
