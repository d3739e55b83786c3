/-
  Own text: the document's held, Has, put, walked.
-/
import Derived.Test.YtnffngbkidehfaaNkDa
import Derived.BigQuiet
namespace Go.Proofs.Ytnffngbkidehfaa.Nk
open Go.RowKit

theorem rheld_any (t : Int) (w : World) : Calls Try.prog 82 #[.int .i64 t] w fun e w' => e = .returned (.int .i64 (hd t)) ∧ w' = w := by
  unfold hd
  go_enter Try.func82, Try.ntmps82
  go_wp2
  all_goals go_ret
  all_goals exact ⟨ret_int (by (repeat' split) <;> omega), rfl⟩
/-- Is it waited for? -/
def dhas (k : Int) (l : List DI) : Bool := l.any (fun y => decide (y.no = k))
theorem dhas_ref (N : Nl) (k : Int) : dhas k N.ref = N.has k := by
  unfold dhas
  cases h : N.has k with
  | true =>
    obtain ⟨x, hx, e⟩ := (hasK_iff _ _).1 h
    exact List.any_eq_true.2 ⟨It.ref N.q.now N.t x, List.mem_map.2 ⟨x, hx, rfl⟩, decide_eq_true e⟩
  | false =>
    have hn := no_has h
    refine List.any_eq_false.2 (fun y hy => ?_)
    obtain ⟨x, hx, rfl⟩ := List.mem_map.1 hy
    have h1 : ¬ x.key = k := hn x hx
    show ¬ decide (x.key = k) = true
    simpa using h1
theorem dhas_step {k : Int} {l : List DI} {i : Nat} {y : DI} (h : l[i]? = some y) : dhas k (l.take (i + 1)) = (dhas k (l.take i) || decide (y.no = k)) := by
  unfold dhas
  rw [List.take_add_one, h, List.any_append]
  simp
theorem dhas_yes {k : Int} {l : List DI} {i : Nat} {y : DI} (h : l[i]? = some y) (e : y.no = k) : dhas k l = true := List.any_eq_true.2 ⟨y, List.mem_of_getElem? h, decide_eq_true e⟩
set_option maxRecDepth 100000 in
theorem rhas_any (room asked full : Nat) (k : Int) (B : Nat) (A : Option Addr) (n C : Nat) (l : List DI) (hn : n ≤ 1000) (w : World) (h : DL w B A n C l) :
    Calls Try.prog 23 #[DV room asked full A n C, .int .u32 k] w fun e w' => e = .returned (.bool (dhas k l)) ∧ Below w.heap.size w w' := by
  obtain ⟨W, hW⟩ : ∃ W, W = w.alloc (.cells #[.int .i64 (room : Int), .int .i64 (asked : Int), .int .i64 (full : Int), .slice A n C] 62) := ⟨_, rfl⟩
  have hb : Below w.heap.size w W := by rw [hW]; exact (Below.refl _ _).alloc (Nat.le_refl _) _
  have hx : DBx W w.heap.size room asked full (.slice A n C) := by rw [hW]; exact DBx.new w _ _ _ _
  have HALL : Hid (∀ w', Below W.heap.size W w' → DBx w' w.heap.size room asked full (.slice A n C) ∧ DL w' B A n C l ∧ Below w.heap.size w w') := Lib.hid (fun w' h' => ⟨hx.below h' hx.lt, (h.below hb (Nat.le_refl _)).below h' (Nat.le_refl _), hb.trans (h'.mono hb.size)⟩)
  have HL := Lib.hid h.len
  have HW := Lib.hid hW
  have n1 : (n : Int) ≤ 1000 := by omega
  have HALLT : Hid (l.take n = l) := Lib.hid (List.take_of_length_le (by rw [h.len]; exact Nat.le_refl _))
  unfold DV
  clear hW hb hx h
  generalize (room : Int) = r0 at *
  generalize (asked : Int) = a0 at *
  generalize (full : Int) = f0 at *
  go_enter Try.func23, Try.ntmps23
  go_upto_region 1 with fail
  rw [← HW.out]
  go_wp2
  go_loopw [5] (fun i wr => ∃ j : Nat, j ≤ n ∧ i = .int .i64 (j : Int) ∧ Hid (dhas k (l.take j) = false) ∧ Hid (Below W.heap.size W wr)) (fun i _ => n - (intOf i).toNat)
  case atStart => exact ⟨0, Nat.zero_le _, rfl, Lib.hid rfl, Lib.hid (Below.refl _ _)⟩
  case round =>
    obtain ⟨j, hj, rfl, HD, HBR⟩ := hrel
    obtain ⟨hx, hdl, hbw⟩ := HALL.out wr HBR.out
    obtain ⟨d0, d1, d2, d3⟩ := hx.cells
    have HBW := Lib.hid hbw
    by_cases hlt : j < n
    · obtain ⟨y, hy⟩ : ∃ y, l[j]? = some y := ⟨_, List.getElem?_eq_getElem (by rw [HL.out]; exact hlt)⟩
      obtain ⟨g, off, rfl, hgl, c0, c1, c2⟩ := hdl.at_ j y hy
      have k1 : (j : Int) < (n : Int) := by omega
      have HLT := Lib.hid hlt
      have HT := Lib.hid (dhas_step (k := k) hy)
      have HY := Lib.hid (fun e => dhas_yes (k := k) hy e)
      obtain ⟨y0, y1, y2⟩ := y
      dsimp only at c0 c1 c2 HT HY
      by_cases hk : y0 = k
      · have e1 : (y0 == k) = true := by simp [hk]
        have HR := Lib.hid (HY.out hk)
        clear hy hgl hdl hx hbw hk HT HY
        go_wp2
        go_ret
        exact ⟨ret_bool HR.out.symm, HBW.out⟩
      · have e1 : (y0 == k) = false := by simp [hk]
        have HR : Hid (dhas k (l.take (j + 1)) = false) := Lib.hid (by rw [HT.out, HD.out, decide_eq_false hk]; rfl)
        clear hy hgl hdl hx hbw hk HT HY
        go_wp2
        go_roundw
        case rel => exact ⟨j + 1, HLT.out, by go_num, HR, HBR⟩
        case measure => simp [intOf] <;> (have := HLT.out; omega)
    · obtain rfl : j = n := by omega
      have HR : Hid (dhas k l = false) := Lib.hid (by have := HD.out; rwa [HALLT.out] at this)
      have n3 : ¬ (j : Int) < (j : Int) := by omega
      clear hx hdl hbw
      go_wp2
      go_ret
      exact ⟨ret_bool HR.out.symm, HBW.out⟩
-- put
def dP (x : DI) (l : List DI) : Nat := (l.takeWhile (fun y => decide (y.left ≤ x.left))).length
theorem dP_le (x : DI) (l : List DI) : dP x l ≤ l.length := List.IsPrefix.length_le (List.takeWhile_prefix _)
theorem dput_eq (x : DI) : ∀ l : List DI, dput x l = l.take (dP x l) ++ x :: l.drop (dP x l)
  | [] => rfl
  | y :: l => by
    unfold dput
    by_cases h : x.left < y.left
    · have e : dP x (y :: l) = 0 := by
        unfold dP
        rw [List.takeWhile_cons, if_neg (by simp; omega)]
        rfl
      rw [if_pos h, e]
      rfl
    · have e : dP x (y :: l) = dP x l + 1 := by
        unfold dP
        rw [List.takeWhile_cons, if_pos (by simp; omega)]
        rfl
      rw [if_neg h, e, dput_eq x l]
      rfl
theorem dP_take (x : DI) (l : List DI) : ∀ t y, t < dP x l → l[t]? = some y → y.left ≤ x.left := by
  intro t y ht hy
  unfold dP at ht
  have hp : (l.takeWhile (fun y => decide (y.left ≤ x.left))) <+: l := List.takeWhile_prefix _
  have h2 : (l.takeWhile (fun y => decide (y.left ≤ x.left)))[t]? = some y := by
    rw [← hy]
    obtain ⟨s, hs⟩ := hp
    rw [← hs, List.getElem?_append_left]
    rw [hs]; exact ht
  have hm := List.mem_of_getElem? h2
  have := List.all_takeWhile (l := l) (p := fun y => decide (y.left ≤ x.left))
  rw [List.all_eq_true] at this
  simpa using this y hm
theorem dP_next (x : DI) (l : List DI) (y : DI) (h : l[dP x l]? = some y) : x.left < y.left := by
  induction l with
  | nil => simp at h
  | cons z l ih =>
    unfold dP at *
    rw [List.takeWhile_cons] at h
    split at h
    · simp only [List.length_cons, List.getElem?_cons_succ] at h
      exact ih h
    · rename_i hx
      simp at h hx
      subst h
      omega
theorem dput_lo (x : DI) (l : List DI) (k : Nat) (h : k < dP x l) : (dput x l)[k]? = l[k]? := by
  have := dP_le x l
  rw [dput_eq, List.getElem?_append_left (by rw [List.length_take]; omega), List.getElem?_take, if_pos h]
theorem dput_at (x : DI) (l : List DI) : (dput x l)[dP x l]? = some x := by
  have := dP_le x l
  rw [dput_eq, List.getElem?_append_right (by rw [List.length_take]; omega), List.length_take, Nat.min_eq_left this, Nat.sub_self]
  rfl
theorem dput_hi (x : DI) (l : List DI) (k : Nat) (h : dP x l ≤ k) : (dput x l)[k + 1]? = l[k]? := by
  have := dP_le x l
  rw [dput_eq, List.getElem?_append_right (by rw [List.length_take]; omega), List.length_take, Nat.min_eq_left this, show k + 1 - dP x l = (k - dP x l) + 1 by omega, List.getElem?_cons_succ, List.getElem?_drop]
  congr 1
  omega
/-- What put answers. -/
def RPut (w : World) (n : Nat) (L : List DI) (e : Ending) (w' : World) : Prop :=
  ∃ A C, e = .returned (.slice A n C) ∧ Hid (OwnD w' w.heap.size (.slice A n C) n L) ∧ Hid (Below w.heap.size w w')
set_option maxRecDepth 100000 in
set_option maxHeartbeats 1000000 in
theorem rput_any (x : DI) (B : Nat) (A : Option Addr) (n C : Nat) (l : List DI) (hn : n ≤ 1000) (w : World) (h : DL w B A n C l) :
    Calls Try.prog 81 #[.slice A n C, .agg #[.int .u32 x.no, .int .i64 x.left, .int .i64 (x.tries : Int)]] w (RPut w (n + 1) (dput x l)) := by
  obtain ⟨W, hW⟩ : ∃ W, W = w.alloc (.cells #[.int .u32 x.no, .int .i64 x.left, .int .i64 (x.tries : Int)] 125) := ⟨_, rfl⟩
  have hb : Below w.heap.size w W := by rw [hW]; exact (Below.refl _ _).alloc (Nat.le_refl _) _
  have hs : W.heap.size = w.heap.size + 1 := by rw [hW]; simp
  have hx : Lies W w.heap.size 0 (dic x) := by rw [hW]; exact di_new w x
  obtain ⟨D, hD⟩ : ∃ D, D = dput x l := ⟨_, rfl⟩
  obtain ⟨p, hp⟩ : ∃ p, p = dP x l := ⟨_, rfl⟩
  have hpn : p ≤ n := by rw [hp, ← h.len]; exact dP_le x l
  have HALL : Hid (∀ w', Below W.heap.size W w' → (w'.cell? ⟨w.heap.size, 0, none⟩ = some (.int .u32 x.no) ∧ w'.cell? ⟨w.heap.size, 1, none⟩ = some (.int .i64 x.left) ∧ w'.cell? ⟨w.heap.size, 2, none⟩ = some (.int .i64 (x.tries : Int))) ∧ DL w' B A n C l ∧ Below w.heap.size w w') := Lib.hid (fun w' h' => by
    have hl := hx.below h' hx.lt
    have e0 := hl.cell 0 (by rw [dic_size]; decide)
    have e1 := hl.cell 1 (by rw [dic_size]; decide)
    have e2 := hl.cell 2 (by rw [dic_size]; decide)
    exact ⟨⟨e0, e1, e2⟩, (h.below hb (Nat.le_refl _)).below h' (Nat.le_refl _), hb.trans (h'.mono hb.size)⟩)
  have HL := Lib.hid h.len
  have HD := Lib.hid hD
  have HP := Lib.hid hp
  have HDL : Hid (D.length = n + 1) := Lib.hid (by rw [hD, dput_length, h.len])
  have HW := Lib.hid hW
  have HS := Lib.hid hs
  have n1 : (n : Int) ≤ 1000 := by omega
  have HN : Hid (n ≤ 1000) := Lib.hid hn
  have HPN := Lib.hid hpn
  rw [← hD]
  clear hW hb hx h hD hp hs hn hpn
  obtain ⟨x0, x1, x2⟩ := x
  dsimp only at *
  go_enter Try.func81, Try.ntmps81
  go_upto_region 1 with fail
  rw [← HW.out]
  go_wp2
  go_loopw [5, 6, 7] (fun o inn i wr => ∃ (j m : Nat) (A3 : Option Addr) (C3 : Nat), j ≤ n ∧ i = .int .i64 (j : Int) ∧ inn = .bool (decide (p < j)) ∧ o = .slice A3 m C3 ∧ Hid (m = if p < j then j + 1 else j) ∧ Hid (OwnD wr W.heap.size (.slice A3 m C3) m (D.take m)) ∧ Hid (Below W.heap.size W wr)) (fun _ _ i _ => n - (intOf i).toNat)
  case atStart => exact ⟨0, 0, none, 0, Nat.zero_le _, rfl, by simp, rfl, Lib.hid (by simp), Lib.hid (OwnD.none _ _), Lib.hid (Below.refl _ _)⟩
  case round =>
    obtain ⟨j, m, A3, C3, hj, rfl, rfl, rfl, HM, HO, HBR⟩ := hrel
    obtain ⟨wo, hwo⟩ : ∃ wo, wo = wr := ⟨_, rfl⟩
    subst hwo
    obtain ⟨⟨d0, d1, d2⟩, hdl, _⟩ := HALL.out wo HBR.out
    have HSZ := Lib.hid HBR.out.size
    by_cases hlt : j < n
    · obtain ⟨y, hy⟩ : ∃ y, l[j]? = some y := ⟨_, List.getElem?_eq_getElem (by rw [HL.out]; exact hlt)⟩
      obtain ⟨g, off, eA, hgl, c0, c1, c2⟩ := (HALL.out W (Below.refl _ _)).2.1.at_ j y hy
      subst eA
      have k1 : (j : Int) < (n : Int) := by omega
      have HLT := Lib.hid hlt
      have HB1 : Hid (m + 1 ≤ 100000 ∧ m + 1 + 1 ≤ 100000) := Lib.hid (by have h1 := HM.out; have h2 := HN.out; split at h1 <;> omega)
      have HCC : Hid (∀ w', Below W.heap.size W w' → (w'.cell? ⟨g, off + j * 3, none⟩ = some (.int .u32 y.no) ∧ w'.cell? ⟨g, off + j * 3 + 1, none⟩ = some (.int .i64 y.left) ∧ w'.cell? ⟨g, off + j * 3 + 2, none⟩ = some (.int .i64 (y.tries : Int))) ∧ (w'.cell? ⟨w.heap.size, 0, none⟩ = some (.int .u32 x0) ∧ w'.cell? ⟨w.heap.size, 1, none⟩ = some (.int .i64 x1) ∧ w'.cell? ⟨w.heap.size, 2, none⟩ = some (.int .i64 (x2 : Int)))) := Lib.hid (fun w' hb => ⟨⟨(hb.cell (p := ⟨g, _, none⟩) hgl).trans c0, (hb.cell (p := ⟨g, _, none⟩) hgl).trans c1, (hb.cell (p := ⟨g, _, none⟩) hgl).trans c2⟩, (HALL.out w' hb).1⟩)
      rcases Nat.lt_trichotomy j p with hkp | hkp | hkp
      · -- not yet
        have e1 : decide (p < j) = false := decide_eq_false (by omega)
        have e2 : ¬ x1 < y.left := by have := dP_take ⟨x0, x1, x2⟩ l j y (by rw [← HP.out]; exact hkp) hy; dsimp only at this; omega
        have HMK : Hid (m = j) := Lib.hid (by have := HM.out; rw [if_neg (by omega)] at this; exact this)
        have HT : Hid (D.take m ++ [y] = D.take (m + 1)) := Lib.hid (take_snoc (by rw [HD.out, HMK.out, dput_lo ⟨x0, x1, x2⟩ l j (by rw [← HP.out]; exact hkp), hy]))
        have HM2 : Hid (m + 1 = if p < j + 1 then j + 1 + 1 else j + 1) := Lib.hid (by rw [if_neg (by omega), HMK.out])
        have HE : Hid (decide (p < j + 1) = false) := Lib.hid (decide_eq_false (by omega))
        rw [e1]
        clear hy hgl hdl hkp e1 c0 c1 c2
        obtain ⟨y0, y1, y2⟩ := y
        dsimp only at e2 HCC
        obtain ⟨⟨c0, c1, c2⟩, _⟩ := HCC.out wo HBR.out
        go_upto_region 6 with fail
        go_quiet (fail)
        clear c0 c1 c2 d0 d1 d2
        have HD1 : Hid (Below wo.heap.size wo (wo.drewN nq)) := Lib.hid (below_drewN (Below.refl _ _) nq)
        have HO1 := Lib.hid (HO.out.below HD1.out (Nat.le_refl _))
        have HBR1 := Lib.hid (HBR.out.trans (HD1.out.mono HSZ.out))
        obtain ⟨⟨c0, c1, c2⟩, d0, d1, d2⟩ := HCC.out _ HBR1.out
        have HSZ1 : Hid (W.heap.size ≤ (wo.drewN nq).heap.size) := HSZ
        generalize wo.drewN nq = w4 at *
        go_wp2_with (first
          | (at_builtin; (with_reducible refine wpList_append_di rfl (.tmp 30) (.tmp 35) rfl W.heap.size A3 m C3 rfl (D.take m) (HO1.out.below ((Below.refl _ _).alloc (Nat.le_refl _) _) (Nat.le_refl _)) w4.heap.size rfl ⟨y0, y1, y2⟩ (di_new w4 ⟨y0, y1, y2⟩) HB1.out.1 (Nat.le_trans HSZ1.out (Nat.le_of_lt (lt_alloc _ _))) ?_); intro A5 C5 w5 HO5 HG5 _)
          | fail)
        go_roundw
        case rel => exact ⟨j + 1, m + 1, A5, C5, HLT.out, by go_num, by rw [HE.out], rfl, HM2, Lib.hid (by rw [← HT.out]; exact HO5.out), Lib.hid ((HBR1.out.alloc HSZ1.out _).trans HG5.out.bel)⟩
        case measure => simp [intOf] <;> (have := HLT.out; omega)
      · -- just here
        have e1 : decide (p < j) = false := decide_eq_false (by omega)
        have hy2 : l[dP ⟨x0, x1, x2⟩ l]? = some y := by rw [← HP.out, ← hkp]; exact hy
        have e2 : x1 < y.left := dP_next ⟨x0, x1, x2⟩ l y hy2
        have HMK : Hid (m = j) := Lib.hid (by have := HM.out; rw [if_neg (by omega)] at this; exact this)
        have HT1 : Hid (D.take m ++ [⟨x0, x1, x2⟩] = D.take (m + 1)) := Lib.hid (take_snoc (by rw [HD.out, HMK.out, hkp, HP.out]; exact dput_at ⟨x0, x1, x2⟩ l))
        have HT : Hid (D.take (m + 1) ++ [y] = D.take (m + 1 + 1)) := Lib.hid (take_snoc (by rw [HD.out, HMK.out, hkp, HP.out, dput_hi ⟨x0, x1, x2⟩ l _ (Nat.le_refl _)]; exact hy2))
        have HM2 : Hid (m + 1 + 1 = if p < j + 1 then j + 1 + 1 else j + 1) := Lib.hid (by rw [if_pos (by omega), HMK.out])
        have HE : Hid (decide (p < j + 1) = true) := Lib.hid (decide_eq_true (by omega))
        rw [e1]
        clear hy hgl hdl hkp e1 c0 c1 c2 hy2
        obtain ⟨y0, y1, y2⟩ := y
        dsimp only at e2 HCC
        obtain ⟨⟨c0, c1, c2⟩, _⟩ := HCC.out wo HBR.out
        go_upto_region 6 with fail
        go_quiet (fail)
        clear c0 c1 c2 d0 d1 d2
        have HD1 : Hid (Below wo.heap.size wo (wo.drewN nq)) := Lib.hid (below_drewN (Below.refl _ _) nq)
        have HO1 := Lib.hid (HO.out.below HD1.out (Nat.le_refl _))
        have HBR1 := Lib.hid (HBR.out.trans (HD1.out.mono HSZ.out))
        obtain ⟨⟨c0, c1, c2⟩, d0, d1, d2⟩ := HCC.out _ HBR1.out
        have HSZ1 : Hid (W.heap.size ≤ (wo.drewN nq).heap.size) := HSZ
        generalize wo.drewN nq = w4 at *
        go_upto_region 9 with (first
          | (at_builtin; (with_reducible refine wpList_append_di rfl (.tmp 26) (.tmp 28) rfl W.heap.size A3 m C3 rfl (D.take m) (HO1.out.below ((Below.refl _ _).alloc (Nat.le_refl _) _) (Nat.le_refl _)) w4.heap.size rfl ⟨x0, x1, x2⟩ (di_new w4 ⟨x0, x1, x2⟩) HB1.out.1 (Nat.le_trans HSZ1.out (Nat.le_of_lt (lt_alloc _ _))) ?_); intro A5 C5 w5 HO5 HG5 HK5)
          | fail)
        clear c0 c1 c2
        have HSZ5 : Hid (W.heap.size ≤ w5.heap.size) := Lib.hid (Nat.le_trans (Nat.le_trans HSZ1.out (Nat.le_of_lt (lt_alloc w4 _))) HG5.out.size)
        have HBR5 := Lib.hid ((HBR1.out.alloc HSZ1.out _).trans HG5.out.bel)
        obtain ⟨⟨c0, c1, c2⟩, _⟩ := HCC.out w5 HBR5.out
        go_wp2_with (first
          | (at_builtin; (with_reducible refine wpList_append_di rfl (.tmp 30) (.tmp 35) rfl W.heap.size A5 (m + 1) C5 rfl (D.take m ++ [⟨x0, x1, x2⟩]) (HO5.out.below ((Below.refl _ _).alloc (Nat.le_refl _) _) (Nat.le_refl _)) w5.heap.size rfl ⟨y0, y1, y2⟩ (di_new w5 ⟨y0, y1, y2⟩) HB1.out.2 (Nat.le_trans HSZ5.out (Nat.le_of_lt (lt_alloc _ _))) ?_); intro A6 C6 w6 HO6 HG6 _)
          | fail)
        go_roundw
        case rel => exact ⟨j + 1, m + 1 + 1, A6, C6, HLT.out, by go_num, by rw [HE.out], rfl, HM2, Lib.hid (by rw [← HT.out, ← HT1.out]; exact HO6.out), Lib.hid ((HBR5.out.alloc HSZ5.out _).trans HG6.out.bel)⟩
        case measure => simp [intOf] <;> (have := HLT.out; omega)
      · -- behind it
        have e1 : decide (p < j) = true := decide_eq_true hkp
        have HMK : Hid (m = j + 1) := Lib.hid (by have := HM.out; rw [if_pos hkp] at this; exact this)
        have HT : Hid (D.take m ++ [y] = D.take (m + 1)) := Lib.hid (take_snoc (by rw [HD.out, HMK.out, dput_hi ⟨x0, x1, x2⟩ l j (by rw [← HP.out]; omega), hy]))
        have HM2 : Hid (m + 1 = if p < j + 1 then j + 1 + 1 else j + 1) := Lib.hid (by rw [if_pos (by omega), HMK.out])
        have HE : Hid (decide (p < j + 1) = true) := Lib.hid (decide_eq_true (by omega))
        rw [e1]
        clear hy hgl hdl hkp e1 c0 c1 c2
        obtain ⟨y0, y1, y2⟩ := y
        dsimp only at HCC
        obtain ⟨⟨c0, c1, c2⟩, _⟩ := HCC.out wo HBR.out
        go_upto_region 6 with fail
        go_quiet (fail)
        clear c0 c1 c2 d0 d1 d2
        have HD1 : Hid (Below wo.heap.size wo (wo.drewN nq)) := Lib.hid (below_drewN (Below.refl _ _) nq)
        have HO1 := Lib.hid (HO.out.below HD1.out (Nat.le_refl _))
        have HBR1 := Lib.hid (HBR.out.trans (HD1.out.mono HSZ.out))
        obtain ⟨⟨c0, c1, c2⟩, d0, d1, d2⟩ := HCC.out _ HBR1.out
        have HSZ1 : Hid (W.heap.size ≤ (wo.drewN nq).heap.size) := HSZ
        generalize wo.drewN nq = w4 at *
        go_wp2_with (first
          | (at_builtin; (with_reducible refine wpList_append_di rfl (.tmp 30) (.tmp 35) rfl W.heap.size A3 m C3 rfl (D.take m) (HO1.out.below ((Below.refl _ _).alloc (Nat.le_refl _) _) (Nat.le_refl _)) w4.heap.size rfl ⟨y0, y1, y2⟩ (di_new w4 ⟨y0, y1, y2⟩) HB1.out.1 (Nat.le_trans HSZ1.out (Nat.le_of_lt (lt_alloc _ _))) ?_); intro A5 C5 w5 HO5 HG5 _)
          | fail)
        go_roundw
        case rel => exact ⟨j + 1, m + 1, A5, C5, HLT.out, by go_num, by rw [HE.out], rfl, HM2, Lib.hid (by rw [← HT.out]; exact HO5.out), Lib.hid ((HBR1.out.alloc HSZ1.out _).trans HG5.out.bel)⟩
        case measure => simp [intOf] <;> (have := HLT.out; omega)
    · obtain rfl : j = n := by omega
      have n3 : ¬ (j : Int) < (j : Int) := by omega
      have HB1 : Hid (m + 1 ≤ 100000) := Lib.hid (by have h1 := HM.out; have h2 := HN.out; split at h1 <;> omega)
      clear hdl
      by_cases hkp : p < j
      · have e1 : decide (p < j) = true := decide_eq_true hkp
        have HMK : Hid (m = j + 1) := Lib.hid (by have := HM.out; rw [if_pos hkp] at this; exact this)
        have HF : Hid (OwnD wo W.heap.size (.slice A3 m C3) m D) := Lib.hid (by have := HO.out; rwa [List.take_of_length_le (by rw [HDL.out, HMK.out]; exact Nat.le_refl _)] at this)
        rw [e1]
        clear e1 hkp
        go_wp2
        go_ret
        obtain rfl := HMK.out
        exact ⟨A3, C3, rfl, Lib.hid (HF.out.low (by rw [HS.out]; exact Nat.le_succ _)), Lib.hid (HALL.out wo HBR.out).2.2⟩
      · have e1 : decide (p < j) = false := decide_eq_false hkp
        have HMK : Hid (m = j) := Lib.hid (by have := HM.out; rw [if_neg hkp] at this; exact this)
        have HT1 : Hid (D.take m ++ [⟨x0, x1, x2⟩] = D) := Lib.hid (by
          have hpj : j = p := by have := HPN.out; omega
          have ht : D.take m ++ [⟨x0, x1, x2⟩] = D.take (m + 1) := take_snoc (by rw [HD.out, HMK.out, hpj, HP.out]; exact dput_at ⟨x0, x1, x2⟩ l)
          rw [ht, List.take_of_length_le (by rw [HDL.out, HMK.out]; exact Nat.le_refl _)])
        rw [e1]
        clear e1 hkp
        go_wp2_with (first
          | (at_builtin; (with_reducible refine wpList_append_di rfl (.tmp 39) (.tmp 41) rfl W.heap.size A3 m C3 rfl (D.take m) (HO.out.below ((Below.refl _ _).alloc (Nat.le_refl _) _) (Nat.le_refl _)) wo.heap.size rfl ⟨x0, x1, x2⟩ (di_new wo ⟨x0, x1, x2⟩) HB1.out (Nat.le_trans HSZ.out (Nat.le_of_lt (lt_alloc _ _))) ?_); intro A5 C5 w5 HO5 HG5 _)
          | fail)
        go_ret
        obtain rfl := HMK.out
        exact ⟨A5, C5, rfl, Lib.hid ((by rw [← HT1.out]; exact HO5.out : OwnD w5 W.heap.size _ _ D).low (by rw [HS.out]; exact Nat.le_succ _)), Lib.hid ((HALL.out wo HBR.out).2.2.trans ((((Below.refl wo.heap.size wo).alloc (Nat.le_refl _) _).mono (by have := (HALL.out wo HBR.out).2.2.size; omega)).trans (HG5.out.bel.mono (by rw [HS.out]; omega))))⟩
end Go.Proofs.Ytnffngbkidehfaa.Nk
