/-
  Own text: the document's Put, Set, Drop, Cut, walked.
-/
import Derived.Test.YtjkobejhbgjhlaaRgF
namespace Go.Proofs.Ytjkobejhbgjhlaa
open Go.RowKit

theorem part0_any (A : Option Addr) (n C : Nat) (l : List Int) (q : Nat) (hq : q ≤ n) (hn : n ≤ 90000) (w : World) (h : OwnI w 0 (.slice A n C) n l) :
    Calls Try.prog 34 #[.slice A n C, .int .i64 0, .int .i64 (q : Int)] w fun e w' => (∃ A2 C2, e = .returned (.slice A2 q C2) ∧ Hid (OwnI w' w.heap.size (.slice A2 q C2) q (l.take q))) ∧ Hid (Below w.heap.size w w') := by
  have := part_any A n C l 0 q (Nat.zero_le _) hq hn w h
  simpa using this
theorem part1_any (A : Option Addr) (n C : Nat) (l : List Int) (q : Nat) (hq : q + 1 ≤ n) (hn : n ≤ 90000) (w : World) (h : OwnI w 0 (.slice A n C) n l) :
    Calls Try.prog 34 #[.slice A n C, .int .i64 1, .int .i64 ((q : Int) + 1)] w fun e w' => (∃ A2 C2, e = .returned (.slice A2 q C2) ∧ Hid (OwnI w' w.heap.size (.slice A2 q C2) q ((l.drop 1).take q))) ∧ Hid (Below w.heap.size w w') := by
  have := part_any A n C l 1 (q + 1) (by omega) hq hn w h
  simpa using this
/-- Where an answer's list lies: behind a place, or where the asked one lay. -/
def Dest (B : Nat) (A A2 : Option Addr) : Prop := ∀ k, A2.map Addr.block = some k → B ≤ k ∨ A.map Addr.block = some k
theorem own_block (A : Option Addr) (n C : Nat) : (Value.slice A n C).ownBlock = A.map Addr.block := by cases A <;> rfl
theorem Dest.own {w : World} {B B2 : Nat} {A A2 : Option Addr} {n C : Nat} {l : List Int} (h : OwnI w B2 (.slice A2 n C) n l) (hB : B ≤ B2) : Dest B A A2 :=
  fun k hk => .inl (Nat.le_trans hB (h.lt k (by rw [own_block]; exact hk)).1)
theorem Dest.same (B : Nat) (A : Option Addr) : Dest B A A := fun _ hk => .inr hk
/-- What the document's calls answer: a ring. -/
def DTo (w : World) (A0 : Option Addr) (R : Rn) (e : Ending) (w' : World) : Prop := ∃ A C, e = .returned (DV R A C) ∧ Hid (DL w' R A C) ∧ Hid (Below w.heap.size w w') ∧ Hid (Dest w.heap.size A0 A)
theorem box2_new (w : World) (room first : Nat) (s : Value) : DBx ((w.alloc (.cells #[.int .i64 (room : Int), .int .i64 (first : Int), s] 27)).alloc (.cells #[.int .i64 0, .int .i64 0, .slice none 0 0] 27)) w.heap.size room first s ∧
    DBx ((w.alloc (.cells #[.int .i64 (room : Int), .int .i64 (first : Int), s] 27)).alloc (.cells #[.int .i64 0, .int .i64 0, .slice none 0 0] 27)) (w.heap.size + 1) 0 0 (.slice none 0 0) := by
  constructor
  · exact (DBx.new w room first s).keep (Below.heap_alloc _ _ _ (by simp))
  · have := DBx.new (w.alloc (.cells #[.int .i64 (room : Int), .int .i64 (first : Int), s] 27)) 0 0 (.slice none 0 0)
    simpa using this
/-- Two boxes and a list, in all later worlds. -/
theorem boxes_later {w : World} (room first : Nat) (s : Value) {v : Value} {base n : Nat} {l : List Int} (h : OwnI w base v n l) (W : World) (hW : W = (w.alloc (.cells #[.int .i64 (room : Int), .int .i64 (first : Int), s] 27)).alloc (.cells #[.int .i64 0, .int .i64 0, .slice none 0 0] 27)) :
    W.heap.size = w.heap.size + 2 ∧ Below w.heap.size w W ∧ ∀ w', Below W.heap.size W w' → DBx w' w.heap.size room first s ∧ DBx w' (w.heap.size + 1) 0 0 (.slice none 0 0) ∧ OwnI w' base v n l := by
  have hs : W.heap.size = w.heap.size + 2 := by rw [hW]; simp
  have hb : Below w.heap.size w W := by rw [hW]; exact ((Below.refl w.heap.size w).alloc (Nat.le_refl _) _).alloc (by simp) _
  obtain ⟨h1, h2⟩ := box2_new w room first s
  rw [← hW] at h1 h2
  refine ⟨hs, hb, fun w' h' => ⟨h1.below h' (by omega), h2.below h' (by omega), ?_⟩⟩
  exact (h.below hb (Nat.le_refl _)).below h' (Nat.le_refl _)
theorem OwnI.far {w : World} {base : Nat} {v : Value} {n : Nat} {l : List Int} (h : OwnI w base v n l) {p : Addr} (hp : p.block < base) (u : Value) : OwnI (w.setCell p u) base v n l :=
  h.keep (fun g hg => Below.heap_setCell w p u g (by have := (h.lt g hg).1; omega))
/-- The answer is written. -/
theorem res_own {w : World} {base : Nat} {v : Value} {n : Nat} {l : List Int} (h : OwnI w base v n l) (c : Nat) (hc : c + 1 < base) (x y z : Value) : OwnI (((w.setCell ⟨c + 1, 0, none⟩ x).setCell ⟨c + 1, 1, none⟩ y).setCell ⟨c + 1, 2, none⟩ z) 0 v n l :=
  (((h.far (p := ⟨c + 1, 0, none⟩) hc _).far (p := ⟨c + 1, 1, none⟩) hc _).far (p := ⟨c + 1, 2, none⟩) hc _).low (Nat.zero_le _)
theorem res_low {w : World} {base : Nat} {v : Value} {n : Nat} {l : List Int} (h : OwnI w base v n l) (c : Nat) (hc : ∀ g, v.ownBlock = some g → g < c) (x y z : Value) : OwnI (((w.setCell ⟨c + 1, 0, none⟩ x).setCell ⟨c + 1, 1, none⟩ y).setCell ⟨c + 1, 2, none⟩ z) base v n l :=
  h.keep (fun g hg => by
    have := hc g hg
    rw [Below.heap_setCell _ ⟨c + 1, 2, none⟩ _ g (by show g ≠ c + 1; omega), Below.heap_setCell _ ⟨c + 1, 1, none⟩ _ g (by show g ≠ c + 1; omega), Below.heap_setCell _ ⟨c + 1, 0, none⟩ _ g (by show g ≠ c + 1; omega)])
theorem res_below {w0 w : World} {c : Nat} (h : Below c w0 w) (x y z : Value) : Below c w0 (((w.setCell ⟨c + 1, 0, none⟩ x).setCell ⟨c + 1, 1, none⟩ y).setCell ⟨c + 1, 2, none⟩ z) :=
  ((h.setCell (p := ⟨c + 1, 0, none⟩) (Nat.le_succ _) _).setCell (p := ⟨c + 1, 1, none⟩) (Nat.le_succ _) _).setCell (p := ⟨c + 1, 2, none⟩) (Nat.le_succ _) _
set_option maxRecDepth 100000 in
theorem rput_any (v : Int) (R : Rn) (A : Option Addr) (C k : Nat) (hf : R.fit k) (hk : k ≤ 1000000) (w : World) (h : DL w R A C) :
    Calls Try.prog 22 #[DV R A C, .int .i64 v] w (DTo w A (R.put v)) := by
  have hlen := hf.len
  have hlo := hf.lo
  have hhi := hf.hi
  have hfx : R.first ≤ 1099512627776 := by have := hf.next; unfold Rn.next at this; omega
  obtain ⟨n, hn⟩ : ∃ n, n = R.l.length := ⟨_, rfl⟩
  have hO : OwnI w 0 (.slice A n C) n R.l := by rw [hn]; exact h
  have CW := Lib.hid (boxes_later R.room R.first (.slice A n C) hO)
  unfold DV
  rw [← hn] at hlen ⊢
  have HN := Lib.hid hn
  have HK : Hid (n + 1 ≤ 100000) := Lib.hid (by omega)
  clear h hf hn hO
  by_cases hq : n = R.room
  · have HP : Hid (R.put v = ⟨R.room, R.first + 1, (R.l ++ [v]).drop 1⟩) := Lib.hid (by
      unfold Rn.put
      rw [if_pos (by rw [← HN.out]; exact hq)]
      cases hl : R.l with
      | nil => have := HN.out; rw [hl] at this; simp at this; omega
      | cons a t => simp)
    have hgt : (R.room : Int) < (n : Int) + 1 := by omega
    have CP0 := Lib.hid (fun (w' : World) (h' : OwnI w' 0 (.slice A n C) n R.l) => part0_any A n C R.l n (Nat.le_refl _) (by omega) w' h')
    have CP1 := Lib.hid (fun (A2 : Option Addr) (C2 : Nat) (w' : World) (h' : OwnI w' 0 (.slice A2 (n + 1) C2) (n + 1) (R.l ++ [v])) => part1_any A2 (n + 1) C2 (R.l ++ [v]) n (Nat.le_refl _) (by omega) w' h')
    have HT : Hid (R.l.take n = R.l) := Lib.hid (List.take_of_length_le (by rw [HN.out]; exact Nat.le_refl _))
    have HD : Hid (((R.l ++ [v]).drop 1).take n = (R.l ++ [v]).drop 1 ∧ ((R.l ++ [v]).drop 1).length = n) := Lib.hid ⟨List.take_of_length_le (by rw [List.length_drop, List.length_append, ← HN.out]; simp), by rw [List.length_drop, List.length_append, ← HN.out]; simp⟩
    have HQ := Lib.hid hq
    clear hq
    go_enter Try.func22, Try.ntmps22
    go_upto_region 1 with fail
    obtain ⟨W, hW⟩ : ∃ W, W = (w.alloc (.cells #[.int .i64 (R.room : Int), .int .i64 (R.first : Int), .slice A n C] 27)).alloc (.cells #[.int .i64 0, .int .i64 0, .slice none 0 0] 27) := ⟨_, rfl⟩
    rw [← hW]
    obtain ⟨hs, hb, hall⟩ := CW.out W hW
    have HS := Lib.hid hs
    have HB := Lib.hid hb
    have HALL := Lib.hid hall
    obtain ⟨hx, hz, hl⟩ := hall W (Below.refl _ _)
    have HL := Lib.hid hl
    obtain ⟨q0, q1, q2⟩ := hx.cells
    clear hW CW hs hb hall hx hz hl
    go_wp2_with (first
      | (go_at_call 34; (with_reducible refine (CP0.out W HL.out).mono ?_); rintro e w1 ⟨⟨A1, C1, rfl, HL1⟩, HB1⟩)
      | ((with_reducible refine wpList_append_int rfl (.tmp 11) (.tmp 13) rfl W.heap.size A1 n C1 rfl (R.l.take n) (HL1.out.below ((Below.refl _ _).alloc (Nat.le_refl _) _) (Nat.le_refl _)) w1.heap.size rfl v (by simp) HK.out (Nat.le_trans HB1.out.size (by simp)) ?_); intro A2 C2 w2 HL2 HB2; have HB3 := Lib.hid ((HB1.out.alloc HB1.out.size _).trans HB2.out); have HX2 := Lib.hid (HALL.out w2 HB3.out); obtain ⟨p0, p1, p2⟩ := HX2.out.1.cells)
      | (go_at_call 34; (with_reducible refine (CP1.out A2 C2 w2 (by have := HL2.out.low (Nat.zero_le _); rwa [HT.out] at this)).mono ?_); rintro e w3 ⟨⟨A3, C3, rfl, HL3⟩, HB4⟩; have HB5 := Lib.hid (HB3.out.trans (HB4.out.mono HB3.out.size)); have HX3 := Lib.hid (HALL.out w3 HB5.out); obtain ⟨r0, r1, r2⟩ := HX3.out.1.cells; have rf1 := HX3.out.1.frozen 1; have rf2 := HX3.out.1.frozen 2; obtain ⟨z0, z1, z2⟩ := HX3.out.2.1.cells; have zf0 := HX3.out.2.1.frozen 0; have zf1 := HX3.out.2.1.frozen 1; have zf2 := HX3.out.2.1.frozen 2)
      | fail)
    refine bodyPost_ret (v := .agg #[.int .i64 (R.room : Int), .int .i64 ((R.first : Int) + 1), .slice A3 n C3]) (by simp [results, Try.results22, go_sem, z0, z1, z2]) rfl ?_
    refine ⟨A3, C3, ?_, Lib.hid ?_, Lib.hid ?_, Lib.hid (Dest.own HL3.out (by have := HB3.out.size; have := HS.out; omega))⟩
    · rw [HP.out]
      show Ending.returned (.agg #[.int .i64 (R.room : Int), .int .i64 ((R.first : Int) + 1), .slice A3 n C3]) = Ending.returned (.agg #[.int .i64 (R.room : Int), .int .i64 ((R.first + 1 : Nat) : Int), .slice A3 ((R.l ++ [v]).drop 1).length C3])
      rw [HD.out.2]
      simp
    · rw [HP.out]
      show OwnI _ 0 (.slice A3 ((R.l ++ [v]).drop 1).length C3) ((R.l ++ [v]).drop 1).length ((R.l ++ [v]).drop 1)
      rw [HD.out.2]
      have h3 := HL3.out
      rw [HD.out.1] at h3
      have hw := HB3.out.size
      have hs := HS.out
      exact res_own ((h3.far (p := ⟨w.heap.size, 1, none⟩) (by show w.heap.size < _; omega) _).far (p := ⟨w.heap.size, 2, none⟩) (by show w.heap.size < _; omega) _) w.heap.size (by omega) _ _ _
    · have hb := HB.out.trans (HB5.out.mono (by have := HS.out; omega))
      exact res_below ((hb.setCell (p := ⟨w.heap.size, 1, none⟩) (Nat.le_refl _) _).setCell (p := ⟨w.heap.size, 2, none⟩) (Nat.le_refl _) _) _ _ _
  · have HP : Hid (R.put v = ⟨R.room, R.first, R.l ++ [v]⟩) := Lib.hid (by
      unfold Rn.put
      rw [if_neg (by rw [← HN.out]; exact hq)])
    have hgt : ¬ (R.room : Int) < (n : Int) + 1 := by omega
    have CP0 := Lib.hid (fun (w' : World) (h' : OwnI w' 0 (.slice A n C) n R.l) => part0_any A n C R.l n (Nat.le_refl _) (by omega) w' h')
    have HT : Hid (R.l.take n = R.l) := Lib.hid (List.take_of_length_le (by rw [HN.out]; exact Nat.le_refl _))
    clear hq
    go_enter Try.func22, Try.ntmps22
    go_upto_region 1 with fail
    obtain ⟨W, hW⟩ : ∃ W, W = (w.alloc (.cells #[.int .i64 (R.room : Int), .int .i64 (R.first : Int), .slice A n C] 27)).alloc (.cells #[.int .i64 0, .int .i64 0, .slice none 0 0] 27) := ⟨_, rfl⟩
    rw [← hW]
    obtain ⟨hs, hb, hall⟩ := CW.out W hW
    have HS := Lib.hid hs
    have HB := Lib.hid hb
    have HALL := Lib.hid hall
    obtain ⟨hx, hz, hl⟩ := hall W (Below.refl _ _)
    have HL := Lib.hid hl
    obtain ⟨q0, q1, q2⟩ := hx.cells
    clear hW CW hs hb hall hx hz hl
    go_wp2_with (first
      | (go_at_call 34; (with_reducible refine (CP0.out W HL.out).mono ?_); rintro e w1 ⟨⟨A1, C1, rfl, HL1⟩, HB1⟩)
      | ((with_reducible refine wpList_append_int rfl (.tmp 11) (.tmp 13) rfl W.heap.size A1 n C1 rfl (R.l.take n) (HL1.out.below ((Below.refl _ _).alloc (Nat.le_refl _) _) (Nat.le_refl _)) w1.heap.size rfl v (by simp) HK.out (Nat.le_trans HB1.out.size (by simp)) ?_); intro A2 C2 w2 HL2 HB2; have HB3 := Lib.hid ((HB1.out.alloc HB1.out.size _).trans HB2.out); have HX3 := Lib.hid (HALL.out w2 HB3.out); obtain ⟨r0, r1, r2⟩ := HX3.out.1.cells; have rf2 := HX3.out.1.frozen 2; obtain ⟨z0, z1, z2⟩ := HX3.out.2.1.cells; have zf0 := HX3.out.2.1.frozen 0; have zf1 := HX3.out.2.1.frozen 1; have zf2 := HX3.out.2.1.frozen 2)
      | fail)
    refine bodyPost_ret (v := .agg #[.int .i64 (R.room : Int), .int .i64 (R.first : Int), .slice A2 (n + 1) C2]) (by simp [results, Try.results22, go_sem, z0, z1, z2]) rfl ?_
    have hll : (R.l ++ [v]).length = n + 1 := by rw [List.length_append, ← HN.out]; rfl
    refine ⟨A2, C2, ?_, Lib.hid ?_, Lib.hid ?_, Lib.hid (Dest.own HL2.out (by have := HS.out; omega))⟩
    · rw [HP.out]
      show Ending.returned (.agg #[.int .i64 (R.room : Int), .int .i64 (R.first : Int), .slice A2 (n + 1) C2]) = Ending.returned (.agg #[.int .i64 (R.room : Int), .int .i64 (R.first : Int), .slice A2 (R.l ++ [v]).length C2])
      rw [hll]
    · rw [HP.out]
      show OwnI _ 0 (.slice A2 (R.l ++ [v]).length C2) (R.l ++ [v]).length (R.l ++ [v])
      rw [hll]
      have h3 := HL2.out
      rw [HT.out] at h3
      have hs := HS.out
      exact res_own (h3.far (p := ⟨w.heap.size, 2, none⟩) (by show w.heap.size < _; omega) _) w.heap.size (by omega) _ _ _
    · have hb := HB.out.trans (HB3.out.mono (by have := HS.out; omega))
      exact res_below (hb.setCell (p := ⟨w.heap.size, 2, none⟩) (Nat.le_refl _) _) _ _ _
/-- What the document's Set answers. -/
def DTo2 (w : World) (A0 : Option Addr) (R : Rn) (c : Int) (e : Ending) (w' : World) : Prop := ∃ A C, e = .returned (.tuple #[DV R A C, .int .i64 c]) ∧ Hid (DL w' R A C) ∧ Hid (Below w.heap.size w w') ∧ Hid (Dest w.heap.size A0 A)
set_option maxRecDepth 100000 in
theorem rset_none (x v : Int) (R : Rn) (A : Option Addr) (C k : Nat) (hf : R.fit k) (hk : k ≤ 1000000) (hc : R.kept x ≠ 0) (w : World) (h : DL w R A C) :
    Calls Try.prog 23 #[DV R A C, .int .i64 x, .int .i64 v] w (DTo2 w A (R.set x v) (R.kept x)) := by
  have hR : R.set x v = R := by unfold Rn.set; rw [if_neg hc]
  rw [hR]
  have CA := Lib.hid (fun w' (h' : DL w' R A C) => rat_any x R A C k hf hk w' h')
  have CW := Lib.hid (boxes_later R.room R.first (.slice A R.l.length C) h)
  obtain ⟨c, hcc⟩ : ∃ c, c = R.kept x := ⟨_, rfl⟩
  rw [← hcc] at hc CA ⊢
  have HLT : Hid (∀ g, (Value.slice A R.l.length C).ownBlock = some g → g < w.heap.size) := Lib.hid (fun g hg => (OwnI.lt h g hg).2)
  clear h hf hR hcc
  go_enter Try.func23, Try.ntmps23
  unfold DV
  go_upto_region 1 with fail
  obtain ⟨W, hW⟩ : ∃ W, W = (w.alloc (.cells #[.int .i64 (R.room : Int), .int .i64 (R.first : Int), .slice A R.l.length C] 27)).alloc (.cells #[.int .i64 0, .int .i64 0, .slice none 0 0] 27) := ⟨_, rfl⟩
  rw [← hW]
  obtain ⟨hs, hb, hall⟩ := CW.out W hW
  have HS := Lib.hid hs
  have HB := Lib.hid hb
  have HALL := Lib.hid hall
  obtain ⟨hx, hz, hl⟩ := hall W (Below.refl _ _)
  have HL : Hid (DL W R A C) := Lib.hid hl
  obtain ⟨q0, q1, q2⟩ := hx.cells
  clear hW CW hs hb hall hx hz hl
  go_wp2_with (first
    | (go_at_call 15; (with_reducible refine (CA.out W HL.out).mono ?_); rintro e w1 ⟨rfl, hb1⟩; have HB1 := Lib.hid hb1; clear hb1; have HX3 := Lib.hid (HALL.out w1 HB1.out); obtain ⟨r0, r1, r2⟩ := HX3.out.1.cells; obtain ⟨z0, z1, z2⟩ := HX3.out.2.1.cells; have zf0 := HX3.out.2.1.frozen 0; have zf1 := HX3.out.2.1.frozen 1; have zf2 := HX3.out.2.1.frozen 2)
    | fail)
  refine bodyPost_ret (v := .tuple #[.agg #[.int .i64 (R.room : Int), .int .i64 (R.first : Int), .slice A R.l.length C], .int .i64 c]) (by simp [results, Try.results23, go_sem, z0, z1, z2]) rfl ?_
  refine ⟨A, C, rfl, Lib.hid ?_, Lib.hid ?_, Lib.hid (Dest.same _ _)⟩
  · exact res_low HX3.out.2.2 w.heap.size HLT.out _ _ _
  · exact res_below (HB.out.trans (HB1.out.mono (by have := HS.out; omega))) _ _ _
set_option maxRecDepth 100000 in
theorem rset_some (x v : Int) (R : Rn) (A : Option Addr) (C k : Nat) (hf : R.fit k) (hk : k ≤ 1000000) (hc : R.kept x = 0) (w : World) (h : DL w R A C) :
    Calls Try.prog 23 #[DV R A C, .int .i64 x, .int .i64 v] w (DTo2 w A (R.set x v) (R.kept x)) := by
  obtain ⟨i, hi, hil, hi2⟩ := R.kept_zero hc
  have hR : R.set x v = ⟨R.room, R.first, R.l.set i v⟩ := by unfold Rn.set; rw [if_pos hc, hi2]
  rw [hR]
  have CA := Lib.hid (fun w' (h' : DL w' R A C) => rat_any x R A C k hf hk w' h')
  have hlen := hf.len
  have hhi := hf.hi
  have hnx := hf.next
  rw [hc] at CA ⊢
  obtain ⟨n, hn⟩ : ∃ n, n = R.l.length := ⟨_, rfl⟩
  have CW := Lib.hid (boxes_later R.room R.first (.slice A R.l.length C) h)
  have CP0 := Lib.hid (fun (w' : World) (h' : DL w' R A C) => part0_any A R.l.length C R.l R.l.length (Nat.le_refl _) (by omega) w' h')
  have HT : Hid (R.l.take R.l.length = R.l) := Lib.hid (List.take_of_length_le (Nat.le_refl _))
  have e3 : x - (R.first : Int) = (i : Int) := by omega
  have i1 : (i : Int) < (R.l.length : Int) := by omega
  have i2 : (i : Int) ≤ 4096 := by omega
  have n1 : 0 ≤ x := by omega
  have n2 : x ≤ 1099512627776 := by unfold Rn.next at hnx; omega
  have HIL := Lib.hid hil
  have HLN := Lib.hid hlen
  clear h hf hR hc hi hi2 hil hn hlen hhi hnx
  go_enter Try.func23, Try.ntmps23
  unfold DV
  go_upto_region 1 with fail
  obtain ⟨W, hW⟩ : ∃ W, W = (w.alloc (.cells #[.int .i64 (R.room : Int), .int .i64 (R.first : Int), .slice A R.l.length C] 27)).alloc (.cells #[.int .i64 0, .int .i64 0, .slice none 0 0] 27) := ⟨_, rfl⟩
  rw [← hW]
  obtain ⟨hs, hb, hall⟩ := CW.out W hW
  have HS := Lib.hid hs
  have HB := Lib.hid hb
  have HALL := Lib.hid hall
  obtain ⟨hx, hz, hl⟩ := hall W (Below.refl _ _)
  have HL : Hid (DL W R A C) := Lib.hid hl
  obtain ⟨q0, q1, q2⟩ := hx.cells
  clear hW CW hs hb hall hx hz hl
  go_wp2_with (first
    | (go_at_call 15; (with_reducible refine (CA.out W HL.out).mono ?_); rintro e w1 ⟨rfl, hb1⟩; have HB1 := Lib.hid hb1; clear hb1; have HL1 : Hid (DL w1 R A C) := Lib.hid (HALL.out w1 HB1.out).2.2; have HX1 := Lib.hid (HALL.out w1 HB1.out).1; obtain ⟨p0, p1, p2⟩ := HX1.out.cells)
    | (go_at_call 34; (with_reducible refine (CP0.out w1 HL1.out).mono ?_); rintro e w2 ⟨⟨A2, C2, rfl, HL2⟩, HB2⟩; have HB3 := Lib.hid (HB1.out.trans (HB2.out.mono HB1.out.size)); have HX3 := Lib.hid (HALL.out w2 HB3.out); obtain ⟨r0, r1, r2⟩ := HX3.out.1.cells; have rf2 := HX3.out.1.frozen 2; obtain ⟨z0, z1, z2⟩ := HX3.out.2.1.cells; have zf0 := HX3.out.2.1.frozen 0; have zf1 := HX3.out.2.1.frozen 1; have zf2 := HX3.out.2.1.frozen 2; obtain ⟨g, eA, hg0, hg1, hgc, hgf, _⟩ := HL2.out.at_ i HIL.out; have HG := Lib.hid hg0; clear hg0 hg1; obtain rfl := eA; have ne1 : ¬ w.heap.size = g := (by have := HG.out; have := HB1.out.size; have := HS.out; omega); have ne2 : ¬ w.heap.size + 1 = g := (by have := HG.out; have := HB1.out.size; have := HS.out; omega); have ne3 : ¬ g = w.heap.size := (by have := HG.out; have := HB1.out.size; have := HS.out; omega); have ne4 : ¬ g = w.heap.size + 1 := (by have := HG.out; have := HB1.out.size; have := HS.out; omega))
    | fail)
  refine bodyPost_ret (v := .tuple #[.agg #[.int .i64 (R.room : Int), .int .i64 (R.first : Int), .slice (some ⟨g, 0, none⟩) R.l.length C2], .int .i64 0]) (by simp [results, Try.results23, go_sem, z0, z1, z2]) rfl ?_
  have hll : (R.l.set i v).length = R.l.length := List.length_set ..
  refine ⟨some ⟨g, 0, none⟩, C2, ?_, Lib.hid ?_, Lib.hid ?_, Lib.hid (Dest.own HL2.out (by have := HB1.out.size; have := HS.out; omega))⟩
  · show _ = Ending.returned (.tuple #[.agg #[.int .i64 (R.room : Int), .int .i64 (R.first : Int), .slice (some ⟨g, 0, none⟩) (R.l.set i v).length C2], .int .i64 0])
    rw [hll]
  · show OwnI _ 0 (.slice (some ⟨g, 0, none⟩) (R.l.set i v).length C2) (R.l.set i v).length (R.l.set i v)
    rw [hll]
    have h3 := HL2.out
    rw [HT.out] at h3
    have hs := HS.out
    have hw := HB1.out.size
    exact res_own ((h3.set i v).far (p := ⟨w.heap.size, 2, none⟩) (by show w.heap.size < _; omega) _) w.heap.size (by omega) _ _ _
  · have hb := HB.out.trans (HB3.out.mono (by have := HS.out; omega))
    exact res_below ((hb.setCell (p := ⟨g, i, none⟩) (by show w.heap.size ≤ g; have := HG.out; have := HB1.out.size; have := HS.out; omega) _).setCell (p := ⟨w.heap.size, 2, none⟩) (Nat.le_refl _) _) _ _ _
end Go.Proofs.Ytjkobejhbgjhlaa
