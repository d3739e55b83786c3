/-
  Own text: Identity, walked.
-/
import Derived.Test.YtipaolkgafhliaaMRank
namespace Go.Proofs.Ytipaolkgafhliaa
open Go.RowKit

/-- A matrix in a box. -/
def Bx (w : World) (b : Nat) (x y z : Value) : Prop := w.heap[b]? = some (.cells #[x, y, z] 24 (0, 0))
theorem Bx.keep {w w' : World} {b : Nat} {x y z : Value} (h : Bx w b x y z) (e : w'.heap[b]? = w.heap[b]?) : Bx w' b x y z := e.trans h
theorem Bx.lt {w : World} {b : Nat} {x y z : Value} (h : Bx w b x y z) : b < w.heap.size := (Array.getElem?_eq_some_iff.1 h).1
theorem Bx.below {w w' : World} {b B : Nat} {x y z : Value} (h : Bx w b x y z) (hb : Below B w w') (hB : b < B) : Bx w' b x y z := h.keep (hb.block b hB)
theorem Bx.cells {w : World} {b : Nat} {x y z : Value} (h : Bx w b x y z) : w.cell? ⟨b, 0, none⟩ = some x ∧ w.cell? ⟨b, 1, none⟩ = some y ∧ w.cell? ⟨b, 2, none⟩ = some z ∧ ∀ i, w.frozen? ⟨b, i, none⟩ = false := box_cells h
theorem Bx.write {w : World} {b : Nat} {x y z x' y' z' : Value} (h : Bx w b x y z) : Bx (((w.setCell ⟨b, 0, none⟩ x').setCell ⟨b, 1, none⟩ y').setCell ⟨b, 2, none⟩ z') b x' y' z' := set_box h
theorem dat_set3 {w : World} {g n b : Nat} {x y z : Value} {l : List Int} (h : Dat w g n l) (hne : g ≠ b) : Dat (((w.setCell ⟨b, 0, none⟩ x).setCell ⟨b, 1, none⟩ y).setCell ⟨b, 2, none⟩ z) g n l :=
  h.keep ((Below.heap_setCell _ ⟨b, 2, none⟩ _ g hne).trans ((Below.heap_setCell _ ⟨b, 1, none⟩ _ g hne).trans (Below.heap_setCell _ ⟨b, 0, none⟩ _ g hne)))
theorem below_set3 {w w0 : World} {B b : Nat} {x y z : Value} (h : Below B w0 w) (hb : B ≤ b) : Below B w0 (((w.setCell ⟨b, 0, none⟩ x).setCell ⟨b, 1, none⟩ y).setCell ⟨b, 2, none⟩ z) :=
  ((h.setCell (p := ⟨b, 0, none⟩) hb _).setCell (p := ⟨b, 1, none⟩) hb _).setCell (p := ⟨b, 2, none⟩) hb _
/-- A matrix in a block of its own is handed back. -/
def Handed (r c : Nat) (F : Nat → Nat → Nat) (w : World) (e : Ending) (w' : World) : Prop :=
  ∃ g l, e = .returned (.tuple #[.agg #[.int .i64 r, .int .i64 c, .slice (some ⟨g, 0, none⟩) (r * c) (r * c)], .int .i64 0]) ∧ w.heap.size ≤ g ∧ Dat w' g (r * c) l ∧ (∀ i k, i < r → k < c → co l (i * c + k) = F i k) ∧ Below w.heap.size w w'
theorem spot_ne {c i k j m : Nat} (hk : k < c) (hm : m < c) (h : ¬ (i = j ∧ k = m)) : i * c + k ≠ j * c + m := by
  intro e
  rcases Nat.lt_trichotomy i j with g | g | g
  · have := Nat.mul_le_mul_right c (show i + 1 ≤ j from g); rw [Nat.succ_mul] at this; omega
  · subst g; exact h ⟨rfl, by omega⟩
  · have := Nat.mul_le_mul_right c (show j + 1 ≤ i from g); rw [Nat.succ_mul] at this; omega
theorem spot_lt {r c i k : Nat} (hi : i < r) (hk : k < c) : i * c + k < r * c := by
  have := Nat.mul_le_mul_right c (show i + 1 ≤ r from hi); rw [Nat.succ_mul] at this; omega
theorem by_zero (n : Nat) : By (List.replicate n 0) := fun z hz => by rw [(List.mem_replicate.1 hz).2]; omega
theorem co_zero (n i : Nat) : co (List.replicate n 0) i = 0 := by
  unfold co
  rw [List.getD_eq_getElem?_getD, List.getElem?_replicate]
  split <;> rfl
/-- The same, with one thing more laid behind. -/
theorem box3a {W w1 : World} {B b : Nat} {x y z : Value} {t : TypeId} (h : W.heap[b]? = some (.cells #[x, y, z] t (0, 0))) (hb : Below B W w1) (hB : b < B) :
    (∀ o, (w1.alloc o).cell? ⟨b, 0, none⟩ = some x) ∧ (∀ o, (w1.alloc o).cell? ⟨b, 1, none⟩ = some y) ∧ (∀ o, (w1.alloc o).cell? ⟨b, 2, none⟩ = some z) ∧ (∀ o i, (w1.alloc o).frozen? ⟨b, i, none⟩ = false) := by
  have h1 : ∀ o, (w1.alloc o).heap[b]? = some (.cells #[x, y, z] t (0, 0)) := fun o => (Below.heap_alloc w1 o b (by have h2 := (hb.block b hB).trans h; exact (Array.getElem?_eq_some_iff.1 h2).1)).trans ((hb.block b hB).trans h)
  exact ⟨fun o => (box_cells (h1 o)).1, fun o => (box_cells (h1 o)).2.1, fun o => (box_cells (h1 o)).2.2.1, fun o => (box_cells (h1 o)).2.2.2⟩
theorem alloc_bx (w : World) (x y z : Value) : Bx (w.alloc (.cells #[x, y, z] 24)) w.heap.size x y z := Go.Deep.blk_alloc_new _ _
theorem bx_alloc {w : World} {b : Nat} {x y z : Value} (h : Bx w b x y z) (o : Obj) : Bx (w.alloc o) b x y z := h.keep (Below.heap_alloc _ _ _ h.lt)
set_option maxRecDepth 100000 in
theorem ident_none (n : Int) (h : ¬ (0 ≤ n ∧ n ≤ 255)) (w : World) : Calls Try.prog 19 #[.int .i64 n] w (Refused 50 w) := by
  have HN := Lib.hid (new_none n n (fun g => h g.1))
  have HA : Hid (∀ o, w.heap.size < (w.alloc o).heap.size) := Lib.hid (fun o => by simp)
  clear h
  go_enter Try.func19, Try.ntmps19
  go_wp2_with (go_at_call 16; refine (HN.out _).mono ?_; rintro e w1 ⟨rfl, hb⟩; have HB := Lib.hid hb; clear hb; obtain ⟨k0, k1, k2, kf⟩ := box3a (alloc_one w _ _) HB.out (HA.out _))
  clear k0 k1 k2 kf
  have HX := (bx_alloc ((alloc_bx w _ _ _).below HB.out (HA.out _)) (.cells #[.int .i64 0, .int .i64 0, .slice none 0 0] 24)).write (x' := .int .i64 0) (y' := .int .i64 0) (z' := .slice none 0 0)
  obtain ⟨z0, z1, z2, _⟩ := HX.cells
  refine bodyPost_ret (v := .tuple #[.agg #[.int .i64 0, .int .i64 0, .slice none 0 0], .int .i64 50]) (by simp [results, Try.results19, go_sem, z0, z1, z2]) rfl ?_
  clear z0 z1 z2
  exact ⟨rfl, below_set3 ((((Below.refl _ w).alloc (Nat.le_refl _) _).trans (HB.out.mono (Nat.le_of_lt (HA.out _)))).alloc (Nat.le_trans (Nat.le_of_lt (HA.out _)) HB.out.size) _) (Nat.le_refl _)⟩
theorem alloc_lt (w : World) (o : Obj) : w.heap.size < (w.alloc o).heap.size := by simp
set_option maxRecDepth 100000 in
set_option maxHeartbeats 1000000 in
theorem ident_some (n : Nat) (hn : n ≤ 255) (w : World) : Calls Try.prog 19 #[.int .i64 n] w (Handed n n (fun i k => if i = k then 1 else 0) w) := by
  have hm : n * n ≤ 65025 := Nat.mul_le_mul hn hn
  have HN := Lib.hid (new_some n n hn hn)
  have HP := Lib.hid (fun g => parts_any (some ⟨g, 0, none⟩) (n * n) (n * n) n n (by omega) (Nat.le_refl _) (Nat.le_refl _) (by omega) (fun h => nomatch h))
  have HLD := Lib.hid (laid_rows n n (n * n) (Nat.le_refl _))
  unfold Handed
  have HSP : Hid (∀ i, i < n → i * n + i < n * n) := Lib.hid (fun i hi => spot_lt hi hi)
  obtain ⟨m, hmm⟩ : ∃ m, n * n = m := ⟨_, rfl⟩
  have HMM := Lib.hid hmm
  unfold Newed at HN
  rw [hmm] at hm HN HP HLD HSP ⊢
  clear hmm
  go_enter Try.func19, Try.ntmps19
  go_wp2_with first
    | (go_at_call 16; refine (HN.out _).mono ?_; rintro e w1 ⟨g, rfl, hg, hr, hb⟩; have HG := Lib.hid hg; have HR := Lib.hid hr; have HB := Lib.hid hb; clear hg hr hb)
    | (go_at_call 39; refine (HP.out _ _).mono ?_; rintro e w3 ⟨h, rfl, hh, hl, hb⟩; have HH := Lib.hid hh; have HL := Lib.hid hl; have HB3 := Lib.hid hb; clear hh hl hb)
  have HO1 : Hid (w.heap.size < g ∧ g < w1.heap.size ∧ w1.heap.size < h) := Lib.hid ⟨Nat.lt_of_lt_of_le (alloc_lt _ _) HG.out, HR.out.lt, Nat.lt_of_lt_of_le (alloc_lt _ _) HH.out⟩
  have HD3 : Hid (Dat w3 g m (List.replicate m 0)) := Lib.hid (by
    have := HR.out.dat (by_zero m)
    rw [List.length_replicate] at this
    exact (this.keep (Below.heap_alloc _ _ _ this.lt)).below HB3.out (Nat.lt_trans this.lt (alloc_lt _ _)))
  have HX2 : Hid (Bx w3 w.heap.size (.int .i64 0) (.int .i64 0) (.slice none 0 0)) := Lib.hid ((bx_alloc ((alloc_bx w _ _ _).below HB.out (alloc_lt _ _)) _).below HB3.out (Nat.lt_trans (Nat.lt_trans HO1.out.1 HO1.out.2.1) (alloc_lt _ _)))
  have HX4 : Hid (Bx w3 w1.heap.size (.int .i64 n) (.int .i64 n) (.slice (some ⟨g, 0, none⟩) m m)) := Lib.hid ((alloc_bx w1 _ _ _).below HB3.out (alloc_lt _ _))
  have HB0 : Hid (Below w.heap.size w w3) := Lib.hid (((((Below.refl _ w).alloc (Nat.le_refl _) _).trans (HB.out.mono (Nat.le_of_lt (alloc_lt _ _)))).alloc (Nat.le_of_lt (Nat.lt_trans HO1.out.1 HO1.out.2.1)) _).trans (HB3.out.mono (Nat.le_of_lt (Nat.lt_trans (Nat.lt_trans HO1.out.1 HO1.out.2.1) (alloc_lt _ _)))))
  clear HG HR HB HH HB3
  generalize w1.heap.size = b4 at *
  go_loopw [6, 7, 21] (fun _ _ i wr => ∃ (j : Nat) (lc : List Int), j ≤ n ∧ i = .int .i64 (j : Nat) ∧ Hid (Dat wr g m lc) ∧ Hid (∀ i k, i < n → k < n → co lc (i * n + k) = if i = k ∧ i < j then 1 else 0) ∧ Hid (Lst wr h n n (fun i => onA (some ⟨g, 0, none⟩) (i * n))) ∧
    Hid (Bx wr w.heap.size (.int .i64 0) (.int .i64 0) (.slice none 0 0)) ∧ Hid (Bx wr b4 (.int .i64 n) (.int .i64 n) (.slice (some ⟨g, 0, none⟩) m m)) ∧ Hid (Below w.heap.size w wr)) (fun _ _ i _ => n - (intOf i).toNat)
  case atStart => exact ⟨0, _, by omega, rfl, HD3, Lib.hid (fun i k _ _ => by rw [co_zero, if_neg (by omega)]), HL, HX2, HX4, HB0⟩
  case round =>
    obtain ⟨j, lc, hj, rfl, HDj, HCj, HLj, HX2j, HX4j, HBj⟩ := hrel
    obtain ⟨wo, ho⟩ : ∃ wo, wo = wr := ⟨_, rfl⟩
    subst ho
    by_cases hlt : j < n
    · have cr := HLj.out.cell j hlt
      rw [onA_at, Nat.zero_add] at cr
      have c0 := HDj.out.cell (j * n + j) (HSP.out j hlt)
      have f0 := HDj.out.frozen (j * n + j)
      go_wp2
      go_roundw
      case rel =>
        refine ⟨j + 1, lc.set (j * n + j) 1, by omega, by go_num, Lib.hid (HDj.out.set (j * n + j) 1 (by omega)), Lib.hid (fun i k hi hk => ?_), Lib.hid (HLj.out.keep (Below.heap_setCell _ ⟨g, j * n + j, none⟩ _ _ (by have := HO1.out; show h ≠ g; omega))),
          Lib.hid (HX2j.out.keep (Below.heap_setCell _ ⟨g, j * n + j, none⟩ _ _ (by have := HO1.out; show w.heap.size ≠ g; omega))), Lib.hid (HX4j.out.keep (Below.heap_setCell _ ⟨g, j * n + j, none⟩ _ _ (by have := HO1.out; show b4 ≠ g; omega))),
          Lib.hid (HBj.out.setCell (p := ⟨g, j * n + j, none⟩) (by have := HO1.out; show w.heap.size ≤ g; omega) _)⟩
        have e := co_set lc (j * n + j) 1 (i * n + k) (by rw [HDj.out.size]; exact HSP.out j hlt)
        refine e.trans ?_
        by_cases g1 : i = j ∧ k = j
        · rw [g1.1, g1.2, if_pos rfl, if_pos (by omega)]
        · rw [if_neg (spot_ne hk hlt g1), HCj.out i k hi hk]
          by_cases g2 : i = k ∧ i < j
          · rw [if_pos g2, if_pos (by omega)]
          · rw [if_neg g2, if_neg (by omega)]
      case measure => simp [intOf]; omega
    · obtain rfl : j = n := by omega
      obtain ⟨k0, k1, k2, kf⟩ := HX2j.out.cells
      obtain ⟨i0, i1, i2, _⟩ := HX4j.out.cells
      go_wp2
      clear k0 k1 k2 kf i0 i1 i2
      obtain ⟨z0, z1, z2, _⟩ := (HX2j.out.write (x' := .int .i64 j) (y' := .int .i64 j) (z' := .slice (some ⟨g, 0, none⟩) m m)).cells
      refine bodyPost_ret (v := .tuple #[.agg #[.int .i64 j, .int .i64 j, .slice (some ⟨g, 0, none⟩) m m], .int .i64 0]) (by simp [results, Try.results19, go_sem, z0, z1, z2]) rfl ?_
      clear z0 z1 z2
      refine ⟨g, lc, rfl, Nat.le_of_lt HO1.out.1, dat_set3 HDj.out (by have := HO1.out; omega), fun i k hi hk => ?_, below_set3 HBj.out (Nat.le_refl _)⟩
      rw [HCj.out i k hi hk]
      by_cases e : i = k
      · rw [if_pos ⟨e, hi⟩, if_pos e]
      · rw [if_neg (fun h => e h.1), if_neg e]
end Go.Proofs.Ytipaolkgafhliaa
