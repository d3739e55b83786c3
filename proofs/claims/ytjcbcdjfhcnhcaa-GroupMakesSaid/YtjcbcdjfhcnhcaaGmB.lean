/-
  Own text: layer 17 (group): a group's datagram at a number that it has, walked.
-/
import Derived.Test.YtjcbcdjfhcnhcaaGmA
import Derived.Test.YtjcbcdjfhcnhcaaLiC
namespace Go.Proofs.Ytjcbcdjfhcnhcaa
open Go.RowKit

theorem infoC17 (d : Dg) : (Try.prog.info? 44).map (·.size) = some d.cells.size := by kernel_rfl
theorem dcells17_one (d : Dg) : d.cells.all (·.oneCell') = true := by simp [Value.oneCell']
/-- Where a row of shards has its i-th one. -/
def At17 (w : World) (A : Option Addr) (i : Nat) (f : Nat → Nat) : Prop := ∃ b off g o c, A = some ⟨b, off, none⟩ ∧ w.cell? ⟨b, off + i, none⟩ = some (.slice (some ⟨g, o, none⟩) 2 c) ∧ 2 ≤ c ∧ c ≤ maxLen ∧ Rw w g o f ∧ b < w.heap.size
set_option maxRecDepth 100000 in
set_option maxHeartbeats 20000000 in
theorem gdg_yes (no fst k m : Int) (A : Option Addr) (n C i : Nat) (f : Nat → Nat) (w : World) (hn : n ≤ C) (hn2 : n ≤ 1000) (hi : i < n) (hA : At17 w A i f) :
    Calls Try.prog 14 #[.agg #[.int .u32 no, .int .u32 fst, .int .i64 k, .int .i64 m, .slice A n C], .int .i64 i] w fun e w' => ∃ g' c', e = .returned (.tuple #[(dgv no fst k m i (some ⟨g', 0, none⟩) c').val, .int .i64 0]) ∧ Hid (2 ≤ c' ∧ c' ≤ maxLen ∧ w.heap.size ≤ g' ∧ Rw w' g' 0 f ∧ Below w.heap.size w w') := by
  obtain ⟨b, off, g, o, c, rfl, hc, hc2, hcm, hr, hbl⟩ := hA
  have hs0 : (w.alloc (.cells #[.int .u32 no, .int .u32 fst, .int .i64 k, .int .i64 m, .slice (some ⟨b, off, none⟩) n C] 28)).heap.size = w.heap.size + 1 := by simp
  obtain ⟨W, hW⟩ : ∃ W, W = (w.alloc (.cells #[.int .u32 no, .int .u32 fst, .int .i64 k, .int .i64 m, .slice (some ⟨b, off, none⟩) n C] 28)).alloc (.cells Dg.zero.cells 44) := ⟨_, rfl⟩
  have h1 : B5 28 W w.heap.size (.int .u32 no) (.int .u32 fst) (.int .i64 k) (.int .i64 m) (.slice (some ⟨b, off, none⟩) n C) := by
    have h := B5.new w 28 (.int .u32 no) (.int .u32 fst) (.int .i64 k) (.int .i64 m) (.slice (some ⟨b, off, none⟩) n C)
    rw [hW]
    exact h.keep (Below.heap_alloc _ _ _ h.lt)
  have h2 : DBlk W (w.heap.size + 1) Dg.zero := by
    rw [hW, ← hs0]
    exact Go.Deep.blk_alloc_new _ _
  have HB : Hid (Below w.heap.size w W) := Lib.hid (by rw [hW]; exact ((Below.refl w.heap.size w).alloc (Nat.le_refl _) _).alloc (by simp) _)
  have H1 := Lib.hid h1
  have H2 := Lib.hid h2
  have HL : Hid (∀ u, Below (w.heap.size + 1) W u → u.cell? ⟨w.heap.size, 0, none⟩ = some (.int .u32 no) ∧ u.cell? ⟨w.heap.size, 1, none⟩ = some (.int .u32 fst) ∧ u.cell? ⟨w.heap.size, 2, none⟩ = some (.int .i64 k) ∧ u.cell? ⟨w.heap.size, 3, none⟩ = some (.int .i64 m) ∧ u.cell? ⟨w.heap.size, 4, none⟩ = some (.slice (some ⟨b, off, none⟩) n C) ∧ u.cell? ⟨b, off + i, none⟩ = some (.slice (some ⟨g, o, none⟩) 2 c)) := Lib.hid (fun u hu => by
    obtain ⟨y0, y1, y2, y3, y4⟩ := (h1.below hu (Nat.lt_succ_self _)).cells
    have hbb := HB.out.trans (hu.mono (Nat.le_succ _))
    exact ⟨y0, y1, y2, y3, y4, (hbb.cell (p := ⟨b, off + i, none⟩) hbl).trans hc⟩)
  have HCL := Lib.hid (fun u (hu : Below W.heap.size W u) => bclone2_any g o c f u ((hr.below HB.out (Nat.le_refl _)).below hu (Nat.le_refl _)) hc2)
  have HZ : Hid (∀ u, Below W.heap.size W u → Lies u (w.heap.size + 1) 0 Dg.zero.cells) := Lib.hid (fun u hu => by
    rw [hW, ← hs0] at *
    exact Lies.new _ _ _ hu)
  have HZB : Hid (w.heap.size + 1 ≤ W.heap.size) := Lib.hid (by rw [hW]; simp)
  have HZC : Hid (w.heap.size + 1 < W.heap.size) := Lib.hid h2.lt
  have HN : Hid (2 ≤ c ∧ c ≤ maxLen) := Lib.hid ⟨hc2, hcm⟩
  obtain ⟨x0, x1, x2, x3, x4⟩ := h1.cells
  have j0 : ¬ (i : Int) < 0 := by omega
  have j1 : ¬ (n : Int) ≤ i := by omega
  have j2 : (i : Int) < n := by omega
  have j3 : (0 : Int) ≤ i := by omega
  have j4 : i < n := hi
  dsimp only [Dg.zero, Dg.cells] at hW
  clear hs0 h1 h2 hr hc hbl hn hn2 hi hc2 hcm
  unfold dgv
  by_cases hk : (i : Int) < k
  · simp only [hk, if_true, if_false]
    have hk2 := Lib.hid hk
    go_enter Try.func14, Try.ntmps14
    go_upto_region 1 with fail
    rw [← hW]
    clear hW
    go_upto_region 6 with fail
    clear x0 x1 x2 x3 x4 hk
    refine wp_region_held_drew (S := fun w' => w'.cell? ⟨w.heap.size, 0, none⟩ = some (.int .u32 no) ∧ w'.cell? ⟨w.heap.size, 1, none⟩ = some (.int .u32 fst) ∧ w'.cell? ⟨w.heap.size, 2, none⟩ = some (.int .i64 k) ∧ w'.cell? ⟨w.heap.size, 3, none⟩ = some (.int .i64 m) ∧ w'.cell? ⟨w.heap.size, 4, none⟩ = some (.slice (some ⟨b, off, none⟩) n C) ∧ w'.cell? ⟨b, off + i, none⟩ = some (.slice (some ⟨g, o, none⟩) 2 c)) (by kernel_rfl) (HL.out _ (Below.refl _ W).drew) (fun hHeld => ?_)
    refine taken_at (i := 0) (v := .int .i64 2) (some 21) rfl rfl (by kernel_rfl) (by kernel_rfl) (by kernel_rfl) (fun _ _ _ h => h) (Or.inl ⟨rfl, fun _ _ => rfl⟩) hHeld ?_
    try simp only [Act.put, List.setIfInBounds_toArray, List.set_cons_zero, List.set_cons_succ]
    refine taken_at (i := 1) (v := .pointer (some ⟨w.heap.size, 0, none⟩)) (some 22) rfl rfl (by kernel_rfl) (by kernel_rfl) (by kernel_rfl) (fun _ _ _ h => h) (Or.inl ⟨rfl, fun w' hw => by obtain ⟨k0, k1, k2, k3, k4, k5⟩ := hw; go_simp⟩) hHeld ?_
    try simp only [Act.put, List.setIfInBounds_toArray, List.set_cons_zero, List.set_cons_succ]
    refine taken_at (i := 2) (v := .int .u32 no) (some 23) rfl rfl (by kernel_rfl) (by kernel_rfl) (by kernel_rfl) (fun _ _ _ h => h) (Or.inl ⟨rfl, fun w' hw => by obtain ⟨k0, k1, k2, k3, k4, k5⟩ := hw; go_simp⟩) hHeld ?_
    try simp only [Act.put, List.setIfInBounds_toArray, List.set_cons_zero, List.set_cons_succ]
    refine taken_at (i := 3) (v := .pointer (some ⟨w.heap.size, 1, none⟩)) (some 24) rfl rfl (by kernel_rfl) (by kernel_rfl) (by kernel_rfl) (fun _ _ _ h => h) (Or.inl ⟨rfl, fun w' hw => by obtain ⟨k0, k1, k2, k3, k4, k5⟩ := hw; go_simp⟩) hHeld ?_
    try simp only [Act.put, List.setIfInBounds_toArray, List.set_cons_zero, List.set_cons_succ]
    refine taken_at (i := 4) (v := .int .u32 fst) (some 25) rfl rfl (by kernel_rfl) (by kernel_rfl) (by kernel_rfl) (fun _ _ _ h => h) (Or.inl ⟨rfl, fun w' hw => by obtain ⟨k0, k1, k2, k3, k4, k5⟩ := hw; go_simp⟩) hHeld ?_
    try simp only [Act.put, List.setIfInBounds_toArray, List.set_cons_zero, List.set_cons_succ]
    refine taken_at (i := 5) (v := .pointer (some ⟨w.heap.size, 2, none⟩)) (some 26) rfl rfl (by kernel_rfl) (by kernel_rfl) (by kernel_rfl) (fun _ _ _ h => h) (Or.inl ⟨rfl, fun w' hw => by obtain ⟨k0, k1, k2, k3, k4, k5⟩ := hw; go_simp⟩) hHeld ?_
    try simp only [Act.put, List.setIfInBounds_toArray, List.set_cons_zero, List.set_cons_succ]
    refine taken_at (i := 6) (v := .int .i64 k) (some 27) rfl rfl (by kernel_rfl) (by kernel_rfl) (by kernel_rfl) (fun _ _ _ h => h) (Or.inl ⟨rfl, fun w' hw => by obtain ⟨k0, k1, k2, k3, k4, k5⟩ := hw; go_simp⟩) hHeld ?_
    try simp only [Act.put, List.setIfInBounds_toArray, List.set_cons_zero, List.set_cons_succ]
    refine taken_at (i := 7) (v := .pointer (some ⟨w.heap.size, 3, none⟩)) (some 28) rfl rfl (by kernel_rfl) (by kernel_rfl) (by kernel_rfl) (fun _ _ _ h => h) (Or.inl ⟨rfl, fun w' hw => by obtain ⟨k0, k1, k2, k3, k4, k5⟩ := hw; go_simp⟩) hHeld ?_
    try simp only [Act.put, List.setIfInBounds_toArray, List.set_cons_zero, List.set_cons_succ]
    refine taken_at (i := 8) (v := .int .i64 m) (some 29) rfl rfl (by kernel_rfl) (by kernel_rfl) (by kernel_rfl) (fun _ _ _ h => h) (Or.inl ⟨rfl, fun w' hw => by obtain ⟨k0, k1, k2, k3, k4, k5⟩ := hw; go_simp⟩) hHeld ?_
    try simp only [Act.put, List.setIfInBounds_toArray, List.set_cons_zero, List.set_cons_succ]
    refine taken_at (i := 9) (v := .int .i64 (i : Int)) (some 30) rfl rfl (by kernel_rfl) (by kernel_rfl) (by kernel_rfl) (fun _ _ _ h => h) (Or.inl ⟨rfl, fun _ _ => rfl⟩) hHeld ?_
    try simp only [Act.put, List.setIfInBounds_toArray, List.set_cons_zero, List.set_cons_succ]
    refine taken_at (i := 10) (v := .pointer (some ⟨w.heap.size, 4, none⟩)) (some 31) rfl rfl (by kernel_rfl) (by kernel_rfl) (by kernel_rfl) (fun _ _ _ h => h) (Or.inl ⟨rfl, fun w' hw => by obtain ⟨k0, k1, k2, k3, k4, k5⟩ := hw; go_simp⟩) hHeld ?_
    try simp only [Act.put, List.setIfInBounds_toArray, List.set_cons_zero, List.set_cons_succ]
    refine taken_at (i := 11) (v := .slice (some ⟨b, off, none⟩) n C) (some 32) rfl rfl (by kernel_rfl) (by kernel_rfl) (by kernel_rfl) (fun _ _ _ h => h) (Or.inl ⟨rfl, fun w' hw => by obtain ⟨k0, k1, k2, k3, k4, k5⟩ := hw; go_simp⟩) hHeld ?_
    try simp only [Act.put, List.setIfInBounds_toArray, List.set_cons_zero, List.set_cons_succ]
    refine taken_at (i := 12) (v := .int .i64 (i : Int)) (some 33) rfl rfl (by kernel_rfl) (by kernel_rfl) (by kernel_rfl) (fun _ _ _ h => h) (Or.inl ⟨rfl, fun _ _ => rfl⟩) hHeld ?_
    try simp only [Act.put, List.setIfInBounds_toArray, List.set_cons_zero, List.set_cons_succ]
    refine taken_at (i := 13) (v := .pointer (some ⟨b, off + i, none⟩)) (some 34) rfl rfl (by kernel_rfl) (by kernel_rfl) (by kernel_rfl) (fun _ _ _ h => h) (Or.inl ⟨rfl, fun w' hw => by obtain ⟨k0, k1, k2, k3, k4, k5⟩ := hw; go_simp⟩) hHeld ?_
    try simp only [Act.put, List.setIfInBounds_toArray, List.set_cons_zero, List.set_cons_succ]
    refine taken_at (i := 14) (v := .slice (some ⟨g, o, none⟩) 2 c) (some 35) rfl rfl (by kernel_rfl) (by kernel_rfl) (by kernel_rfl) (fun _ _ _ h => h) (Or.inl ⟨rfl, fun w' hw => by obtain ⟨k0, k1, k2, k3, k4, k5⟩ := hw; go_simp⟩) hHeld ?_
    try simp only [Act.put, List.setIfInBounds_toArray, List.set_cons_zero, List.set_cons_succ]
    refine wpAnyH_ready (rs := [15]) (by kernel_rfl) (by simp) ?_
    refine AllReadyH.cons rfl (fun K hK => ?_) AllReadyH.nil
    go_simp
    go_at_call 37
    with_reducible refine (HCL.out W.drew (Below.refl _ _).drew).mono ?_
    rintro e w3 ⟨g', c', rfl, H3⟩
    have HB3 : Hid (Below W.heap.size W w3) := Lib.hid ((Below.refl W.heap.size W).drew.trans (H3.out.2.2.2.2.mono (Nat.le_refl _)))
    go_wp2_with fail
    refine hK.out _ _ (HL.out _ (HB3.out.mono HZB.out)) (fun hHeld => ?_)
    clear hK K
    try simp only [Act.put, List.setIfInBounds_toArray, List.set_cons_zero, List.set_cons_succ]
    refine taken_at (i := 16) (v := .agg #[.int .i64 2, .int .u32 0, .int .u32 0, .int .i64 0, .int .u32 0, .int .u32 no, .int .u32 fst, .int .i64 k, .int .i64 m, .int .i64 (i : Int), .slice (some ⟨g', 0, none⟩) 2 c']) (some 37) rfl rfl (by kernel_rfl) (by kernel_rfl) (by kernel_rfl) (fun _ _ _ h => h) (Or.inl ⟨rfl, fun w' hw => by go_simp⟩) hHeld ?_
    try simp only [Act.put, List.setIfInBounds_toArray, List.set_cons_zero, List.set_cons_succ]
    refine wpAnyH_ready (rs := [17]) (by kernel_rfl) (by simp) ?_
    refine AllReadyH.cons rfl (fun K hK => ?_) AllReadyH.nil
    refine step_store_lies rfl 44 (.tmp 4) (.tmp 37) rfl (w.heap.size + 1) 0 rfl #[.int .i64 2, .int .u32 0, .int .u32 0, .int .i64 0, .int .u32 0, .int .u32 no, .int .u32 fst, .int .i64 k, .int .i64 m, .int .i64 (i : Int), .slice (some ⟨g', 0, none⟩) 2 c'] rfl Dg.zero.cells (HZ.out w3 HB3.out) rfl (infoC17 ⟨2, 0, 0, 0, 0, no, fst, k, m, (i : Int), some ⟨g', 0, none⟩, 2, c'⟩) (dcells17_one ⟨2, 0, 0, 0, 0, no, fst, k, m, (i : Int), some ⟨g', 0, none⟩, 2, c'⟩) ?_
    intro w4 J1 J2 J3
    refine hK.out _ _ (HL.out _ (J2.out.bel (HB3.out.mono HZB.out) (Nat.le_trans HZB.out HB3.out.size) (Nat.le_refl _))) (fun hHeld => ?_)
    clear hK K
    try simp only [Act.put, List.setIfInBounds_toArray, List.set_cons_zero, List.set_cons_succ]
    refine taken_at (i := 18) (v := .int .i64 0) (some 5) rfl rfl (by kernel_rfl) (by kernel_rfl) (by kernel_rfl) (fun _ _ _ h => h) (Or.inl ⟨rfl, fun _ _ => rfl⟩) hHeld ?_
    try simp only [Act.put, List.setIfInBounds_toArray, List.set_cons_zero, List.set_cons_succ]
    refine wpAnyH_done (by kernel_rfl) ?_ _
    clear hHeld
    have z0 : w4.cell? ⟨w.heap.size + 1, 0, none⟩ = some (.int .i64 2) := J1.out.cell 0 (by simp)
    have z1 : w4.cell? ⟨w.heap.size + 1, 1, none⟩ = some (.int .u32 0) := J1.out.cell 1 (by simp)
    have z2 : w4.cell? ⟨w.heap.size + 1, 2, none⟩ = some (.int .u32 0) := J1.out.cell 2 (by simp)
    have z3 : w4.cell? ⟨w.heap.size + 1, 3, none⟩ = some (.int .i64 0) := J1.out.cell 3 (by simp)
    have z4 : w4.cell? ⟨w.heap.size + 1, 4, none⟩ = some (.int .u32 0) := J1.out.cell 4 (by simp)
    have z5 : w4.cell? ⟨w.heap.size + 1, 5, none⟩ = some (.int .u32 no) := J1.out.cell 5 (by simp)
    have z6 : w4.cell? ⟨w.heap.size + 1, 6, none⟩ = some (.int .u32 fst) := J1.out.cell 6 (by simp)
    have z7 : w4.cell? ⟨w.heap.size + 1, 7, none⟩ = some (.int .i64 k) := J1.out.cell 7 (by simp)
    have z8 : w4.cell? ⟨w.heap.size + 1, 8, none⟩ = some (.int .i64 m) := J1.out.cell 8 (by simp)
    have z9 : w4.cell? ⟨w.heap.size + 1, 9, none⟩ = some (.int .i64 (i : Int)) := J1.out.cell 9 (by simp)
    have z10 : w4.cell? ⟨w.heap.size + 1, 10, none⟩ = some (.slice (some ⟨g', 0, none⟩) 2 c') := J1.out.cell 10 (by simp)
    go_wp2_with fail
    refine bodyPost_ret (v := .tuple #[.agg #[.int .i64 2, .int .u32 0, .int .u32 0, .int .i64 0, .int .u32 0, .int .u32 no, .int .u32 fst, .int .i64 k, .int .i64 m, .int .i64 (i : Int), .slice (some ⟨g', 0, none⟩) 2 c'], .int .i64 0]) (by simp [results, Try.results14, go_sem, z0, z1, z2, z3, z4, z5, z6, z7, z8, z9, z10]) rfl ?_
    exact ⟨g', c', rfl, Lib.hid ⟨H3.out.1, H3.out.2.1, Nat.le_trans HB.out.size H3.out.2.2.1, H3.out.2.2.2.1.keep (J2.out.block _ H3.out.2.2.2.1.lt (by have h1 := HZC.out; have h2 : W.heap.size ≤ g' := H3.out.2.2.1; omega)), J2.out.bel (HB.out.trans (HB3.out.mono HB.out.size)) (Nat.le_trans HB.out.size HB3.out.size) (Nat.le_succ _)⟩⟩
  · simp only [hk, if_true, if_false]
    have hk2 := Lib.hid hk
    go_enter Try.func14, Try.ntmps14
    go_upto_region 1 with fail
    rw [← hW]
    clear hW
    go_upto_region 6 with fail
    clear x0 x1 x2 x3 x4 hk
    refine wp_region_held_drew (S := fun w' => w'.cell? ⟨w.heap.size, 0, none⟩ = some (.int .u32 no) ∧ w'.cell? ⟨w.heap.size, 1, none⟩ = some (.int .u32 fst) ∧ w'.cell? ⟨w.heap.size, 2, none⟩ = some (.int .i64 k) ∧ w'.cell? ⟨w.heap.size, 3, none⟩ = some (.int .i64 m) ∧ w'.cell? ⟨w.heap.size, 4, none⟩ = some (.slice (some ⟨b, off, none⟩) n C) ∧ w'.cell? ⟨b, off + i, none⟩ = some (.slice (some ⟨g, o, none⟩) 2 c)) (by kernel_rfl) (HL.out _ (Below.refl _ W).drew) (fun hHeld => ?_)
    refine taken_at (i := 0) (v := .int .i64 3) (some 21) rfl rfl (by kernel_rfl) (by kernel_rfl) (by kernel_rfl) (fun _ _ _ h => h) (Or.inl ⟨rfl, fun _ _ => rfl⟩) hHeld ?_
    try simp only [Act.put, List.setIfInBounds_toArray, List.set_cons_zero, List.set_cons_succ]
    refine taken_at (i := 1) (v := .pointer (some ⟨w.heap.size, 0, none⟩)) (some 22) rfl rfl (by kernel_rfl) (by kernel_rfl) (by kernel_rfl) (fun _ _ _ h => h) (Or.inl ⟨rfl, fun w' hw => by obtain ⟨k0, k1, k2, k3, k4, k5⟩ := hw; go_simp⟩) hHeld ?_
    try simp only [Act.put, List.setIfInBounds_toArray, List.set_cons_zero, List.set_cons_succ]
    refine taken_at (i := 2) (v := .int .u32 no) (some 23) rfl rfl (by kernel_rfl) (by kernel_rfl) (by kernel_rfl) (fun _ _ _ h => h) (Or.inl ⟨rfl, fun w' hw => by obtain ⟨k0, k1, k2, k3, k4, k5⟩ := hw; go_simp⟩) hHeld ?_
    try simp only [Act.put, List.setIfInBounds_toArray, List.set_cons_zero, List.set_cons_succ]
    refine taken_at (i := 3) (v := .pointer (some ⟨w.heap.size, 1, none⟩)) (some 24) rfl rfl (by kernel_rfl) (by kernel_rfl) (by kernel_rfl) (fun _ _ _ h => h) (Or.inl ⟨rfl, fun w' hw => by obtain ⟨k0, k1, k2, k3, k4, k5⟩ := hw; go_simp⟩) hHeld ?_
    try simp only [Act.put, List.setIfInBounds_toArray, List.set_cons_zero, List.set_cons_succ]
    refine taken_at (i := 4) (v := .int .u32 fst) (some 25) rfl rfl (by kernel_rfl) (by kernel_rfl) (by kernel_rfl) (fun _ _ _ h => h) (Or.inl ⟨rfl, fun w' hw => by obtain ⟨k0, k1, k2, k3, k4, k5⟩ := hw; go_simp⟩) hHeld ?_
    try simp only [Act.put, List.setIfInBounds_toArray, List.set_cons_zero, List.set_cons_succ]
    refine taken_at (i := 5) (v := .pointer (some ⟨w.heap.size, 2, none⟩)) (some 26) rfl rfl (by kernel_rfl) (by kernel_rfl) (by kernel_rfl) (fun _ _ _ h => h) (Or.inl ⟨rfl, fun w' hw => by obtain ⟨k0, k1, k2, k3, k4, k5⟩ := hw; go_simp⟩) hHeld ?_
    try simp only [Act.put, List.setIfInBounds_toArray, List.set_cons_zero, List.set_cons_succ]
    refine taken_at (i := 6) (v := .int .i64 k) (some 27) rfl rfl (by kernel_rfl) (by kernel_rfl) (by kernel_rfl) (fun _ _ _ h => h) (Or.inl ⟨rfl, fun w' hw => by obtain ⟨k0, k1, k2, k3, k4, k5⟩ := hw; go_simp⟩) hHeld ?_
    try simp only [Act.put, List.setIfInBounds_toArray, List.set_cons_zero, List.set_cons_succ]
    refine taken_at (i := 7) (v := .pointer (some ⟨w.heap.size, 3, none⟩)) (some 28) rfl rfl (by kernel_rfl) (by kernel_rfl) (by kernel_rfl) (fun _ _ _ h => h) (Or.inl ⟨rfl, fun w' hw => by obtain ⟨k0, k1, k2, k3, k4, k5⟩ := hw; go_simp⟩) hHeld ?_
    try simp only [Act.put, List.setIfInBounds_toArray, List.set_cons_zero, List.set_cons_succ]
    refine taken_at (i := 8) (v := .int .i64 m) (some 29) rfl rfl (by kernel_rfl) (by kernel_rfl) (by kernel_rfl) (fun _ _ _ h => h) (Or.inl ⟨rfl, fun w' hw => by obtain ⟨k0, k1, k2, k3, k4, k5⟩ := hw; go_simp⟩) hHeld ?_
    try simp only [Act.put, List.setIfInBounds_toArray, List.set_cons_zero, List.set_cons_succ]
    refine taken_at (i := 9) (v := .int .i64 (i : Int)) (some 30) rfl rfl (by kernel_rfl) (by kernel_rfl) (by kernel_rfl) (fun _ _ _ h => h) (Or.inl ⟨rfl, fun _ _ => rfl⟩) hHeld ?_
    try simp only [Act.put, List.setIfInBounds_toArray, List.set_cons_zero, List.set_cons_succ]
    refine taken_at (i := 10) (v := .pointer (some ⟨w.heap.size, 4, none⟩)) (some 31) rfl rfl (by kernel_rfl) (by kernel_rfl) (by kernel_rfl) (fun _ _ _ h => h) (Or.inl ⟨rfl, fun w' hw => by obtain ⟨k0, k1, k2, k3, k4, k5⟩ := hw; go_simp⟩) hHeld ?_
    try simp only [Act.put, List.setIfInBounds_toArray, List.set_cons_zero, List.set_cons_succ]
    refine taken_at (i := 11) (v := .slice (some ⟨b, off, none⟩) n C) (some 32) rfl rfl (by kernel_rfl) (by kernel_rfl) (by kernel_rfl) (fun _ _ _ h => h) (Or.inl ⟨rfl, fun w' hw => by obtain ⟨k0, k1, k2, k3, k4, k5⟩ := hw; go_simp⟩) hHeld ?_
    try simp only [Act.put, List.setIfInBounds_toArray, List.set_cons_zero, List.set_cons_succ]
    refine taken_at (i := 12) (v := .int .i64 (i : Int)) (some 33) rfl rfl (by kernel_rfl) (by kernel_rfl) (by kernel_rfl) (fun _ _ _ h => h) (Or.inl ⟨rfl, fun _ _ => rfl⟩) hHeld ?_
    try simp only [Act.put, List.setIfInBounds_toArray, List.set_cons_zero, List.set_cons_succ]
    refine taken_at (i := 13) (v := .pointer (some ⟨b, off + i, none⟩)) (some 34) rfl rfl (by kernel_rfl) (by kernel_rfl) (by kernel_rfl) (fun _ _ _ h => h) (Or.inl ⟨rfl, fun w' hw => by obtain ⟨k0, k1, k2, k3, k4, k5⟩ := hw; go_simp⟩) hHeld ?_
    try simp only [Act.put, List.setIfInBounds_toArray, List.set_cons_zero, List.set_cons_succ]
    refine taken_at (i := 14) (v := .slice (some ⟨g, o, none⟩) 2 c) (some 35) rfl rfl (by kernel_rfl) (by kernel_rfl) (by kernel_rfl) (fun _ _ _ h => h) (Or.inl ⟨rfl, fun w' hw => by obtain ⟨k0, k1, k2, k3, k4, k5⟩ := hw; go_simp⟩) hHeld ?_
    try simp only [Act.put, List.setIfInBounds_toArray, List.set_cons_zero, List.set_cons_succ]
    refine wpAnyH_ready (rs := [15]) (by kernel_rfl) (by simp) ?_
    refine AllReadyH.cons rfl (fun K hK => ?_) AllReadyH.nil
    go_simp
    go_at_call 37
    with_reducible refine (HCL.out W.drew (Below.refl _ _).drew).mono ?_
    rintro e w3 ⟨g', c', rfl, H3⟩
    have HB3 : Hid (Below W.heap.size W w3) := Lib.hid ((Below.refl W.heap.size W).drew.trans (H3.out.2.2.2.2.mono (Nat.le_refl _)))
    go_wp2_with fail
    refine hK.out _ _ (HL.out _ (HB3.out.mono HZB.out)) (fun hHeld => ?_)
    clear hK K
    try simp only [Act.put, List.setIfInBounds_toArray, List.set_cons_zero, List.set_cons_succ]
    refine taken_at (i := 16) (v := .agg #[.int .i64 3, .int .u32 0, .int .u32 0, .int .i64 0, .int .u32 0, .int .u32 no, .int .u32 fst, .int .i64 k, .int .i64 m, .int .i64 (i : Int), .slice (some ⟨g', 0, none⟩) 2 c']) (some 37) rfl rfl (by kernel_rfl) (by kernel_rfl) (by kernel_rfl) (fun _ _ _ h => h) (Or.inl ⟨rfl, fun w' hw => by go_simp⟩) hHeld ?_
    try simp only [Act.put, List.setIfInBounds_toArray, List.set_cons_zero, List.set_cons_succ]
    refine wpAnyH_ready (rs := [17]) (by kernel_rfl) (by simp) ?_
    refine AllReadyH.cons rfl (fun K hK => ?_) AllReadyH.nil
    refine step_store_lies rfl 44 (.tmp 4) (.tmp 37) rfl (w.heap.size + 1) 0 rfl #[.int .i64 3, .int .u32 0, .int .u32 0, .int .i64 0, .int .u32 0, .int .u32 no, .int .u32 fst, .int .i64 k, .int .i64 m, .int .i64 (i : Int), .slice (some ⟨g', 0, none⟩) 2 c'] rfl Dg.zero.cells (HZ.out w3 HB3.out) rfl (infoC17 ⟨3, 0, 0, 0, 0, no, fst, k, m, (i : Int), some ⟨g', 0, none⟩, 2, c'⟩) (dcells17_one ⟨3, 0, 0, 0, 0, no, fst, k, m, (i : Int), some ⟨g', 0, none⟩, 2, c'⟩) ?_
    intro w4 J1 J2 J3
    refine hK.out _ _ (HL.out _ (J2.out.bel (HB3.out.mono HZB.out) (Nat.le_trans HZB.out HB3.out.size) (Nat.le_refl _))) (fun hHeld => ?_)
    clear hK K
    try simp only [Act.put, List.setIfInBounds_toArray, List.set_cons_zero, List.set_cons_succ]
    refine taken_at (i := 18) (v := .int .i64 0) (some 5) rfl rfl (by kernel_rfl) (by kernel_rfl) (by kernel_rfl) (fun _ _ _ h => h) (Or.inl ⟨rfl, fun _ _ => rfl⟩) hHeld ?_
    try simp only [Act.put, List.setIfInBounds_toArray, List.set_cons_zero, List.set_cons_succ]
    refine wpAnyH_done (by kernel_rfl) ?_ _
    clear hHeld
    have z0 : w4.cell? ⟨w.heap.size + 1, 0, none⟩ = some (.int .i64 3) := J1.out.cell 0 (by simp)
    have z1 : w4.cell? ⟨w.heap.size + 1, 1, none⟩ = some (.int .u32 0) := J1.out.cell 1 (by simp)
    have z2 : w4.cell? ⟨w.heap.size + 1, 2, none⟩ = some (.int .u32 0) := J1.out.cell 2 (by simp)
    have z3 : w4.cell? ⟨w.heap.size + 1, 3, none⟩ = some (.int .i64 0) := J1.out.cell 3 (by simp)
    have z4 : w4.cell? ⟨w.heap.size + 1, 4, none⟩ = some (.int .u32 0) := J1.out.cell 4 (by simp)
    have z5 : w4.cell? ⟨w.heap.size + 1, 5, none⟩ = some (.int .u32 no) := J1.out.cell 5 (by simp)
    have z6 : w4.cell? ⟨w.heap.size + 1, 6, none⟩ = some (.int .u32 fst) := J1.out.cell 6 (by simp)
    have z7 : w4.cell? ⟨w.heap.size + 1, 7, none⟩ = some (.int .i64 k) := J1.out.cell 7 (by simp)
    have z8 : w4.cell? ⟨w.heap.size + 1, 8, none⟩ = some (.int .i64 m) := J1.out.cell 8 (by simp)
    have z9 : w4.cell? ⟨w.heap.size + 1, 9, none⟩ = some (.int .i64 (i : Int)) := J1.out.cell 9 (by simp)
    have z10 : w4.cell? ⟨w.heap.size + 1, 10, none⟩ = some (.slice (some ⟨g', 0, none⟩) 2 c') := J1.out.cell 10 (by simp)
    go_wp2_with fail
    refine bodyPost_ret (v := .tuple #[.agg #[.int .i64 3, .int .u32 0, .int .u32 0, .int .i64 0, .int .u32 0, .int .u32 no, .int .u32 fst, .int .i64 k, .int .i64 m, .int .i64 (i : Int), .slice (some ⟨g', 0, none⟩) 2 c'], .int .i64 0]) (by simp [results, Try.results14, go_sem, z0, z1, z2, z3, z4, z5, z6, z7, z8, z9, z10]) rfl ?_
    exact ⟨g', c', rfl, Lib.hid ⟨H3.out.1, H3.out.2.1, Nat.le_trans HB.out.size H3.out.2.2.1, H3.out.2.2.2.1.keep (J2.out.block _ H3.out.2.2.2.1.lt (by have h1 := HZC.out; have h2 : W.heap.size ≤ g' := H3.out.2.2.1; omega)), J2.out.bel (HB.out.trans (HB3.out.mono HB.out.size)) (Nat.le_trans HB.out.size HB3.out.size) (Nat.le_succ _)⟩⟩
end Go.Proofs.Ytjcbcdjfhcnhcaa
