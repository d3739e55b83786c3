/-
  Own text: layer 17 (group): the document's datagram of a group, walked (written by gen_gmc.py).
-/
import Derived.Test.YtjcbcdjfhcnhcaaGmB
namespace Go.Proofs.Ytjcbcdjfhcnhcaa
open Go.RowKit

set_option maxRecDepth 100000 in
set_option maxHeartbeats 4000000 in
theorem rdg_any (no fst k m : Int) (A : Option Addr) (n C i : Nat) (b off g o c : Nat) (w : World) (hn : n ≤ C) (hn2 : n ≤ 1000) (hi : i < n) (hA : A = some ⟨b, off, none⟩) (hc : w.cell? ⟨b, off + i, none⟩ = some (.slice (some ⟨g, o, none⟩) 2 c)) (hbl : b < w.heap.size) :
    Calls Try.prog 16 #[.agg #[.int .u32 no, .int .u32 fst, .int .i64 k, .int .i64 m, .slice A n C], .int .i64 i] w fun e w' => e = .returned (dgv no fst k m i (some ⟨g, o, none⟩) c).val ∧ Hid (Below w.heap.size w w') := by
  subst hA
  have hs0 : (w.alloc (.cells #[.int .u32 no, .int .u32 fst, .int .i64 k, .int .i64 m, .slice (some ⟨b, off, none⟩) n C] 34)).heap.size = w.heap.size + 1 := by simp
  obtain ⟨W, hW⟩ : ∃ W, W = (w.alloc (.cells #[.int .u32 no, .int .u32 fst, .int .i64 k, .int .i64 m, .slice (some ⟨b, off, none⟩) n C] 34)).alloc (.cells Dg.zero.cells 44) := ⟨_, rfl⟩
  have h1 : B5 34 W w.heap.size (.int .u32 no) (.int .u32 fst) (.int .i64 k) (.int .i64 m) (.slice (some ⟨b, off, none⟩) n C) := by
    have h := B5.new w 34 (.int .u32 no) (.int .u32 fst) (.int .i64 k) (.int .i64 m) (.slice (some ⟨b, off, none⟩) n C)
    rw [hW]
    exact h.keep (Below.heap_alloc _ _ _ h.lt)
  have HB : Hid (Below w.heap.size w W) := Lib.hid (by rw [hW]; exact ((Below.refl w.heap.size w).alloc (Nat.le_refl _) _).alloc (by simp) _)
  have HL : Hid (∀ u, Below (w.heap.size + 1) W u → u.cell? ⟨w.heap.size, 0, none⟩ = some (.int .u32 no) ∧ u.cell? ⟨w.heap.size, 1, none⟩ = some (.int .u32 fst) ∧ u.cell? ⟨w.heap.size, 2, none⟩ = some (.int .i64 k) ∧ u.cell? ⟨w.heap.size, 3, none⟩ = some (.int .i64 m) ∧ u.cell? ⟨w.heap.size, 4, none⟩ = some (.slice (some ⟨b, off, none⟩) n C) ∧ u.cell? ⟨b, off + i, none⟩ = some (.slice (some ⟨g, o, none⟩) 2 c)) := Lib.hid (fun u hu => by
    obtain ⟨y0, y1, y2, y3, y4⟩ := (h1.below hu (Nat.lt_succ_self _)).cells
    have hbb := HB.out.trans (hu.mono (Nat.le_succ _))
    exact ⟨y0, y1, y2, y3, y4, (hbb.cell (p := ⟨b, off + i, none⟩) hbl).trans hc⟩)
  have HZ : Hid (∀ u, Below W.heap.size W u → Lies u (w.heap.size + 1) 0 Dg.zero.cells) := Lib.hid (fun u hu => by
    rw [hW, ← hs0] at *
    exact Lies.new _ _ _ hu)
  have HZB : Hid (W.heap.size = w.heap.size + 2) := Lib.hid (by rw [hW]; simp)
  have j0 : ¬ (i : Int) < 0 := by omega
  have j2 : (i : Int) < n := by omega
  have j3 : (0 : Int) ≤ i := by omega
  have j4 : i < n := hi
  dsimp only [Dg.zero, Dg.cells] at hW
  clear hs0 h1 hc hbl hn hn2 hi
  unfold dgv
  by_cases hk : (i : Int) < k
  · simp only [hk, if_true, if_false]
    go_enter Try.func16, Try.ntmps16
    go_upto_region 1 with fail
    rw [← hW]
    clear hW
    refine wp_region_held_drew (S := fun w' => w'.cell? ⟨w.heap.size, 0, none⟩ = some (.int .u32 no) ∧ w'.cell? ⟨w.heap.size, 1, none⟩ = some (.int .u32 fst) ∧ w'.cell? ⟨w.heap.size, 2, none⟩ = some (.int .i64 k) ∧ w'.cell? ⟨w.heap.size, 3, none⟩ = some (.int .i64 m) ∧ w'.cell? ⟨w.heap.size, 4, none⟩ = some (.slice (some ⟨b, off, none⟩) n C) ∧ w'.cell? ⟨b, off + i, none⟩ = some (.slice (some ⟨g, o, none⟩) 2 c)) (by kernel_rfl) (HL.out _ (Below.refl _ W).drew) (fun hHeld => ?_)
    refine taken_at (i := 0) (v := .pointer (some ⟨w.heap.size, 0, none⟩)) (some 6) rfl rfl (by kernel_rfl) (by kernel_rfl) (by kernel_rfl) (fun _ _ _ h => h) (Or.inl ⟨rfl, fun w' hw => by obtain ⟨k0, k1, k2, k3, k4, k5⟩ := hw; go_simp⟩) hHeld ?_
    try simp only [Act.put, List.setIfInBounds_toArray, List.set_cons_zero, List.set_cons_succ]
    refine taken_at (i := 1) (v := .int .u32 no) (some 7) rfl rfl (by kernel_rfl) (by kernel_rfl) (by kernel_rfl) (fun _ _ _ h => h) (Or.inl ⟨rfl, fun w' hw => by obtain ⟨k0, k1, k2, k3, k4, k5⟩ := hw; go_simp⟩) hHeld ?_
    try simp only [Act.put, List.setIfInBounds_toArray, List.set_cons_zero, List.set_cons_succ]
    refine taken_at (i := 2) (v := .pointer (some ⟨w.heap.size, 1, none⟩)) (some 8) rfl rfl (by kernel_rfl) (by kernel_rfl) (by kernel_rfl) (fun _ _ _ h => h) (Or.inl ⟨rfl, fun w' hw => by obtain ⟨k0, k1, k2, k3, k4, k5⟩ := hw; go_simp⟩) hHeld ?_
    try simp only [Act.put, List.setIfInBounds_toArray, List.set_cons_zero, List.set_cons_succ]
    refine taken_at (i := 3) (v := .int .u32 fst) (some 9) rfl rfl (by kernel_rfl) (by kernel_rfl) (by kernel_rfl) (fun _ _ _ h => h) (Or.inl ⟨rfl, fun w' hw => by obtain ⟨k0, k1, k2, k3, k4, k5⟩ := hw; go_simp⟩) hHeld ?_
    try simp only [Act.put, List.setIfInBounds_toArray, List.set_cons_zero, List.set_cons_succ]
    refine taken_at (i := 4) (v := .pointer (some ⟨w.heap.size, 2, none⟩)) (some 10) rfl rfl (by kernel_rfl) (by kernel_rfl) (by kernel_rfl) (fun _ _ _ h => h) (Or.inl ⟨rfl, fun w' hw => by obtain ⟨k0, k1, k2, k3, k4, k5⟩ := hw; go_simp⟩) hHeld ?_
    try simp only [Act.put, List.setIfInBounds_toArray, List.set_cons_zero, List.set_cons_succ]
    refine taken_at (i := 5) (v := .int .i64 k) (some 11) rfl rfl (by kernel_rfl) (by kernel_rfl) (by kernel_rfl) (fun _ _ _ h => h) (Or.inl ⟨rfl, fun w' hw => by obtain ⟨k0, k1, k2, k3, k4, k5⟩ := hw; go_simp⟩) hHeld ?_
    try simp only [Act.put, List.setIfInBounds_toArray, List.set_cons_zero, List.set_cons_succ]
    refine taken_at (i := 6) (v := .pointer (some ⟨w.heap.size, 3, none⟩)) (some 12) rfl rfl (by kernel_rfl) (by kernel_rfl) (by kernel_rfl) (fun _ _ _ h => h) (Or.inl ⟨rfl, fun w' hw => by obtain ⟨k0, k1, k2, k3, k4, k5⟩ := hw; go_simp⟩) hHeld ?_
    try simp only [Act.put, List.setIfInBounds_toArray, List.set_cons_zero, List.set_cons_succ]
    refine taken_at (i := 7) (v := .int .i64 m) (some 13) rfl rfl (by kernel_rfl) (by kernel_rfl) (by kernel_rfl) (fun _ _ _ h => h) (Or.inl ⟨rfl, fun w' hw => by obtain ⟨k0, k1, k2, k3, k4, k5⟩ := hw; go_simp⟩) hHeld ?_
    try simp only [Act.put, List.setIfInBounds_toArray, List.set_cons_zero, List.set_cons_succ]
    refine taken_at (i := 8) (v := .int .i64 (i : Int)) (some 14) rfl rfl (by kernel_rfl) (by kernel_rfl) (by kernel_rfl) (fun _ _ _ h => h) (Or.inl ⟨rfl, fun _ _ => rfl⟩) hHeld ?_
    try simp only [Act.put, List.setIfInBounds_toArray, List.set_cons_zero, List.set_cons_succ]
    refine taken_at (i := 9) (v := .pointer (some ⟨w.heap.size, 4, none⟩)) (some 15) rfl rfl (by kernel_rfl) (by kernel_rfl) (by kernel_rfl) (fun _ _ _ h => h) (Or.inl ⟨rfl, fun w' hw => by obtain ⟨k0, k1, k2, k3, k4, k5⟩ := hw; go_simp⟩) hHeld ?_
    try simp only [Act.put, List.setIfInBounds_toArray, List.set_cons_zero, List.set_cons_succ]
    refine taken_at (i := 10) (v := .slice (some ⟨b, off, none⟩) n C) (some 16) rfl rfl (by kernel_rfl) (by kernel_rfl) (by kernel_rfl) (fun _ _ _ h => h) (Or.inl ⟨rfl, fun w' hw => by obtain ⟨k0, k1, k2, k3, k4, k5⟩ := hw; go_simp⟩) hHeld ?_
    try simp only [Act.put, List.setIfInBounds_toArray, List.set_cons_zero, List.set_cons_succ]
    refine taken_at (i := 11) (v := .int .i64 (i : Int)) (some 17) rfl rfl (by kernel_rfl) (by kernel_rfl) (by kernel_rfl) (fun _ _ _ h => h) (Or.inl ⟨rfl, fun _ _ => rfl⟩) hHeld ?_
    try simp only [Act.put, List.setIfInBounds_toArray, List.set_cons_zero, List.set_cons_succ]
    refine taken_at (i := 12) (v := .pointer (some ⟨b, off + i, none⟩)) (some 18) rfl rfl (by kernel_rfl) (by kernel_rfl) (by kernel_rfl) (fun _ _ _ h => h) (Or.inl ⟨rfl, fun w' hw => by obtain ⟨k0, k1, k2, k3, k4, k5⟩ := hw; go_simp⟩) hHeld ?_
    try simp only [Act.put, List.setIfInBounds_toArray, List.set_cons_zero, List.set_cons_succ]
    refine taken_at (i := 13) (v := .slice (some ⟨g, o, none⟩) 2 c) (some 19) rfl rfl (by kernel_rfl) (by kernel_rfl) (by kernel_rfl) (fun _ _ _ h => h) (Or.inl ⟨rfl, fun w' hw => by obtain ⟨k0, k1, k2, k3, k4, k5⟩ := hw; go_simp⟩) hHeld ?_
    try simp only [Act.put, List.setIfInBounds_toArray, List.set_cons_zero, List.set_cons_succ]
    refine taken_at (i := 14) (v := .agg #[.int .i64 2, .int .u32 0, .int .u32 0, .int .i64 0, .int .u32 0, .int .u32 no, .int .u32 fst, .int .i64 k, .int .i64 m, .int .i64 (i : Int), .slice (some ⟨g, o, none⟩) 2 c]) (some 20) rfl rfl (by kernel_rfl) (by kernel_rfl) (by kernel_rfl) (fun _ _ _ h => h) (Or.inl ⟨rfl, fun w' hw => by go_simp⟩) hHeld ?_
    try simp only [Act.put, List.setIfInBounds_toArray, List.set_cons_zero, List.set_cons_succ]
    refine wpAnyH_ready (rs := [15]) (by kernel_rfl) (by simp) ?_
    refine AllReadyH.cons rfl (fun K hK => ?_) AllReadyH.nil
    go_simp
    have HB3 : Hid (Below W.heap.size W (W.alloc (.cells Dg.zero.cells 44)).drew) := Lib.hid ((Below.refl W.heap.size W).alloc (Nat.le_refl _) _).drew
    have HN3 : Hid (Lies (W.alloc (.cells Dg.zero.cells 44)).drew W.heap.size 0 Dg.zero.cells) := Lib.hid (Lies.new W _ _ (Below.refl _ _)).drew
    dsimp only [Dg.zero, Dg.cells] at HB3 HN3
    refine hK.out _ _ (HL.out _ (HB3.out.mono (by rw [HZB.out]; exact Nat.le_succ _))) (fun hHeld => ?_)
    clear hK K
    try simp only [Act.put, List.setIfInBounds_toArray, List.set_cons_zero, List.set_cons_succ]
    generalize (W.alloc _).drew = w3 at *
    refine wpAnyH_ready (rs := [16]) (by kernel_rfl) (by simp) ?_
    refine AllReadyH.cons rfl (fun K hK => ?_) AllReadyH.nil
    refine step_store_lies rfl 44 (.tmp 5) (.tmp 20) rfl W.heap.size 0 rfl #[.int .i64 2, .int .u32 0, .int .u32 0, .int .i64 0, .int .u32 0, .int .u32 no, .int .u32 fst, .int .i64 k, .int .i64 m, .int .i64 (i : Int), .slice (some ⟨g, o, none⟩) 2 c] rfl _ HN3.out rfl (infoC17 ⟨2, 0, 0, 0, 0, no, fst, k, m, (i : Int), some ⟨g, o, none⟩, 2, c⟩) (dcells17_one ⟨2, 0, 0, 0, 0, no, fst, k, m, (i : Int), some ⟨g, o, none⟩, 2, c⟩) ?_
    intro w4 J1 J2 J3
    have HB4 : Hid (Below W.heap.size W w4) := Lib.hid (J2.out.bel HB3.out HB3.out.size (Nat.le_refl _))
    refine hK.out _ _ (HL.out _ (HB4.out.mono (by rw [HZB.out]; exact Nat.le_succ _))) (fun hHeld => ?_)
    clear hK K
    try simp only [Act.put, List.setIfInBounds_toArray, List.set_cons_zero, List.set_cons_succ]
    refine wpAnyH_done (by kernel_rfl) ?_ _
    clear hHeld
    obtain ⟨_, _, x2, _⟩ := HL.out _ (HB4.out.mono (by rw [HZB.out]; exact Nat.le_succ _))
    have z0 : w4.cell? ⟨W.heap.size, 0, none⟩ = some (.int .i64 2) := J1.out.cell 0 (by simp)
    have f0 := J1.out.frozen 0
    go_upto_region 4 with fail
    have HX := J1
    have HY := HB4
    generalize w4 = w5 at *
    have HZ5 := Lib.hid (HZ.out w5 HY.out)
    have HI : Hid ((Try.prog.info? 44).map (·.size) = some (#[.int .i64 2, .int .u32 0, .int .u32 0, .int .i64 0, .int .u32 0, .int .u32 no, .int .u32 fst, .int .i64 k, .int .i64 m, .int .i64 (i : Int), .slice (some ⟨g, o, none⟩) 2 c] : Array Value).size) := Lib.hid (infoC17 ⟨2, 0, 0, 0, 0, no, fst, k, m, (i : Int), some ⟨g, o, none⟩, 2, c⟩)
    have HO : Hid ((#[.int .i64 2, .int .u32 0, .int .u32 0, .int .i64 0, .int .u32 0, .int .u32 no, .int .u32 fst, .int .i64 k, .int .i64 m, .int .i64 (i : Int), .slice (some ⟨g, o, none⟩) 2 c] : Array Value).all (·.oneCell') = true) := Lib.hid (dcells17_one ⟨2, 0, 0, 0, 0, no, fst, k, m, (i : Int), some ⟨g, o, none⟩, 2, c⟩)
    go_wp2_with (first | (with_reducible refine wpList_load_lies rfl 44 (.tmp 5) rfl W.heap.size 0 rfl #[.int .i64 2, .int .u32 0, .int .u32 0, .int .i64 0, .int .u32 0, .int .u32 no, .int .u32 fst, .int .i64 k, .int .i64 m, .int .i64 (i : Int), .slice (some ⟨g, o, none⟩) 2 c] HX.out _ Try.underlying44 rfl HI.out ?_) | (with_reducible refine wpList_store_lies rfl 44 (.tmp 4) (.tmp 26) rfl (w.heap.size + 1) 0 rfl #[.int .i64 2, .int .u32 0, .int .u32 0, .int .i64 0, .int .u32 0, .int .u32 no, .int .u32 fst, .int .i64 k, .int .i64 m, .int .i64 (i : Int), .slice (some ⟨g, o, none⟩) 2 c] rfl Dg.zero.cells HZ5.out rfl HI.out HO.out ?_; intro w6 N1 N2 N3) | fail)
    have y0 : w6.cell? ⟨w.heap.size + 1, 0, none⟩ = some (.int .i64 2) := N1.out.cell 0 (by simp)
    have y1 : w6.cell? ⟨w.heap.size + 1, 1, none⟩ = some (.int .u32 0) := N1.out.cell 1 (by simp)
    have y2 : w6.cell? ⟨w.heap.size + 1, 2, none⟩ = some (.int .u32 0) := N1.out.cell 2 (by simp)
    have y3 : w6.cell? ⟨w.heap.size + 1, 3, none⟩ = some (.int .i64 0) := N1.out.cell 3 (by simp)
    have y4 : w6.cell? ⟨w.heap.size + 1, 4, none⟩ = some (.int .u32 0) := N1.out.cell 4 (by simp)
    have y5 : w6.cell? ⟨w.heap.size + 1, 5, none⟩ = some (.int .u32 no) := N1.out.cell 5 (by simp)
    have y6 : w6.cell? ⟨w.heap.size + 1, 6, none⟩ = some (.int .u32 fst) := N1.out.cell 6 (by simp)
    have y7 : w6.cell? ⟨w.heap.size + 1, 7, none⟩ = some (.int .i64 k) := N1.out.cell 7 (by simp)
    have y8 : w6.cell? ⟨w.heap.size + 1, 8, none⟩ = some (.int .i64 m) := N1.out.cell 8 (by simp)
    have y9 : w6.cell? ⟨w.heap.size + 1, 9, none⟩ = some (.int .i64 (i : Int)) := N1.out.cell 9 (by simp)
    have y10 : w6.cell? ⟨w.heap.size + 1, 10, none⟩ = some (.slice (some ⟨g, o, none⟩) 2 c) := N1.out.cell 10 (by simp)
    refine bodyPost_ret (v := .agg #[.int .i64 2, .int .u32 0, .int .u32 0, .int .i64 0, .int .u32 0, .int .u32 no, .int .u32 fst, .int .i64 k, .int .i64 m, .int .i64 (i : Int), .slice (some ⟨g, o, none⟩) 2 c]) (by simp [results, Try.results16, go_sem, y0, y1, y2, y3, y4, y5, y6, y7, y8, y9, y10]) rfl ?_
    exact ⟨rfl, Lib.hid (N2.out.bel (HB.out.trans (HY.out.mono HB.out.size)) (Nat.le_trans HB.out.size HY.out.size) (Nat.le_succ _))⟩
  · simp only [hk, if_true, if_false]
    go_enter Try.func16, Try.ntmps16
    go_upto_region 1 with fail
    rw [← hW]
    clear hW
    refine wp_region_held_drew (S := fun w' => w'.cell? ⟨w.heap.size, 0, none⟩ = some (.int .u32 no) ∧ w'.cell? ⟨w.heap.size, 1, none⟩ = some (.int .u32 fst) ∧ w'.cell? ⟨w.heap.size, 2, none⟩ = some (.int .i64 k) ∧ w'.cell? ⟨w.heap.size, 3, none⟩ = some (.int .i64 m) ∧ w'.cell? ⟨w.heap.size, 4, none⟩ = some (.slice (some ⟨b, off, none⟩) n C) ∧ w'.cell? ⟨b, off + i, none⟩ = some (.slice (some ⟨g, o, none⟩) 2 c)) (by kernel_rfl) (HL.out _ (Below.refl _ W).drew) (fun hHeld => ?_)
    refine taken_at (i := 0) (v := .pointer (some ⟨w.heap.size, 0, none⟩)) (some 6) rfl rfl (by kernel_rfl) (by kernel_rfl) (by kernel_rfl) (fun _ _ _ h => h) (Or.inl ⟨rfl, fun w' hw => by obtain ⟨k0, k1, k2, k3, k4, k5⟩ := hw; go_simp⟩) hHeld ?_
    try simp only [Act.put, List.setIfInBounds_toArray, List.set_cons_zero, List.set_cons_succ]
    refine taken_at (i := 1) (v := .int .u32 no) (some 7) rfl rfl (by kernel_rfl) (by kernel_rfl) (by kernel_rfl) (fun _ _ _ h => h) (Or.inl ⟨rfl, fun w' hw => by obtain ⟨k0, k1, k2, k3, k4, k5⟩ := hw; go_simp⟩) hHeld ?_
    try simp only [Act.put, List.setIfInBounds_toArray, List.set_cons_zero, List.set_cons_succ]
    refine taken_at (i := 2) (v := .pointer (some ⟨w.heap.size, 1, none⟩)) (some 8) rfl rfl (by kernel_rfl) (by kernel_rfl) (by kernel_rfl) (fun _ _ _ h => h) (Or.inl ⟨rfl, fun w' hw => by obtain ⟨k0, k1, k2, k3, k4, k5⟩ := hw; go_simp⟩) hHeld ?_
    try simp only [Act.put, List.setIfInBounds_toArray, List.set_cons_zero, List.set_cons_succ]
    refine taken_at (i := 3) (v := .int .u32 fst) (some 9) rfl rfl (by kernel_rfl) (by kernel_rfl) (by kernel_rfl) (fun _ _ _ h => h) (Or.inl ⟨rfl, fun w' hw => by obtain ⟨k0, k1, k2, k3, k4, k5⟩ := hw; go_simp⟩) hHeld ?_
    try simp only [Act.put, List.setIfInBounds_toArray, List.set_cons_zero, List.set_cons_succ]
    refine taken_at (i := 4) (v := .pointer (some ⟨w.heap.size, 2, none⟩)) (some 10) rfl rfl (by kernel_rfl) (by kernel_rfl) (by kernel_rfl) (fun _ _ _ h => h) (Or.inl ⟨rfl, fun w' hw => by obtain ⟨k0, k1, k2, k3, k4, k5⟩ := hw; go_simp⟩) hHeld ?_
    try simp only [Act.put, List.setIfInBounds_toArray, List.set_cons_zero, List.set_cons_succ]
    refine taken_at (i := 5) (v := .int .i64 k) (some 11) rfl rfl (by kernel_rfl) (by kernel_rfl) (by kernel_rfl) (fun _ _ _ h => h) (Or.inl ⟨rfl, fun w' hw => by obtain ⟨k0, k1, k2, k3, k4, k5⟩ := hw; go_simp⟩) hHeld ?_
    try simp only [Act.put, List.setIfInBounds_toArray, List.set_cons_zero, List.set_cons_succ]
    refine taken_at (i := 6) (v := .pointer (some ⟨w.heap.size, 3, none⟩)) (some 12) rfl rfl (by kernel_rfl) (by kernel_rfl) (by kernel_rfl) (fun _ _ _ h => h) (Or.inl ⟨rfl, fun w' hw => by obtain ⟨k0, k1, k2, k3, k4, k5⟩ := hw; go_simp⟩) hHeld ?_
    try simp only [Act.put, List.setIfInBounds_toArray, List.set_cons_zero, List.set_cons_succ]
    refine taken_at (i := 7) (v := .int .i64 m) (some 13) rfl rfl (by kernel_rfl) (by kernel_rfl) (by kernel_rfl) (fun _ _ _ h => h) (Or.inl ⟨rfl, fun w' hw => by obtain ⟨k0, k1, k2, k3, k4, k5⟩ := hw; go_simp⟩) hHeld ?_
    try simp only [Act.put, List.setIfInBounds_toArray, List.set_cons_zero, List.set_cons_succ]
    refine taken_at (i := 8) (v := .int .i64 (i : Int)) (some 14) rfl rfl (by kernel_rfl) (by kernel_rfl) (by kernel_rfl) (fun _ _ _ h => h) (Or.inl ⟨rfl, fun _ _ => rfl⟩) hHeld ?_
    try simp only [Act.put, List.setIfInBounds_toArray, List.set_cons_zero, List.set_cons_succ]
    refine taken_at (i := 9) (v := .pointer (some ⟨w.heap.size, 4, none⟩)) (some 15) rfl rfl (by kernel_rfl) (by kernel_rfl) (by kernel_rfl) (fun _ _ _ h => h) (Or.inl ⟨rfl, fun w' hw => by obtain ⟨k0, k1, k2, k3, k4, k5⟩ := hw; go_simp⟩) hHeld ?_
    try simp only [Act.put, List.setIfInBounds_toArray, List.set_cons_zero, List.set_cons_succ]
    refine taken_at (i := 10) (v := .slice (some ⟨b, off, none⟩) n C) (some 16) rfl rfl (by kernel_rfl) (by kernel_rfl) (by kernel_rfl) (fun _ _ _ h => h) (Or.inl ⟨rfl, fun w' hw => by obtain ⟨k0, k1, k2, k3, k4, k5⟩ := hw; go_simp⟩) hHeld ?_
    try simp only [Act.put, List.setIfInBounds_toArray, List.set_cons_zero, List.set_cons_succ]
    refine taken_at (i := 11) (v := .int .i64 (i : Int)) (some 17) rfl rfl (by kernel_rfl) (by kernel_rfl) (by kernel_rfl) (fun _ _ _ h => h) (Or.inl ⟨rfl, fun _ _ => rfl⟩) hHeld ?_
    try simp only [Act.put, List.setIfInBounds_toArray, List.set_cons_zero, List.set_cons_succ]
    refine taken_at (i := 12) (v := .pointer (some ⟨b, off + i, none⟩)) (some 18) rfl rfl (by kernel_rfl) (by kernel_rfl) (by kernel_rfl) (fun _ _ _ h => h) (Or.inl ⟨rfl, fun w' hw => by obtain ⟨k0, k1, k2, k3, k4, k5⟩ := hw; go_simp⟩) hHeld ?_
    try simp only [Act.put, List.setIfInBounds_toArray, List.set_cons_zero, List.set_cons_succ]
    refine taken_at (i := 13) (v := .slice (some ⟨g, o, none⟩) 2 c) (some 19) rfl rfl (by kernel_rfl) (by kernel_rfl) (by kernel_rfl) (fun _ _ _ h => h) (Or.inl ⟨rfl, fun w' hw => by obtain ⟨k0, k1, k2, k3, k4, k5⟩ := hw; go_simp⟩) hHeld ?_
    try simp only [Act.put, List.setIfInBounds_toArray, List.set_cons_zero, List.set_cons_succ]
    refine taken_at (i := 14) (v := .agg #[.int .i64 2, .int .u32 0, .int .u32 0, .int .i64 0, .int .u32 0, .int .u32 no, .int .u32 fst, .int .i64 k, .int .i64 m, .int .i64 (i : Int), .slice (some ⟨g, o, none⟩) 2 c]) (some 20) rfl rfl (by kernel_rfl) (by kernel_rfl) (by kernel_rfl) (fun _ _ _ h => h) (Or.inl ⟨rfl, fun w' hw => by go_simp⟩) hHeld ?_
    try simp only [Act.put, List.setIfInBounds_toArray, List.set_cons_zero, List.set_cons_succ]
    refine wpAnyH_ready (rs := [15]) (by kernel_rfl) (by simp) ?_
    refine AllReadyH.cons rfl (fun K hK => ?_) AllReadyH.nil
    go_simp
    have HB3 : Hid (Below W.heap.size W (W.alloc (.cells Dg.zero.cells 44)).drew) := Lib.hid ((Below.refl W.heap.size W).alloc (Nat.le_refl _) _).drew
    have HN3 : Hid (Lies (W.alloc (.cells Dg.zero.cells 44)).drew W.heap.size 0 Dg.zero.cells) := Lib.hid (Lies.new W _ _ (Below.refl _ _)).drew
    dsimp only [Dg.zero, Dg.cells] at HB3 HN3
    refine hK.out _ _ (HL.out _ (HB3.out.mono (by rw [HZB.out]; exact Nat.le_succ _))) (fun hHeld => ?_)
    clear hK K
    try simp only [Act.put, List.setIfInBounds_toArray, List.set_cons_zero, List.set_cons_succ]
    generalize (W.alloc _).drew = w3 at *
    refine wpAnyH_ready (rs := [16]) (by kernel_rfl) (by simp) ?_
    refine AllReadyH.cons rfl (fun K hK => ?_) AllReadyH.nil
    refine step_store_lies rfl 44 (.tmp 5) (.tmp 20) rfl W.heap.size 0 rfl #[.int .i64 2, .int .u32 0, .int .u32 0, .int .i64 0, .int .u32 0, .int .u32 no, .int .u32 fst, .int .i64 k, .int .i64 m, .int .i64 (i : Int), .slice (some ⟨g, o, none⟩) 2 c] rfl _ HN3.out rfl (infoC17 ⟨2, 0, 0, 0, 0, no, fst, k, m, (i : Int), some ⟨g, o, none⟩, 2, c⟩) (dcells17_one ⟨2, 0, 0, 0, 0, no, fst, k, m, (i : Int), some ⟨g, o, none⟩, 2, c⟩) ?_
    intro w4 J1 J2 J3
    have HB4 : Hid (Below W.heap.size W w4) := Lib.hid (J2.out.bel HB3.out HB3.out.size (Nat.le_refl _))
    refine hK.out _ _ (HL.out _ (HB4.out.mono (by rw [HZB.out]; exact Nat.le_succ _))) (fun hHeld => ?_)
    clear hK K
    try simp only [Act.put, List.setIfInBounds_toArray, List.set_cons_zero, List.set_cons_succ]
    refine wpAnyH_done (by kernel_rfl) ?_ _
    clear hHeld
    obtain ⟨_, _, x2, _⟩ := HL.out _ (HB4.out.mono (by rw [HZB.out]; exact Nat.le_succ _))
    have z0 : w4.cell? ⟨W.heap.size, 0, none⟩ = some (.int .i64 2) := J1.out.cell 0 (by simp)
    have f0 := J1.out.frozen 0
    go_upto_region 4 with fail
    have HX : Hid (Lies (w4.setCell ⟨W.heap.size, 0, none⟩ (.int .i64 3)) W.heap.size 0 #[.int .i64 3, .int .u32 0, .int .u32 0, .int .i64 0, .int .u32 0, .int .u32 no, .int .u32 fst, .int .i64 k, .int .i64 m, .int .i64 (i : Int), .slice (some ⟨g, o, none⟩) 2 c]) := Lib.hid (J1.out.set 0 (.int .i64 3))
    have HY : Hid (Below W.heap.size W (w4.setCell ⟨W.heap.size, 0, none⟩ (.int .i64 3))) := Lib.hid (HB4.out.setCell (p := ⟨W.heap.size, 0, none⟩) (Nat.le_refl _) _)
    generalize w4.setCell _ _ = w5 at *
    have HZ5 := Lib.hid (HZ.out w5 HY.out)
    have HI : Hid ((Try.prog.info? 44).map (·.size) = some (#[.int .i64 3, .int .u32 0, .int .u32 0, .int .i64 0, .int .u32 0, .int .u32 no, .int .u32 fst, .int .i64 k, .int .i64 m, .int .i64 (i : Int), .slice (some ⟨g, o, none⟩) 2 c] : Array Value).size) := Lib.hid (infoC17 ⟨3, 0, 0, 0, 0, no, fst, k, m, (i : Int), some ⟨g, o, none⟩, 2, c⟩)
    have HO : Hid ((#[.int .i64 3, .int .u32 0, .int .u32 0, .int .i64 0, .int .u32 0, .int .u32 no, .int .u32 fst, .int .i64 k, .int .i64 m, .int .i64 (i : Int), .slice (some ⟨g, o, none⟩) 2 c] : Array Value).all (·.oneCell') = true) := Lib.hid (dcells17_one ⟨3, 0, 0, 0, 0, no, fst, k, m, (i : Int), some ⟨g, o, none⟩, 2, c⟩)
    go_wp2_with (first | (with_reducible refine wpList_load_lies rfl 44 (.tmp 5) rfl W.heap.size 0 rfl #[.int .i64 3, .int .u32 0, .int .u32 0, .int .i64 0, .int .u32 0, .int .u32 no, .int .u32 fst, .int .i64 k, .int .i64 m, .int .i64 (i : Int), .slice (some ⟨g, o, none⟩) 2 c] HX.out _ Try.underlying44 rfl HI.out ?_) | (with_reducible refine wpList_store_lies rfl 44 (.tmp 4) (.tmp 26) rfl (w.heap.size + 1) 0 rfl #[.int .i64 3, .int .u32 0, .int .u32 0, .int .i64 0, .int .u32 0, .int .u32 no, .int .u32 fst, .int .i64 k, .int .i64 m, .int .i64 (i : Int), .slice (some ⟨g, o, none⟩) 2 c] rfl Dg.zero.cells HZ5.out rfl HI.out HO.out ?_; intro w6 N1 N2 N3) | fail)
    have y0 : w6.cell? ⟨w.heap.size + 1, 0, none⟩ = some (.int .i64 3) := N1.out.cell 0 (by simp)
    have y1 : w6.cell? ⟨w.heap.size + 1, 1, none⟩ = some (.int .u32 0) := N1.out.cell 1 (by simp)
    have y2 : w6.cell? ⟨w.heap.size + 1, 2, none⟩ = some (.int .u32 0) := N1.out.cell 2 (by simp)
    have y3 : w6.cell? ⟨w.heap.size + 1, 3, none⟩ = some (.int .i64 0) := N1.out.cell 3 (by simp)
    have y4 : w6.cell? ⟨w.heap.size + 1, 4, none⟩ = some (.int .u32 0) := N1.out.cell 4 (by simp)
    have y5 : w6.cell? ⟨w.heap.size + 1, 5, none⟩ = some (.int .u32 no) := N1.out.cell 5 (by simp)
    have y6 : w6.cell? ⟨w.heap.size + 1, 6, none⟩ = some (.int .u32 fst) := N1.out.cell 6 (by simp)
    have y7 : w6.cell? ⟨w.heap.size + 1, 7, none⟩ = some (.int .i64 k) := N1.out.cell 7 (by simp)
    have y8 : w6.cell? ⟨w.heap.size + 1, 8, none⟩ = some (.int .i64 m) := N1.out.cell 8 (by simp)
    have y9 : w6.cell? ⟨w.heap.size + 1, 9, none⟩ = some (.int .i64 (i : Int)) := N1.out.cell 9 (by simp)
    have y10 : w6.cell? ⟨w.heap.size + 1, 10, none⟩ = some (.slice (some ⟨g, o, none⟩) 2 c) := N1.out.cell 10 (by simp)
    refine bodyPost_ret (v := .agg #[.int .i64 3, .int .u32 0, .int .u32 0, .int .i64 0, .int .u32 0, .int .u32 no, .int .u32 fst, .int .i64 k, .int .i64 m, .int .i64 (i : Int), .slice (some ⟨g, o, none⟩) 2 c]) (by simp [results, Try.results16, go_sem, y0, y1, y2, y3, y4, y5, y6, y7, y8, y9, y10]) rfl ?_
    exact ⟨rfl, Lib.hid (N2.out.bel (HB.out.trans (HY.out.mono HB.out.size)) (Nat.le_trans HB.out.size HY.out.size) (Nat.le_succ _))⟩
end Go.Proofs.Ytjcbcdjfhcnhcaa
