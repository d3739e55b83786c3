/-
  Own text: the document's New, walked. (Written by gen_mri.py.)
-/
import Derived.Test.YtldhlknmabpanaaGreatK36
namespace Go.Proofs.YtldhlknmabpanaaGreat.Mp
open Go.RowKit

/-- What New makes, whatever it is asked. -/
def newc (r b hv room : Int) (ses : Nat) : Array Value := rowOf 78 Pn.zero.dc ++ rowOf 78 Pn.zero.dc ++ #[.int .i64 r, .int .i64 b, .int .i64 hv, .int .i64 0, .int .i64 0, .slice none 0 0, .int .i64 room, .int .u32 (ses : Int), .int .u32 0, .int .i64 0, .int .i64 0]
theorem build15 (room : Int) (ses : Nat) (w : World) : (Instr.build 40 #[(3, .int .i64 room), (4, .int .u32 (ses : Int))]).run Tryz.prog w = .ok (.agg (newc 0 0 0 room ses)) w := by kernel_rfl
theorem newc_size (r b hv room : Int) (ses : Nat) : (newc r b hv room ses).size = 167 := by simp [newc, rowOf_size]
theorem newc_lo (r b hv room : Int) (ses j : Nat) (hj : j < 156) : (newc r b hv room ses)[j]? = (rowOf 78 Pn.zero.dc ++ rowOf 78 Pn.zero.dc)[j]? := by
  unfold newc
  rw [Array.getElem?_append_left (by rw [Array.size_append, rowOf_size]; omega)]
theorem newc_hi (r b hv room : Int) (ses j : Nat) : (newc r b hv room ses)[156 + j]? = (#[.int .i64 r, .int .i64 b, .int .i64 hv, .int .i64 0, .int .i64 0, .slice none 0 0, .int .i64 room, .int .u32 (ses : Int), .int .u32 0, .int .i64 0, .int .i64 0] : Array Value)[j]? := by
  unfold newc
  rw [Array.getElem?_append_right (by rw [Array.size_append, rowOf_size]; omega), Array.size_append, rowOf_size, show 156 + j - (78 + 78) = j by omega]
theorem newc_one (r b hv room : Int) (ses : Nat) : (newc r b hv room ses).all (·.oneCell') = true := by
  unfold newc
  rw [Array.all_append, Array.all_append, oneP14]
  simp [Value.oneCell']
theorem infoN15 (r b hv room : Int) (ses : Nat) : (Tryz.prog.info? 40).map (·.size) = some (newc r b hv room ses).size := by rw [newc_size]; exact info_d15
theorem wpList_build15 {w : World} {ops : Array Oper} {rest : List Oper} {o : Oper} {a : Act} {Q : Exit → Act → World → Prop} (hgd : o.guard = none) (room : Int) (ses : Nat) (x y : Operand) (ho : o.op = .build 40 #[(3, x), (4, y)])
    (hx : a.eval x = .int .i64 room) (hy : a.eval y = .int .u32 (ses : Int)) (h : wpList Tryz.prog ops Q rest (a.put o.dst (.agg (newc 0 0 0 room ses))) w) : wpList Tryz.prog ops Q (o :: rest) a w :=
  wpList_plain hgd fun _ hK => by
    have hr := build15 room ses w
    unfold Oper.wp execOp
    simp only [ho, List.map_toArray, List.map_cons, List.map_nil, hx, hy, Sem.run_bind, hr, Result.andThen_ok, Sem.run_pure]
    exact hK _ _ h
set_option maxRecDepth 100000 in
set_option maxHeartbeats 2000000 in
theorem rnew15_any (ses : Nat) (r b room : Int) (w : World) :
    Calls Tryz.prog 10 #[.int .u32 (ses : Int), .int .i64 r, .int .i64 b, .int .i64 room] w fun e w' => e = .returned (.tuple #[.agg (newc r b b room ses), .bool (okB r b && decide (1 ≤ room) && decide (room ≤ 256))]) ∧ Below w.heap.size w w' := by
  have zz := zeroD
  obtain ⟨Z, hZ⟩ : ∃ Z, Z = dsa Sdz none 0 := ⟨_, rfl⟩
  have SZ : Hid (Z.size = 167) := Lib.hid (by rw [hZ, dsa_size])
  obtain ⟨W, hW⟩ : ∃ W, W = w.alloc (.cells Z 40) := ⟨_, rfl⟩
  have HLZ : Hid (Lies W w.heap.size 0 Z) := Lib.hid (by rw [hW]; exact Lies.new w Z 40 (Below.refl _ _))
  have HBW : Hid (Below w.heap.size w W) := Lib.hid (by rw [hW]; exact (Below.refl _ _).alloc (Nat.le_refl _) _)
  obtain ⟨R0, hR0⟩ : ∃ R0, R0 = newc 0 0 0 room ses := ⟨_, rfl⟩
  obtain ⟨R, hR⟩ : ∃ R, R = newc r b b room ses := ⟨_, rfl⟩
  have IR0 : Hid ((Tryz.prog.info? 40).map (·.size) = some R0.size) := Lib.hid (by rw [hR0]; exact infoN15 _ _ _ _ _)
  have IR : Hid ((Tryz.prog.info? 40).map (·.size) = some R.size) := Lib.hid (by rw [hR]; exact infoN15 _ _ _ _ _)
  have SR0 : Hid (R0.size = Z.size) := Lib.hid (by rw [hR0, newc_size, SZ.out])
  have SR : Hid (R.size = Z.size) := Lib.hid (by rw [hR, newc_size, SZ.out])
  have OR0 : Hid (R0.all (·.oneCell') = true) := Lib.hid (by rw [hR0]; exact newc_one _ _ _ _ _)
  have OR : Hid (R.all (·.oneCell') = true) := Lib.hid (by rw [hR]; exact newc_one _ _ _ _ _)
  have HSUB : Hid (∀ (wa : World) (g : Nat), Lies wa g 0 R0 → Lies wa g 156 (kcells ⟨0, 0, 0, 0, 0⟩)) := Lib.hid (fun wa g h => by
    have := h.sub 156 (kcells ⟨0, 0, 0, 0, 0⟩) (by rw [hR0, newc_size]; exact (by decide : 156 + 5 ≤ 167)) (fun j hj => by
      have hj : j < 5 := hj
      rw [hR0, newc_hi]
      rcases (by omega : j = 0 ∨ j = 1 ∨ j = 2 ∨ j = 3 ∨ j = 4) with rfl | rfl | rfl | rfl | rfl <;> rfl)
    exact this)
  have HPAT : Hid (∀ (wa wb : World) (g : Nat), Lies wa g 0 R0 → Prt g 156 5 wa wb → Lies wb g 156 (kcells ⟨r, b, b, 0, 0⟩) → Lies wb g 0 R) := Lib.hid (fun wa wb g h hp hk => by
    refine Lies.patch (k := 156) (m := 5) (ds := kcells ⟨r, b, b, 0, 0⟩) h hp hk rfl (by rw [hR, hR0, newc_size, newc_size]) (fun j hj => ?_)
    rw [hR0, newc_size] at hj
    rw [hR, hR0]
    by_cases h1 : j < 156
    · rw [if_neg (by omega), newc_lo _ _ _ _ _ _ h1, newc_lo _ _ _ _ _ _ h1]
    · obtain ⟨i, rfl⟩ : ∃ i, j = 156 + i := ⟨j - 156, by omega⟩
      rw [newc_hi, newc_hi]
      by_cases h2 : i < 5
      · rw [if_pos ⟨by omega, by omega⟩, show 156 + i - 156 = i by omega]
        rcases (by omega : i = 0 ∨ i = 1 ∨ i = 2 ∨ i = 3 ∨ i = 4) with rfl | rfl | rfl | rfl | rfl <;> rfl
      · rw [if_neg (by omega)]
        rcases (by omega : i = 5 ∨ i = 6 ∨ i = 7 ∨ i = 8 ∨ i = 9 ∨ i = 10) with rfl | rfl | rfl | rfl | rfl | rfl <;> rfl)
  have HRR := Lib.hid hR
  have HR0 := Lib.hid hR0
  have CR := Lib.hid (fun w' => right_any r b w')
  rw [← hR]
  rw [← hZ] at zz
  clear hZ hR hR0
  generalize okB r b = ok at *
  go_enter Tryz.func10, Tryz.ntmps10
  go_upto_region 1 with fail
  rw [← hW]
  clear hW
  go_upto_region 2 with (first
    | ((with_reducible refine wpList_build15 rfl room ses (.tmp 11) (.tmp 12) rfl rfl rfl ?_); rw [← HR0.out])
    | ((with_reducible refine wpList_store_lies rfl 40 (.tmp 10) (.tmp 13) rfl W.heap.size 0 rfl R0 rfl Z (Lies.new W Z 40 (Below.refl _ _)) SR0.out IR0.out OR0.out ?_); intro w1 N1 N2 N3)
    | fail)
  have HB1 : Hid (Below W.heap.size W w1) := Lib.hid (N2.out.bel ((Below.refl W.heap.size W).alloc (Nat.le_refl _) (.cells Z 40)) (by simp) (Nat.le_refl _))
  have HL1 := N1
  have HZ1 := Lib.hid (HLZ.out.below HB1.out HLZ.out.lt)
  have HG1 : Hid (w.heap.size < W.heap.size) := Lib.hid HLZ.out.lt
  have HBW1 : Hid (Below w.heap.size w w1) := Lib.hid (HBW.out.trans (HB1.out.mono HBW.out.size))
  clear N1 N2 N3 HB1 HLZ HBW zz
  generalize W.heap.size = g10 at *
  go_upto_region 3 with (first
    | ((with_reducible refine wpList_store_lies rfl 37 (.tmp 18) (.tmp 17) rfl g10 156 rfl (kcells ⟨r, b, b, 0, 0⟩) rfl (kcells ⟨0, 0, 0, 0, 0⟩) (HSUB.out w1 g10 HL1.out) rfl (infoK12 _) (oneK _) ?_); intro w2 N1 N2 N3)
    | fail)
  have HL2 := Lib.hid (HPAT.out w1 w2 g10 HL1.out N2.out N1.out)
  have HZ2 := Lib.hid (HZ1.out.apart N2.out (by have := HG1.out; omega))
  have HBW2 : Hid (Below w.heap.size w w2) := Lib.hid (N2.out.bel HBW1.out HBW1.out.size (by have := HG1.out; omega))
  clear N1 N2 N3 HL1 HZ1 HBW1 HPAT HSUB IR0 SR0 OR0
  refine wp_region_held_drew (S := fun w' => Lies w' g10 0 R) (by kernel_rfl) HL2.out (fun hHeld => ?_)
  refine taken_at (i := 0) (v := .agg R) (some 19) rfl rfl (by kernel_rfl) (by kernel_rfl) (by kernel_rfl) (fun _ _ _ h => h) (yields_loadAt 40 (.tmp 10) (.pointer (some ⟨g10, 0, none⟩)) rfl rfl rfl (fun w' hw => hw.loadAt 40 _ Tryz.underlying40 rfl IR.out)) hHeld ?_
  try simp only [Act.put, List.setIfInBounds_toArray, List.set_cons_zero, List.set_cons_succ]
  refine taken_at (i := 1) (v := .int .i64 r) (some 20) rfl rfl (by kernel_rfl) (by kernel_rfl) (by kernel_rfl) (fun _ _ _ h => h) (Or.inl ⟨rfl, fun _ _ => rfl⟩) hHeld ?_
  try simp only [Act.put, List.setIfInBounds_toArray, List.set_cons_zero, List.set_cons_succ]
  refine taken_at (i := 2) (v := .int .i64 b) (some 21) rfl rfl (by kernel_rfl) (by kernel_rfl) (by kernel_rfl) (fun _ _ _ h => h) (Or.inl ⟨rfl, fun _ _ => rfl⟩) hHeld ?_
  try simp only [Act.put, List.setIfInBounds_toArray, List.set_cons_zero, List.set_cons_succ]
  cases ok
  · refine wpAnyH_ready (rs := [3]) (by kernel_rfl) (by simp) ?_
    refine AllReadyH.cons rfl (fun K hK => ?_) AllReadyH.nil
    go_simp
    go_at_call 26
    refine (CR.out _).mono ?_
    rintro e w' ⟨rfl, rfl⟩
    refine hK.out _ _ hHeld (fun hHeld => ?_)
    clear hK K
    try simp only [Act.put, List.setIfInBounds_toArray, List.set_cons_zero, List.set_cons_succ]
    refine taken_at (i := 4) (v := .bool false) (some 23) rfl rfl (by kernel_rfl) (by kernel_rfl) (by kernel_rfl) (fun _ _ _ h => h) (Or.inl ⟨rfl, fun _ _ => rfl⟩) hHeld ?_
    try simp only [Act.put, List.setIfInBounds_toArray, List.set_cons_zero, List.set_cons_succ]
    refine taken_at (i := 5) (v := undef) (some 24) rfl rfl (by kernel_rfl) (by kernel_rfl) (by kernel_rfl) (fun _ _ _ h => h) (Or.inr ⟨rfl, rfl⟩) hHeld ?_
    try simp only [Act.put, List.setIfInBounds_toArray, List.set_cons_zero, List.set_cons_succ]
    refine taken_at (i := 6) (v := undef) (some 25) rfl rfl (by kernel_rfl) (by kernel_rfl) (by kernel_rfl) (fun _ _ _ h => h) (Or.inr ⟨rfl, rfl⟩) hHeld ?_
    try simp only [Act.put, List.setIfInBounds_toArray, List.set_cons_zero, List.set_cons_succ]
    refine taken_at (i := 7) (v := .bool false) (some 26) rfl rfl (by kernel_rfl) (by kernel_rfl) (by kernel_rfl) (fun _ _ _ h => h) (Or.inl ⟨rfl, fun w' hw => by go_simp⟩) hHeld ?_
    try simp only [Act.put, List.setIfInBounds_toArray, List.set_cons_zero, List.set_cons_succ]
    refine taken_at (i := 8) (v := .bool false) (some 27) rfl rfl (by kernel_rfl) (by kernel_rfl) (by kernel_rfl) (fun _ _ _ h => h) (Or.inl ⟨rfl, fun _ _ => rfl⟩) hHeld ?_
    try simp only [Act.put, List.setIfInBounds_toArray, List.set_cons_zero, List.set_cons_succ]
    refine taken_at (i := 9) (v := undef) (some 28) rfl rfl (by kernel_rfl) (by kernel_rfl) (by kernel_rfl) (fun _ _ _ h => h) (Or.inr ⟨rfl, rfl⟩) hHeld ?_
    try simp only [Act.put, List.setIfInBounds_toArray, List.set_cons_zero, List.set_cons_succ]
    refine taken_at (i := 10) (v := undef) (some 29) rfl rfl (by kernel_rfl) (by kernel_rfl) (by kernel_rfl) (fun _ _ _ h => h) (Or.inr ⟨rfl, rfl⟩) hHeld ?_
    try simp only [Act.put, List.setIfInBounds_toArray, List.set_cons_zero, List.set_cons_succ]
    refine taken_at (i := 11) (v := .bool false) (some 30) rfl rfl (by kernel_rfl) (by kernel_rfl) (by kernel_rfl) (fun _ _ _ h => h) (Or.inl ⟨rfl, fun w' hw => by go_simp⟩) hHeld ?_
    try simp only [Act.put, List.setIfInBounds_toArray, List.set_cons_zero, List.set_cons_succ]
    refine wpAnyH_ready (rs := [12]) (by kernel_rfl) (by simp) ?_
    refine AllReadyH.cons rfl (fun K hK => ?_) AllReadyH.nil
    refine step_store_lies rfl 40 (.tmp 8) (.tmp 19) rfl w.heap.size 0 rfl R rfl Z HZ2.out.drew SR.out IR.out OR.out ?_
    intro w5 N1 N2 N3
    refine hK.out _ _ (hHeld.apart N2.out (by have := HG1.out; omega)) (fun hHeld => ?_)
    clear hK K
    try simp only [Act.put]
    refine taken_at (i := 13) (v := .bool false) (some 9) rfl rfl (by kernel_rfl) (by kernel_rfl) (by kernel_rfl) (fun _ _ _ h => h) (Or.inl ⟨rfl, fun _ _ => rfl⟩) hHeld ?_
    try simp only [Act.put, List.setIfInBounds_toArray]
    refine wpAnyH_done (by kernel_rfl) ?_ _
    clear hHeld
    go_wp2
    refine bodyPost_ret (v := .tuple #[.agg R, .bool false]) (Mq.results_cell1 (p := 8) (u := 9) rfl _ w5 w.heap.size _ _ rfl rfl (Lies.loadVar N1.out 40 _ Tryz.underlying40 rfl IR.out)) rfl ?_
    exact ⟨by first | rfl | (simp [*] <;> omega), N2.out.bel HBW2.out.drew HBW2.out.size (Nat.le_refl _)⟩
  · by_cases h1 : 1 ≤ room
    · by_cases h2 : room ≤ 256
      · refine wpAnyH_ready (rs := [3]) (by kernel_rfl) (by simp) ?_
        refine AllReadyH.cons rfl (fun K hK => ?_) AllReadyH.nil
        go_simp
        go_at_call 26
        refine (CR.out _).mono ?_
        rintro e w' ⟨rfl, rfl⟩
        refine hK.out _ _ hHeld (fun hHeld => ?_)
        clear hK K
        try simp only [Act.put, List.setIfInBounds_toArray, List.set_cons_zero, List.set_cons_succ]
        refine taken_at (i := 4) (v := .bool true) (some 23) rfl rfl (by kernel_rfl) (by kernel_rfl) (by kernel_rfl) (fun _ _ _ h => h) (Or.inl ⟨rfl, fun _ _ => rfl⟩) hHeld ?_
        try simp only [Act.put, List.setIfInBounds_toArray, List.set_cons_zero, List.set_cons_succ]
        refine taken_at (i := 5) (v := .int .i64 room) (some 24) rfl rfl (by kernel_rfl) (by kernel_rfl) (by kernel_rfl) (fun _ _ _ h => h) (Or.inl ⟨rfl, fun _ _ => rfl⟩) hHeld ?_
        try simp only [Act.put, List.setIfInBounds_toArray, List.set_cons_zero, List.set_cons_succ]
        refine taken_at (i := 6) (v := .bool true) (some 25) rfl rfl (by kernel_rfl) (by kernel_rfl) (by kernel_rfl) (fun _ _ _ h => h) (Or.inl ⟨rfl, fun w' hw => by go_simp⟩) hHeld ?_
        try simp only [Act.put, List.setIfInBounds_toArray, List.set_cons_zero, List.set_cons_succ]
        refine taken_at (i := 7) (v := .bool true) (some 26) rfl rfl (by kernel_rfl) (by kernel_rfl) (by kernel_rfl) (fun _ _ _ h => h) (Or.inl ⟨rfl, fun w' hw => by go_simp⟩) hHeld ?_
        try simp only [Act.put, List.setIfInBounds_toArray, List.set_cons_zero, List.set_cons_succ]
        refine taken_at (i := 8) (v := .bool true) (some 27) rfl rfl (by kernel_rfl) (by kernel_rfl) (by kernel_rfl) (fun _ _ _ h => h) (Or.inl ⟨rfl, fun _ _ => rfl⟩) hHeld ?_
        try simp only [Act.put, List.setIfInBounds_toArray, List.set_cons_zero, List.set_cons_succ]
        refine taken_at (i := 9) (v := .int .i64 room) (some 28) rfl rfl (by kernel_rfl) (by kernel_rfl) (by kernel_rfl) (fun _ _ _ h => h) (Or.inl ⟨rfl, fun _ _ => rfl⟩) hHeld ?_
        try simp only [Act.put, List.setIfInBounds_toArray, List.set_cons_zero, List.set_cons_succ]
        refine taken_at (i := 10) (v := .bool true) (some 29) rfl rfl (by kernel_rfl) (by kernel_rfl) (by kernel_rfl) (fun _ _ _ h => h) (Or.inl ⟨rfl, fun w' hw => by go_simp⟩) hHeld ?_
        try simp only [Act.put, List.setIfInBounds_toArray, List.set_cons_zero, List.set_cons_succ]
        refine taken_at (i := 11) (v := .bool true) (some 30) rfl rfl (by kernel_rfl) (by kernel_rfl) (by kernel_rfl) (fun _ _ _ h => h) (Or.inl ⟨rfl, fun w' hw => by go_simp⟩) hHeld ?_
        try simp only [Act.put, List.setIfInBounds_toArray, List.set_cons_zero, List.set_cons_succ]
        refine wpAnyH_ready (rs := [12]) (by kernel_rfl) (by simp) ?_
        refine AllReadyH.cons rfl (fun K hK => ?_) AllReadyH.nil
        refine step_store_lies rfl 40 (.tmp 8) (.tmp 19) rfl w.heap.size 0 rfl R rfl Z HZ2.out.drew SR.out IR.out OR.out ?_
        intro w5 N1 N2 N3
        refine hK.out _ _ (hHeld.apart N2.out (by have := HG1.out; omega)) (fun hHeld => ?_)
        clear hK K
        try simp only [Act.put]
        refine taken_at (i := 13) (v := .bool true) (some 9) rfl rfl (by kernel_rfl) (by kernel_rfl) (by kernel_rfl) (fun _ _ _ h => h) (Or.inl ⟨rfl, fun _ _ => rfl⟩) hHeld ?_
        try simp only [Act.put, List.setIfInBounds_toArray]
        refine wpAnyH_done (by kernel_rfl) ?_ _
        clear hHeld
        go_wp2
        refine bodyPost_ret (v := .tuple #[.agg R, .bool true]) (Mq.results_cell1 (p := 8) (u := 9) rfl _ w5 w.heap.size _ _ rfl rfl (Lies.loadVar N1.out 40 _ Tryz.underlying40 rfl IR.out)) rfl ?_
        exact ⟨by first | rfl | (simp [*] <;> omega), N2.out.bel HBW2.out.drew HBW2.out.size (Nat.le_refl _)⟩
      · refine wpAnyH_ready (rs := [3]) (by kernel_rfl) (by simp) ?_
        refine AllReadyH.cons rfl (fun K hK => ?_) AllReadyH.nil
        go_simp
        go_at_call 26
        refine (CR.out _).mono ?_
        rintro e w' ⟨rfl, rfl⟩
        refine hK.out _ _ hHeld (fun hHeld => ?_)
        clear hK K
        try simp only [Act.put, List.setIfInBounds_toArray, List.set_cons_zero, List.set_cons_succ]
        refine taken_at (i := 4) (v := .bool true) (some 23) rfl rfl (by kernel_rfl) (by kernel_rfl) (by kernel_rfl) (fun _ _ _ h => h) (Or.inl ⟨rfl, fun _ _ => rfl⟩) hHeld ?_
        try simp only [Act.put, List.setIfInBounds_toArray, List.set_cons_zero, List.set_cons_succ]
        refine taken_at (i := 5) (v := .int .i64 room) (some 24) rfl rfl (by kernel_rfl) (by kernel_rfl) (by kernel_rfl) (fun _ _ _ h => h) (Or.inl ⟨rfl, fun _ _ => rfl⟩) hHeld ?_
        try simp only [Act.put, List.setIfInBounds_toArray, List.set_cons_zero, List.set_cons_succ]
        refine taken_at (i := 6) (v := .bool true) (some 25) rfl rfl (by kernel_rfl) (by kernel_rfl) (by kernel_rfl) (fun _ _ _ h => h) (Or.inl ⟨rfl, fun w' hw => by go_simp⟩) hHeld ?_
        try simp only [Act.put, List.setIfInBounds_toArray, List.set_cons_zero, List.set_cons_succ]
        refine taken_at (i := 7) (v := .bool true) (some 26) rfl rfl (by kernel_rfl) (by kernel_rfl) (by kernel_rfl) (fun _ _ _ h => h) (Or.inl ⟨rfl, fun w' hw => by go_simp⟩) hHeld ?_
        try simp only [Act.put, List.setIfInBounds_toArray, List.set_cons_zero, List.set_cons_succ]
        refine taken_at (i := 8) (v := .bool true) (some 27) rfl rfl (by kernel_rfl) (by kernel_rfl) (by kernel_rfl) (fun _ _ _ h => h) (Or.inl ⟨rfl, fun _ _ => rfl⟩) hHeld ?_
        try simp only [Act.put, List.setIfInBounds_toArray, List.set_cons_zero, List.set_cons_succ]
        refine taken_at (i := 9) (v := .int .i64 room) (some 28) rfl rfl (by kernel_rfl) (by kernel_rfl) (by kernel_rfl) (fun _ _ _ h => h) (Or.inl ⟨rfl, fun _ _ => rfl⟩) hHeld ?_
        try simp only [Act.put, List.setIfInBounds_toArray, List.set_cons_zero, List.set_cons_succ]
        refine taken_at (i := 10) (v := .bool false) (some 29) rfl rfl (by kernel_rfl) (by kernel_rfl) (by kernel_rfl) (fun _ _ _ h => h) (Or.inl ⟨rfl, fun w' hw => by go_simp⟩) hHeld ?_
        try simp only [Act.put, List.setIfInBounds_toArray, List.set_cons_zero, List.set_cons_succ]
        refine taken_at (i := 11) (v := .bool false) (some 30) rfl rfl (by kernel_rfl) (by kernel_rfl) (by kernel_rfl) (fun _ _ _ h => h) (Or.inl ⟨rfl, fun w' hw => by go_simp⟩) hHeld ?_
        try simp only [Act.put, List.setIfInBounds_toArray, List.set_cons_zero, List.set_cons_succ]
        refine wpAnyH_ready (rs := [12]) (by kernel_rfl) (by simp) ?_
        refine AllReadyH.cons rfl (fun K hK => ?_) AllReadyH.nil
        refine step_store_lies rfl 40 (.tmp 8) (.tmp 19) rfl w.heap.size 0 rfl R rfl Z HZ2.out.drew SR.out IR.out OR.out ?_
        intro w5 N1 N2 N3
        refine hK.out _ _ (hHeld.apart N2.out (by have := HG1.out; omega)) (fun hHeld => ?_)
        clear hK K
        try simp only [Act.put]
        refine taken_at (i := 13) (v := .bool false) (some 9) rfl rfl (by kernel_rfl) (by kernel_rfl) (by kernel_rfl) (fun _ _ _ h => h) (Or.inl ⟨rfl, fun _ _ => rfl⟩) hHeld ?_
        try simp only [Act.put, List.setIfInBounds_toArray]
        refine wpAnyH_done (by kernel_rfl) ?_ _
        clear hHeld
        go_wp2
        refine bodyPost_ret (v := .tuple #[.agg R, .bool false]) (Mq.results_cell1 (p := 8) (u := 9) rfl _ w5 w.heap.size _ _ rfl rfl (Lies.loadVar N1.out 40 _ Tryz.underlying40 rfl IR.out)) rfl ?_
        exact ⟨by first | rfl | (simp [*] <;> omega), N2.out.bel HBW2.out.drew HBW2.out.size (Nat.le_refl _)⟩
    · refine wpAnyH_ready (rs := [3]) (by kernel_rfl) (by simp) ?_
      refine AllReadyH.cons rfl (fun K hK => ?_) AllReadyH.nil
      go_simp
      go_at_call 26
      refine (CR.out _).mono ?_
      rintro e w' ⟨rfl, rfl⟩
      refine hK.out _ _ hHeld (fun hHeld => ?_)
      clear hK K
      try simp only [Act.put, List.setIfInBounds_toArray, List.set_cons_zero, List.set_cons_succ]
      refine taken_at (i := 4) (v := .bool true) (some 23) rfl rfl (by kernel_rfl) (by kernel_rfl) (by kernel_rfl) (fun _ _ _ h => h) (Or.inl ⟨rfl, fun _ _ => rfl⟩) hHeld ?_
      try simp only [Act.put, List.setIfInBounds_toArray, List.set_cons_zero, List.set_cons_succ]
      refine taken_at (i := 5) (v := .int .i64 room) (some 24) rfl rfl (by kernel_rfl) (by kernel_rfl) (by kernel_rfl) (fun _ _ _ h => h) (Or.inl ⟨rfl, fun _ _ => rfl⟩) hHeld ?_
      try simp only [Act.put, List.setIfInBounds_toArray, List.set_cons_zero, List.set_cons_succ]
      refine taken_at (i := 6) (v := .bool false) (some 25) rfl rfl (by kernel_rfl) (by kernel_rfl) (by kernel_rfl) (fun _ _ _ h => h) (Or.inl ⟨rfl, fun w' hw => by go_simp⟩) hHeld ?_
      try simp only [Act.put, List.setIfInBounds_toArray, List.set_cons_zero, List.set_cons_succ]
      refine taken_at (i := 7) (v := .bool false) (some 26) rfl rfl (by kernel_rfl) (by kernel_rfl) (by kernel_rfl) (fun _ _ _ h => h) (Or.inl ⟨rfl, fun w' hw => by go_simp⟩) hHeld ?_
      try simp only [Act.put, List.setIfInBounds_toArray, List.set_cons_zero, List.set_cons_succ]
      refine taken_at (i := 8) (v := .bool false) (some 27) rfl rfl (by kernel_rfl) (by kernel_rfl) (by kernel_rfl) (fun _ _ _ h => h) (Or.inl ⟨rfl, fun _ _ => rfl⟩) hHeld ?_
      try simp only [Act.put, List.setIfInBounds_toArray, List.set_cons_zero, List.set_cons_succ]
      refine taken_at (i := 9) (v := undef) (some 28) rfl rfl (by kernel_rfl) (by kernel_rfl) (by kernel_rfl) (fun _ _ _ h => h) (Or.inr ⟨rfl, rfl⟩) hHeld ?_
      try simp only [Act.put, List.setIfInBounds_toArray, List.set_cons_zero, List.set_cons_succ]
      refine taken_at (i := 10) (v := undef) (some 29) rfl rfl (by kernel_rfl) (by kernel_rfl) (by kernel_rfl) (fun _ _ _ h => h) (Or.inr ⟨rfl, rfl⟩) hHeld ?_
      try simp only [Act.put, List.setIfInBounds_toArray, List.set_cons_zero, List.set_cons_succ]
      refine taken_at (i := 11) (v := .bool false) (some 30) rfl rfl (by kernel_rfl) (by kernel_rfl) (by kernel_rfl) (fun _ _ _ h => h) (Or.inl ⟨rfl, fun w' hw => by go_simp⟩) hHeld ?_
      try simp only [Act.put, List.setIfInBounds_toArray, List.set_cons_zero, List.set_cons_succ]
      refine wpAnyH_ready (rs := [12]) (by kernel_rfl) (by simp) ?_
      refine AllReadyH.cons rfl (fun K hK => ?_) AllReadyH.nil
      refine step_store_lies rfl 40 (.tmp 8) (.tmp 19) rfl w.heap.size 0 rfl R rfl Z HZ2.out.drew SR.out IR.out OR.out ?_
      intro w5 N1 N2 N3
      refine hK.out _ _ (hHeld.apart N2.out (by have := HG1.out; omega)) (fun hHeld => ?_)
      clear hK K
      try simp only [Act.put]
      refine taken_at (i := 13) (v := .bool false) (some 9) rfl rfl (by kernel_rfl) (by kernel_rfl) (by kernel_rfl) (fun _ _ _ h => h) (Or.inl ⟨rfl, fun _ _ => rfl⟩) hHeld ?_
      try simp only [Act.put, List.setIfInBounds_toArray]
      refine wpAnyH_done (by kernel_rfl) ?_ _
      clear hHeld
      go_wp2
      refine bodyPost_ret (v := .tuple #[.agg R, .bool false]) (Mq.results_cell1 (p := 8) (u := 9) rfl _ w5 w.heap.size _ _ rfl rfl (Lies.loadVar N1.out 40 _ Tryz.underlying40 rfl IR.out)) rfl ?_
      exact ⟨by first | rfl | (simp [*] <;> omega), N2.out.bel HBW2.out.drew HBW2.out.size (Nat.le_refl _)⟩
end Go.Proofs.YtldhlknmabpanaaGreat.Mp
