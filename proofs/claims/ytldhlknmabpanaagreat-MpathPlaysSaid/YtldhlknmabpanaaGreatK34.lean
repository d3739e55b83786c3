/-
  Own text: Push, walked. (Written by gen_mpq.py.)
-/
import Derived.Test.YtldhlknmabpanaaGreatK22
namespace Go.Proofs.YtldhlknmabpanaaGreat.Mp
open Go.RowKit
variable [Ghost]

omit [Ghost] in
theorem gone_mem {q : Mq.Qn} {r : Int} {v : Dg} : ∀ x ∈ (q.push r v).l, x ∈ q.l ∨ x = ⟨r, (q.pushed : Int), v⟩ := by
  intro x hx
  unfold Mq.Qn.push at hx
  split at hx
  · exact q.ins_mem r v x hx
  · exact q.ins_mem r v x (List.dropLast_subset _ hx)
omit [Ghost] in
theorem own8_zero {w : World} {base n C : Nat} {A : Option Addr} {l : List Int} (h : Own8 w base (.slice A n C) n l) : A = none → n = 0 := by
  rcases h.2 with ⟨e, h0⟩ | ⟨g, cap, cur, e, h1, hg, h3, h4, h5⟩
  · simp only [Value.slice.injEq] at e
    exact fun _ => by omega
  · simp only [Value.slice.injEq] at e
    exact fun h => by rw [h] at e; cases e.1
/-- Its block is a new one. -/
def Newer (w : World) (da : Option Addr) : Prop := ∀ g, da.map Addr.block = some g → w.heap.size ≤ g
/-- Behind the queue's call. -/
theorem push_fin {w X w5 w7 : World} {S : Nat → Prop} {p kb qb : Nat} (c : Nat) {s : Sd} {A : Option Addr} {C : Nat} (r : Int) (v : Dg) (h : SBd X S p s kb qb A C) (hb : Below w.heap.size w X) (hS : ∀ k, S k → k < w.heap.size) (hv : Rg X v) (hg : ∀ g, v.da.map Addr.block = some g → w.heap.size ≤ g ∧ g < X.heap.size)
    (hq : Mq.QTo X qb A (s.q.push r v) w5) (h7 : Fr (fun k => k = c) w5 w7) (hc : w.heap.size ≤ c) (hcc : w5.heap.size ≤ c ∨ (c < X.heap.size ∧ ∀ g, v.da.map Addr.block = some g → g ≠ c)) : ∃ S' A' C', SBd w7 S' p { s with q := s.q.push r v } kb qb A' C' ∧ (∀ k, S' k → S k ∨ w.heap.size ≤ k) ∧ Fr S w w7 ∧ (Gd w7 v ∧ ∀ g, v.da.map Addr.block = some g → w.heap.size ≤ g) := by
  have hm := h.more (fun k => v.da.map Addr.block = some k) (fun k hk => (hg k hk).2)
  have hrd : Rg w5 v := by
    obtain ⟨_, _, _, _, hf⟩ := hq
    refine rg_keep hv (fun g hg' => hf.block g (hg g hg').2 ?_ ?_) hf.size
    · have := hS qb h.inS.2.2.1
      have := (hg g hg').1
      omega
    · intro e
      have := hS g (h.inS.2.2.2 g e.symm).1
      have := (hg g hg').1
      omega
  obtain ⟨S', A', C', h1, h2, h3⟩ := hm.queue hq (fun x hx => (gone_mem x hx).imp id (fun e => by
    subst e
    refine ⟨hrd.1, fun g hg' => ?_⟩
    have hl := (hg g hg').1
    have l1 := hS p h.inS.1
    have l2 := hS kb h.inS.2.1
    have l3 := hS qb h.inS.2.2.1
    exact ⟨.inr hg', by omega, by omega, by omega, fun e => (by have := hS g (h.inS.2.2.2 g e.symm).1; omega), (hg g hg').2⟩)) (fun x hx => (gone_mem x hx).imp id (fun e => by rw [e]; exact hrd.2))
  have hne : ∀ k, S' k → k ≠ c := fun k hk e => by
    subst e
    rcases hcc with hcc | hcc
    · have := h1.lt k hk
      omega
    · rcases h2 k hk with (h2 | h2) | h2
      · have := hS k h2
        omega
      · exact hcc.2 k h2 rfl
      · omega
  have h5s : X.heap.size ≤ w5.heap.size := by
    obtain ⟨_, _, _, _, hf⟩ := hq
    exact hf.size
  refine ⟨S', A', C', h1.keep (fun k hk => h7.block k (h1.lt k hk) (hne k hk)) h7.size, fun k hk => ?_, ?_, gd_keep hrd.2 (fun g hg' => h7.block g (Nat.lt_of_lt_of_le (hg g hg').2 h5s) (fun e => ?_)) h7.size, fun g hg' => (hg g hg').1⟩
  · rcases h2 k hk with (hk | hk) | hk
    · exact .inl hk
    · exact .inr (hg k hk).1
    · exact .inr (Nat.le_trans hb.size hk)
  · refine ((Fr.of_below hb).then_ h3 (fun k hk => ?_)).then_ h7 (fun k hk => .inr (by rw [hk]; exact hc))
    rcases hk with hk | hk
    · exact .inl hk
    · exact .inr (hg k hk).1
  · rcases hcc with hcc | hcc
    · have := (hg g hg').2
      omega
    · exact hcc.2 g hg' e
omit [Ghost] in
theorem formP_size {d : Dg} {l : List Int} (h : formP d l) (hl : l.length = d.dl) (hy : ∀ i, i < d.dl → 0 ≤ l.getD i 0) : d.dl ≤ 1200 := by
  have hk : ∀ n, (∀ i, i < n → l.getD i 0 < 32 ∧ (0 < i → l.getD (i - 1) 0 < l.getD i 0)) → n ≤ d.dl → ∀ i, i < n → (i : Int) ≤ l.getD i 0 := by
    intro n hn hle i
    induction i with
    | zero => intro hi; exact hy 0 (by omega)
    | succ i ih =>
      intro hi
      have h1 := ih (by omega)
      have h2 := (hn (i + 1) hi).2 (by omega)
      rw [Nat.add_sub_cancel] at h2
      omega
  unfold formP at h
  rcases h with ⟨_, h, _⟩ | ⟨_, h, _⟩ | ⟨_, _, _, h⟩ | ⟨_, _, h⟩ | ⟨_, _, _, h⟩ | ⟨_, _, _, _, h⟩ | ⟨_, _, h⟩
  · unfold codedB at h; rw [decide_eq_true_iff] at h; omega
  · unfold codedB at h; rw [decide_eq_true_iff] at h; omega
  · rw [decide_eq_true_iff] at h
    have h2 : ∀ i, i < d.dl → l.getD i 0 < 32 ∧ (0 < i → l.getD (i - 1) 0 < l.getD i 0) := h.2
    have h3 := hk d.dl h2 (Nat.le_refl _) (d.dl - 1) (by omega)
    have h4 := (h2 (d.dl - 1) (by omega)).1
    omega
  all_goals omega
omit [Ghost] in
theorem chk_size {d : Dg} {l : List Int} {w : World} (h : chk d l = 0) (hb : Bytes w d.da d.dl l) : d.dl ≤ 1200 := formP_size (chk_ok h).2.2.2.2 hb.size (fun i hi => (hb.byte i hi).1)
set_option maxRecDepth 100000 in
set_option maxHeartbeats 2000000 in
theorem push_sb {w : World} {S : Nat → Prop} {p k : Nat} {s : Sd} (r : Int) (d : Dg) (l : List Int) (h : SB w S p s) (hf : s.fit k) (hk : k ≤ 1000000) (hl : Bytes w d.da d.dl l) (hle : d.dl ≤ d.dc) (hnil : d.da = none → d.dc = 0) (hc : chk (s.own d d.da d.dc) l = 0) (hG : ∀ A3 : Option Addr, (∀ g, A3.map Addr.block = some g → w.heap.size ≤ g) → (A3 = none → d.dl = 0) → Ghost.g A3 d.dl l) :
    Calls Tryz.prog 7 #[.pointer (some ⟨p, 0, none⟩), .int .i64 r, d.val] w fun e w' => e = .returned (.int .i64 0) ∧ Hid (∃ da dc, After SB w S p (s.push r (s.own d da dc)) w' ∧ Gd w' (s.own d da dc) ∧ Newer w da) := by
  obtain ⟨kb, qb, A, C, h⟩ := h
  have hsz : d.dl ≤ 1200 := chk_size (d := s.own d d.da d.dc) (w := w) hc hl
  obtain ⟨D, hD⟩ : ∃ D, D = s.own d d.da d.dc := ⟨_, rfl⟩
  obtain ⟨W0, hW0⟩ : ∃ W0, W0 = w.alloc (.cells (Mq.dcells d) 50) := ⟨_, rfl⟩
  have hb0 : Below w.heap.size w W0 := by rw [hW0]; exact (Below.refl _ _).alloc (Nat.le_refl _) _
  have hd0 : Lies W0 w.heap.size 0 (Mq.dcells d) := by rw [hW0]; exact Lies.new w (Mq.dcells d) _ (Below.refl _ _)
  have hpl := h.lt p h.inS.1
  have h0 : SBd W0 S p s kb qb A C := h.keep (fun k hk => hb0.block k (h.lt k hk)) hb0.size
  have c30 := h0.blk.ses
  have e1 := hd0.cell 1 (by decide : 1 < 11)
  have f1 := hd0.frozen 1
  have e3 := hd0.cell 3 (by decide : 3 < 11)
  have f3 := hd0.frozen 3
  -- behind the session and the path
  obtain ⟨W1, hW1⟩ : ∃ W1, W1 = (W0.setCell ⟨w.heap.size, 1, none⟩ (.int .u32 (s.ses : Int))).setCell ⟨w.heap.size, 3, none⟩ (.int .i64 0) := ⟨_, rfl⟩
  have hd1 : Lies W1 w.heap.size 0 (Mq.dcells D) := by rw [hW1, hD]; exact (hd0.set 1 _).set 3 _
  have hb1 : Below w.heap.size w W1 := by rw [hW1]; exact (hb0.setCell (p := ⟨w.heap.size, 1, none⟩) (Nat.le_refl _) _).setCell (p := ⟨w.heap.size, 3, none⟩) (Nat.le_refl _) _
  have HC : Hid (∀ w', Below w.heap.size w w' → Calls Tryz.prog 15 #[D.val] w' fun e w'' => e = .returned (.int .i64 0) ∧ Below w'.heap.size w' w'') := Lib.hid (fun w' hb => by
    have := check_any (s.own d d.da d.dc) l w' (hl.below hb (Nat.le_refl _))
    rw [hD]
    rwa [hc] at this)
  have HAPw : Hid (∀ Y, Below w.heap.size w Y → Calls Tryz.prog 17 #[D.val] Y fun e w3 => ∃ A3 C3, e = .returned (s.own d A3 C3).val ∧ Hid (Rg w3 (s.own d A3 C3) ∧ ∀ g, A3.map Addr.block = some g → Y.heap.size ≤ g ∧ g < w3.heap.size) ∧ Hid (Below Y.heap.size Y w3)) := Lib.hid (fun Y hb => by
    rw [hD]
    refine (apart_any (s.own d d.da d.dc) l Y (hl.below hb (Nat.le_refl _)) hle hnil (Nat.le_trans hsz (by decide))).mono ?_
    rintro e w3 ⟨A3, C3, rfl, HO, HB⟩
    have hby : Bytes w3 A3 d.dl l := HO.out.bytes hl.range
    exact ⟨A3, C3, rfl, Lib.hid ⟨⟨⟨⟨hsz, own8_nil HO.out⟩, l, hby, hc⟩, l, hby, hG A3 (fun g hg => Nat.le_trans hb.size (own8_block HO.out g hg).1) (own8_zero HO.out)⟩, own8_block HO.out⟩, HB⟩)
  have HW0 := Lib.hid hW0
  have HW1 := Lib.hid hW1
  have HD1 := Lib.hid hd1
  have HB1 := Lib.hid hb1
  have HS1 : Hid (w.heap.size < W1.heap.size) := Lib.hid hd1.lt
  have HH := Lib.hid h
  have HFT := Lib.hid hf
  have HK := Lib.hid hk
  clear hsz hf hk hd0 h0 hb0 hb1 hd1 hW0 hW1 hc hl hle hnil h hD
  go_enter Tryz.func7, Tryz.ntmps7
  go_upto_region 1 with fail
  rw [← HW0.out]
  go_upto_region 2 with fail
  rw [← HW1.out]
  clear c30 e1 e3 f1 f3
  go_upto_region 5 with (first
    | (with_reducible refine wpList_load_lies rfl 50 (.tmp 5) rfl w.heap.size 0 rfl (Mq.dcells D) HD1.out _ Tryz.underlying50 rfl (Mq.infoC _) ?_)
    | (go_at_call 15; (with_reducible refine (HC.out _ HB1.out).mono ?_); rintro e W4 ⟨rfl, hb2⟩; have HB2 := Lib.hid hb2; clear hb2)
    | fail)
  have HD4 : Hid (Lies W4 w.heap.size 0 (Mq.dcells D)) := Lib.hid (HD1.out.below HB2.out HS1.out)
  have HB4 : Hid (Below w.heap.size w W4) := Lib.hid (HB1.out.trans (HB2.out.mono HB1.out.size))
  have HSB4 : Hid (SBd W4 S p s kb qb A C) := Lib.hid (HH.out.keep (fun k hk => HB4.out.block k (HH.out.lt k hk)) HB4.out.size)
  have HDI : Hid ((Tryz.prog.info? 50).map (·.size) = some (Mq.dcells D).size) := Lib.hid (Mq.infoC _)
  have c33 := HSB4.out.blk.q
  have HAP : Hid (∀ Y, Below W4.heap.size W4 Y → Calls Tryz.prog 17 #[D.val] Y fun e w3 => ∃ A3 C3, e = .returned (s.own d A3 C3).val ∧ Hid (Rg w3 (s.own d A3 C3) ∧ ∀ g, A3.map Addr.block = some g → Y.heap.size ≤ g ∧ g < w3.heap.size) ∧ Hid (Below Y.heap.size Y w3)) := Lib.hid (fun Y hb => HAPw.out Y (HB4.out.trans (hb.mono HB4.out.size)))
  have HST : Hid (∀ w6 w7 : World, (w6.cell? ⟨p, 32, none⟩ = some (.pointer (some ⟨qb, 0, none⟩)) ∧ Lies w6 w.heap.size 0 (Mq.dcells D)) → Below w6.heap.size w6 w7 → w7.cell? ⟨p, 32, none⟩ = some (.pointer (some ⟨qb, 0, none⟩)) ∧ Lies w7 w.heap.size 0 (Mq.dcells D)) := Lib.hid (fun w6 w7 hs hb => ⟨(hb.cell (p := ⟨p, 32, none⟩) (World.block_lt_of_cell? w6 _ hs.1)).trans hs.1, hs.2.below hb hs.2.lt⟩)
  have CP : Hid (∀ (A3 : Option Addr) (C3 : Nat) (w' : World), Below W4.heap.size W4 w' → Calls Tryz.prog 16 #[.pointer (some ⟨qb, 0, none⟩), .int .i64 r, (s.own d A3 C3).val] w' fun e w'' => e = .returned (.tuple #[(s.q.gone r (s.own d A3 C3)).val, .bool (decide (s.q.room ≤ s.q.l.length))]) ∧ Hid (Mq.QTo w' qb A (s.q.push r (s.own d A3 C3)) w'')) := Lib.hid (fun A3 C3 w' hb => Mq.push_any r (s.own d A3 C3) qb k s.q A C HFT.out.q HK.out w' (HSB4.out.qblk.below hb (Nat.le_refl _)))
  have HSH : Hid (∀ (A3 : Option Addr) (C3 : Nat) (w' w5 : World), Below W4.heap.size W4 w' → Mq.QTo w' qb A (s.q.push r (s.own d A3 C3)) w5 → w5.cell? ⟨p, 32, none⟩ = some (.pointer (some ⟨qb, 0, none⟩)) ∧ Lies w5 w.heap.size 0 (Mq.dcells D)) := Lib.hid (fun A3 C3 w' w5 hb hq => by
    obtain ⟨_, _, _, _, hf⟩ := hq
    have hs := HSB4.out.keep (fun k hk => hb.block k (HSB4.out.lt k hk)) hb.size
    have hd := HD4.out.below hb HD4.out.lt
    have l3 := HH.out.lt qb HH.out.inS.2.2.1
    refine ⟨(World.cell?_of_block (w := w') (a := ⟨p, 32, none⟩) (hf.block p (hs.lt p hs.inS.1) hs.ne.2.1 (fun e => (hs.inS.2.2.2 p e.symm).2.1 rfl))).trans hs.blk.q, hd.keep (hf.block _ hd.lt (by omega) (fun e => by have := HH.out.lt _ (HH.out.inS.2.2.2 _ e.symm).1; omega))⟩)
  refine wp_region_held_drew (S := fun w' => w'.cell? ⟨p, 32, none⟩ = some (.pointer (some ⟨qb, 0, none⟩)) ∧ Lies w' w.heap.size 0 (Mq.dcells D)) (by kernel_rfl) ⟨c33, HD4.out.drew⟩ (fun hHeld => ?_)
  refine taken_at (i := 0) (v := .pointer (some ⟨p, 0, none⟩)) (some 22) rfl rfl (by kernel_rfl) (by kernel_rfl) (by kernel_rfl) (fun _ _ _ h => h) (Or.inl ⟨rfl, fun _ _ => rfl⟩) hHeld ?_
  try simp only [Act.put, List.setIfInBounds_toArray, List.set_cons_zero, List.set_cons_succ]
  refine taken_at (i := 1) (v := .pointer (some ⟨p, 0, none⟩)) (some 23) rfl rfl (by kernel_rfl) (by kernel_rfl) (by kernel_rfl) (fun _ _ _ h => h) (Or.inl ⟨rfl, fun _ _ => rfl⟩) hHeld ?_
  try simp only [Act.put, List.setIfInBounds_toArray, List.set_cons_zero, List.set_cons_succ]
  refine taken_at (i := 2) (v := .pointer (some ⟨p, 32, none⟩)) (some 24) rfl rfl (by kernel_rfl) (by kernel_rfl) (by kernel_rfl) (fun _ _ _ h => h) (Or.inl ⟨rfl, fun w' hw => by have k0 := hw.1; go_simp⟩) hHeld ?_
  try simp only [Act.put, List.setIfInBounds_toArray, List.set_cons_zero, List.set_cons_succ]
  refine taken_at (i := 3) (v := .pointer (some ⟨qb, 0, none⟩)) (some 25) rfl rfl (by kernel_rfl) (by kernel_rfl) (by kernel_rfl) (fun _ _ _ h => h) (Or.inl ⟨rfl, fun w' hw => by have k0 := hw.1; go_simp⟩) hHeld ?_
  try simp only [Act.put, List.setIfInBounds_toArray, List.set_cons_zero, List.set_cons_succ]
  refine taken_at (i := 4) (v := .int .i64 r) (some 26) rfl rfl (by kernel_rfl) (by kernel_rfl) (by kernel_rfl) (fun _ _ _ h => h) (Or.inl ⟨rfl, fun _ _ => rfl⟩) hHeld ?_
  try simp only [Act.put, List.setIfInBounds_toArray, List.set_cons_zero, List.set_cons_succ]
  refine taken_at (i := 5) (v := D.val) (some 27) rfl rfl (by kernel_rfl) (by kernel_rfl) (by kernel_rfl) (fun _ _ _ h => h) (yields_loadAt 50 (.tmp 5) (.pointer (some ⟨w.heap.size, 0, none⟩)) rfl rfl rfl (fun w' hw => hw.2.loadAt 50 _ Tryz.underlying50 rfl HDI.out)) hHeld ?_
  try simp only [Act.put, List.setIfInBounds_toArray, List.set_cons_zero, List.set_cons_succ]
  refine wpAnyH_ready (rs := [6, 11]) (by kernel_rfl) (by simp) ?_
  refine AllReadyH.cons rfl (fun K hK => ?_) (AllReadyH.cons rfl (fun K hK => ?_) AllReadyH.nil)
  · go_simp
    go_at_call 17
    refine (HAP.out W4.drew (Below.refl W4.heap.size W4).drew).mono ?_
    rintro e w3 ⟨A3, C3, rfl, HR3, HB3⟩
    have HB43 : Hid (Below W4.heap.size W4 w3) := Lib.hid (((Below.refl W4.heap.size W4).drew).trans (HB3.out.mono ((Below.refl W4.heap.size W4).drew).size))
    have HS3 := Lib.hid (HST.out W4.drew w3 ⟨c33, HD4.out⟩ HB3.out)
    go_wp2_with fail
    refine hK.out _ _ HS3.out (fun hHeld => ?_)
    clear hK K
    try simp only [Act.put, List.setIfInBounds_toArray, List.set_cons_zero, List.set_cons_succ]
    refine wpAnyH_ready (rs := [7, 11]) (by kernel_rfl) (by simp) ?_
    refine AllReadyH.cons rfl (fun K hK => ?_) (AllReadyH.cons rfl (fun K hK => ?_) AllReadyH.nil)
    · go_simp
      go_at_call 16
      refine (CP.out A3 C3 w3 HB43.out).mono ?_
      rintro e w5 ⟨rfl, HQ5⟩
      have HS5 := Lib.hid (HSH.out A3 C3 w3 w5 HB43.out HQ5.out)
      go_wp2_with fail
      refine hK.out _ _ HS5.out (fun hHeld => ?_)
      clear hK K
      try simp only [Act.put, List.setIfInBounds_toArray, List.set_cons_zero, List.set_cons_succ]
      refine taken_at (i := 8) (v := .tuple #[(s.q.gone r (s.own d A3 C3)).val, .bool (decide (s.q.room ≤ s.q.l.length))]) (some 21) rfl rfl (by kernel_rfl) (by kernel_rfl) (by kernel_rfl) (fun _ _ _ h => h) (Or.inl ⟨rfl, fun _ _ => rfl⟩) hHeld ?_
      try simp only [Act.put, List.setIfInBounds_toArray, List.set_cons_zero, List.set_cons_succ]
      refine taken_at (i := 9) (v := (s.q.gone r (s.own d A3 C3)).val) (some 30) rfl rfl (by kernel_rfl) (by kernel_rfl) (by kernel_rfl) (fun _ _ _ h => h) (Or.inl ⟨rfl, fun _ _ => rfl⟩) hHeld ?_
      try simp only [Act.put, List.setIfInBounds_toArray, List.set_cons_zero, List.set_cons_succ]
      refine taken_at (i := 10) (v := .bool (decide (s.q.room ≤ s.q.l.length))) (some 31) rfl rfl (by kernel_rfl) (by kernel_rfl) (by kernel_rfl) (fun _ _ _ h => h) (Or.inl ⟨rfl, fun _ _ => rfl⟩) hHeld ?_
      try simp only [Act.put, List.setIfInBounds_toArray, List.set_cons_zero, List.set_cons_succ]
      refine wpAnyH_ready (rs := [11]) (by kernel_rfl) (by simp) ?_
      refine AllReadyH.cons rfl (fun K hK => ?_) AllReadyH.nil
      go_simp
      refine hK.out _ _ (HST.out w5 _ HS5.out ((Below.refl _ _).alloc (Nat.le_refl _) _)) (fun hHeld => ?_)
      clear hK K
      try simp only [Act.put, List.setIfInBounds_toArray, List.set_cons_zero, List.set_cons_succ]
      refine wpAnyH_ready (rs := [12]) (by kernel_rfl) (by simp) ?_
      refine AllReadyH.cons rfl (fun K hK => ?_) AllReadyH.nil
      refine step_store_lies rfl 50 (.tmp 8) (.tmp 30) rfl w5.heap.size 0 rfl (Mq.dcells (s.q.gone r (s.own d A3 C3))) rfl (Mq.dcells Mq.nil) (Lies.new w5 (Mq.dcells Mq.nil) _ (Below.refl _ _)) rfl (Mq.infoC _) (Mq.dcells_one _) ?_
      intro w6 N1 N2 N3
      refine hK.out _ _ (HST.out w5 w6 HS5.out (N2.out.bel ((Below.refl _ _).alloc (Nat.le_refl _) _) (by simp) (Nat.le_refl _))) (fun hHeld => ?_)
      clear hK K
      try simp only [Act.put]
      refine taken_at (i := 13) (v := .bool (decide (s.q.room ≤ s.q.l.length))) (some 9) rfl rfl (by kernel_rfl) (by kernel_rfl) (by kernel_rfl) (fun _ _ _ h => h) (Or.inl ⟨rfl, fun _ _ => rfl⟩) hHeld ?_
      try simp only [Act.put, List.setIfInBounds_toArray]
      refine wpAnyH_done (by kernel_rfl) ?_ _
      clear hHeld
      have HB6 : Hid (Below w5.heap.size w5 w6) := Lib.hid (N2.out.bel ((Below.refl _ _).alloc (Nat.le_refl _) _) (by simp) (Nat.le_refl _))
      have HSZ5 : w.heap.size ≤ w5.heap.size := by obtain ⟨_, _, _, _, hf⟩ := HQ5.out; exact Nat.le_trans HB4.out.size (Nat.le_trans HB43.out.size hf.size)
      have HX := Lib.hid (push_fin w5.heap.size r (s.own d A3 C3) (w7 := w6) (HSB4.out.keep (w' := w3) (fun k hk => (HB43.out).block k (HSB4.out.lt k hk)) (HB43.out).size) (HB4.out.trans ((HB43.out).mono HB4.out.size)) HH.out.lt (HR3.out.1) (fun g hg => ⟨Nat.le_trans HB4.out.size (HR3.out.2 g hg).1, (HR3.out.2 g hg).2⟩) HQ5.out (⟨HB6.out.os, HB6.out.tape, HB6.out.output, HB6.out.size, fun k hk _ => HB6.out.block k hk⟩) (HSZ5) (.inl (Nat.le_refl _)))
      obtain ⟨S', A', C', h1, h2, h3, h4⟩ := HX.out
      have HX2 := Lib.hid (And.intro h1 (And.intro h2 h3))
      have HX4 := Lib.hid h4
      have c34 := h1.blk.dr
      have f34 := Lies.frozen h1.blk.tl 34
      have hdr : (s.dr : Int) ≤ 1000000 := by have := HFT.out.dr; have := HK.out; omega
      clear h1 h2 h3 h4
      by_cases hroom : s.q.l.length < s.q.room
      · rw [show decide (s.q.room ≤ s.q.l.length) = false from decide_eq_false (by omega)]
        go_wp2
        go_ret
        refine ⟨rfl, Lib.hid ⟨A3, C3, ⟨⟨S', ⟨kb, qb, A', C', ?_⟩, HX2.out.2.1⟩, HX2.out.2.2⟩, HX4.out.1, HX4.out.2⟩⟩
        have e : s.push r (s.own d A3 C3) = { s with q := s.q.push r (s.own d A3 C3) } := by unfold Sd.push; rw [if_pos hroom]
        rw [e]
        exact HX2.out.1
      · rw [show decide (s.q.room ≤ s.q.l.length) = true from decide_eq_true (by omega)]
        have HR := Lib.hid hroom
        clear hroom
        go_wp2
        go_ret
        have ht := HX2.out.1.tail (s' := { s with q := s.q.push r (s.own d A3 C3), dr := s.dr + 1 }) 4 (by decide) (.int .i64 ((s.dr : Int) + 1)) rfl rfl rfl rfl
        refine ⟨rfl, Lib.hid ⟨A3, C3, ⟨⟨S', ⟨kb, qb, A', C', ?_⟩, HX2.out.2.1⟩, HX2.out.2.2.then_ ht.2 HX2.out.2.1⟩, gd_keep HX4.out.1 (fun g hg => Below.heap_setCell _ _ _ g (fun e => by have h8 := HX4.out.2 g hg; have h9 := HH.out.lt p HH.out.inS.1; have h10 : g = p := e; omega)) (by simp), HX4.out.2⟩⟩
        have e : s.push r (s.own d A3 C3) = { s with q := s.q.push r (s.own d A3 C3), dr := s.dr + 1 } := by unfold Sd.push; rw [if_neg HR.out]
        rw [e]
        exact ht.1
    · obtain ⟨X, hX⟩ : ∃ X, X = w3.alloc (.cells (Mq.dcells Mq.nil) 50) := ⟨_, rfl⟩
      have HX3 : Hid (Below w3.heap.size w3 X) := Lib.hid (by rw [hX]; exact ((Below.refl _ _).alloc (Nat.le_refl _) _))
      have HBX : Hid (Below W4.heap.size W4 X) := Lib.hid (HB43.out.trans (HX3.out.mono HB43.out.size))
      have HLX : Hid (Lies X w3.heap.size 0 (Mq.dcells Mq.nil)) := Lib.hid (by rw [hX]; exact Lies.new w3 (Mq.dcells Mq.nil) _ (Below.refl _ _))
      have HSX : Hid (w3.heap.size < X.heap.size) := Lib.hid HLX.out.lt
      have HXE := Lib.hid hX
      have HSS := Lib.hid (HST.out w3 (w3.alloc (.cells (Mq.dcells Mq.nil) 50)) HS3.out ((Below.refl _ _).alloc (Nat.le_refl _) _))
      have HB43c : Hid (W4.heap.size ≤ w3.heap.size ∧ w3.heap.size < X.heap.size) := Lib.hid ⟨HB43.out.size, HSX.out⟩
      clear hX
      have HN5 : Hid (∀ w5, Mq.QTo X qb A (s.q.push r (s.own d A3 C3)) w5 → Lies w5 w3.heap.size 0 (Mq.dcells Mq.nil) ∧ p < w5.heap.size) := Lib.hid (fun w5 hq => by
        obtain ⟨_, _, _, _, hf⟩ := hq
        have l0 := HB43c.out
        have l1 := HSB4.out.lt p HSB4.out.inS.1
        have l3 := HSB4.out.lt qb HSB4.out.inS.2.2.1
        have l4 := hf.size
        refine ⟨Lies.keep (HLX.out) (hf.block _ (Lies.lt (HLX.out)) (by omega) (fun e => by have := HSB4.out.lt _ (HSB4.out.inS.2.2.2 _ e.symm).1; omega)), ?_⟩
        omega)
      go_simp
      refine hK.out _ _ HSS.out (fun hHeld => ?_)
      clear hK K
      try simp only [Act.put, List.setIfInBounds_toArray, List.set_cons_zero, List.set_cons_succ]
      refine wpAnyH_ready (rs := [7]) (by kernel_rfl) (by simp) ?_
      refine AllReadyH.cons rfl (fun K hK => ?_) AllReadyH.nil
      go_simp
      rw [← HXE.out]
      go_at_call 16
      refine (CP.out A3 C3 X HBX.out).mono ?_
      rintro e w5 ⟨rfl, HQ5⟩
      have HS5 := Lib.hid (HSH.out A3 C3 X w5 HBX.out HQ5.out)
      go_wp2_with fail
      refine hK.out _ _ HS5.out (fun hHeld => ?_)
      clear hK K
      try simp only [Act.put, List.setIfInBounds_toArray, List.set_cons_zero, List.set_cons_succ]
      refine taken_at (i := 8) (v := .tuple #[(s.q.gone r (s.own d A3 C3)).val, .bool (decide (s.q.room ≤ s.q.l.length))]) (some 21) rfl rfl (by kernel_rfl) (by kernel_rfl) (by kernel_rfl) (fun _ _ _ h => h) (Or.inl ⟨rfl, fun _ _ => rfl⟩) hHeld ?_
      try simp only [Act.put, List.setIfInBounds_toArray, List.set_cons_zero, List.set_cons_succ]
      refine taken_at (i := 9) (v := (s.q.gone r (s.own d A3 C3)).val) (some 30) rfl rfl (by kernel_rfl) (by kernel_rfl) (by kernel_rfl) (fun _ _ _ h => h) (Or.inl ⟨rfl, fun _ _ => rfl⟩) hHeld ?_
      try simp only [Act.put, List.setIfInBounds_toArray, List.set_cons_zero, List.set_cons_succ]
      refine taken_at (i := 10) (v := .bool (decide (s.q.room ≤ s.q.l.length))) (some 31) rfl rfl (by kernel_rfl) (by kernel_rfl) (by kernel_rfl) (fun _ _ _ h => h) (Or.inl ⟨rfl, fun _ _ => rfl⟩) hHeld ?_
      try simp only [Act.put, List.setIfInBounds_toArray, List.set_cons_zero, List.set_cons_succ]
      refine wpAnyH_ready (rs := [12]) (by kernel_rfl) (by simp) ?_
      refine AllReadyH.cons rfl (fun K hK => ?_) AllReadyH.nil
      refine step_store_lies rfl 50 (.tmp 8) (.tmp 30) rfl w3.heap.size 0 rfl (Mq.dcells (s.q.gone r (s.own d A3 C3))) rfl (Mq.dcells Mq.nil) ((HN5.out w5 HQ5.out).1) rfl (Mq.infoC _) (Mq.dcells_one _) ?_
      intro w6 N1 N2 N3
      refine hK.out _ _ (⟨(World.cell?_of_block (w := w5) (a := ⟨p, 32, none⟩) (N2.out.block p (HN5.out w5 HQ5.out).2 (by have := HSB4.out.lt p HSB4.out.inS.1; have := HB43c.out; omega))).trans HS5.out.1, HS5.out.2.apart N2.out (by have := HD4.out.lt; have := HB43c.out; omega)⟩) (fun hHeld => ?_)
      clear hK K
      try simp only [Act.put]
      refine taken_at (i := 13) (v := .bool (decide (s.q.room ≤ s.q.l.length))) (some 9) rfl rfl (by kernel_rfl) (by kernel_rfl) (by kernel_rfl) (fun _ _ _ h => h) (Or.inl ⟨rfl, fun _ _ => rfl⟩) hHeld ?_
      try simp only [Act.put, List.setIfInBounds_toArray]
      refine wpAnyH_done (by kernel_rfl) ?_ _
      clear hHeld
      have HX := Lib.hid (push_fin w3.heap.size r (s.own d A3 C3) (w7 := w6) (HSB4.out.keep (w' := X) (fun k hk => (HBX.out).block k (HSB4.out.lt k hk)) (HBX.out).size) (HB4.out.trans ((HBX.out).mono HB4.out.size)) HH.out.lt (rg_keep (w := w3) HR3.out.1 (fun g hg => HX3.out.block g (HR3.out.2 g hg).2) HX3.out.size) (fun g hg => ⟨Nat.le_trans HB4.out.size (HR3.out.2 g hg).1, Nat.lt_of_lt_of_le (HR3.out.2 g hg).2 HX3.out.size⟩) HQ5.out (⟨N2.out.os, N2.out.tape, N2.out.output, N2.out.size, fun k hk hne => N2.out.block k hk hne⟩) (Nat.le_trans HB4.out.size HB43.out.size) (.inr ⟨HSX.out, fun g hg e => by have := (HR3.out.2 g hg).2; omega⟩))
      obtain ⟨S', A', C', h1, h2, h3, h4⟩ := HX.out
      have HX2 := Lib.hid (And.intro h1 (And.intro h2 h3))
      have HX4 := Lib.hid h4
      have c34 := h1.blk.dr
      have f34 := Lies.frozen h1.blk.tl 34
      have hdr : (s.dr : Int) ≤ 1000000 := by have := HFT.out.dr; have := HK.out; omega
      clear h1 h2 h3 h4
      by_cases hroom : s.q.l.length < s.q.room
      · rw [show decide (s.q.room ≤ s.q.l.length) = false from decide_eq_false (by omega)]
        go_wp2
        go_ret
        refine ⟨rfl, Lib.hid ⟨A3, C3, ⟨⟨S', ⟨kb, qb, A', C', ?_⟩, HX2.out.2.1⟩, HX2.out.2.2⟩, HX4.out.1, HX4.out.2⟩⟩
        have e : s.push r (s.own d A3 C3) = { s with q := s.q.push r (s.own d A3 C3) } := by unfold Sd.push; rw [if_pos hroom]
        rw [e]
        exact HX2.out.1
      · rw [show decide (s.q.room ≤ s.q.l.length) = true from decide_eq_true (by omega)]
        have HR := Lib.hid hroom
        clear hroom
        go_wp2
        go_ret
        have ht := HX2.out.1.tail (s' := { s with q := s.q.push r (s.own d A3 C3), dr := s.dr + 1 }) 4 (by decide) (.int .i64 ((s.dr : Int) + 1)) rfl rfl rfl rfl
        refine ⟨rfl, Lib.hid ⟨A3, C3, ⟨⟨S', ⟨kb, qb, A', C', ?_⟩, HX2.out.2.1⟩, HX2.out.2.2.then_ ht.2 HX2.out.2.1⟩, gd_keep HX4.out.1 (fun g hg => Below.heap_setCell _ _ _ g (fun e => by have h8 := HX4.out.2 g hg; have h9 := HH.out.lt p HH.out.inS.1; have h10 : g = p := e; omega)) (by simp), HX4.out.2⟩⟩
        have e : s.push r (s.own d A3 C3) = { s with q := s.q.push r (s.own d A3 C3), dr := s.dr + 1 } := by unfold Sd.push; rw [if_neg HR.out]
        rw [e]
        exact ht.1
  · obtain ⟨X, hX⟩ : ∃ X, X = (W4.alloc (.cells (Mq.dcells Mq.nil) 50)).drew := ⟨_, rfl⟩
    have HBX : Hid (Below W4.heap.size W4 X) := Lib.hid (by rw [hX]; exact ((Below.refl _ _).alloc (Nat.le_refl _) _).drew)
    have HLX : Hid (Lies X W4.heap.size 0 (Mq.dcells Mq.nil)) := Lib.hid (by rw [hX]; exact Lies.new W4 (Mq.dcells Mq.nil) _ (Below.refl _ _).drew)
    have HXS : Hid (W4.heap.size < X.heap.size) := Lib.hid HLX.out.lt
    have HXE := Lib.hid hX
    have HSS := Lib.hid (HST.out W4 (W4.drew.alloc (.cells (Mq.dcells Mq.nil) 50)) ⟨c33, HD4.out⟩ ((Below.refl _ _).drew.alloc (Nat.le_refl _) _))
    have HSX := Lib.hid (HST.out W4 X ⟨c33, HD4.out⟩ HBX.out)
    clear hX
    go_simp
    refine hK.out _ _ HSS.out (fun hHeld => ?_)
    clear hK K
    try simp only [Act.put, List.setIfInBounds_toArray, List.set_cons_zero, List.set_cons_succ]
    refine wpAnyH_ready (rs := [6]) (by kernel_rfl) (by simp) ?_
    refine AllReadyH.cons rfl (fun K hK => ?_) AllReadyH.nil
    go_simp
    rw [← HXE.out]
    go_at_call 17
    refine (HAP.out X HBX.out).mono ?_
    rintro e w3 ⟨A3, C3, rfl, HR3, HB3⟩
    have HB43 : Hid (Below W4.heap.size W4 w3) := Lib.hid ((HBX.out).trans (HB3.out.mono (HBX.out).size))
    have HS3 := Lib.hid (HST.out X w3 HSX.out HB3.out)
    go_wp2_with fail
    refine hK.out _ _ HS3.out (fun hHeld => ?_)
    clear hK K
    try simp only [Act.put, List.setIfInBounds_toArray, List.set_cons_zero, List.set_cons_succ]
    have HB43c : Hid (W4.heap.size < X.heap.size ∧ X.heap.size ≤ w3.heap.size) := Lib.hid ⟨HXS.out, HB3.out.size⟩
    have HL3 : Hid (Lies w3 W4.heap.size 0 (Mq.dcells Mq.nil)) := Lib.hid (HLX.out.below HB3.out HLX.out.lt)
    have HN5 : Hid (∀ w5, Mq.QTo w3 qb A (s.q.push r (s.own d A3 C3)) w5 → Lies w5 W4.heap.size 0 (Mq.dcells Mq.nil) ∧ p < w5.heap.size) := Lib.hid (fun w5 hq => by
      obtain ⟨_, _, _, _, hf⟩ := hq
      have l0 := HB43c.out
      have l1 := HSB4.out.lt p HSB4.out.inS.1
      have l3 := HSB4.out.lt qb HSB4.out.inS.2.2.1
      have l4 := hf.size
      refine ⟨Lies.keep (HL3.out) (hf.block _ (Lies.lt (HL3.out)) (by omega) (fun e => by have := HSB4.out.lt _ (HSB4.out.inS.2.2.2 _ e.symm).1; omega)), ?_⟩
      omega)
    refine wpAnyH_ready (rs := [7]) (by kernel_rfl) (by simp) ?_
    refine AllReadyH.cons rfl (fun K hK => ?_) AllReadyH.nil
    go_simp
    go_at_call 16
    refine (CP.out A3 C3 w3 HB43.out).mono ?_
    rintro e w5 ⟨rfl, HQ5⟩
    have HS5 := Lib.hid (HSH.out A3 C3 w3 w5 HB43.out HQ5.out)
    go_wp2_with fail
    refine hK.out _ _ HS5.out (fun hHeld => ?_)
    clear hK K
    try simp only [Act.put, List.setIfInBounds_toArray, List.set_cons_zero, List.set_cons_succ]
    refine taken_at (i := 8) (v := .tuple #[(s.q.gone r (s.own d A3 C3)).val, .bool (decide (s.q.room ≤ s.q.l.length))]) (some 21) rfl rfl (by kernel_rfl) (by kernel_rfl) (by kernel_rfl) (fun _ _ _ h => h) (Or.inl ⟨rfl, fun _ _ => rfl⟩) hHeld ?_
    try simp only [Act.put, List.setIfInBounds_toArray, List.set_cons_zero, List.set_cons_succ]
    refine taken_at (i := 9) (v := (s.q.gone r (s.own d A3 C3)).val) (some 30) rfl rfl (by kernel_rfl) (by kernel_rfl) (by kernel_rfl) (fun _ _ _ h => h) (Or.inl ⟨rfl, fun _ _ => rfl⟩) hHeld ?_
    try simp only [Act.put, List.setIfInBounds_toArray, List.set_cons_zero, List.set_cons_succ]
    refine taken_at (i := 10) (v := .bool (decide (s.q.room ≤ s.q.l.length))) (some 31) rfl rfl (by kernel_rfl) (by kernel_rfl) (by kernel_rfl) (fun _ _ _ h => h) (Or.inl ⟨rfl, fun _ _ => rfl⟩) hHeld ?_
    try simp only [Act.put, List.setIfInBounds_toArray, List.set_cons_zero, List.set_cons_succ]
    refine wpAnyH_ready (rs := [12]) (by kernel_rfl) (by simp) ?_
    refine AllReadyH.cons rfl (fun K hK => ?_) AllReadyH.nil
    refine step_store_lies rfl 50 (.tmp 8) (.tmp 30) rfl W4.heap.size 0 rfl (Mq.dcells (s.q.gone r (s.own d A3 C3))) rfl (Mq.dcells Mq.nil) ((HN5.out w5 HQ5.out).1) rfl (Mq.infoC _) (Mq.dcells_one _) ?_
    intro w6 N1 N2 N3
    refine hK.out _ _ (⟨(World.cell?_of_block (w := w5) (a := ⟨p, 32, none⟩) (N2.out.block p (HN5.out w5 HQ5.out).2 (by have := HSB4.out.lt p HSB4.out.inS.1; have := HB43c.out; omega))).trans HS5.out.1, HS5.out.2.apart N2.out (by have := HD4.out.lt; have := HB43c.out; omega)⟩) (fun hHeld => ?_)
    clear hK K
    try simp only [Act.put]
    refine taken_at (i := 13) (v := .bool (decide (s.q.room ≤ s.q.l.length))) (some 9) rfl rfl (by kernel_rfl) (by kernel_rfl) (by kernel_rfl) (fun _ _ _ h => h) (Or.inl ⟨rfl, fun _ _ => rfl⟩) hHeld ?_
    try simp only [Act.put, List.setIfInBounds_toArray]
    refine wpAnyH_done (by kernel_rfl) ?_ _
    clear hHeld
    have HX := Lib.hid (push_fin W4.heap.size r (s.own d A3 C3) (w7 := w6) (HSB4.out.keep (w' := w3) (fun k hk => (HB43.out).block k (HSB4.out.lt k hk)) (HB43.out).size) (HB4.out.trans ((HB43.out).mono HB4.out.size)) HH.out.lt (HR3.out.1) (fun g hg => ⟨Nat.le_trans HB4.out.size (Nat.le_trans (Nat.le_of_lt HXS.out) (HR3.out.2 g hg).1), (HR3.out.2 g hg).2⟩) HQ5.out (⟨N2.out.os, N2.out.tape, N2.out.output, N2.out.size, fun k hk hne => N2.out.block k hk hne⟩) (HB4.out.size) (.inr ⟨Nat.lt_of_lt_of_le HXS.out HB3.out.size, fun g hg e => by have := (HR3.out.2 g hg).1; have := HXS.out; omega⟩))
    obtain ⟨S', A', C', h1, h2, h3, h4⟩ := HX.out
    have HX2 := Lib.hid (And.intro h1 (And.intro h2 h3))
    have HX4 := Lib.hid h4
    have c34 := h1.blk.dr
    have f34 := Lies.frozen h1.blk.tl 34
    have hdr : (s.dr : Int) ≤ 1000000 := by have := HFT.out.dr; have := HK.out; omega
    clear h1 h2 h3 h4
    by_cases hroom : s.q.l.length < s.q.room
    · rw [show decide (s.q.room ≤ s.q.l.length) = false from decide_eq_false (by omega)]
      go_wp2
      go_ret
      refine ⟨rfl, Lib.hid ⟨A3, C3, ⟨⟨S', ⟨kb, qb, A', C', ?_⟩, HX2.out.2.1⟩, HX2.out.2.2⟩, HX4.out.1, HX4.out.2⟩⟩
      have e : s.push r (s.own d A3 C3) = { s with q := s.q.push r (s.own d A3 C3) } := by unfold Sd.push; rw [if_pos hroom]
      rw [e]
      exact HX2.out.1
    · rw [show decide (s.q.room ≤ s.q.l.length) = true from decide_eq_true (by omega)]
      have HR := Lib.hid hroom
      clear hroom
      go_wp2
      go_ret
      have ht := HX2.out.1.tail (s' := { s with q := s.q.push r (s.own d A3 C3), dr := s.dr + 1 }) 4 (by decide) (.int .i64 ((s.dr : Int) + 1)) rfl rfl rfl rfl
      refine ⟨rfl, Lib.hid ⟨A3, C3, ⟨⟨S', ⟨kb, qb, A', C', ?_⟩, HX2.out.2.1⟩, HX2.out.2.2.then_ ht.2 HX2.out.2.1⟩, gd_keep HX4.out.1 (fun g hg => Below.heap_setCell _ _ _ g (fun e => by have h8 := HX4.out.2 g hg; have h9 := HH.out.lt p HH.out.inS.1; have h10 : g = p := e; omega)) (by simp), HX4.out.2⟩⟩
      have e : s.push r (s.own d A3 C3) = { s with q := s.q.push r (s.own d A3 C3), dr := s.dr + 1 } := by unfold Sd.push; rw [if_neg HR.out]
      rw [e]
      exact ht.1
end Go.Proofs.YtldhlknmabpanaaGreat.Mp
