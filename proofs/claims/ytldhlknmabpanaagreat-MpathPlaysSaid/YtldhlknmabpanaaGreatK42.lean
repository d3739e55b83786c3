/-
  Own text: the law's do: Flush, walked. (Written by gen_mrp.py.)
-/
import Derived.Test.YtldhlknmabpanaaGreatK41
namespace Go.Proofs.YtldhlknmabpanaaGreat.Mp
open Go.RowKit

/-- All orders end in one frame. -/
theorem wp_pair {P : Program} {c : Code} {Q : Exit → Act → World → Prop} {a : Act} {w : World} {G : World → Prop} {F : Option Addr → Nat → Act} (reg : Code.wp P c (fun e a' w' => e = .normal ∧ ∃ x y, a' = F x y ∧ G w') a w) (post : ∀ x y w', G w' → Q .normal (F x y) w') : Code.wp P c Q a w :=
  Code.wp_mono (fun e a' w' ⟨h1, x, y, h2, h3⟩ => by subst h1 h2; exact post x y w' h3) reg
theorem Fa.right {α β : Type} {R : α → β → Prop} {l : List α} {m : List β} (h : Fa R l m) : ∀ b ∈ m, ∃ a ∈ l, R a b := by
  induction h with
  | nil => intro b hb; cases hb
  | @cons a b l m h _ ih =>
    intro c hc
    rcases List.mem_cons.1 hc with rfl | hc
    · exact ⟨a, List.mem_cons_self, h⟩
    · obtain ⟨x, hx, hr⟩ := ih c hc
      exact ⟨x, List.mem_cons_of_mem _ hx, hr⟩
section
variable {S : Nat → Prop} {w : World} {B p : Nat} {s t : Sd} {A : Option Addr} {C k : Nat}
theorem Cx.small (h : Cx S w B p s t A C k) : ∀ y ∈ t.q.l, y.v.dl ≤ 1200 := fun y hy => by
  obtain ⟨x, hx, hr⟩ := h.rel.l.right y hy
  have := (sb_dat h.sb x hx).1.1.1
  have := hr.2.dl
  omega
theorem from_low (h : Cx S w B p s t A C k) {l : List On} (hl : ∀ o ∈ l, From t.q.l o) : ∀ o ∈ l, o.d.dl = 0 ∨ ∀ g, o.d.da.map Addr.block = some g → g < B := fun o ho => by
  rcases hl o ho with h0 | ⟨x, hx, h1, h2⟩
  · exact .inl h0
  · rw [h1, h2]
    exact h.td x hx
end
theorem drw_keep {w w' : World} {base C : Nat} {A : Option Addr} {l : List Dg} (h : DRw w base A C l) (e : ∀ q, base ≤ q → q < w.heap.size → w'.heap[q]? = w.heap[q]?) : DRw w' base A C l := DRw.keep h e
set_option maxRecDepth 100000 in
set_option maxHeartbeats 4000000 in
theorem do15_flush (o : Op15) (hn : o.kind = 2) {S : Nat → Prop} {w : World} {B p : Nat} {s t : Sd} {A : Option Addr} {C k : Nat} (h : Cx S w B p s t A C k) (hk6 : k ≤ 900000) (ho : o.ok w) (hdl : o.d.dl = 0 ∨ ∀ g, o.d.da.map Addr.block = some g → g < B) :
    Calls Tryz.prog 12 #[.pointer (some ⟨p, 0, none⟩), .agg (dsa t A C), .agg o.cells] w (Do15 w S B p A (k + 800)) := by
  obtain ⟨W, hW⟩ : ∃ W, W = ((w.alloc (.cells (dsa t A C) 40)).alloc (.cells o.cells 58)).alloc (.cells (dsa Sdz none 0) 40) := ⟨_, rfl⟩
  have hbo := Bo.start w t A C o hW
  have HBo := Lib.hid hbo
  have HC := Lib.hid (h.below hbo.bel)
  have HX := Lib.hid h.lt
  have HA := Lib.hid (fun g hg => (h.ls g hg).2)
  have HB0 := Lib.hid h.hB
  have HK6 := Lib.hid hk6
  have HO := Lib.hid ho
  have HDL := Lib.hid hdl
  have HZS : Hid (∀ t A C, (dsa t A C).size = (dsa Sdz none 0).size) := Lib.hid (fun t A C => by rw [dsa_size, dsa_size])
  obtain ⟨c0, c1, c13, c14, c15, c2⟩ := hbo.cells
  have zz := zeroD
  obtain ⟨V, hV⟩ : ∃ V, V = dsa t A C := ⟨_, rfl⟩
  have HV := Lib.hid hV
  obtain ⟨Z, hZ⟩ : ∃ Z, Z = dsa Sdz none 0 := ⟨_, rfl⟩
  have HZ := Lib.hid hZ
  obtain ⟨O, hO⟩ : ∃ O, O = o.cells := ⟨_, rfl⟩
  rw [← hZ] at zz hW HZS
  rw [← hV] at hW ⊢
  rw [← hO] at hW ⊢
  have HK := Lib.hid (show k ≤ 1000000 by omega)
  obtain ⟨n, hnn⟩ : ∃ n, n = s.flush.1.length := ⟨_, rfl⟩
  have hfl := HC.out.rel.flush
  have hlen : t.flush.1.length = n := by rw [hnn]; exact hfl.1.len.symm
  have HLEN := Lib.hid hlen
  have HNN := Lib.hid hnn
  have HN1 : Hid (n ≤ 1000) := Lib.hid (by
    have h1 := flushL_length s.q.l s
    have h2 := HC.out.fs.q.len
    have h3 := HC.out.fs.q.hi
    rw [hnn]
    show (flushL s.q.l s).1.length ≤ 1000
    omega)
  have HFT : Hid (s.flush.2.fit (k + 800) ∧ t.flush.2.fit (k + 800)) := Lib.hid ⟨(flushL_fit s.q.l s k rfl HC.out.fs).upto (by have := HC.out.fs.q.len; have := HC.out.fs.q.hi; omega), (flushL_fit t.q.l t k rfl HC.out.ft).upto (by have := HC.out.ft.q.len; have := HC.out.ft.q.hi; omega)⟩
  have CD : Hid (Calls Tryz.prog 36 #[.agg (dsa t A C)] W fun e w' => ∃ A' C' A1 C1 R, e = .returned (.tuple #[.agg R, .slice A1 n C1]) ∧ Hid (R = dsa t.flush.2 A' C') ∧ Hid (DRw w' W.heap.size A1 C1 (t.flush.1.map On.d)) ∧ Hid (DL W A' t.flush.2.q.l ∧ A'.map Addr.block = A.map Addr.block ∧ t.flush.2.q.l.length ≤ C') ∧ Hid (Below W.heap.size W w')) := Lib.hid ((rflush15_any t A C k HC.out.ft HK.out W HC.out.dl HC.out.small HC.out.cap).mono (fun e w' ⟨A', C', A1, C1, h1, h2, h3, h4⟩ => ⟨A', C', A1, C1, _, by rw [h1, hlen], Lib.hid rfl, h2, h3, h4⟩))
  have HFL := Lib.hid hfl
  rw [← hV] at CD
  rw [hn] at c0
  clear hV hZ hO hk6 ho hdl hbo h hn hnn hfl hlen
  go_enter Tryz.func12, Tryz.ntmps12
  go_upto_region 1 with fail
  rw [← hW]
  clear hW
  have HLV : Hid (Lies W w.heap.size 0 V) := Lib.hid (by rw [HV.out]; exact HBo.out.db.whole)
  have HLZ : Hid (Lies W (w.heap.size + 1 + 1) 0 Z) := Lib.hid (by rw [HZ.out]; exact HBo.out.z)
  have HVI : Hid ((Tryz.prog.info? 40).map (·.size) = some V.size) := Lib.hid (by rw [HV.out]; exact infoD15 _ _ _)
  go_upto_region 17 with (first
    | (with_reducible refine wpList_load_lies rfl 40 (.tmp 4) rfl w.heap.size 0 rfl V HLV.out _ Tryz.underlying40 rfl HVI.out ?_)
    | (go_at_call 36; (with_reducible refine (CD.out).mono ?_); rintro e w1 ⟨A', C', A1, C1, R, rfl, HR, HDR1, HDL1, HB1⟩; have HZN : Hid (Lies (w1.alloc (.cells Z 40)) w1.heap.size 0 Z) := Lib.hid (Lies.new w1 Z _ (Below.refl _ _)); have HRS : Hid (R.size = Z.size) := Lib.hid (by rw [HR.out]; exact HZS.out _ _ _); have HRI : Hid ((Tryz.prog.info? 40).map (·.size) = some R.size) := Lib.hid (by rw [HR.out]; exact infoD15 _ _ _); have HR1 : Hid (R.all (·.oneCell') = true) := Lib.hid (by rw [HR.out]; exact dsa_one _ _ _))
    | ((with_reducible refine wpList_store_lies rfl 40 (.tmp 13) (.tmp 75) rfl w1.heap.size 0 rfl R rfl Z HZN.out HRS.out HRI.out HR1.out ?_); intro w2 N1 N2 N3)
    | fail)
  have HB12 : Hid (Below w1.heap.size w1 w2) := Lib.hid (N2.out.bel ((Below.refl _ _).alloc (Nat.le_refl _) _) (by simp) (Nat.le_refl _))
  have HBD : Hid (Below W.heap.size W w2.drew) := Lib.hid ((HB1.out.trans (HB12.out.mono HB1.out.size)).drew)
  have HG1 : Hid (w1.heap.size < w2.heap.size ∧ W.heap.size ≤ w1.heap.size) := Lib.hid ⟨N1.out.lt, HB1.out.size⟩
  have HCD := Lib.hid (HC.out.below HBD.out)
  have HLR2 : Hid (Lies w2.drew w1.heap.size 0 R) := Lib.hid N1.out.drew
  have HLZ2 : Hid (Lies w2.drew (w.heap.size + 1 + 1) 0 Z) := Lib.hid (HLZ.out.below HBD.out HLZ.out.lt)
  have HDR2 : Hid (DRw w2.drew W.heap.size A1 C1 (t.flush.1.map On.d)) := Lib.hid (ownsRow_below HDR1.out HB12.out.drew (Nat.le_refl _))
  have HDL2 : Hid (DL w2.drew A' t.flush.2.q.l) := Lib.hid (HDL1.out.1.below HBD.out (Nat.le_refl _))
  have CF : Hid (Calls Tryz.prog 8 #[.pointer (some ⟨p, 0, none⟩)] w2.drew fun e w3 => Told2 w2.drew s.flush.1 e w3 ∧ Hid (After (@SB (gw w2.drew [])) w2.drew S p s.flush.2 w3)) := Lib.hid (@flush_sb (gw w2.drew []) _ _ _ _ _ (sb_ghost [] HCD.out.sb) HCD.out.fs HK.out)
  have HNX : Hid (∀ w3, After (@SB (gw w2.drew [])) w2.drew S p s.flush.2 w3 → (∃ S', Cx S' w3 B p s.flush.2 t.flush.2 A' C' (k + 800) ∧ ∀ j, S' j → S j ∨ w2.drew.heap.size ≤ j) ∧ Below B W w3 ∧ Fr S w2.drew w3) := Lib.hid (fun w3 ha => HC.out.both HBD.out ha (fun g hg => .inl (by rw [← HDL1.out.2.1]; exact hg)) HDL2.out HDL1.out.2.2 (fun y hy => HC.out.td y ((flush_from t).2 y hy)) HFL.out.2 HFT.out.1 HFT.out.2)
  have HSM : Hid (∀ w3 A2 C2 l', Mo.OwnT w3 w2.drew.heap.size (.slice A2 n C2) n l' → Likes w2.drew w3 s.flush.1 l' → Below B w2.drew w3 → Fr S w2.drew w3 → Calls Tryz.prog 34 #[.slice A2 n C2, .slice A1 n C1] w3 fun e w4 => e = .returned (.bool true) ∧ Below w3.heap.size w3 w4) := Lib.hid (fun w3 A2 C2 l' ho hk hb hf => by
    have ht := told_same (w := W) HBD.out hb HFL.out.1 hk (fun q hq => (goes_path (flush_goes t.q.l t) q hq).2) (from_low HC.out (flush_from t).1)
    have hd : DRw w3 W.heap.size A1 C1 (t.flush.1.map On.d) := drw_keep HDR2.out (fun q h1 h2 => hf.block q h2 (fun hs => by have := HX.out q hs; have := HBo.out.hs; omega))
    have hln : n = (t.flush.1.map On.d).length := by rw [List.length_map, HLEN.out]
    have := same15_any ho hd hln HN1.out ht.2
    exact this)
  clear c0 c1 c13 c14 c15 c2 CD HZN HDR1 N2 N3
  generalize w1.heap.size = bq at *
  apply wp_pair (G := fun w' => Hid (Lies w' (w.heap.size + 1 + 1) 0 R) ∧ Hid ((∃ S', Cx S' w' B p s.flush.2 t.flush.2 A' C' (k + 800) ∧ ∀ j, S' j → S j ∨ w.heap.size ≤ j) ∧ Fr S w w'))
  case reg =>
    refine wp_region_noPanic ?_
    refine wp_region_held_drew (S := fun w' => Lies w' bq 0 R) (by kernel_rfl) HLR2.out (fun hHeld => ?_)
    refine taken_at (i := 0) (v := .agg R) (some 77) rfl rfl (by kernel_rfl) (by kernel_rfl) (by kernel_rfl) (fun _ _ _ h => h) (yields_loadAt 40 (.tmp 13) (.pointer (some ⟨bq, 0, none⟩)) rfl rfl rfl (fun w' hw => hw.loadAt 40 _ Tryz.underlying40 rfl HRI.out)) hHeld ?_
    try simp only [Act.put, List.setIfInBounds_toArray, List.set_cons_zero, List.set_cons_succ]
    refine taken_at (i := 1) (v := .pointer (some ⟨p, 0, none⟩)) (some 78) rfl rfl (by kernel_rfl) (by kernel_rfl) (by kernel_rfl) (fun _ _ _ h => h) (Or.inl ⟨rfl, fun _ _ => rfl⟩) hHeld ?_
    try simp only [Act.put, List.setIfInBounds_toArray, List.set_cons_zero, List.set_cons_succ]
    refine taken_at (i := 3) (v := .slice A1 n C1) (some 80) rfl rfl (by kernel_rfl) (by kernel_rfl) (by kernel_rfl) (fun _ _ _ h => h) (Or.inl ⟨rfl, fun _ _ => rfl⟩) hHeld ?_
    try simp only [Act.put, List.setIfInBounds_toArray, List.set_cons_zero, List.set_cons_succ]
    refine wpAnyH_ready (rs := [2]) (by kernel_rfl) (by simp) ?_
    refine AllReadyH.cons (o := _) rfl (fun K hK => ?_) AllReadyH.nil
    go_simp
    go_at_call 8
    refine (CF.out).mono ?_
    rintro e w3 ⟨⟨A2, C2, l', rfl, HO2, HK2⟩, HAF⟩
    rw [← HNN.out] at HO2 ⊢
    obtain ⟨hcx, hbb, hfr⟩ := HNX.out w3 HAF.out
    have hbd : Below B w2.drew w3 := hfr.below HC.out.low (Nat.le_trans HC.out.hB HBD.out.size)
    have CS := Lib.hid (HSM.out w3 A2 C2 l' HO2.out HK2.out hbd hfr)
    have hl3 : Lies w3 bq 0 R := HLR2.out.keep (hfr.block _ HLR2.out.lt (fun hs => by have := HX.out _ hs; have := HG1.out; have := HBo.out.bel.size; omega))
    have hz3 : Lies w3 (w.heap.size + 1 + 1) 0 Z := HLZ2.out.keep (hfr.block _ HLZ2.out.lt (fun hs => by have := HX.out _ hs; omega))
    go_wp2_with fail
    refine hK.out _ _ hl3 (fun hHeld => ?_)
    clear hK K
    try simp only [Act.put, List.setIfInBounds_toArray, List.set_cons_zero, List.set_cons_succ]
    refine wpAnyH_ready (rs := [4]) (by kernel_rfl) (by simp) ?_
    refine AllReadyH.cons (o := _) rfl (fun K hK => ?_) AllReadyH.nil
    go_simp
    go_at_call 34
    refine (CS.out).mono ?_
    rintro e w4 ⟨rfl, hb4⟩
    go_wp2_with fail
    refine hK.out _ _ (hl3.below hb4 hl3.lt) (fun hHeld => ?_)
    clear hK K
    try simp only [Act.put, List.setIfInBounds_toArray, List.set_cons_zero, List.set_cons_succ]
    refine wpAnyH_ready (rs := [5]) (by kernel_rfl) (by simp) ?_
    refine AllReadyH.cons (o := _) rfl (fun K hK => ?_) AllReadyH.nil
    refine step_store_at rfl rfl 40 (.tmp 6) (.tmp 77) rfl (w.heap.size + 1 + 1) 0 rfl R rfl Z (hz3.below hb4 hz3.lt) HRS.out HRI.out HR1.out ?_
    intro w5 G1 G2 G3
    refine hK.out _ _ ((hl3.below hb4 hl3.lt).keep (G2.out.block _ (hl3.below hb4 hl3.lt).lt (by have := HG1.out; have := HBo.out.hs; omega))) (fun hHeld => ?_)
    clear hK K
    refine taken_at (i := 6) (v := .bool true) (some 7) rfl rfl (by kernel_rfl) (by kernel_rfl) (by kernel_rfl) (fun _ _ _ h => h) (Or.inl ⟨rfl, fun _ _ => rfl⟩) hHeld ?_
    try simp only [Act.put, List.setIfInBounds_toArray, List.set_cons_zero, List.set_cons_succ]
    refine wpAnyH_done (by kernel_rfl) ?_ _
    refine NoPanic.normal ⟨rfl, A2, C2, rfl, G1, Lib.hid ?_⟩
    obtain ⟨S', hcx, hS'⟩ := hcx
    exact do15_end (w := w) (hcx.below hb4) (Nat.le_refl _) G2.out (fun hs => by
      have h1 := HBo.out.hs
      rcases hS' _ hs with h2 | h2
      · have := HX.out _ h2; omega
      · have := HBD.out.size; omega) (fun e => by rw [HDL1.out.2.1] at e; have := HA.out _ e; omega) HB0.out (fun j hj => (hS' j hj).imp id (fun h2 => by have := HBD.out.size; have := HBo.out.hs; omega)) ((((Fr.of_below HBo.out.bel).next (Fr.of_below HBD.out)).next hfr).next (Fr.of_below hb4))
  case post =>
    intro x9 y9 w6 ⟨HL6, HC6⟩
    go_wp2
    refine bodyPost_ret (v := .tuple #[.agg R, .bool true]) (Mq.results_cell1 (p := 6) (u := 7) rfl _ w6 (w.heap.size + 1 + 1) _ _ rfl rfl (Lies.loadVar HL6.out 40 _ Tryz.underlying40 rfl HRI.out)) rfl ?_
    exact ⟨_, _, A', C', by rw [HR.out], Lib.hid HC6.out.1, Lib.hid (fun g hg => .inl (by rw [← HDL1.out.2.1]; exact hg)), Lib.hid HC6.out.2⟩
end Go.Proofs.YtldhlknmabpanaaGreat.Mp
