/-
  Own text: the law's do: Forget, walked. (Written by gen_mrp.py.)
-/
import Derived.Test.YtldhlknmabpanaaGreatK40
import Derived.Test.YtldhlknmabpanaaGreatK35
namespace Go.Proofs.YtldhlknmabpanaaGreat.Mp
open Go.RowKit

/-- The code's call from w to w1, then the document's to w2. -/
theorem Cx.late {S : Nat → Prop} {w w1 w2 : World} {B p k k' C C' : Nat} {s t s' t' : Sd} {A A' : Option Addr} {ln : List Int} (h : Cx S w B p s t A C k) (ha : After (@SB (gw w ln)) w S p s' w1) (hb : Below w1.heap.size w1 w2)
    (hl : ∀ g, A'.map Addr.block = some g → A.map Addr.block = some g ∨ (w1.heap.size ≤ g ∧ g < w2.heap.size)) (hd : DL w2 A' t'.q.l) (hc : t'.q.l.length ≤ C')
    (htd : ∀ y ∈ t'.q.l, y.v.dl = 0 ∨ ∀ g, y.v.da.map Addr.block = some g → g < B) (hr : Rel w s' t') (hfs : s'.fit k') (hft : t'.fit k') :
    (∃ S', Cx S' w2 B p s' t' A' C' k' ∧ ∀ j, S' j → S j ∨ (w.heap.size ≤ j ∧ j < w1.heap.size)) ∧ Below B w w2 := by
  obtain ⟨⟨S', hsb, hS'⟩, hfr⟩ := ha
  have hlt1 : ∀ j, S' j → j < w1.heap.size := @sb_lt (gw w ln) _ _ _ _ hsb
  have hbb : Below B w w1 := hfr.below h.low h.hB
  have hB1 : B ≤ w1.heap.size := Nat.le_trans h.hB hfr.size
  have hb2 : Below B w w2 := hbb.trans (hb.mono hB1)
  refine ⟨⟨S', ⟨@sb_below tgh _ _ _ _ _ (sb_plain hsb) hb, fun j hj => ?_, Nat.le_trans hB1 hb.size, fun g hg => ?_, htd, hd, hc, ?_, hfs, hft⟩, fun j hj => (hS' j hj).imp id (fun h2 => ⟨h2, hlt1 j hj⟩)⟩, hb2⟩
  · rcases hS' j hj with h1 | h1
    · exact h.low j h1
    · have := h.hB; omega
  · rcases hl g hg with h1 | ⟨h1, h2⟩
    · have h3 := h.ls g h1
      have h4 := hfr.size
      have h5 := hb.size
      exact ⟨fun hs => (by rcases hS' g hs with h6 | h6; exact h3.1 h6; omega), by omega⟩
    · exact ⟨fun hs => by have := hlt1 g hs; omega, h2⟩
  · exact hr.step (fun x hx lb hx2 => (sb_bytes hsb x hx lb hx2).below hb (Nat.le_refl _)) (fun y hy lb hy2 => bytes_low hy2 (htd y hy) hb2)
theorem LR.capl {w : World} {base C : Nat} {A : Option Addr} {l : List Mq.It} (h : LR w base A C l) : l.length ≤ C := by
  rcases h.2 with ⟨e, h0⟩ | ⟨g, cap, cur, e, _, _, h1, _⟩
  · omega
  · simp only [Value.slice.injEq] at e
    omega
theorem Cx.dl1 {S : Nat → Prop} {w w1 : World} {B p k C : Nat} {s t : Sd} {A : Option Addr} (h : Cx S w B p s t A C k) (hf : Fr S w w1) : DL w1 A t.q.l := h.dl.keep (fun g hg hl => hf.block g hl (h.ls g hg).1) hf.size
set_option maxRecDepth 100000 in
set_option maxHeartbeats 4000000 in
theorem do15_forget (o : Op15) (hn : o.kind = 5) {S : Nat → Prop} {w : World} {B p : Nat} {s t : Sd} {A : Option Addr} {C k : Nat} (h : Cx S w B p s t A C k) (hk6 : k ≤ 900000) (ho : o.ok w) (hdl : o.d.dl = 0 ∨ ∀ g, o.d.da.map Addr.block = some g → g < B) :
    Calls Tryz.prog 12 #[.pointer (some ⟨p, 0, none⟩), .agg (dsa t A C), .agg o.cells] w (Do15 w S B p A (k + 800)) := by
  obtain ⟨W, hW⟩ : ∃ W, W = ((w.alloc (.cells (dsa t A C) 40)).alloc (.cells o.cells 58)).alloc (.cells (dsa Sdz none 0) 40) := ⟨_, rfl⟩
  have hbo := Bo.start w t A C o hW
  have HBo := Lib.hid hbo
  have HC := Lib.hid (h.below hbo.bel)
  have HX := Lib.hid h.lt
  have HA := Lib.hid (fun g hg => (h.ls g hg).2)
  have HB0 := Lib.hid h.hB
  have HK6 := Lib.hid hk6
  have HO := Lib.hid ho
  have HDL := Lib.hid hdl
  have HZS : Hid (∀ t A C, (dsa t A C).size = (dsa Sdz none 0).size) := Lib.hid (fun t A C => by rw [dsa_size, dsa_size])
  obtain ⟨c0, c1, c13, c14, c15, c2⟩ := hbo.cells
  have zz := zeroD
  obtain ⟨V, hV⟩ : ∃ V, V = dsa t A C := ⟨_, rfl⟩
  have HV := Lib.hid hV
  obtain ⟨Z, hZ⟩ : ∃ Z, Z = dsa Sdz none 0 := ⟨_, rfl⟩
  have HZ := Lib.hid hZ
  obtain ⟨O, hO⟩ : ∃ O, O = o.cells := ⟨_, rfl⟩
  rw [← hZ] at zz hW HZS
  rw [← hV] at hW ⊢
  rw [← hO] at hW ⊢
  have HK := Lib.hid (show k ≤ 1000000 by omega)
  obtain ⟨kd, hkd⟩ : ∃ kd, kd = o.d.kind := ⟨_, rfl⟩
  rw [← hkd] at c2
  obtain ⟨W3, hW3⟩ : ∃ W3, W3 = W.alloc (.cells #[.int .i64 kd] 3) := ⟨_, rfl⟩
  have HB3 : Hid (Below W.heap.size W W3) := Lib.hid (by rw [hW3]; exact (Below.refl _ _).alloc (Nat.le_refl _) _)
  have hx3 : Lies W3 W.heap.size 0 #[.int .i64 kd] := by rw [hW3]; exact Lies.new W _ _ (Below.refl _ _)
  have hk3 : W3.cell? ⟨W.heap.size, 0, none⟩ = some (.int .i64 kd) := hx3.cell 0 (by decide : 0 < 1)
  have HX3 := Lib.hid hx3
  have HC3 := Lib.hid (HC.out.below HB3.out)
  obtain ⟨nn, hnn⟩ : ∃ nn : Int, nn = (s.q.l.length : Int) - ((s.forget kd).q.l.length : Int) := ⟨_, rfl⟩
  have CT : Hid (Calls Tryz.prog 41 #[.pointer (some ⟨p, 0, none⟩), (.func (.func 42) #[] #[.pointer (some ⟨W.heap.size, 0, none⟩)])] W3 fun e w' => e = .returned (.int .i64 nn) ∧ Hid (After (@SB (gw W3 [])) W3 S p (s.forget kd) w')) := Lib.hid (by
    rw [hnn]
    exact (@forget_sb (gw W3 []) _ _ _ _ _ kd W.heap.size (sb_ghost [] HC3.out.sb) HC3.out.fs HK.out hk3))
  have CD : Hid (∀ w', DL w' A t.q.l → Calls Tryz.prog 43 #[.agg (dsa t A C), .int .i64 kd] w' fun e w'' => ∃ A' C' R, e = .returned (.tuple #[.agg R, .int .i64 nn]) ∧ Hid (R = dsa (t.forget kd) A' C') ∧ Hid (LR w'' w'.heap.size A' C' (t.forget kd).q.l) ∧ Hid (Below w'.heap.size w' w'')) := Lib.hid (fun w' hl => by
    rw [hnn, ← HC3.out.rel.len, ← (HC3.out.rel.forget kd).len]
    exact (rforget15_any kd t A C w' hl (by have := HC3.out.ft.q.len; have := HC3.out.ft.q.hi; omega)).mono (fun e w2 ⟨A', C', h1, h2, h3⟩ => ⟨A', C', _, h1, Lib.hid rfl, h2, h3⟩))
  rw [← hV] at CD
  have HN : Hid (∀ w1 w2 A' C', After (@SB (gw W3 [])) W3 S p (s.forget kd) w1 → LR w2 w1.heap.size A' C' (t.forget kd).q.l → Below w1.heap.size w1 w2 → (∃ S', Cx S' w2 B p (s.forget kd) (t.forget kd) A' C' k ∧ ∀ j, S' j → S j ∨ (W3.heap.size ≤ j ∧ j < w1.heap.size)) ∧ Below B W3 w2) := Lib.hid (fun w1 w2 A' C' ha hlr hb =>
    HC3.out.late ha hb (fun g hg => .inr (hlr.low g hg)) hlr.dl hlr.capl (fun y hy => HC3.out.td y (List.mem_filter.1 hy).1) (HC3.out.rel.forget kd) (Sd.forget_fit HC3.out.fs kd) (Sd.forget_fit HC3.out.ft kd))
  rw [hn] at c0
  clear hV hZ hO hk6 ho hdl hbo h hn hkd hx3 hk3 hnn
  go_enter Tryz.func12, Tryz.ntmps12
  go_upto_region 1 with fail
  rw [← hW]
  clear hW
  have HLV : Hid (Lies W w.heap.size 0 V) := Lib.hid (by rw [HV.out]; exact HBo.out.db.whole)
  have HLZ : Hid (Lies W (w.heap.size + 1 + 1) 0 Z) := Lib.hid (by rw [HZ.out]; exact HBo.out.z)
  have HVI : Hid ((Tryz.prog.info? 40).map (·.size) = some V.size) := Lib.hid (by rw [HV.out]; exact infoD15 _ _ _)
  go_upto_region 30 with fail
  rw [← hW3]
  clear hW3
  go_upto_region 31 with (first
    | (go_at_call 41; (with_reducible refine (CT.out).mono ?_); rintro e w1 ⟨rfl, HAF⟩)
    | fail)
  have hfr := HAF.out.2
  have HW3S : Hid (W.heap.size ≤ W3.heap.size ∧ W.heap.size < W3.heap.size) := Lib.hid ⟨HB3.out.size, HX3.out.lt⟩
  have hk3 : ∀ g, w.heap.size ≤ g → g < w.heap.size + 3 → w1.heap[g]? = W.heap[g]? := fun g h1 h2 => (hfr.block g (by have := HBo.out.hs; have := HB3.out.size; omega) (fun hs => by have := HX.out g hs; omega)).trans (HB3.out.block g (by have := HBo.out.hs; omega))
  have HSZ := Lib.hid hfr.size
  have HFR := Lib.hid hfr
  have HLV1 : Hid (Lies w1 w.heap.size 0 V) := Lib.hid (HLV.out.keep (hk3 _ (Nat.le_refl _) (by omega)))
  have HLZ1 : Hid (Lies w1 (w.heap.size + 1 + 1) 0 Z) := Lib.hid (HLZ.out.keep (hk3 _ (by omega) (by omega)))
  have x18 : w1.cell? ⟨W.heap.size, 0, none⟩ = some (.int .i64 kd) := (HX3.out.keep (hfr.block _ HX3.out.lt (fun hs => by have := HX.out _ hs; have := HBo.out.hs; omega))).cell 0 (by decide : 0 < 1)
  have CD1 := Lib.hid (CD.out w1 (HC3.out.dl1 hfr))
  have ee : (nn == nn) = true := by simp
  clear hfr hk3 CT CD HLV HLZ c0 c1 c13 c14 c15 c2
  go_upto_region 32 with (first
    | (with_reducible refine wpList_load_lies rfl 40 (.tmp 4) rfl w.heap.size 0 rfl V HLV1.out _ Tryz.underlying40 rfl HVI.out ?_)
    | (go_at_call 43; (with_reducible refine (CD1.out).mono ?_); rintro e w2 ⟨A', C', R, rfl, HR, HLR2, HB2⟩; have HZN : Hid (Lies (w2.alloc (.cells Z 40)) w2.heap.size 0 Z) := Lib.hid (Lies.new w2 Z _ (Below.refl _ _)); have HRS : Hid (R.size = Z.size) := Lib.hid (by rw [HR.out]; exact HZS.out _ _ _); have HRI : Hid ((Tryz.prog.info? 40).map (·.size) = some R.size) := Lib.hid (by rw [HR.out]; exact infoD15 _ _ _); have HR1 : Hid (R.all (·.oneCell') = true) := Lib.hid (by rw [HR.out]; exact dsa_one _ _ _))
    | ((with_reducible refine wpList_store_lies rfl 40 (.tmp 20) (.tmp 147) rfl w2.heap.size 0 rfl R rfl Z HZN.out HRS.out HRI.out HR1.out ?_); intro w3 N1 N2 N3)
    | fail)
  have HB23 : Hid (Below w2.heap.size w2 w3) := Lib.hid (N2.out.bel ((Below.refl _ _).alloc (Nat.le_refl _) _) (by simp) (Nat.le_refl _))
  have HB13 : Hid (Below w1.heap.size w1 w3) := Lib.hid (HB2.out.trans (HB23.out.mono HB2.out.size))
  obtain ⟨⟨S', hcx, hS'⟩, hbb⟩ := HN.out w1 w3 A' C' HAF.out (HLR2.out.below HB23.out (Nat.le_refl _)) HB13.out
  have HCX := Lib.hid hcx
  have HS' := Lib.hid hS'
  have HBB := Lib.hid hbb
  have HLZ3 : Hid (Lies w3 (w.heap.size + 1 + 1) 0 Z) := Lib.hid (HLZ1.out.below HB13.out HLZ1.out.lt)
  have HA2 : Hid (∀ g, A'.map Addr.block = some g → w1.heap.size ≤ g) := Lib.hid (fun g hg => (HLR2.out.low g hg).1)
  clear hcx hS' hbb x18 HN HAF CD1 HZN
  generalize w2.heap.size = gq at *
  go_wp2_with (first
    | (with_reducible refine wpList_load_lies rfl 40 (.tmp 20) rfl gq 0 rfl R N1.out _ Tryz.underlying40 rfl HRI.out ?_)
    | ((with_reducible refine wpList_store_lies rfl 40 (.tmp 6) (.tmp 149) rfl (w.heap.size + 1 + 1) 0 rfl R rfl Z HLZ3.out HRS.out HRI.out HR1.out ?_); intro w4 M1 M2 M3)
    | fail)
  refine bodyPost_ret (v := .tuple #[.agg R, .bool true]) (Mq.results_cell1 (p := 6) (u := 7) rfl _ w4 (w.heap.size + 1 + 1) _ _ rfl rfl (Lies.loadVar M1.out 40 _ Tryz.underlying40 rfl HRI.out)) rfl ?_
  have h1 := HBo.out.hs
  have h2 := HW3S.out
  have h3 := HSZ.out
  have hd := do15_end (w := w) HCX.out (show k ≤ k + 800 by omega) M2.out (fun hs => by
    rcases HS'.out _ hs with h2 | h2
    · have := HX.out _ h2; omega
    · omega) (fun e => by have := HA2.out _ e; omega) HB0.out (fun j hj => (HS'.out j hj).imp id (fun h2 => by omega)) ((((Fr.of_below HBo.out.bel).next (Fr.of_below HB3.out)).next HFR.out).next (Fr.of_below HB13.out))
  exact ⟨_, _, A', C', by rw [HR.out], Lib.hid hd.1, Lib.hid (fun g hg => .inr (by have := HA2.out g hg; omega)), Lib.hid hd.2⟩
end Go.Proofs.YtldhlknmabpanaaGreat.Mp
