/-
  Own text: both senders behind a Push. (Written by gen_mrp.py.)
  Own text: the law's do: Push, walked. (Written by gen_mrp.py.)
  Own text: the law's do: ticks, walked. (Written by gen_mrp.py.)
  Own text: the law's do, whole; its play. (Written by gen_mrp.py.)
-/
import Derived.Test.YtldhlknmabpanaaGreatK42
import Derived.Test.YtldhlknmabpanaaGreatK46
import Derived.Test.YtldhlknmabpanaaGreatK35
import Derived.Test.YtldhlknmabpanaaGreatK38
namespace Go.Proofs.YtldhlknmabpanaaGreat.Mp
open Go.RowKit

theorem pos_like {R : Mq.It → Mq.It → Prop} (hrk : ∀ x y, R x y → y.rank = x.rank) (r : Int) {l m : List Mq.It} (h : Fa R l m) : Mq.pos r m = Mq.pos r l := by
  unfold Mq.pos
  induction h with
  | nil => rfl
  | cons h _ ih =>
    rw [List.takeWhile_cons, List.takeWhile_cons, hrk _ _ h]
    split
    · simp [ih]
    · rfl
theorem fa_push {R : Mq.It → Mq.It → Prop} (hrk : ∀ x y, R x y → y.rank = x.rank) {Q Q' : Mq.Qn} (h : Fa R Q.l Q'.l) (hroom : Q'.room = Q.room) (r : Int) {a b : Dg} (hd : R ⟨r, (Q.pushed : Int), a⟩ ⟨r, (Q'.pushed : Int), b⟩) : Fa R (Q.push r a).l (Q'.push r b).l := by
  have hins : Fa R (Q.ins r a) (Q'.ins r b) := by
    unfold Mq.Qn.ins
    rw [pos_like hrk r h]
    exact (h.take _).append (.cons hd (h.drop _))
  show Fa _ (if Q.l.length < Q.room then _ else _) (if Q'.l.length < Q'.room then _ else _)
  rw [← h.len, hroom]
  split
  · exact hins
  · rw [List.dropLast_eq_take, List.dropLast_eq_take, hins.len]
    exact hins.take _
/-- Alike, as soon as the ghost tells of the first one. -/
def Rg0 (G : Ghost) (w : World) (x y : Mq.It) : Prop := y.rank = x.rank ∧ y.v = Dg.moved x.v y.v.da y.v.dc ∧ ∃ lb, (@Gd G w x.v → Bytes w x.v.da x.v.dl lb) ∧ Bytes w y.v.da x.v.dl lb
section
variable {S : Nat → Prop} {w w1 w3 : World} {B p : Nat} {s t : Sd} {A A' : Option Addr} {C C' k : Nat} {r : Int} {d : Dg} {lb : List Int} {da : Option Addr} {dc : Nat}
theorem Cx.own (h : Cx S w B p s t A C k) (a : Option Addr) (c : Nat) : t.own d a c = s.own d a c := by unfold Sd.own; rw [h.rel.ses]
theorem Cx.pushed (h : Cx S w B p s t A C k) (hb : Below w.heap.size w w1) (ha : After (@SB (gw w1 lb)) w1 S p (s.push r (s.own d da dc)) w3) (_ : @Gd (gw w1 lb) w3 (s.own d da dc)) (hnew : Newer w1 da) (hby : Bytes w d.da d.dl lb)
    (hlow : d.dl = 0 ∨ ∀ g, d.da.map Addr.block = some g → g < B) (hl : ∀ g, A'.map Addr.block = some g → w.heap.size ≤ g ∧ g < w1.heap.size) (hd : DL w1 A' (t.push r (t.own d d.da d.dc)).q.l) (hc : (t.push r (t.own d d.da d.dc)).q.l.length ≤ C') :
    (∃ S', Cx S' w3 B p (s.push r (s.own d da dc)) (t.push r (t.own d d.da d.dc)) A' C' (k + 1) ∧ ∀ j, S' j → S j ∨ w1.heap.size ≤ j) ∧ Below B w w3 ∧ Fr S w1 w3 := by
  obtain ⟨⟨S', hsb, hS'⟩, hfr⟩ := ha
  have hB1 : B ≤ w1.heap.size := Nat.le_trans h.hB hb.size
  have hbb : Below B w1 w3 := hfr.below h.low hB1
  have hnot : ∀ g, A'.map Addr.block = some g → ¬ S g ∧ g < w1.heap.size := fun g hg => ⟨fun hs => by have := h.lt g hs; have := hl g hg; omega, (hl g hg).2⟩
  have hcl : @Gd (gw w1 lb) w3 (s.own d da dc) → Bytes w3 da d.dl lb := by
    rintro ⟨l, h1, h2⟩
    rcases h1.cell with h0 | ⟨_, b, off, e, _, _⟩
    · have e1 : l = lb := by
        have := h1.size
        have := hby.size
        have h0 : d.dl = 0 := h0
        rw [List.length_eq_zero_iff.1 (show l.length = 0 by omega), List.length_eq_zero_iff.1 (show lb.length = 0 by omega)]
      rw [← e1]
      exact h1
    · have e : da = some ⟨b, off, none⟩ := e
      have e1 : l = lb := h2.2 ⟨b, by show da.map Addr.block = some b; rw [e]; rfl, hnew b (by rw [e]; rfl)⟩
      rw [← e1]
      exact h1
  have hold : Fa (Rg0 (gw w1 lb) w3) s.q.l t.q.l := h.rel.l.imp (fun x hx y hy hr => ⟨hr.1, hr.2.mv, by
    obtain ⟨l, h1, h2⟩ := hr.2.by_
    refine ⟨l, fun hgd => gd_bytes hgd l (h1.below hb (Nat.le_refl _)), ?_⟩
    have h3 : Bytes w y.v.da y.v.dl l := by rw [hr.2.dl]; exact h2
    have h4 := bytes_low (h3.below hb (Nat.le_refl _)) (h.td y hy) hbb
    rw [hr.2.dl] at h4
    exact h4⟩)
  have hnw : Rg0 (gw w1 lb) w3 ⟨r, (s.q.pushed : Int), s.own d da dc⟩ ⟨r, (t.q.pushed : Int), t.own d d.da d.dc⟩ := ⟨rfl, by rw [h.own]; rfl, lb, hcl, bytes_low (hby.below hb (Nat.le_refl _)) hlow hbb⟩
  have hfa := fa_push (fun _ _ hr => hr.1) hold h.rel.room r hnw
  have htd : ∀ y ∈ (t.push r (t.own d d.da d.dc)).q.l, y.v.dl = 0 ∨ ∀ g, y.v.da.map Addr.block = some g → g < B := fun y hy => by
    rcases gone_mem y hy with h1 | h1
    · exact h.td y h1
    · rw [h1]; exact hlow
  refine ⟨⟨S', ⟨sb_plain hsb, fun j hj => ?_, Nat.le_trans hB1 hfr.size, fun g hg => ⟨fun hs => ?_, Nat.lt_of_lt_of_le (hnot g hg).2 hfr.size⟩, htd, hd.keep (fun g hg _ => hfr.block g (hnot g hg).2 (hnot g hg).1) hfr.size, hc, ⟨h.rel.wy, h.rel.ses, h.rel.now, h.rel.bk, ?_, h.rel.he, ?_, ?_⟩, Sd.push_fit h.fs r _, Sd.push_fit h.ft r _⟩, hS'⟩, (hb.mono h.hB).trans hbb, hfr⟩
  · rcases hS' j hj with h1 | h1
    · exact h.low j h1
    · omega
  · rcases hS' g hs with h1 | h1
    · exact (hnot g hg).1 h1
    · have := (hnot g hg).2
      omega
  · show (if t.q.l.length < t.q.room then t.dr else t.dr + 1) = (if s.q.l.length < s.q.room then s.dr else s.dr + 1)
    rw [h.rel.len, h.rel.room, h.rel.dr]
  · exact h.rel.room
  · obtain ⟨kb, qb, A9, C9, ⟨g1, g2, g3, g4, g5, g6, g7, g8⟩⟩ := hsb
    exact hfa.imp (fun x hx y hy hr => ⟨hr.1, hr.2.1, by
      obtain ⟨l, h1, h2⟩ := hr.2.2
      exact ⟨l, h1 (g8 x hx), h2⟩⟩)
end
end Go.Proofs.YtldhlknmabpanaaGreat.Mp
namespace Go.Proofs.YtldhlknmabpanaaGreat.Mp
open Go.RowKit

/-- All orders end in one frame. -/
theorem wp_one15 {P : Program} {c : Code} {Q : Exit → Act → World → Prop} {a : Act} {w : World} {F : World → Prop} {A : Act} (reg : Code.wp P c (fun e a' w' => e = .normal ∧ a' = A ∧ F w') a w) (post : ∀ w', F w' → Q .normal A w') : Code.wp P c Q a w :=
  Code.wp_mono (fun e a' w' ⟨h1, h2, h3⟩ => by subst h1 h2; exact post w' h3) reg
set_option maxRecDepth 100000 in
set_option maxHeartbeats 4000000 in
theorem do15_push (o : Op15) (hn : o.kind = 0) {S : Nat → Prop} {w : World} {B p : Nat} {s t : Sd} {A : Option Addr} {C k : Nat} (h : Cx S w B p s t A C k) (hk6 : k ≤ 900000) (ho : o.ok w) (hdl : o.d.dl = 0 ∨ ∀ g, o.d.da.map Addr.block = some g → g < B) :
    Calls Tryz.prog 12 #[.pointer (some ⟨p, 0, none⟩), .agg (dsa t A C), .agg o.cells] w (Do15 w S B p A (k + 800)) := by
  obtain ⟨W, hW⟩ : ∃ W, W = ((w.alloc (.cells (dsa t A C) 40)).alloc (.cells o.cells 58)).alloc (.cells (dsa Sdz none 0) 40) := ⟨_, rfl⟩
  have hbo := Bo.start w t A C o hW
  have HBo := Lib.hid hbo
  have HC := Lib.hid (h.below hbo.bel)
  have HX := Lib.hid h.lt
  have HA := Lib.hid (fun g hg => (h.ls g hg).2)
  have HB0 := Lib.hid h.hB
  have HK6 := Lib.hid hk6
  have HO := Lib.hid ho
  have HDL := Lib.hid hdl
  have HZS : Hid (∀ t A C, (dsa t A C).size = (dsa Sdz none 0).size) := Lib.hid (fun t A C => by rw [dsa_size, dsa_size])
  obtain ⟨c0, c1, c13, c14, c15, c2⟩ := hbo.cells
  have zz := zeroD
  obtain ⟨V, hV⟩ : ∃ V, V = dsa t A C := ⟨_, rfl⟩
  have HV := Lib.hid hV
  obtain ⟨Z, hZ⟩ : ∃ Z, Z = dsa Sdz none 0 := ⟨_, rfl⟩
  have HZ := Lib.hid hZ
  obtain ⟨O, hO⟩ : ∃ O, O = o.cells := ⟨_, rfl⟩
  rw [← hZ] at zz hW HZS
  rw [← hV] at hW ⊢
  rw [← hO] at hW ⊢
  have HK := Lib.hid (show k ≤ 1000000 by omega)
  obtain ⟨lb, hby0⟩ := ho.by_
  have hby : Bytes W o.d.da o.d.dl lb := hby0.below hbo.bel (Nat.le_refl _)
  have HBY := Lib.hid hby
  obtain ⟨ck, hck⟩ : ∃ ck, ck = chk (s.own o.d o.d.da o.d.dc) lb := ⟨_, rfl⟩
  have HCK := Lib.hid hck
  obtain ⟨Alt, hAlt⟩ : ∃ Alt : World → Option Addr → Nat → Sd → Prop, Alt = fun w2 A' C' t' => (ck ≠ 0 ∧ t' = t ∧ A' = A ∧ C' = C) ∨ (ck = 0 ∧ t' = t.push o.rank (t.own o.d o.d.da o.d.dc) ∧ LR w2 W.heap.size A' C' t'.q.l) := ⟨_, rfl⟩
  have HAB : Hid (∀ w2 w3 A' C' t', Alt w2 A' C' t' → Below w2.heap.size w2 w3 → Alt w3 A' C' t') := Lib.hid (fun w2 w3 A' C' t' ha hb => by
    rw [hAlt] at ha ⊢
    exact ha.imp id (fun ⟨h1, h2, h3⟩ => ⟨h1, h2, h3.below hb (Nat.le_refl _)⟩))
  have HAL : Hid (∀ w2 A' C' t', Alt w2 A' C' t' → ∀ g, A'.map Addr.block = some g → g < w.heap.size ∨ W.heap.size ≤ g) := Lib.hid (fun w2 A' C' t' ha g hg => by
    rw [hAlt] at ha
    rcases ha with ⟨_, _, h3, _⟩ | ⟨_, _, h3⟩
    · rw [h3] at hg; exact .inl (HA.out g hg)
    · exact .inr (h3.low g hg).1)
  have HALX : Hid (∀ w2 A' C' t', Alt w2 A' C' t' → ∀ g, A'.map Addr.block = some g → A.map Addr.block = some g ∨ W.heap.size ≤ g) := Lib.hid (fun w2 A' C' t' ha g hg => by
    rw [hAlt] at ha
    rcases ha with ⟨_, _, h3, _⟩ | ⟨_, _, h3⟩
    · rw [h3] at hg; exact .inl hg
    · exact .inr (h3.low g hg).1)
  have CD : Hid (Calls Tryz.prog 32 #[.agg (dsa t A C), .int .i64 o.rank, o.d.val] W fun e w' => ∃ A' C' t' R, e = .returned (.tuple #[.agg R, .int .i64 ck]) ∧ Hid (R = dsa t' A' C') ∧ Hid (Below W.heap.size W w') ∧ Hid (Alt w' A' C' t')) := Lib.hid ((rpush15_any o.rank o.d lb t A C W HC.out.dl HC.out.ft.q.len HC.out.ft.q.lo HC.out.ft.q.hi (by have := HC.out.ft.dr; omega) hby).mono (fun e w' ⟨A', C', t', h1, h2, h3⟩ => ⟨A', C', t', _, by rw [h1, HC.out.own, hck], Lib.hid rfl, h2, Lib.hid (by rw [hAlt, hck, ← HC.out.own]; exact h3.out)⟩))
  have CP : Hid (∀ w2 A' C' t', Below W.heap.size W w2 → Alt w2 A' C' t' → Calls Tryz.prog 7 #[.pointer (some ⟨p, 0, none⟩), .int .i64 o.rank, o.d.val] w2 fun e w3 => e = .returned (.int .i64 ck) ∧ Hid (∃ s', (∃ S', Cx S' w3 B p s' t' A' C' (k + 1) ∧ ∀ j, S' j → S j ∨ w2.heap.size ≤ j) ∧ Below B W w3 ∧ Fr S w2 w3)) := Lib.hid (fun w2 A' C' t' hb ha => by
    rw [hAlt] at ha
    have hby2 : Bytes w2 o.d.da o.d.dl lb := hby.below hb (Nat.le_refl _)
    have hs2 := sb_ghost lb (HC.out.below hb).sb
    rcases ha with ⟨h1, rfl, rfl, rfl⟩ | ⟨h1, rfl, h3⟩
    · refine (@push_no_sb (gw w2 lb) _ _ _ _ o.rank o.d lb hs2 hby2 (by rw [← hck]; exact h1)).mono (fun e w3 ⟨he, haf⟩ => ⟨by rw [he, hck], Lib.hid ⟨s, ?_⟩⟩)
      exact HC.out.both hb haf.out (fun g hg => .inl hg) (HC.out.dl.below hb (Nat.le_refl _)) HC.out.cap HC.out.td HC.out.rel (HC.out.fs.upto (by omega)) (HC.out.ft.upto (by omega))
    · refine (@push_sb (gw w2 lb) _ _ _ _ _ o.rank o.d lb hs2 HC.out.fs HK.out hby2 ho.d.le ho.nil (by rw [← hck]; exact h1) ?_).mono (fun e w3 ⟨he, haf⟩ => ⟨by rw [he, h1], Lib.hid ?_⟩)
      · intro A3 hnew hz
        refine ⟨fun hlt => ?_, fun _ => rfl⟩
        cases A3 with
        | none => exact ⟨hby.size, hby.max, hby.byte, .inl (hz rfl)⟩
        | some a3 =>
          have e1 := hnew a3.block rfl
          have e2 := hlt a3.block rfl
          omega
      · obtain ⟨da, dc, h4, h5, h6⟩ := haf.out
        exact ⟨_, HC.out.pushed hb h4 h5 h6 hby hdl (fun g hg => h3.low g hg) h3.dl h3.capl⟩)
  rw [hn] at c0
  have ee : (ck == ck) = true := by simp
  have IDG := Lib.hid (Mq.infoC o.d)
  have HDV : Hid (o.d.val = .agg (Mq.dcells o.d)) := Lib.hid rfl
  obtain ⟨rk, hrk⟩ : ∃ rk, rk = o.rank := ⟨_, rfl⟩
  obtain ⟨D, hD⟩ : ∃ D, D = Mq.dcells o.d := ⟨_, rfl⟩
  have HDG : Hid (∀ w', Below W.heap.size W w' → w'.cell? ⟨w.heap.size + 1, 1, none⟩ = some (.int .i64 rk) ∧ Lies w' (w.heap.size + 1) 2 D) := Lib.hid (fun w' hb => ⟨by rw [hrk]; exact (hbo.below hb).cells.2.1, by rw [hD]; exact (hbo.below hb).dg⟩)
  rw [← hD] at IDG
  rw [HDV.out, ← hD, ← hrk] at CP CD
  rw [← hrk] at c1
  rw [← hV] at CD
  clear hV hZ hO hk6 ho hdl hbo h hn hck hAlt hby hby0 hrk hD
  go_enter Tryz.func12, Tryz.ntmps12
  go_upto_region 1 with fail
  rw [← hW]
  clear hW
  have HLV : Hid (Lies W w.heap.size 0 V) := Lib.hid (by rw [HV.out]; exact HBo.out.db.whole)
  have HLZ : Hid (Lies W (w.heap.size + 1 + 1) 0 Z) := Lib.hid (by rw [HZ.out]; exact HBo.out.z)
  have HVI : Hid ((Tryz.prog.info? 40).map (·.size) = some V.size) := Lib.hid (by rw [HV.out]; exact infoD15 _ _ _)
  go_upto_region 5 with (first
    | (with_reducible refine wpList_load_lies rfl 40 (.tmp 4) rfl w.heap.size 0 rfl V HLV.out _ Tryz.underlying40 rfl HVI.out ?_)
    | (with_reducible refine wpList_load_lies rfl 50 (.tmp 31) rfl (w.heap.size + 1) 2 rfl D (HDG.out W (Below.refl _ _)).2 _ Tryz.underlying50 rfl IDG.out ?_)
    | (go_at_call 32; (with_reducible refine (CD.out).mono ?_); rintro e w1 ⟨A', C', t', R, rfl, HR, HB1, HAT1⟩; have HZN : Hid (Lies (w1.alloc (.cells Z 40)) w1.heap.size 0 Z) := Lib.hid (Lies.new w1 Z _ (Below.refl _ _)); have HRS : Hid (R.size = Z.size) := Lib.hid (by rw [HR.out]; exact HZS.out _ _ _); have HRI : Hid ((Tryz.prog.info? 40).map (·.size) = some R.size) := Lib.hid (by rw [HR.out]; exact infoD15 _ _ _); have HR1 : Hid (R.all (·.oneCell') = true) := Lib.hid (by rw [HR.out]; exact dsa_one _ _ _))
    | ((with_reducible refine wpList_store_lies rfl 40 (.tmp 8) (.tmp 34) rfl w1.heap.size 0 rfl R rfl Z HZN.out HRS.out HRI.out HR1.out ?_); intro w2 N1 N2 N3)
    | fail)
  have HB12 : Hid (Below w1.heap.size w1 w2) := Lib.hid (N2.out.bel ((Below.refl _ _).alloc (Nat.le_refl _) _) (by simp) (Nat.le_refl _))
  have HBD : Hid (Below W.heap.size W w2.drew) := Lib.hid ((HB1.out.trans (HB12.out.mono HB1.out.size)).drew)
  have HG1 : Hid (w1.heap.size < w2.heap.size ∧ W.heap.size ≤ w1.heap.size) := Lib.hid ⟨N1.out.lt, HB1.out.size⟩
  have HLR2 : Hid (Lies w2.drew w1.heap.size 0 R) := Lib.hid N1.out.drew
  have HLZ2 : Hid (Lies w2.drew (w.heap.size + 1 + 1) 0 Z) := Lib.hid (HLZ.out.below HBD.out HLZ.out.lt)
  have HAT2 := Lib.hid (HAB.out w1 w2.drew A' C' t' HAT1.out HB12.out.drew)
  have CPP := Lib.hid (CP.out w2.drew A' C' t' HBD.out HAT2.out)
  have HAL2 := Lib.hid (HAL.out _ _ _ _ HAT2.out)
  have HALG := Lib.hid (HALX.out _ _ _ _ HAT2.out)
  have HDD := Lib.hid (HDG.out w2.drew HBD.out)
  clear c0 c1 c13 c14 c15 c2 CD CP HZN N2 N3 HAB HAL HALX
  generalize w1.heap.size = bq at *
  apply wp_one15 (F := fun w' => Hid (Lies w' (w.heap.size + 1 + 1) 0 R) ∧ Hid (∃ s', (∃ S', Cx S' w' B p s' t' A' C' (k + 800) ∧ ∀ j, S' j → S j ∨ w.heap.size ≤ j) ∧ Fr S w w'))
  case reg =>
    refine wp_region_noPanic ?_
    refine wp_region_held_drew (S := fun w' => w'.cell? ⟨w.heap.size + 1, 1, none⟩ = some (.int .i64 rk) ∧ Lies w' (w.heap.size + 1) 2 D ∧ Lies w' bq 0 R) (by kernel_rfl) ⟨HDD.out.1, HDD.out.2, HLR2.out⟩ (fun hHeld => ?_)
    refine taken_at (i := 0) (v := .agg R) (some 36) rfl rfl (by kernel_rfl) (by kernel_rfl) (by kernel_rfl) (fun _ _ _ h => h) (yields_loadAt 40 (.tmp 8) (.pointer (some ⟨bq, 0, none⟩)) rfl rfl rfl (fun w' hw => hw.2.2.loadAt 40 _ Tryz.underlying40 rfl HRI.out)) hHeld ?_
    try simp only [Act.put, List.setIfInBounds_toArray, List.set_cons_zero, List.set_cons_succ]
    refine taken_at (i := 1) (v := .pointer (some ⟨p, 0, none⟩)) (some 37) rfl rfl (by kernel_rfl) (by kernel_rfl) (by kernel_rfl) (fun _ _ _ h => h) (Or.inl ⟨rfl, fun _ _ => rfl⟩) hHeld ?_
    try simp only [Act.put, List.setIfInBounds_toArray, List.set_cons_zero, List.set_cons_succ]
    refine taken_at (i := 2) (v := .pointer (some ⟨w.heap.size + 1, 1, none⟩)) (some 38) rfl rfl (by kernel_rfl) (by kernel_rfl) (by kernel_rfl) (fun _ _ _ h => h) (Or.inl ⟨rfl, fun w' hw => by go_simp⟩) hHeld ?_
    try simp only [Act.put, List.setIfInBounds_toArray, List.set_cons_zero, List.set_cons_succ]
    refine taken_at (i := 3) (v := .int .i64 rk) (some 39) rfl rfl (by kernel_rfl) (by kernel_rfl) (by kernel_rfl) (fun _ _ _ h => h) (Or.inl ⟨rfl, fun w' hw => by have x1 := hw.1; go_simp⟩) hHeld ?_
    try simp only [Act.put, List.setIfInBounds_toArray, List.set_cons_zero, List.set_cons_succ]
    refine taken_at (i := 4) (v := .pointer (some ⟨w.heap.size + 1, 2, none⟩)) (some 40) rfl rfl (by kernel_rfl) (by kernel_rfl) (by kernel_rfl) (fun _ _ _ h => h) (Or.inl ⟨rfl, fun w' hw => by go_simp⟩) hHeld ?_
    try simp only [Act.put, List.setIfInBounds_toArray, List.set_cons_zero, List.set_cons_succ]
    refine taken_at (i := 5) (v := .agg D) (some 41) rfl rfl (by kernel_rfl) (by kernel_rfl) (by kernel_rfl) (fun _ _ _ h => h) (yields_loadAt 50 (.tmp 40) (.pointer (some ⟨w.heap.size + 1, 2, none⟩)) rfl rfl rfl (fun w' hw => hw.2.1.loadAt 50 _ Tryz.underlying50 rfl IDG.out)) hHeld ?_
    try simp only [Act.put, List.setIfInBounds_toArray, List.set_cons_zero, List.set_cons_succ]
    refine taken_at (i := 7) (v := .int .i64 ck) (some 43) rfl rfl (by kernel_rfl) (by kernel_rfl) (by kernel_rfl) (fun _ _ _ h => h) (Or.inl ⟨rfl, fun _ _ => rfl⟩) hHeld ?_
    try simp only [Act.put, List.setIfInBounds_toArray, List.set_cons_zero, List.set_cons_succ]
    refine wpAnyH_ready (rs := [6]) (by kernel_rfl) (by simp) ?_
    refine AllReadyH.cons (o := _) rfl (fun K hK => ?_) AllReadyH.nil
    go_simp
    go_at_call 7
    refine (CPP.out).mono ?_
    rintro e w3 ⟨rfl, HFN⟩
    obtain ⟨s', hcx, hbb, hfr⟩ := HFN.out
    have hl3 : Lies w3 bq 0 R := HLR2.out.keep (hfr.block _ HLR2.out.lt (fun hs => by have := HX.out _ hs; have := HG1.out; have := HBo.out.bel.size; omega))
    have hz3 : Lies w3 (w.heap.size + 1 + 1) 0 Z := HLZ2.out.keep (hfr.block _ HLZ2.out.lt (fun hs => by have := HX.out _ hs; omega))
    have hkb : w3.heap[w.heap.size + 1]? = w2.drew.heap[w.heap.size + 1]? := hfr.block _ HDD.out.2.lt (fun hs => by have := HX.out _ hs; omega)
    have hs3 : w3.cell? ⟨w.heap.size + 1, 1, none⟩ = some (.int .i64 rk) ∧ Lies w3 (w.heap.size + 1) 2 D ∧ Lies w3 bq 0 R := ⟨(World.cell?_of_block (w := w2.drew) (a := ⟨w.heap.size + 1, 1, none⟩) hkb).trans HDD.out.1, HDD.out.2.keep hkb, hl3⟩
    go_wp2_with fail
    refine hK.out _ _ hs3 (fun hHeld => ?_)
    clear hK K
    try simp only [Act.put, List.setIfInBounds_toArray, List.set_cons_zero, List.set_cons_succ]
    refine taken_at (i := 8) (v := .bool true) (some 44) rfl rfl (by kernel_rfl) (by kernel_rfl) (by kernel_rfl) (fun _ _ _ h => h) (Or.inl ⟨rfl, fun w' hw => by go_simp⟩) hHeld ?_
    try simp only [Act.put, List.setIfInBounds_toArray, List.set_cons_zero, List.set_cons_succ]
    refine wpAnyH_ready (rs := [9]) (by kernel_rfl) (by simp) ?_
    refine AllReadyH.cons (o := _) rfl (fun K hK => ?_) AllReadyH.nil
    refine step_store_at rfl rfl 40 (.tmp 6) (.tmp 36) rfl (w.heap.size + 1 + 1) 0 rfl R rfl Z hz3 HRS.out HRI.out HR1.out ?_
    intro w5 G1 G2 G3
    have hkb5 : w5.heap[w.heap.size + 1]? = w3.heap[w.heap.size + 1]? := G2.out.block _ hs3.2.1.lt (by omega)
    refine hK.out _ _ ⟨(World.cell?_of_block (w := w3) (a := ⟨w.heap.size + 1, 1, none⟩) hkb5).trans hs3.1, hs3.2.1.keep hkb5, hl3.keep (G2.out.block _ hl3.lt (by have := HG1.out; have := HBo.out.hs; omega))⟩ (fun hHeld => ?_)
    clear hK K
    refine taken_at (i := 10) (v := .bool true) (some 7) rfl rfl (by kernel_rfl) (by kernel_rfl) (by kernel_rfl) (fun _ _ _ h => h) (Or.inl ⟨rfl, fun _ _ => rfl⟩) hHeld ?_
    try simp only [Act.put, List.setIfInBounds_toArray, List.set_cons_zero, List.set_cons_succ]
    refine wpAnyH_done (by kernel_rfl) ?_ _
    refine NoPanic.normal ⟨rfl, rfl, G1, Lib.hid ⟨s', ?_⟩⟩
    obtain ⟨S', hcx, hS'⟩ := hcx
    exact do15_end (w := w) hcx (by omega) G2.out (fun hs => by
      have h1 := HBo.out.hs
      rcases hS' _ hs with h2 | h2
      · have := HX.out _ h2; omega
      · have := HBD.out.size; omega) (fun e => by
      have h1 := HBo.out.hs
      rcases HAL2.out _ e with h2 | h2 <;> omega) HB0.out (fun j hj => (hS' j hj).imp id (fun h2 => by have := HBD.out.size; have := HBo.out.hs; omega)) (((Fr.of_below HBo.out.bel).next (Fr.of_below HBD.out)).next hfr)
  case post =>
    intro w6 ⟨HL6, HC6⟩
    go_wp2
    refine bodyPost_ret (v := .tuple #[.agg R, .bool true]) (Mq.results_cell1 (p := 6) (u := 7) rfl _ w6 (w.heap.size + 1 + 1) _ _ rfl rfl (Lies.loadVar HL6.out 40 _ Tryz.underlying40 rfl HRI.out)) rfl ?_
    obtain ⟨s', h1, h2⟩ := HC6.out
    exact ⟨s', t', A', C', by rw [HR.out], Lib.hid h1, Lib.hid (fun g hg => (HALG.out g hg).imp id (fun h3 => by have := HBo.out.hs; omega)), Lib.hid h2⟩
end Go.Proofs.YtldhlknmabpanaaGreat.Mp
namespace Go.Proofs.YtldhlknmabpanaaGreat.Mp
open Go.RowKit

/-- Between two ticks. -/
structure Tk (w : World) (S0 : Nat → Prop) (B p : Nat) (s t : Sd) (A : Option Addr) (C k : Nat) (o : Op15) (W : World) : Prop where
  db : DB W w.heap.size t A C
  op : Lies W (w.heap.size + 1) 0 o.cells
  z : Lies W (w.heap.size + 2) 0 (dsa Sdz none 0)
  hs : w.heap.size + 3 ≤ W.heap.size
  cx : ∃ S, Cx S W B p s t A C k ∧ ∀ g, S g → S0 g ∨ w.heap.size + 3 ≤ g
  fr : Fr S0 w W
set_option maxRecDepth 100000 in
set_option maxHeartbeats 4000000 in
theorem do15_ticks (o : Op15) (hn : o.kind = 1) {S : Nat → Prop} {w : World} {B p : Nat} {s t : Sd} {A : Option Addr} {C k : Nat} (h : Cx S w B p s t A C k) (hk6 : k ≤ 900000) (ho : o.ok w) (hdl : o.d.dl = 0 ∨ ∀ g, o.d.da.map Addr.block = some g → g < B) :
    Calls Tryz.prog 12 #[.pointer (some ⟨p, 0, none⟩), .agg (dsa t A C), .agg o.cells] w (Do15 w S B p A (k + 800)) := by
  obtain ⟨W, hW⟩ : ∃ W, W = ((w.alloc (.cells (dsa t A C) 40)).alloc (.cells o.cells 58)).alloc (.cells (dsa Sdz none 0) 40) := ⟨_, rfl⟩
  have hbo := Bo.start w t A C o hW
  have HBo := Lib.hid hbo
  have HC := Lib.hid (h.below hbo.bel)
  have HX := Lib.hid h.lt
  have HA := Lib.hid (fun g hg => (h.ls g hg).2)
  have HB0 := Lib.hid h.hB
  have HK6 := Lib.hid hk6
  have HO := Lib.hid ho
  have HDL := Lib.hid hdl
  have HZS : Hid (∀ t A C, (dsa t A C).size = (dsa Sdz none 0).size) := Lib.hid (fun t A C => by rw [dsa_size, dsa_size])
  obtain ⟨c0, c1, c13, c14, c15, c2⟩ := hbo.cells
  have zz := zeroD
  obtain ⟨V, hV⟩ : ∃ V, V = dsa t A C := ⟨_, rfl⟩
  have HV := Lib.hid hV
  obtain ⟨Z, hZ⟩ : ∃ Z, Z = dsa Sdz none 0 := ⟨_, rfl⟩
  have HZ := Lib.hid hZ
  obtain ⟨O, hO⟩ : ∃ O, O = o.cells := ⟨_, rfl⟩
  rw [← hZ] at zz hW HZS
  rw [← hV] at hW ⊢
  rw [← hO] at hW ⊢
  have HK := Lib.hid (show k ≤ 900000 by omega)
  have HT0 : Hid (Tk w S B p s t A C (k + 4 * 0) o W) := Lib.hid ⟨hbo.db, hbo.op, hbo.z, hbo.hs, ⟨S, h.below hbo.bel, fun g hg => .inl hg⟩, Fr.of_below hbo.bel⟩
  have HS0 := Lib.hid h.lt
  rw [hn] at c0
  obtain ⟨nn, hnn⟩ : ∃ nn, nn = o.n := ⟨_, rfl⟩
  have HNN := Lib.hid hnn
  clear hV hZ hO hk6 ho hdl hbo h hn hnn HC HX
  go_enter Tryz.func12, Tryz.ntmps12
  go_upto_region 1 with fail
  rw [← hW]
  clear hW
  clear c1 c13 c14 c15 c2
  go_wp2
  clear c0
  go_loopw [10] (fun s10 wr => ∃ (i : Nat) (si ti : Sd), i ≤ 150 ∧ s10 = .int .i64 (i : Int) ∧ Hid (Tk w S B p si ti A C (k + 4 * i) o wr)) (fun s10 _ => 150 - (intOf s10).toNat)
  case atStart => exact ⟨0, s, t, by omega, rfl, HT0⟩
  case round =>
    obtain ⟨i, si, ti, hi, rfl, HT⟩ := hrel
    clear HT0
    obtain ⟨wo, hwo⟩ : ∃ wo, wo = wr := ⟨_, rfl⟩
    subst hwo
    have i0 : (0 : Int) ≤ (i : Int) := by omega
    have i3 : (i : Int) ≤ 150 := by omega
    have c13 : wo.cell? ⟨w.heap.size + 1, 13, none⟩ = some (.int .i64 nn) := by rw [HNN.out]; exact HT.out.op.cell 13 (by decide : 13 < 16)
    obtain ⟨V, hV⟩ : ∃ V, V = dsa ti A C := ⟨_, rfl⟩
    have HV := Lib.hid hV
    have HLV : Hid (Lies wo w.heap.size 0 V) := Lib.hid (by rw [hV]; exact HT.out.db.whole)
    have HLZ : Hid (Lies wo (w.heap.size + 1 + 1) 0 Z) := Lib.hid (by rw [HZ.out]; exact HT.out.z)
    have HVS : Hid (V.size = Z.size) := Lib.hid (by rw [hV]; exact HZS.out _ _ _)
    have HVI : Hid ((Tryz.prog.info? 40).map (·.size) = some V.size) := Lib.hid (by rw [hV]; exact infoD15 _ _ _)
    have HV1 : Hid (V.all (·.oneCell') = true) := Lib.hid (by rw [hV]; exact dsa_one _ _ _)
    by_cases hlt : (i : Int) < nn ∧ i < 150
    · obtain ⟨j1, j2⟩ := hlt
      have j3 : (i : Int) < 150 := by omega
      have HI : Hid (i + 1 ≤ 150) := Lib.hid j2
      have HDM : Hid (150 - (i + 1) < 150 - i) := Lib.hid (by omega)
      obtain ⟨S1, hcx, hS1⟩ := HT.out.cx
      have HC := Lib.hid hcx
      have HX : Hid (∀ g, S1 g → g < w.heap.size ∨ w.heap.size + 3 ≤ g) := Lib.hid (fun g hg => (hS1 g hg).imp (HS0.out g) id)
      have HX1 := Lib.hid hS1
      have HKI : Hid (k + 4 * i ≤ 1000000) := Lib.hid (by have := HK.out; omega)
      obtain ⟨n, hnn⟩ : ∃ n, n = si.tick.1.length := ⟨_, rfl⟩
      have hfl := hcx.rel.tick
      have hlen : ti.tick.1.length = n := by rw [hnn]; exact hfl.1.len.symm
      have HLEN := Lib.hid hlen
      have HN := Lib.hid hnn
      have HN1 : Hid (n ≤ 1000) := Lib.hid (by rw [hnn]; exact Nat.le_trans (tick_length si) (by omega))
      have HFT : Hid (si.tick.2.fit (k + 4 * (i + 1)) ∧ ti.tick.2.fit (k + 4 * (i + 1))) := Lib.hid ⟨(Sd.tick_fit hcx.fs).upto (by omega), (Sd.tick_fit hcx.ft).upto (by omega)⟩
      have HFL := Lib.hid hfl
      have CD : Hid (Calls Tryz.prog 33 #[.agg V] wo fun e w' => ∃ A1 C1 R, e = .returned (.tuple #[.agg R, .slice A1 n C1]) ∧ Hid (R = dsa ti.tick.2 A C) ∧ Hid (DRw w' wo.heap.size A1 C1 (ti.tick.1.map On.d)) ∧ Hid (Below wo.heap.size wo w')) := Lib.hid (by
        rw [hV]
        exact (rtick15_any ti A C (k + 4 * i) hcx.ft HKI.out wo).mono (fun e w' ⟨A1, C1, h1, h2, h3⟩ => ⟨A1, C1, _, by rw [h1, hlen], Lib.hid rfl, h2, h3⟩))
      have zz := zeroD
      rw [← HZ.out] at zz
      clear hcx hS1 hnn hfl hlen j2 hV hi
      go_upto_region 11 with (first
        | (with_reducible refine wpList_load_lies rfl 40 (.tmp 4) rfl w.heap.size 0 rfl V HLV.out _ Tryz.underlying40 rfl HVI.out ?_)
        | (go_at_call 33; (with_reducible refine (CD.out).mono ?_); rintro e w1 ⟨A1, C1, R, rfl, HR, HDR1, HB1⟩; have HZN : Hid (Lies (w1.alloc (.cells Z 40)) w1.heap.size 0 Z) := Lib.hid (Lies.new w1 Z _ (Below.refl _ _)); have HRS : Hid (R.size = Z.size) := Lib.hid (by rw [HR.out]; exact HZS.out _ _ _); have HRI : Hid ((Tryz.prog.info? 40).map (·.size) = some R.size) := Lib.hid (by rw [HR.out]; exact infoD15 _ _ _); have HR1 : Hid (R.all (·.oneCell') = true) := Lib.hid (by rw [HR.out]; exact dsa_one _ _ _))
        | ((with_reducible refine wpList_store_lies rfl 40 (.tmp 11) (.tmp 60) rfl w1.heap.size 0 rfl R rfl Z HZN.out HRS.out HRI.out HR1.out ?_); intro w2 N1 N2 N3)
        | fail)
      clear zz c13
      have HB12 : Hid (Below w1.heap.size w1 w2) := Lib.hid (N2.out.bel ((Below.refl _ _).alloc (Nat.le_refl _) _) (by simp) (Nat.le_refl _))
      have HBD : Hid (Below wo.heap.size wo w2) := Lib.hid (HB1.out.trans (HB12.out.mono HB1.out.size))
      have HG1 : Hid (w1.heap.size < w2.heap.size ∧ wo.heap.size ≤ w1.heap.size) := Lib.hid ⟨N1.out.lt, HB1.out.size⟩
      have HCD := Lib.hid (HC.out.below HBD.out)
      have HDR2 : Hid (DRw w2 wo.heap.size A1 C1 (ti.tick.1.map On.d)) := Lib.hid (ownsRow_below HDR1.out HB12.out (Nat.le_refl _))
      have CF : Hid (Calls Tryz.prog 35 #[.pointer (some ⟨p, 0, none⟩)] w2 fun e w3 => (∃ A2 C2 l', e = .returned (.slice A2 n C2) ∧ Hid (Mo.OwnT w3 w2.heap.size (.slice A2 n C2) n l') ∧ Hid (Likes w2 w3 si.tick.1 l')) ∧ Hid (After (@SB (gw w2 [])) w2 S1 p si.tick.2 w3)) := Lib.hid (by
        rw [HN.out]
        exact (@tick_sb (gw w2 []) _ _ _ _ _ (sb_ghost [] HCD.out.sb) HCD.out.fs HKI.out))
      have HNX : Hid (∀ w3, After (@SB (gw w2 [])) w2 S1 p si.tick.2 w3 → (∃ S', Cx S' w3 B p si.tick.2 ti.tick.2 A C (k + 4 * (i + 1)) ∧ ∀ j, S' j → S1 j ∨ w2.heap.size ≤ j) ∧ Below B wo w3 ∧ Fr S1 w2 w3) := Lib.hid (fun w3 ha => HC.out.both HBD.out ha (fun g hg => .inl hg) (by rw [tick_q]; exact HC.out.dl.below HBD.out (Nat.le_refl _)) (by rw [tick_q]; exact HC.out.cap) (by rw [tick_q]; exact HC.out.td) HFL.out.2 HFT.out.1 HFT.out.2)
      have HSM : Hid (∀ w3 A2 C2 l', Mo.OwnT w3 w2.heap.size (.slice A2 n C2) n l' → Likes w2 w3 si.tick.1 l' → Below B w2 w3 → Fr S1 w2 w3 → Calls Tryz.prog 34 #[.slice A2 n C2, .slice A1 n C1] w3 fun e w4 => e = .returned (.bool true) ∧ Below w3.heap.size w3 w4) := Lib.hid (fun w3 A2 C2 l' ho hk hb hf => by
        have ht := told_same (w := wo) HBD.out hb HFL.out.1 hk (fun q hq => (goes_path (tick_goes ti) q hq).2) (from_low HC.out (tick_from ti ti.q.l))
        have hd : DRw w3 wo.heap.size A1 C1 (ti.tick.1.map On.d) := drw_keep HDR2.out (fun q h1 h2 => hf.block q h2 (fun hs => by have := HC.out.lt q hs; omega))
        have hln : n = (ti.tick.1.map On.d).length := by rw [List.length_map, HLEN.out]
        exact same15_any ho hd hln HN1.out ht.2)
      have HBM : Hid (B ≤ w2.heap.size) := Lib.hid (Nat.le_trans HC.out.hB HBD.out.size)
      have HLR2 : Hid (Lies w2 w1.heap.size 0 R) := Lib.hid N1.out
      clear CD HZN HDR1 N1 N2 N3
      generalize w1.heap.size = bq at *
      go_upto_region 13 with (first
        | (go_at_call 35; (with_reducible refine (CF.out).mono ?_); rintro e w3 ⟨⟨A2, C2, l', rfl, HO2, HK2⟩, HAF⟩; have HRS3 := Lib.hid (HNX.out w3 HAF.out); have CS := Lib.hid (HSM.out w3 A2 C2 l' HO2.out HK2.out (HRS3.out.2.2.below HC.out.low HBM.out) HRS3.out.2.2))
        | (go_at_call 34; (with_reducible refine (CS.out).mono ?_); rintro e w4 ⟨rfl, HB4⟩)
        | fail)
      obtain ⟨⟨S', hcx, hS'⟩, hbb, hfr⟩ := HRS3.out
      have hk3 : ∀ g, w.heap.size ≤ g → g < w.heap.size + 3 → w3.heap[g]? = wo.heap[g]? := fun g h1 h2 => (hfr.block g (by have := HT.out.hs; have := HBD.out.size; omega) (fun hs => by rcases HX.out g hs with h | h <;> omega)).trans (HBD.out.block g (by have := HT.out.hs; omega))
      have hl4 : Lies w4 bq 0 R := (HLR2.out.keep (hfr.block _ HLR2.out.lt (fun hs => by have := HC.out.lt _ hs; have := HG1.out; omega))).below HB4 (by have := HG1.out; have := hfr.size; omega)
      have hk4 : ∀ g, w.heap.size ≤ g → g < w.heap.size + 3 → w4.heap[g]? = wo.heap[g]? := fun g h1 h2 => (HB4.block g (by have := HT.out.hs; have := HBD.out.size; have := hfr.size; omega)).trans (hk3 g h1 h2)
      have HLR4 := Lib.hid hl4
      have HK4 := Lib.hid hk4
      have HLV4 : Hid (Lies w4 w.heap.size 0 V) := Lib.hid (HLV.out.keep (hk4 _ (Nat.le_refl _) (by omega)))
      have HCX4 := Lib.hid (hcx.below HB4)
      have HS' := Lib.hid hS'
      have HBB4 : Hid (Fr S w w4) := Lib.hid (((HT.out.fr.next (Fr.of_below HBD.out)).then_ hfr (fun q hq => (HX1.out q hq).imp id (fun h => by omega))).next (Fr.of_below HB4))
      have HSZ4 : Hid (wo.heap.size ≤ w4.heap.size ∧ wo.heap.size ≤ w2.heap.size) := Lib.hid ⟨Nat.le_trans HBD.out.size (Nat.le_trans hfr.size HB4.size), HBD.out.size⟩
      have HRV : Hid (R.size = V.size) := Lib.hid (by rw [HRS.out, HVS.out])
      have HZ4 : Hid (Lies w4 (w.heap.size + 2) 0 (dsa Sdz none 0)) := Lib.hid (HT.out.z.keep (hk4 _ (by omega) (by omega)))
      have HOP4 : Hid (Lies w4 (w.heap.size + 1) 0 o.cells) := Lib.hid (HT.out.op.keep (hk4 _ (by omega) (by omega)))
      clear hcx hS' hbb hfr hk3 hl4 hk4 HB4 CF CS HNX HSM HAF
      go_wp2_with (first
        | (with_reducible refine wpList_load_lies rfl 40 (.tmp 11) rfl bq 0 rfl R HLR4.out _ Tryz.underlying40 rfl HRI.out ?_)
        | ((with_reducible refine wpList_store_lies rfl 40 (.tmp 4) (.tmp 68) rfl w.heap.size 0 rfl R rfl V HLV4.out HRV.out HRI.out HR1.out ?_); intro w5 M1 M2 M3)
        | fail)
      go_roundw
      case rel =>
        refine ⟨i + 1, si.tick.2, ti.tick.2, HI.out, by go_num, Lib.hid ⟨DB.of (by have := M1.out; rw [HR.out] at this; exact this), HOP4.out.keep (M2.out.block _ HOP4.out.lt (by omega)), HZ4.out.keep (M2.out.block _ HZ4.out.lt (by omega)), by have := HSZ4.out; have := HT.out.hs; have := M2.out.size; omega, ⟨S', HCX4.out.prt M2.out (fun hs => ?_) (fun e => by have := HA.out _ e; omega) HB0.out, fun g hg => ?_⟩, HBB4.out.prt (Nat.le_refl _) M2.out⟩⟩
        · rcases HS'.out _ hs with h2 | h2
          · rcases HX.out _ h2 with h3 | h3 <;> omega
          · have := HSZ4.out; have := HT.out.hs; omega
        · rcases HS'.out _ hg with h2 | h2
          · exact HX1.out _ h2
          · exact .inr (by have := HSZ4.out; have := HT.out.hs; omega)
      case measure => have := HDM.out; simp [intOf] <;> omega
    · have hcs : ¬ (i : Int) < nn ∨ ((i : Int) < nn ∧ ¬ (i : Int) < 150) := by omega
      have hend : ∀ w3 n3, Prt (w.heap.size + 2) 0 n3 wo w3 → (∃ S', Cx S' w3 B p si ti A C (k + 800) ∧ ∀ j, S' j → S j ∨ w.heap.size ≤ j) ∧ Fr S w w3 := fun w3 n3 hp => by
        obtain ⟨S1, hcx, hS1⟩ := HT.out.cx
        exact do15_end (w := w) hcx (by omega) hp (fun hs => by
          rcases hS1 _ hs with h | h
          · have := HS0.out _ h; omega
          · omega) (fun e => by have := HA.out _ e; omega) HB0.out (fun j hj => (hS1 j hj).imp id (fun h => by omega)) HT.out.fr
      have HEND := Lib.hid hend
      clear hend hlt hi hV
      rcases hcs with q1 | ⟨q1, q2⟩
      all_goals
        go_wp2_with (first
          | (with_reducible refine wpList_load_lies rfl 40 (.tmp 4) rfl w.heap.size 0 rfl V HLV.out _ Tryz.underlying40 rfl HVI.out ?_)
          | ((with_reducible refine wpList_store_lies rfl 40 (.tmp 6) (.tmp 69) rfl (w.heap.size + 1 + 1) 0 rfl V rfl Z HLZ.out HVS.out HVI.out HV1.out ?_); intro w3 N1 N2 N3)
          | fail)
        refine bodyPost_ret (v := .tuple #[.agg V, .bool true]) (Mq.results_cell1 (p := 6) (u := 7) rfl _ w3 (w.heap.size + 1 + 1) _ _ rfl rfl (Lies.loadVar N1.out 40 _ Tryz.underlying40 rfl HVI.out)) rfl ?_
        have hd := HEND.out w3 _ N2.out
        exact ⟨_, _, A, C, by rw [HV.out], Lib.hid hd.1, Lib.hid (fun g hg => .inl hg), Lib.hid hd.2⟩
end Go.Proofs.YtldhlknmabpanaaGreat.Mp
namespace Go.Proofs.YtldhlknmabpanaaGreat.Mp
open Go.RowKit

theorem do15_any (o : Op15) {S : Nat → Prop} {w : World} {B p : Nat} {s t : Sd} {A : Option Addr} {C k : Nat} (h : Cx S w B p s t A C k) (hk6 : k ≤ 900000) (ho : o.ok w) (hdl : o.d.dl = 0 ∨ ∀ g, o.d.da.map Addr.block = some g → g < B) :
    Calls Tryz.prog 12 #[.pointer (some ⟨p, 0, none⟩), .agg (dsa t A C), .agg o.cells] w (Do15 w S B p A (k + 800)) := by
  by_cases h0 : o.kind = 0
  · exact do15_push o h0 h hk6 ho hdl
  by_cases h1 : o.kind = 1
  · exact do15_ticks o h1 h hk6 ho hdl
  by_cases h2 : o.kind = 2
  · exact do15_flush o h2 h hk6 ho hdl
  by_cases h3 : o.kind = 3
  · exact do15_heard o h3 h hk6 ho hdl
  by_cases h4 : o.kind = 4
  · exact do15_trip o h4 h hk6 ho hdl
  by_cases h5 : o.kind = 5
  · exact do15_forget o h5 h hk6 ho hdl
  exact do15_none o ⟨h0, h1, h2, h3, h4, h5⟩ h hk6 ho hdl
/-- What a play answers: true, and a sender. -/
def Play15 (w : World) (e : Ending) (w' : World) : Prop := ∃ v R, e = .returned (.tuple #[v, .agg R, .bool true]) ∧ Hid (R.size = 167 ∧ R.all (·.oneCell') = true) ∧ Hid (Below w.heap.size w w')
theorem infoR15 {R : Array Value} (h : R.size = 167) : (Tryz.prog.info? 40).map (·.size) = some R.size := by rw [h]; exact info_d15
/-- Results of which the middle one lies in a cell. -/
theorem results_mid {fn : Func} {p q u : Tmp} {ty : TypeId} (h : fn.results = #[.tmp p, .cell q ty, .tmp u]) (tmps : Array Value) (w : World) (b : Nat) (v0 v1 v : Value) (hp : tmps.getD p undef = v0) (hq : tmps.getD q undef = .pointer (some ⟨b, 0, none⟩)) (hu : tmps.getD u undef = v)
    (h1 : (loadVar ty ⟨b, 0, none⟩).run Tryz.prog w = .ok v1 w) : (results fn tmps).run Tryz.prog w = .ok (.tuple #[v0, v1, v]) w := by
  have hp' : tmps[p]?.getD undef = v0 := by simpa using hp
  have hq' : tmps[q]?.getD undef = .pointer (some ⟨b, 0, none⟩) := by simpa using hq
  have hu' : tmps[u]?.getD undef = v := by simpa using hu
  simp [results, h, hp', hq', hu', asAddr, h1]
/-- The two boxes of the play. -/
theorem two_p (w : World) (r bu ro : Int) {W : World} (hW : W = (w.alloc (.cells #[.int .i64 r, .int .i64 bu, .int .i64 ro] 23)).alloc (.cells (dsa Sdz none 0) 40)) :
    Below w.heap.size w W ∧ Lies W w.heap.size 0 #[.int .i64 r, .int .i64 bu, .int .i64 ro] ∧ Lies W (w.heap.size + 1) 0 (dsa Sdz none 0) ∧ W.heap.size = w.heap.size + 2 := by
  subst hW
  refine ⟨((Below.refl _ _).alloc (Nat.le_refl _) _).alloc (by simp) _, ?_, ?_, by simp⟩
  · exact Lies.new w _ _ ((Below.refl _ _).alloc (Nat.le_refl _) _)
  · have := Lies.new (w.alloc (.cells #[.int .i64 r, .int .i64 bu, .int .i64 ro] 23)) (dsa Sdz none 0) 40 (Below.refl _ _)
    simpa using this
set_option maxRecDepth 100000 in
set_option maxHeartbeats 4000000 in
theorem played15_no (r bu ro : Int) (hno : ¬ (okB r bu = true ∧ 1 ≤ ro ∧ ro ≤ 256)) (a : Option Addr) (n c : Nat) (w : World) :
    Calls Tryz.prog 5 #[.agg #[.int .i64 r, .int .i64 bu, .int .i64 ro], .slice a n c] w (Play15 w) := by
  obtain ⟨W, hW⟩ : ∃ W, W = (w.alloc (.cells #[.int .i64 r, .int .i64 bu, .int .i64 ro] 23)).alloc (.cells (dsa Sdz none 0) 40) := ⟨_, rfl⟩
  obtain ⟨hb, hl, hz, hs⟩ := two_p w r bu ro hW
  have HB := Lib.hid hb
  have HS := Lib.hid hs
  have CN : Hid (∀ w, Calls Tryz.prog 6 #[.int .u32 7, .int .i64 r, .int .i64 bu, .int .i64 ro] w fun e w' => e = .returned (.tuple #[.pointer none, .int .i64 1]) ∧ Below w.heap.size w w') := Lib.hid (fun w => new_no 7 ro r bu w hno)
  have CD : Hid (∀ w, Calls Tryz.prog 10 #[.int .u32 7, .int .i64 r, .int .i64 bu, .int .i64 ro] w fun e w' => e = .returned (.tuple #[.agg (newc r bu bu ro 7), .bool false]) ∧ Below w.heap.size w w') := Lib.hid (fun w => by
    have h := rnew15_any 7 r bu ro w
    have e : (okB r bu && decide (1 ≤ ro) && decide (ro ≤ 256)) = false := by
      cases hb : okB r bu && decide (1 ≤ ro) && decide (ro ≤ 256) with
      | false => rfl
      | true =>
        simp only [Bool.and_eq_true, decide_eq_true_eq] at hb
        exact (hno ⟨hb.1.1, hb.1.2, hb.2⟩).elim
    rw [e] at h
    exact h)
  have HCL : Hid (∀ w', Below W.heap.size W w' → w'.cell? ⟨w.heap.size, 0, none⟩ = some (.int .i64 r) ∧ w'.cell? ⟨w.heap.size, 1, none⟩ = some (.int .i64 bu) ∧ w'.cell? ⟨w.heap.size, 2, none⟩ = some (.int .i64 ro)) := Lib.hid (fun w' h => ⟨(hl.below h hl.lt).cell 0 (by decide : 0 < 3), (hl.below h hl.lt).cell 1 (by decide : 1 < 3), (hl.below h hl.lt).cell 2 (by decide : 2 < 3)⟩)
  obtain ⟨c0, c1, c2⟩ := HCL.out W (Below.refl _ _)
  have zz := zeroD
  obtain ⟨Z, hZ⟩ : ∃ Z, Z = dsa Sdz none 0 := ⟨_, rfl⟩
  obtain ⟨R, hR⟩ : ∃ R, R = newc r bu bu ro 7 := ⟨_, rfl⟩
  have HRZ : Hid (R.size = Z.size) := Lib.hid (by rw [hR, hZ, newc_size, dsa_size])
  have HRI : Hid ((Tryz.prog.info? 40).map (·.size) = some R.size) := Lib.hid (infoR15 (by rw [hR, newc_size]))
  have HR1 : Hid (R.all (·.oneCell') = true) := Lib.hid (by rw [hR]; exact newc_one _ _ _ _ _)
  have HRS : Hid (R.size = 167) := Lib.hid (by rw [hR, newc_size])
  have HLZ : Hid (Lies W (w.heap.size + 1) 0 Z) := Lib.hid (by rw [hZ]; exact hz)
  rw [← hZ] at zz hW
  rw [← hR] at CD
  clear hb hl hz hs hZ hR hno
  go_enter Tryz.func5, Tryz.ntmps5
  go_upto_region 1 with fail
  rw [← hW]
  clear hW
  go_upto_region 2 with (first
    | (go_at_call 6; (with_reducible refine (CN.out _).mono ?_); rintro e w1 ⟨rfl, HB1⟩)
    | fail)
  have HB1' := Lib.hid HB1
  clear c0 c1 c2
  obtain ⟨c0, c1, c2⟩ := HCL.out w1 HB1
  clear HB1
  go_upto_region 4 with (first
    | (go_at_call 10; (with_reducible refine (CD.out _).mono ?_); rintro e w2 ⟨rfl, hb2⟩; have HB2 := Lib.hid hb2; clear hb2; have HZN : Hid (Lies (w2.alloc (.cells Z 40)) w2.heap.size 0 Z) := Lib.hid (Lies.new w2 Z _ (Below.refl _ _)))
    | ((with_reducible refine wpList_store_lies rfl 40 (.tmp 9) (.tmp 32) rfl w2.heap.size 0 rfl R rfl Z HZN.out HRZ.out HRI.out HR1.out ?_); intro w3 N1 N2 N3)
    | fail)
  have HB23 : Hid (Below w2.heap.size w2 w3) := Lib.hid (N2.out.bel ((Below.refl _ _).alloc (Nat.le_refl _) _) (by simp) (Nat.le_refl _))
  have HBW : Hid (Below W.heap.size W w3) := Lib.hid ((HB1'.out.trans (HB2.out.mono HB1'.out.size)).trans (HB23.out.mono (Nat.le_trans HB1'.out.size HB2.out.size)))
  have HG : Hid (w.heap.size + 2 ≤ w2.heap.size) := Lib.hid (by have h1 := HS.out; have h2 := HB1'.out.size; have h3 := HB2.out.size; omega)
  have HLZ3 : Hid (Lies w3.drew (w.heap.size + 1) 0 Z) := Lib.hid ((HLZ.out.below HBW.out HLZ.out.lt).drew)
  have HLR3 : Hid (Lies w3.drew w2.heap.size 0 R) := Lib.hid N1.out.drew
  have HBN : Hid (Below w.heap.size w w3.drew) := Lib.hid ((HB.out.trans (HBW.out.mono HB.out.size)).drew)
  clear c0 c1 c2 N1 N2 N3 HZN CN CD HCL HLZ
  generalize w2.heap.size = bq at *
  apply wp_one15 (F := fun w' => Hid (Lies w' (w.heap.size + 1) 0 R) ∧ Hid (Below w.heap.size w w'))
  case reg =>
    refine wp_region_noPanic ?_
    refine wp_region_held_drew (S := fun w' => Lies w' bq 0 R) (by kernel_rfl) HLR3.out (fun hHeld => ?_)
    refine taken_at (i := 0) (v := .agg R) (some 36) rfl rfl (by kernel_rfl) (by kernel_rfl) (by kernel_rfl) (fun _ _ _ h => h) (yields_loadAt 40 (.tmp 9) (.pointer (some ⟨bq, 0, none⟩)) rfl rfl rfl (fun w' hw => hw.loadAt 40 _ Tryz.underlying40 rfl HRI.out)) hHeld ?_
    try simp only [Act.put, List.setIfInBounds_toArray, List.set_cons_zero, List.set_cons_succ]
    refine taken_at (i := 1) (v := .pointer none) (some 37) rfl rfl (by kernel_rfl) (by kernel_rfl) (by kernel_rfl) (fun _ _ _ h => h) (Or.inl ⟨rfl, fun _ _ => rfl⟩) hHeld ?_
    try simp only [Act.put, List.setIfInBounds_toArray, List.set_cons_zero, List.set_cons_succ]
    refine taken_at (i := 2) (v := .bool true) (some 38) rfl rfl (by kernel_rfl) (by kernel_rfl) (by kernel_rfl) (fun _ _ _ h => h) (Or.inl ⟨rfl, fun w' hw => by go_simp⟩) hHeld ?_
    try simp only [Act.put, List.setIfInBounds_toArray, List.set_cons_zero, List.set_cons_succ]
    refine taken_at (i := 3) (v := .bool true) (some 39) rfl rfl (by kernel_rfl) (by kernel_rfl) (by kernel_rfl) (fun _ _ _ h => h) (Or.inl ⟨rfl, fun _ _ => rfl⟩) hHeld ?_
    try simp only [Act.put, List.setIfInBounds_toArray, List.set_cons_zero, List.set_cons_succ]
    refine taken_at (i := 4) (v := .int .i64 1) (some 40) rfl rfl (by kernel_rfl) (by kernel_rfl) (by kernel_rfl) (fun _ _ _ h => h) (Or.inl ⟨rfl, fun _ _ => rfl⟩) hHeld ?_
    try simp only [Act.put, List.setIfInBounds_toArray, List.set_cons_zero, List.set_cons_succ]
    refine taken_at (i := 5) (v := .bool true) (some 41) rfl rfl (by kernel_rfl) (by kernel_rfl) (by kernel_rfl) (fun _ _ _ h => h) (Or.inl ⟨rfl, fun w' hw => by go_simp⟩) hHeld ?_
    try simp only [Act.put, List.setIfInBounds_toArray, List.set_cons_zero, List.set_cons_succ]
    refine taken_at (i := 6) (v := .bool true) (some 42) rfl rfl (by kernel_rfl) (by kernel_rfl) (by kernel_rfl) (fun _ _ _ h => h) (Or.inl ⟨rfl, fun w' hw => by go_simp⟩) hHeld ?_
    try simp only [Act.put, List.setIfInBounds_toArray, List.set_cons_zero, List.set_cons_succ]
    refine taken_at (i := 7) (v := .pointer none) (some 4) rfl rfl (by kernel_rfl) (by kernel_rfl) (by kernel_rfl) (fun _ _ _ h => h) (Or.inl ⟨rfl, fun _ _ => rfl⟩) hHeld ?_
    try simp only [Act.put, List.setIfInBounds_toArray, List.set_cons_zero, List.set_cons_succ]
    refine wpAnyH_ready (rs := [8]) (by kernel_rfl) (by simp) ?_
    refine AllReadyH.cons (o := _) rfl (fun K hK => ?_) AllReadyH.nil
    refine step_store_at rfl rfl 40 (.tmp 5) (.tmp 36) rfl (w.heap.size + 1) 0 rfl R rfl Z HLZ3.out HRZ.out HRI.out HR1.out ?_
    intro w5 G1 G2 G3
    refine hK.out _ _ (HLR3.out.keep (G2.out.block _ HLR3.out.lt (by have := HG.out; omega))) (fun hHeld => ?_)
    clear hK K
    refine taken_at (i := 9) (v := .bool true) (some 6) rfl rfl (by kernel_rfl) (by kernel_rfl) (by kernel_rfl) (fun _ _ _ h => h) (Or.inl ⟨rfl, fun _ _ => rfl⟩) hHeld ?_
    try simp only [Act.put, List.setIfInBounds_toArray, List.set_cons_zero, List.set_cons_succ]
    refine wpAnyH_done (by kernel_rfl) ?_ _
    exact NoPanic.normal ⟨rfl, rfl, G1, Lib.hid (G2.out.bel HBN.out HBN.out.size (Nat.le_succ _))⟩
  case post =>
    intro w6 ⟨HL6, HB6⟩
    go_wp2
    refine bodyPost_ret (v := .tuple #[.pointer none, .agg R, .bool true]) (results_mid (p := 4) (q := 5) (u := 6) rfl _ w6 (w.heap.size + 1) _ _ _ rfl rfl rfl (Lies.loadVar HL6.out 40 _ Tryz.underlying40 rfl HRI.out)) rfl ?_
    exact ⟨_, R, rfl, Lib.hid ⟨HRS.out, HR1.out⟩, HB6⟩
end Go.Proofs.YtldhlknmabpanaaGreat.Mp
