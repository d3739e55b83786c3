/-
  Own text: Pop at a queue whose items bear a datagram; the calls at a queue that lies from a place on. (Written by gen_mqh.py.)
  Own text: the Sender as it lies in memory (THE LAYOUT: cells 0 to 29 the two ways, 30 session, 31 bucket, 32 queue, 33 now, 34 dropped, 35 held); New, Waiting, walked.
    Heard, send, Push, walked.
-/
import Derived.Test.YtldhlknmabpanaaGreatK17
import Derived.Test.YtldhlknmabpanaaGreatK13
import Derived.Test.YtldhlknmabpanaaGreatK14
namespace Go.Proofs.YtldhlknmabpanaaGreat.Mq
open Go.RowKit

set_option maxRecDepth 100000 in
theorem pop_some (b : Nat) (Q : Qn) (A : Option Addr) (C : Nat) (x : It) (t : List It) (hQ : Q.l = x :: t) (hn : Q.l.length ≤ 1000) (w : World) (h : QB w b Q A C) :
    Calls Tryz.prog 23 #[.pointer (some ⟨b, 0, none⟩)] w fun e w' => e = .returned (.tuple #[x.v.val, .int .i64 x.rank, .bool true]) ∧ Hid (QB w' b ⟨Q.room, Q.pushed, t⟩ A C) ∧ Hid (Frm b (A.map Addr.block) w w') := by
  obtain ⟨W1, hW1⟩ : ∃ W1, W1 = w.alloc (.cells (dcells nil) 50) := ⟨_, rfl⟩
  have HB1 : Hid (Below w.heap.size w W1) := Lib.hid (by rw [hW1]; exact (Below.refl _ _).alloc (Nat.le_refl _) _)
  have HS1 : Hid (W1.heap.size = w.heap.size + 1) := Lib.hid (by rw [hW1]; simp)
  have HR1 : Hid (Lies W1 w.heap.size 0 (dcells nil)) := Lib.hid (by rw [hW1]; exact Lies.new w (dcells nil) _ (Below.refl _ _))
  have HW1 := Lib.hid hW1
  have HQ1 : Hid (QB W1 b Q A C) := Lib.hid (h.below HB1.out (Nat.le_refl _))
  have CP := Lib.hid (peek_some b Q A C x t hQ W1 HQ1.out)
  have CT : Hid (∀ w', Below W1.heap.size W1 w' → Calls Tryz.prog 49 #[.pointer (some ⟨b, 0, none⟩), .int .i64 0] w' fun e w'' => e = .returned x.val ∧ Hid (QB w'' b ⟨Q.room, Q.pushed, t⟩ A C) ∧ Hid (Frm b (A.map Addr.block) w' w'')) := Lib.hid (fun w' hb => take_any x b 0 t.length Q [] t A C hQ rfl rfl hn w' (HQ1.out.below hb (Nat.le_refl _)))
  have HBW := Lib.hid h.blk.lt
  have HGL := Lib.hid h.lt
  clear h hQ hn hW1
  obtain ⟨D, hD⟩ : ∃ D, D = x.v := ⟨_, rfl⟩
  obtain ⟨r, hr⟩ : ∃ r, r = x.rank := ⟨_, rfl⟩
  rw [← hD, ← hr] at CP ⊢
  clear hD hr
  go_enter Tryz.func23, Tryz.ntmps23
  go_upto_region 1 with fail
  rw [← HW1.out]
  go_wp2_with (first
    | (go_at_call 18; (with_reducible refine (CP.out).mono ?_); rintro e w2 ⟨rfl, HB2⟩; have HZ3 : Hid (Lies (w2.alloc (.cells (dcells nil) 50)) w2.heap.size 0 (dcells nil)) := Lib.hid (Lies.new w2 (dcells nil) _ (Below.refl _ _)))
    | ((with_reducible refine wpList_store_lies rfl 50 (.tmp 5) (.tmp 11) rfl w2.heap.size 0 rfl (dcells D) rfl (dcells nil) HZ3.out rfl (infoC D) (dcells_one D) ?_); intro w3 J1 J2 J3; have HB3 : Hid (Below w2.heap.size w2 w3) := Lib.hid (J2.out.bel ((Below.refl _ _).alloc (Nat.le_refl _) _) (by simp) (Nat.le_refl _)); have HB13 : Hid (Below W1.heap.size W1 w3) := Lib.hid (HB2.out.trans (HB3.out.mono HB2.out.size)); have HR3 : Hid (Lies w3 w.heap.size 0 (dcells nil)) := Lib.hid (HR1.out.below HB13.out HR1.out.lt); clear J2 J3)
    | (go_at_call 49; (with_reducible refine (CT.out w3 HB13.out).mono ?_); rintro e w4 ⟨rfl, HQ4, HF4⟩; have HR4 : Hid (Lies w4 w.heap.size 0 (dcells nil)) := Lib.hid (HR3.out.keep (HF4.out.block _ HR3.out.lt (by have := HBW.out; omega) (fun e => by have := HGL.out _ e.symm; omega))); have HD4 : Hid (Lies w4 w2.heap.size 0 (dcells D)) := Lib.hid (J1.out.keep (HF4.out.block _ J1.out.lt (by have := HBW.out; have := HB2.out.size; have := HS1.out; omega) (fun e => by have := HGL.out _ e.symm; have := HB2.out.size; have := HS1.out; omega))))
    | (with_reducible refine wpList_load_lies rfl 50 (.tmp 5) rfl w2.heap.size 0 rfl (dcells D) HD4.out _ Tryz.underlying50 rfl (infoC D) ?_)
    | ((with_reducible refine wpList_store_lies rfl 50 (.tmp 2) (.tmp 17) rfl w.heap.size 0 rfl (dcells D) rfl (dcells nil) HR4.out rfl (infoC D) (dcells_one D) ?_); intro w5 N1 N2 N3)
    | fail)
  refine bodyPost_ret (v := .tuple #[D.val, .int .i64 r, .bool true]) (results_cell2 (p := 2) (u := 3) (v := 4) rfl _ w5 w.heap.size _ _ _ rfl rfl rfl (loadv_dg N1.out)) rfl ?_
  exact ⟨rfl, Lib.hid (HQ4.out.prt N2.out (by have := HBW.out; omega) (fun g hg => by have := HGL.out g hg; omega)), Lib.hid (Frm.prt ((Frm.of_below (HB1.out.trans (HB13.out.mono HB1.out.size))).trans HF4.out) (Nat.le_refl _) N2.out)⟩
/-- A queue whose blocks lie from a place on. -/
def From (w : World) (B b : Nat) (Q : Qn) : Prop := ∃ A C, QB w b Q A C ∧ B ≤ b ∧ B ≤ w.heap.size ∧ ∀ k, A.map Addr.block = some k → B ≤ k
theorem From.below {w w' : World} {B B' b : Nat} {Q : Qn} (h : From w B b Q) (hb : Below B' w w') (hB : w.heap.size ≤ B') : From w' B b Q := by
  obtain ⟨A, C, h1, h2, h3, h4⟩ := h
  exact ⟨A, C, h1.below hb hB, h2, Nat.le_trans h3 hb.size, h4⟩
theorem From.low {w : World} {B B' b : Nat} {Q : Qn} (h : From w B b Q) (hB : B' ≤ B) : From w B' b Q := by
  obtain ⟨A, C, h1, h2, h3, h4⟩ := h
  exact ⟨A, C, h1, Nat.le_trans hB h2, Nat.le_trans hB h3, fun k hk => Nat.le_trans hB (h4 k hk)⟩
theorem From.drewN {w : World} {B b : Nat} {Q : Qn} (h : From w B b Q) (k : Nat) : From (w.drewN k) B b Q := by
  obtain ⟨A, C, h1, h2, h3, h4⟩ := h
  exact ⟨A, C, h1.drewN k, h2, h3, h4⟩
theorem From.to {w w' : World} {B b : Nat} {Q Q' : Qn} {A : Option Addr} {C : Nat} (_ : QB w b Q A C) (hB : B ≤ b) (hw : B ≤ w.heap.size) (hs : ∀ k, A.map Addr.block = some k → B ≤ k) (h : QTo w b A Q' w') : From w' B b Q' ∧ Below B w w' := by
  obtain ⟨A2, C2, h1, h2, h3⟩ := h
  refine ⟨⟨A2, C2, h1, hB, Nat.le_trans hw h3.size, fun k hk => ?_⟩, h3.bel (Below.refl _ _) hw hB hs⟩
  rcases h2 with e | e
  · exact hs k (by rw [← e]; exact hk)
  · exact Nat.le_trans hw (e k hk)
/-- Its answer. -/
def Qn.front (Q : Qn) : Value := match Q.l with | [] => .tuple #[nil.val, .int .i64 0, .bool false] | x :: _ => .tuple #[x.v.val, .int .i64 x.rank, .bool true]
def Qn.pop (Q : Qn) : Qn := ⟨Q.room, Q.pushed, Q.l.tail⟩
end Go.Proofs.YtldhlknmabpanaaGreat.Mq
namespace Go.Proofs.YtldhlknmabpanaaGreat.Mp
open Go.RowKit

/-- What the bytes of what waits are held to be. -/
class Ghost where
  g : Option Addr → Nat → List Int → Prop
variable [Ghost]
def Gd (w : World) (d : Dg) : Prop := ∃ l, Bytes w d.da d.dl l ∧ Ghost.g d.da d.dl l
/-- The cells behind the ways. -/
abbrev tailC (s : Sd) (kb qb : Nat) : Array Value := #[.int .u32 (s.ses : Int), .pointer (some ⟨kb, 0, none⟩), .pointer (some ⟨qb, 0, none⟩), .int .u32 (s.now : Int), .int .i64 (s.dr : Int), .int .i64 (s.he : Int)]
section
variable {w : World} {p kb qb : Nat} {s : Sd}
/-- The sender's own block. -/
structure SBk (w : World) (p kb qb : Nat) (s : Sd) : Prop where
  w0 : PLie w p 0 (s.wy 0)
  w1 : PLie w p 15 (s.wy 1)
  tl : Lies w p 30 (tailC s kb qb)
omit [Ghost] in
theorem SBk.keep {w w' : World} {p kb qb : Nat} {s : Sd} (h : SBk w p kb qb s) (e : w'.heap[p]? = w.heap[p]?) : SBk w' p kb qb s := ⟨Lies.keep h.w0 e, Lies.keep h.w1 e, h.tl.keep e⟩
omit [Ghost] in
theorem SBk.ses (h : SBk w p kb qb s) : w.cell? ⟨p, 30, none⟩ = some (.int .u32 (s.ses : Int)) := h.tl.cell 0 (by decide : 0 < 6)
omit [Ghost] in
theorem SBk.now (h : SBk w p kb qb s) : w.cell? ⟨p, 33, none⟩ = some (.int .u32 (s.now : Int)) := h.tl.cell 3 (by decide : 3 < 6)
omit [Ghost] in
theorem SBk.bk (h : SBk w p kb qb s) : w.cell? ⟨p, 31, none⟩ = some (.pointer (some ⟨kb, 0, none⟩)) := h.tl.cell 1 (by decide : 1 < 6)
omit [Ghost] in
theorem SBk.q (h : SBk w p kb qb s) : w.cell? ⟨p, 32, none⟩ = some (.pointer (some ⟨qb, 0, none⟩)) := h.tl.cell 2 (by decide : 2 < 6)
omit [Ghost] in
theorem SBk.dr (h : SBk w p kb qb s) : w.cell? ⟨p, 34, none⟩ = some (.int .i64 (s.dr : Int)) := h.tl.cell 4 (by decide : 4 < 6)
omit [Ghost] in
theorem SBk.he (h : SBk w p kb qb s) : w.cell? ⟨p, 35, none⟩ = some (.int .i64 (s.he : Int)) := h.tl.cell 5 (by decide : 5 < 6)
end
omit [Ghost] in
/-- What bytes keep where their block stays. -/
theorem rd_keep {w w' : World} {d : Dg} (h : Rd w d) (e : ∀ g, d.da.map Addr.block = some g → w'.heap[g]? = w.heap[g]?) (hs : w.heap.size ≤ w'.heap.size) : Rd w' d := by
  obtain ⟨h1, l, hb, hc⟩ := h
  refine ⟨h1, l, ⟨hb.size, hb.max, hb.byte, hb.cell.imp id fun ⟨h0, b, off, ea, hl, hcl⟩ => ⟨h0, b, off, ea, Nat.lt_of_lt_of_le hl hs, fun i hi => ?_⟩⟩, hc⟩
  exact (World.cell?_of_block (w := w) (a := ⟨b, off + i, none⟩) (e b (by rw [ea]; rfl))).trans (hcl i hi)
theorem gd_keep {w w' : World} {d : Dg} (h : Gd w d) (e : ∀ g, d.da.map Addr.block = some g → w'.heap[g]? = w.heap[g]?) (hs : w.heap.size ≤ w'.heap.size) : Gd w' d := by
  obtain ⟨l, hb, hc⟩ := h
  exact ⟨l, ⟨hb.size, hb.max, hb.byte, hb.cell.imp id fun ⟨h0, b, off, ea, hl, hcl⟩ => ⟨h0, b, off, ea, Nat.lt_of_lt_of_le hl hs, fun i hi => (World.cell?_of_block (w := w) (a := ⟨b, off + i, none⟩) (e b (by rw [ea]; rfl))).trans (hcl i hi)⟩⟩, hc⟩
/-- It may go, and has the bytes that it is held to have. -/
def Rg (w : World) (d : Dg) : Prop := Rd w d ∧ Gd w d
theorem rg_keep {w w' : World} {d : Dg} (h : Rg w d) (e : ∀ g, d.da.map Addr.block = some g → w'.heap[g]? = w.heap[g]?) (hs : w.heap.size ≤ w'.heap.size) : Rg w' d := ⟨rd_keep h.1 e hs, gd_keep h.2 e hs⟩
/-- A sender, with the blocks that it owns. -/
structure SBd (w : World) (S : Nat → Prop) (p : Nat) (s : Sd) (kb qb : Nat) (A : Option Addr) (C : Nat) : Prop where
  blk : SBk w p kb qb s
  kblk : Pa.KBlk 107 w kb s.bk
  qblk : Mq.QB w qb s.q A C
  dat : ∀ x ∈ s.q.l, Rd w x.v ∧ ∀ g, x.v.da.map Addr.block = some g → S g ∧ g ≠ p ∧ g ≠ kb ∧ g ≠ qb ∧ some g ≠ A.map Addr.block
  inS : S p ∧ S kb ∧ S qb ∧ ∀ g, A.map Addr.block = some g → S g ∧ g ≠ p ∧ g ≠ kb
  ne : p ≠ kb ∧ p ≠ qb ∧ kb ≠ qb
  lt : ∀ k, S k → k < w.heap.size
  gho : ∀ x ∈ s.q.l, Gd w x.v
def SB (w : World) (S : Nat → Prop) (p : Nat) (s : Sd) : Prop := ∃ kb qb A C, SBd w S p s kb qb A C
theorem SBd.keep {w w' : World} {S : Nat → Prop} {p : Nat} {s : Sd} {kb qb : Nat} {A : Option Addr} {C : Nat} (h : SBd w S p s kb qb A C) (e : ∀ k, S k → w'.heap[k]? = w.heap[k]?) (hs : w.heap.size ≤ w'.heap.size) : SBd w' S p s kb qb A C :=
  ⟨h.blk.keep (e p h.inS.1), h.kblk.keep (e kb h.inS.2.1), h.qblk.keep (e qb h.inS.2.2.1) (fun g hg => e g (h.inS.2.2.2 g hg).1), fun x hx => ⟨rd_keep (h.dat x hx).1 (fun g hg => e g ((h.dat x hx).2 g hg).1) hs, (h.dat x hx).2⟩, h.inS, h.ne, fun k hk => Nat.lt_of_lt_of_le (h.lt k hk) hs, fun x hx => gd_keep (h.gho x hx) (fun g hg => e g ((h.dat x hx).2 g hg).1) hs⟩
theorem sb_keep {w w' : World} {S : Nat → Prop} {p : Nat} {s : Sd} (h : SB w S p s) (e : ∀ k, S k → w'.heap[k]? = w.heap[k]?) (hs : w.heap.size ≤ w'.heap.size) : SB w' S p s := by
  obtain ⟨kb, qb, A, C, h⟩ := h
  exact ⟨kb, qb, A, C, h.keep e hs⟩
theorem sb_lt {w : World} {S : Nat → Prop} {p : Nat} {s : Sd} (h : SB w S p s) : ∀ k, S k → k < w.heap.size := by
  obtain ⟨_, _, _, _, h⟩ := h
  exact h.lt
theorem waiting_sb {w : World} {S : Nat → Prop} {p : Nat} {s : Sd} (h : SB w S p s) :
    Calls Tryz.prog 9 #[.pointer (some ⟨p, 0, none⟩)] w fun e w' => e = .returned (.int .i64 (s.q.l.length : Int)) ∧ w = w' := by
  obtain ⟨kb, qb, A, C, h⟩ := h
  have c := h.blk.q
  have CL := Lib.hid (Mq.len_any A s.q.l.length C w h.qblk.blk)
  clear h
  go_enter Tryz.func9, Tryz.ntmps9
  go_wp2_with (first
    | (go_at_call 25; (with_reducible refine (CL.out).mono ?_); rintro e w1 ⟨rfl, rfl⟩)
    | fail)
  go_ret
  exact ⟨rfl, rfl⟩
set_option maxRecDepth 100000 in
theorem new_sb (ses room : Nat) (r b : Int) (w : World) (hok : okB r b = true) (h1 : 1 ≤ room) (h2 : room ≤ 256) :
    Calls Tryz.prog 6 #[.int .u32 (ses : Int), .int .i64 r, .int .i64 b, .int .i64 (room : Int)] w fun e w' => ∃ p, e = .returned (.tuple #[.pointer (some ⟨p, 0, none⟩), .int .i64 0]) ∧ Hid (After SB w (fun _ => False) p (Sd.new ses r b room) w') := by
  have CK := Lib.hid (fun w => Pa.new12_yes r b hok w)
  have CQ := Lib.hid (fun w => Mq.new_any room h1 h2 w)
  clear hok h1 h2
  go_enter Tryz.func6, Tryz.ntmps6
  go_wp2_with (first
    | (go_at_call 13; (with_reducible refine (CK.out _).mono ?_); rintro e w1 ⟨rfl, HK1, HB1⟩)
    | (go_at_call 14; (with_reducible refine (CQ.out _).mono ?_); rintro e w2 ⟨rfl, HQ2, HB2⟩)
    | fail)
  go_ret2
  have l1 : w.heap.size < w1.heap.size := HK1.out.lt
  have l2 : w1.heap.size < w2.heap.size := HQ2.out.blk.lt
  generalize hcs : (Array.mk _ : Array Value) = cs
  have hb3 : Below w2.heap.size w2 (w2.alloc (.cells cs 74)) := (Below.refl _ _).alloc (Nat.le_refl _) _
  have hL : Lies (w2.alloc (.cells cs 74)) w2.heap.size 0 cs := Lies.new w2 cs _ (Below.refl _ _)
  have hb : Below w.heap.size w (w2.alloc (.cells cs 74)) := HB1.out.trans ((HB2.out.trans (hb3.mono (Nat.le_of_lt l2))).mono (Nat.le_of_lt l1))
  have hs : w2.heap.size < (w2.alloc (.cells cs 74)).heap.size := by simp
  subst hcs
  refine ⟨w2.heap.size, rfl, Lib.hid ⟨⟨fun k => k = w2.heap.size ∨ k = w.heap.size ∨ k = w1.heap.size, ⟨w.heap.size, w1.heap.size, none, 0, ⟨?_, ?_, Mq.QB.below HQ2.out hb3 (Nat.le_refl _), fun x hx => (by cases hx), ⟨.inl rfl, .inr (.inl rfl), .inr (.inr rfl), fun g hg => (by simp at hg)⟩, ⟨by omega, by omega, by omega⟩, fun k hk => Nat.lt_of_le_of_lt (by omega : k ≤ w2.heap.size) hs, fun x hx => (by cases hx)⟩⟩, fun k hk => .inr (by omega)⟩, ⟨hb.os, hb.tape, hb.output, hb.size, fun k hk _ => hb.block k hk⟩⟩⟩
  · refine ⟨hL.sub 0 Pn.zero.cells (by decide : 0 + 15 ≤ 36) ?_, hL.sub 15 Pn.zero.cells (by decide : 15 + 15 ≤ 36) ?_, hL.sub 30 (tailC (Sd.new ses r b room) w.heap.size w1.heap.size) (by decide : 30 + 6 ≤ 36) ?_⟩
    case refine_3 =>
      intro j hj
      have : j < 6 := hj
      rcases (by omega : j = 0 ∨ j = 1 ∨ j = 2 ∨ j = 3 ∨ j = 4 ∨ j = 5) with rfl | rfl | rfl | rfl | rfl | rfl <;> rfl
    all_goals
      intro j hj
      have : j < 15 := hj
      rcases (by omega : j = 0 ∨ j = 1 ∨ j = 2 ∨ j = 3 ∨ j = 4 ∨ j = 5 ∨ j = 6 ∨ j = 7 ∨ j = 8 ∨ j = 9 ∨ j = 10 ∨ j = 11 ∨ j = 12 ∨ j = 13 ∨ j = 14) with rfl | rfl | rfl | rfl | rfl | rfl | rfl | rfl | rfl | rfl | rfl | rfl | rfl | rfl | rfl <;> rfl
  · exact (Pa.KBlk.below HK1.out HB2.out l1).below hb3 (Nat.lt_trans l1 l2)
/-! ### What turns one part of a sender -/
section
variable {w w' : World} {S : Nat → Prop} {p kb qb : Nat} {s : Sd} {A : Option Addr} {C : Nat}
/-- All but the sender's own block is as it was. -/
theorem SBd.own (h : SBd w S p s kb qb A C) {s' : Sd} {o n : Nat} (hr : Prt p o n w w') (hb : SBk w' p kb qb s') (h1 : s'.bk = s.bk) (h2 : s'.q = s.q) : SBd w' S p s' kb qb A C ∧ Fr S w w' := by
  have e : ∀ k, k < w.heap.size → k ≠ p → w'.heap[k]? = w.heap[k]? := fun k hk hne => hr.block k hk hne
  refine ⟨⟨hb, ?_, ?_, fun x hx => ?_, h.inS, h.ne, fun k hk => Nat.lt_of_lt_of_le (h.lt k hk) hr.size, fun x hx => (by rw [h2] at hx; exact gd_keep (h.gho x hx) (fun g hg => e g (h.lt g ((h.dat x hx).2 g hg).1) ((h.dat x hx).2 g hg).2.1) hr.size)⟩, ⟨hr.os, hr.tape, hr.output, hr.size, fun k hk hs => e k hk (fun ek => hs (by rw [ek]; exact h.inS.1))⟩⟩
  · rw [h1]; exact h.kblk.keep (e kb h.kblk.lt (Ne.symm h.ne.1))
  · rw [h2]; exact h.qblk.keep (e qb h.qblk.blk.lt (Ne.symm h.ne.2.1)) (fun g hg => e g (h.qblk.lt g hg) (h.inS.2.2.2 g hg).2.1)
  · rw [h2] at hx
    have hd := h.dat x hx
    exact ⟨rd_keep hd.1 (fun g hg => e g (h.lt g (hd.2 g hg).1) (hd.2 g hg).2.1) hr.size, hd.2⟩
theorem SBd.way {i : Nat} {q : Pn} (h : SBd w S p s kb qb A C) (hi : i < 2) (hp : PLie w' p (15 * i) q) (hr : Prt p (15 * i) 15 w w') : SBd w' S p { s with wy := upd s.wy i q } kb qb A C ∧ Fr S w w' := by
  refine h.own hr ?_ rfl rfl
  rcases (by omega : i = 0 ∨ i = 1) with rfl | rfl
  · exact ⟨hp, Lies.beside h.blk.w1 hr (.inr (by decide)), Lies.beside h.blk.tl hr (.inr (by decide))⟩
  · exact ⟨Lies.beside h.blk.w0 hr (.inl (by show 0 + 15 ≤ _; omega)), hp, Lies.beside h.blk.tl hr (.inr (by decide))⟩
/-- A cell behind the ways. -/
theorem SBd.tail (h : SBd w S p s kb qb A C) {s' : Sd} (j : Nat) (hj : j < 6) (v : Value) (hc : (tailC s kb qb).setIfInBounds j v = tailC s' kb qb) (h0 : s'.wy = s.wy) (h1 : s'.bk = s.bk) (h2 : s'.q = s.q) : SBd (w.setCell ⟨p, 30 + j, none⟩ v) S p s' kb qb A C ∧ Fr S w (w.setCell ⟨p, 30 + j, none⟩ v) := by
  have hr : Prt p 30 6 w (w.setCell ⟨p, 30 + j, none⟩ v) := (Prt.refl _ _ _ _).set j hj v
  refine h.own hr ⟨?_, ?_, ?_⟩ h1 h2
  · rw [h0]; exact Lies.beside h.blk.w0 hr (.inl (by show 0 + 15 ≤ _; omega))
  · rw [h0]; exact Lies.beside h.blk.w1 hr (.inl (by show 15 + 15 ≤ _; omega))
  · rw [← hc]; exact h.blk.tl.set j v
theorem SBd.bucket {k : Bk} (h : SBd w S p s kb qb A C) (hk : Pa.KBlk 107 w' kb k) (hf : Pa.Frm kb w w') : SBd w' S p { s with bk := k } kb qb A C ∧ Fr S w w' := by
  have e : ∀ j, j < w.heap.size → j ≠ kb → w'.heap[j]? = w.heap[j]? := hf.block
  have hb := h.blk.keep (e p (h.lt p h.inS.1) h.ne.1)
  refine ⟨⟨⟨hb.w0, hb.w1, hb.tl⟩, hk, h.qblk.keep (e qb h.qblk.blk.lt (Ne.symm h.ne.2.2)) (fun g hg => e g (h.qblk.lt g hg) (h.inS.2.2.2 g hg).2.2), fun x hx => ?_, h.inS, h.ne, fun j hj => Nat.lt_of_lt_of_le (h.lt j hj) hf.size, fun x hx => gd_keep (h.gho x hx) (fun g hg => e g (h.lt g ((h.dat x hx).2 g hg).1) ((h.dat x hx).2 g hg).2.2.1) hf.size⟩, ⟨hf.os, hf.tape, hf.output, hf.size, fun j hj hs => e j hj (fun ek => hs (by rw [ek]; exact h.inS.2.1))⟩⟩
  have hd := h.dat x hx
  exact ⟨rd_keep hd.1 (fun g hg => e g (h.lt g (hd.2 g hg).1) (hd.2 g hg).2.2.1) hf.size, hd.2⟩
/-- The queue turned; of what waits now each one waited, or its bytes lie in a block of their own. -/
theorem SBd.queue {q : Mq.Qn} (h : SBd w S p s kb qb A C) (hq : Mq.QTo w qb A q w') (hd : ∀ x ∈ q.l, x ∈ s.q.l ∨ (Rd w' x.v ∧ ∀ g, x.v.da.map Addr.block = some g → S g ∧ g ≠ p ∧ g ≠ kb ∧ g ≠ qb ∧ some g ≠ A.map Addr.block ∧ g < w.heap.size)) (hgd : ∀ x ∈ q.l, x ∈ s.q.l ∨ Gd w' x.v) :
    ∃ S' A' C', SBd w' S' p { s with q := q } kb qb A' C' ∧ (∀ k, S' k → S k ∨ w.heap.size ≤ k) ∧ Fr S w w' := by
  obtain ⟨A', C', h1, h2, h3⟩ := hq
  have e : ∀ j, j < w.heap.size → j ≠ qb → some j ≠ A.map Addr.block → w'.heap[j]? = w.heap[j]? := h3.block
  have hA : ∀ g, A'.map Addr.block = some g → A.map Addr.block = some g ∨ w.heap.size ≤ g := fun g hg => by
    rcases h2 with h2 | h2
    · exact .inl (by rw [← h2]; exact hg)
    · exact .inr (h2 g hg)
  have hp : some p ≠ A.map Addr.block := fun e => (h.inS.2.2.2 p e.symm).2.1 rfl
  have hk : some kb ≠ A.map Addr.block := fun e => (h.inS.2.2.2 kb e.symm).2.2 rfl
  have hb := h.blk.keep (e p (h.lt p h.inS.1) h.ne.2.1 hp)
  refine ⟨fun k => S k ∨ A'.map Addr.block = some k, A', C', ⟨⟨hb.w0, hb.w1, hb.tl⟩, h.kblk.keep (e kb h.kblk.lt h.ne.2.2 hk), h1, fun x hx => ?_, ⟨.inl h.inS.1, .inl h.inS.2.1, .inl h.inS.2.2.1, fun g hg => ⟨.inr hg, ?_⟩⟩, h.ne, fun k hk => ?_, fun x hx => (hgd x hx).elim (fun hx => gd_keep (h.gho x hx) (fun g hg => e g (h.lt g ((h.dat x hx).2 g hg).1) ((h.dat x hx).2 g hg).2.2.2.1 ((h.dat x hx).2 g hg).2.2.2.2) h3.size) id⟩, fun k hk => ?_, ⟨h3.os, h3.tape, h3.output, h3.size, fun k hk hs => e k hk (fun ek => hs (by rw [ek]; exact h.inS.2.2.1)) (fun ek => hs (h.inS.2.2.2 k ek.symm).1)⟩⟩
  · have new : ∀ g, (S g ∧ g ≠ p ∧ g ≠ kb ∧ g ≠ qb ∧ some g ≠ A.map Addr.block) → g < w.heap.size → (S g ∨ A'.map Addr.block = some g) ∧ g ≠ p ∧ g ≠ kb ∧ g ≠ qb ∧ some g ≠ A'.map Addr.block := fun g ⟨a1, a2, a3, a4, a5⟩ hl => ⟨.inl a1, a2, a3, a4, fun eg => by
      rcases hA g eg.symm with h | h
      · exact a5 h.symm
      · omega⟩
    rcases hd x hx with hx | ⟨hr, hx⟩
    · have hd := h.dat x hx
      exact ⟨rd_keep hd.1 (fun g hg => e g (h.lt g (hd.2 g hg).1) (hd.2 g hg).2.2.2.1 (hd.2 g hg).2.2.2.2) h3.size, fun g hg => new g (hd.2 g hg) (h.lt g (hd.2 g hg).1)⟩
    · exact ⟨hr, fun g hg => by
        obtain ⟨a1, a2, a3, a4, a5, a6⟩ := hx g hg
        exact new g ⟨a1, a2, a3, a4, a5⟩ a6⟩
  · rcases hA g hg with h' | h'
    · exact (h.inS.2.2.2 g h').2
    · have l1 := h.lt p h.inS.1
      have l2 := h.kblk.lt
      exact ⟨by omega, by omega⟩
  · rcases hk with hk | hk
    · exact Nat.lt_of_lt_of_le (h.lt k hk) h3.size
    · exact h1.lt k hk
  · rcases hk with hk | hk
    · exact .inl hk
    · rcases hA k hk with h' | h'
      · exact .inl (h.inS.2.2.2 k h').1
      · exact .inr h'
/-- A new block of bytes is its own, too. -/
theorem SBd.more (h : SBd w S p s kb qb A C) (T : Nat → Prop) (hT : ∀ k, T k → k < w.heap.size) : SBd w (fun k => S k ∨ T k) p s kb qb A C :=
  ⟨h.blk, h.kblk, h.qblk, fun x hx => ⟨(h.dat x hx).1, fun g hg => ⟨.inl ((h.dat x hx).2 g hg).1, ((h.dat x hx).2 g hg).2⟩⟩, ⟨.inl h.inS.1, .inl h.inS.2.1, .inl h.inS.2.2.1, fun g hg => ⟨.inl (h.inS.2.2.2 g hg).1, (h.inS.2.2.2 g hg).2⟩⟩, h.ne, fun k hk => hk.elim (h.lt k) (hT k), h.gho⟩
end
end Go.Proofs.YtldhlknmabpanaaGreat.Mp
namespace Go.Proofs.YtldhlknmabpanaaGreat.Mp
open Go.RowKit
variable [Ghost]

theorem after_own {w w' : World} {S : Nat → Prop} {p kb qb : Nat} {s : Sd} {A : Option Addr} {C : Nat} (h : SBd w' S p s kb qb A C ∧ Fr S w w') : After SB w S p s w' := ⟨⟨S, ⟨kb, qb, A, C, h.1⟩, fun _ hk => .inl hk⟩, h.2⟩
omit [Ghost] in
theorem Fr.refl (S : Nat → Prop) (w : World) : Fr S w w := ⟨rfl, rfl, rfl, Nat.le_refl _, fun _ _ _ => rfl⟩
theorem heard_sb {w : World} {S : Nat → Prop} {p k n : Nat} {s : Sd} (i : Int) (h : SB w S p s) (hf : s.fit k) (hk : k ≤ 1000000) (hn : n < 4294967296) :
    Calls Tryz.prog 37 #[.pointer (some ⟨p, 0, none⟩), .int .i64 i, .int .u32 (n : Int)] w fun e w' => (∃ c : Int, e = .returned (.int .i64 c)) ∧ Hid (After SB w S p (if 0 ≤ i ∧ i < 2 then s.hear i.toNat n else s) w') := by
  obtain ⟨kb, qb, A, C, h⟩ := h
  by_cases hi : 0 ≤ i ∧ i < 2
  · obtain ⟨h0, h1⟩ := hi
    obtain ⟨j, rfl⟩ : ∃ j : Nat, i = (j : Int) := ⟨i.toNat, by omega⟩
    have hj : j < 2 := by omega
    rw [if_pos ⟨h0, h1⟩, Int.toNat_natCast]
    have hw : PLie w p (15 * j) (s.wy j) := by
      rcases (by omega : j = 0 ∨ j = 1) with rfl | rfl
      · exact h.blk.w0
      · exact h.blk.w1
    have CH := Lib.hid (heard_any p (15 * j) k n (s.wy j) (hf.wy j hj) hk hn w hw)
    have HR := Lib.hid (fun (w' : World) h1 h2 => after_own (h.way (w' := w') (q := (s.wy j).heard n) hj h1 h2))
    rw [Nat.mul_comm] at CH
    have n0 : ¬ (j : Int) < 0 := by omega
    have n1 : (j : Int) < 2 := h1
    have CK := Lib.hid (known_yes j hj w)
    clear h hw hf hn hk
    go_enter Tryz.func37, Tryz.ntmps37
    go_wp2_with (first
      | (go_at_call 71; (with_reducible refine (CK.out).mono ?_); rintro e w0 ⟨rfl, rfl⟩)
      | (go_at_call 72; (with_reducible refine (CH.out).mono ?_); rintro e w1 ⟨rfl, HP, HW⟩)
      | fail)
    go_ret
    refine ⟨⟨_, rfl⟩, Lib.hid ?_⟩
    exact HR.out w1 (Nat.mul_comm j 15 ▸ HP.out) (Nat.mul_comm j 15 ▸ HW.out)
  · rw [if_neg hi]
    have ha := Lib.hid (after_own ⟨h, Fr.refl S w⟩)
    have CK := Lib.hid (known_no i hi w)
    clear h hf hn hk hi
    go_enter Tryz.func37, Tryz.ntmps37
    go_wp2_with (first
      | (go_at_call 71; (with_reducible refine (CK.out).mono ?_); rintro e w0 ⟨rfl, rfl⟩)
      | fail)
    go_ret
    exact ⟨⟨_, rfl⟩, ha⟩
end Go.Proofs.YtldhlknmabpanaaGreat.Mp
