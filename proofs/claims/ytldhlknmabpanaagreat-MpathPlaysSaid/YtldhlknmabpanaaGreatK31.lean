/-
  Own text: afford, Flush, walked. (Written by gen_mpx.py.)
-/
import Derived.Test.YtldhlknmabpanaaGreatK23
namespace Go.Proofs.YtldhlknmabpanaaGreat.Mp
open Go.RowKit
variable [Ghost]

set_option maxRecDepth 100000 in
theorem afford_sb {w : World} {S : Nat → Prop} {p kb qb C : Nat} {s : Sd} {A : Option Addr} (g : Nat) (r z : Int) (h : SBd w S p s kb qb A C) (hz0 : 0 ≤ z) (hz1 : z ≤ 100000) :
    Calls Tryz.prog 20 #[.pointer (some ⟨p, 0, none⟩), .slice (some ⟨g, 0, none⟩) (s.choose r).length 2, .int .i64 z] w fun e w' => e = .returned (.slice (some ⟨g, 0, none⟩) (s.many r z) 2) ∧ w = w' := by
  have c31 := h.blk.bk
  have CM := Lib.hid (Pa.may_any (2 * z) kb s.bk w h.kblk)
  have HM : Hid ((s.both r → s.bk.may (2 * z) = true → s.many r z = 2) ∧ ((s.both r → ¬ s.bk.may (2 * z) = true) → s.many r z = 1)) := Lib.hid ⟨fun h1 h2 => if_pos ⟨h1, h2⟩, fun h1 => if_neg (fun h2 => h1 h2.1 h2.2)⟩
  clear h
  by_cases hb : s.both r
  · have hl : (s.choose r).length = 2 := by unfold Sd.choose; rw [if_pos hb]; rfl
    rw [hl]
    have HB := Lib.hid hb
    generalize s.many r z = mn at *
    obtain ⟨b, hbm⟩ : ∃ b, b = s.bk.may (2 * z) := ⟨_, rfl⟩
    rw [← hbm] at CM HM
    clear hbm hb hl
    cases b with
    | true =>
      obtain rfl : mn = 2 := HM.out.1 HB.out rfl
      go_enter Tryz.func20, Tryz.ntmps20
      go_wp2
      refine wp_loop_rounds 1 ?_
      rw [rounds_succ]
      go_wp2_with (first
        | (go_at_call 51; (with_reducible refine (CM.out).mono ?_); rintro e w1 ⟨rfl, rfl⟩)
        | fail)
      go_ret
      exact ⟨rfl, rfl⟩
    | false =>
      obtain rfl : mn = 1 := HM.out.2 (fun _ h => by cases h)
      go_enter Tryz.func20, Tryz.ntmps20
      go_wp2
      refine wp_loop_rounds 2 ?_
      rw [rounds_succ]
      go_wp2_with (first
        | (go_at_call 51; (with_reducible refine (CM.out).mono ?_); rintro e w1 ⟨rfl, rfl⟩)
        | fail)
      rw [rounds_succ]
      go_wp2
      go_ret
      exact ⟨rfl, rfl⟩
  · have hl : (s.choose r).length = 1 := by unfold Sd.choose; rw [if_neg hb]; rfl
    rw [hl, HM.out.2 (fun h => absurd h hb)]
    clear hb hl HM CM
    go_enter Tryz.func20, Tryz.ntmps20
    go_wp2
    refine wp_loop_rounds 1 ?_
    rw [rounds_succ]
    go_wp2
    go_ret
    exact ⟨rfl, rfl⟩
/-- The blocks that a sender turns when it sends what waits. -/
def Tn (p kb qb : Nat) (A : Option Addr) (k : Nat) : Prop := k = p ∨ k = kb ∨ k = qb ∨ A.map Addr.block = some k
section
variable {w w' : World} {S : Nat → Prop} {p kb qb : Nat} {s : Sd} {A : Option Addr} {C : Nat}
theorem SBd.tn (h : SBd w S p s kb qb A C) : ∀ k, Tn p kb qb A k → S k := fun k hk => by
  rcases hk with rfl | rfl | rfl | hk
  · exact h.inS.1
  · exact h.inS.2.1
  · exact h.inS.2.2.1
  · exact (h.inS.2.2.2 k hk).1
omit [Ghost] in
theorem Fr.wide {T : Nat → Prop} (h : Fr T w w') (hT : ∀ k, T k → S k) : Fr S w w' := ⟨h.os, h.tape, h.output, h.size, fun k hk hs => h.block k hk (fun ht => hs (hT k ht))⟩
omit [Ghost] in
theorem Fr.of_kb (h : Pa.Frm kb w w') : Fr (Tn p kb qb A) w w' := ⟨h.os, h.tape, h.output, h.size, fun k hk hs => h.block k hk (fun e => hs (.inr (.inl e)))⟩
omit [Ghost] in
theorem Fr.of_qb (h : Mq.Frm qb (A.map Addr.block) w w') : Fr (Tn p kb qb A) w w' := ⟨h.os, h.tape, h.output, h.size, fun k hk hs => h.block k hk (fun e => hs (.inr (.inr (.inl e)))) (fun e => hs (.inr (.inr (.inr e.symm))))⟩
omit [Ghost] in
theorem Fr.of_p (h : Fr (fun k => k = p) w w') : Fr (Tn p kb qb A) w w' := h.wide (fun _ e => .inl e)
omit [Ghost] in
theorem Fr.next {w2 : World} {T : Nat → Prop} (h : Fr T w w') (g : Fr T w' w2) : Fr T w w2 := h.then_ g (fun _ hk => .inl hk)
theorem SBd.popped {x : Mq.It} {t : List Mq.It} (h : SBd w S p s kb qb A C) (hq : s.q.l = x :: t) (hb : Mq.QB w' qb ⟨s.q.room, s.q.pushed, t⟩ A C) (hf : Mq.Frm qb (A.map Addr.block) w w') : SBd w' S p (s.rest t) kb qb A C := by
  have e : ∀ j, j < w.heap.size → j ≠ qb → some j ≠ A.map Addr.block → w'.heap[j]? = w.heap[j]? := hf.block
  have hb2 := h.blk.keep (e p (h.lt p h.inS.1) h.ne.2.1 (fun e => (h.inS.2.2.2 p e.symm).2.1 rfl))
  refine ⟨⟨hb2.w0, hb2.w1, hb2.tl⟩, h.kblk.keep (e kb h.kblk.lt h.ne.2.2 (fun e => (h.inS.2.2.2 kb e.symm).2.2 rfl)), hb, fun y hy => ?_, h.inS, h.ne, fun k hk => Nat.lt_of_lt_of_le (h.lt k hk) hf.size, fun y hy => gd_keep (h.gho y (by rw [hq]; exact List.mem_cons_of_mem _ hy)) (fun g hg => e g (h.lt g ((h.dat y (by rw [hq]; exact List.mem_cons_of_mem _ hy)).2 g hg).1) ((h.dat y (by rw [hq]; exact List.mem_cons_of_mem _ hy)).2 g hg).2.2.2.1 ((h.dat y (by rw [hq]; exact List.mem_cons_of_mem _ hy)).2 g hg).2.2.2.2) hf.size⟩
  have hd := h.dat y (by rw [hq]; exact List.mem_cons_of_mem _ hy)
  exact ⟨rd_keep hd.1 (fun g hg => e g (h.lt g (hd.2 g hg).1) (hd.2 g hg).2.2.2.1 (hd.2 g hg).2.2.2.2) hf.size, hd.2⟩
end
omit [Ghost] in
theorem sends_snoc (d : Dg) (j : Nat) : ∀ (l : List Nat) (s : Sd), s.sends d (l ++ [j]) = ((s.sends d l).1 ++ [(s.sends d l).2.one j d], (s.sends d l).2.sent j)
  | [], s => rfl
  | i :: l, s => by
    show (s.one i d :: ((s.sent i).sends d (l ++ [j])).1, ((s.sent i).sends d (l ++ [j])).2) = _
    rw [sends_snoc d j l (s.sent i)]
    rfl
omit [Ghost] in
theorem take_snoc (l : List Nat) (i j : Nat) (h : l[i]? = some j) : l.take (i + 1) = l.take i ++ [j] := by
  rw [List.take_add_one, h]
  rfl
omit [Ghost] in
theorem need_wrap {s : Sd} (r : Int) (n : Nat) (h : n ≤ 1200) : 0 ≤ ((s.many r (33 + (n : Int)) : Nat) : Int) * (33 + (n : Int)) ∧ ((s.many r (33 + (n : Int)) : Nat) : Int) * (33 + (n : Int)) ≤ 100000 := by
  have := s.many_lo r (33 + (n : Int))
  rcases (by omega : s.many r (33 + (n : Int)) = 1 ∨ s.many r (33 + (n : Int)) = 2) with e | e <;> rw [e] <;> constructor <;> omega
/-- How many wait, read off the memory. -/
def qlen (qb : Nat) (w : World) : Nat := match w.cell? ⟨qb, 2, none⟩ with
  | some (.slice _ n _) => n
  | _ => 0
theorem SBd.qlen {w : World} {S : Nat → Prop} {p kb qb : Nat} {s : Sd} {A : Option Addr} {C : Nat} (h : SBd w S p s kb qb A C) : Mp.qlen qb w = s.q.l.length := by
  unfold Mp.qlen
  rw [h.qblk.blk.cells.2.2]
set_option maxRecDepth 100000 in
set_option maxHeartbeats 8000000 in
theorem flush_sb {w : World} {S : Nat → Prop} {p k : Nat} {s : Sd} (h : SB w S p s) (hf : s.fit k) (hk : k ≤ 1000000) :
    Calls Tryz.prog 8 #[.pointer (some ⟨p, 0, none⟩)] w fun e w' => Told2 w s.flush.1 e w' ∧ Hid (After SB w S p s.flush.2 w') := by
  obtain ⟨kb, qb, A, C, h⟩ := h
  have HLT := Lib.hid h.lt
  have HTN := Lib.hid h.tn
  have HK := Lib.hid hk
  have HH := Lib.hid h
  have HF := Lib.hid hf
  have HN : Hid (s.q.l.length ≤ 256) := Lib.hid (Nat.le_trans hf.q.len hf.q.hi)
  obtain ⟨F1, hF1⟩ : ∃ F1, F1 = s.flush.1 := ⟨_, rfl⟩
  obtain ⟨F2, hF2⟩ : ∃ F2, F2 = s.flush.2 := ⟨_, rfl⟩
  rw [← hF1, ← hF2]
  have HF12 : Hid (F1 = [] ++ (flushL s.q.l s).1 ∧ F2 = (flushL s.q.l s).2) := Lib.hid ⟨hF1, hF2⟩
  clear h hf hk hF1 hF2
  go_enter Tryz.func8, Tryz.ntmps8
  go_wp2
  go_loopw [3] (fun s3 wr => ∃ (l l' : List On) (A1 : Option Addr) (C1 : Nat) (sn : Sd) (j : Nat), s3 = .slice A1 l.length C1 ∧ Hid (Out w l l' A1 C1 wr) ∧ Hid (SBd wr S p sn kb qb A C) ∧ Hid (Fr (Tn p kb qb A) w wr) ∧ Hid (sn.fit (k + 3 * j)) ∧ Hid (j + sn.q.l.length = s.q.l.length) ∧ Hid (l.length ≤ 2 * j) ∧ Hid (F1 = l ++ (flushL sn.q.l sn).1 ∧ F2 = (flushL sn.q.l sn).2)) (fun _ wr => Mp.qlen qb wr)
  case atStart => exact ⟨[], [], none, 0, s, 0, rfl, Lib.hid (Out.start _ _), HH, Lib.hid (Fr.refl _ _), HF, Lib.hid (Nat.zero_add _), Lib.hid (by simp), HF12⟩
  case round =>
    obtain ⟨l, l', A1, C1, sn, j, rfl, HO, HS, HT, HFN, HJ, HLN, HE⟩ := hrel
    clear HH HF HF12
    have HQL := Lib.hid HS.out.qlen
    have cq := HS.out.blk.q
    have HSN : Hid (Fr S w wr) := Lib.hid (HT.out.wide HTN.out)
    match hq : sn.q.l with
    | [] =>
      have CP := Lib.hid (Mq.peek_none A C wr (by have := HS.out.qblk.blk; rw [hq] at this; exact this))
      have HE2 : Hid (F1 = l ∧ F2 = sn) := Lib.hid (by have := HE.out; rw [hq] at this; exact ⟨by rw [this.1]; simp [flushL], this.2⟩)
      clear hq
      go_wp2_with (first
        | (go_at_call 18; (with_reducible refine (CP.out).mono ?_); rintro e w2 ⟨rfl, HB2⟩; have HZ3 : Hid (Lies (w2.alloc (.cells (Mq.dcells Mq.nil) 50)) w2.heap.size 0 (Mq.dcells Mq.nil)) := Lib.hid (Lies.new w2 (Mq.dcells Mq.nil) _ (Below.refl _ _)))
        | ((with_reducible refine wpList_store_lies rfl 50 (.tmp 4) (.tmp 17) rfl w2.heap.size 0 rfl (Mq.dcells Mq.nil) rfl (Mq.dcells Mq.nil) HZ3.out rfl (Mq.infoC Mq.nil) (Mq.dcells_one Mq.nil) ?_); intro w3 J1 J2 J3; have HB3 : Hid (Below wr.heap.size wr w3) := Lib.hid (HB2.out.trans ((J2.out.bel ((Below.refl _ _).alloc (Nat.le_refl _) _) (by simp) (Nat.le_refl _)).mono HB2.out.size)))
        | fail)
      go_ret
      have hf3 : Fr S wr w3 := Fr.of_below HB3.out
      have ho3 := HO.out.fr hf3 HLT.out
      refine ⟨⟨A1, C1, l', by rw [HE2.out.1]; rfl, Lib.hid (by rw [HE2.out.1]; exact ho3.own), Lib.hid (by rw [HE2.out.1]; exact ho3.likes)⟩, Lib.hid ⟨⟨S, ⟨kb, qb, A, C, ?_⟩, fun _ hk => .inl hk⟩, HSN.out.next hf3⟩⟩
      rw [HE2.out.2]
      exact HS.out.keep (fun k hk => HB3.out.block k (HS.out.lt k hk)) HB3.out.size
    | x :: t =>
      have CP := Lib.hid (Mq.peek_some qb sn.q A C x t hq wr HS.out.qblk)
      have hdat := HS.out.dat x (by rw [hq]; exact List.mem_cons_self)
      have HRD := Lib.hid hdat.1
      have HNT : Hid (∀ g, x.v.da.map Addr.block = some g → ¬ Tn p kb qb A g ∧ g ≠ p ∧ S g) := Lib.hid (fun g hg => by
        obtain ⟨h0, h1, h2, h3, h4⟩ := hdat.2 g hg
        refine ⟨fun ht => ?_, h1, h0⟩
        rcases ht with h | h | h | h
        · exact h1 h
        · exact h2 h
        · exact h3 h
        · exact h4 h.symm)
      have HXL : Hid (x.v.dl ≤ 1200) := Lib.hid hdat.1.1.1
      have HQ := Lib.hid hq
      have HNL : Hid (sn.q.l.length ≤ 256 ∧ j < 256 ∧ sn.q.l.length = t.length + 1) := Lib.hid (by
        have h1 := HJ.out
        have h2 := HN.out
        have h3 : sn.q.l.length = t.length + 1 := by rw [hq]; rfl
        omega)
      have HEQ : Hid (F1 = l ++ (flushL (x :: t) sn).1 ∧ F2 = (flushL (x :: t) sn).2) := Lib.hid (by have := HE.out; rw [hq] at this; exact this)
      have hnw := need_wrap (s := sn) x.rank x.v.dl HXL.out
      obtain ⟨mn, hmn⟩ : ∃ mn, mn = sn.many x.rank (33 + (x.v.dl : Int)) := ⟨_, rfl⟩
      obtain ⟨nd, hnd⟩ : ∃ nd, nd = sn.need x := ⟨_, rfl⟩
      have hnd2 : (mn : Int) * (33 + (x.v.dl : Int)) = nd := by rw [hnd, hmn]; rfl
      have hwr : IntKind.i64.wrap nd = nd := by
        rw [← hmn, hnd2] at hnw
        rw [IntKind.wrap_i64]
        omega
      have HMN := Lib.hid hmn
      have HND := Lib.hid hnd
      have HGL : Hid (sn.goers x = (sn.choose x.rank).take mn ∧ (sn.goers x).length = mn) := Lib.hid ⟨by rw [hmn]; rfl, by rw [hmn]; exact sn.goers_length x⟩
      have HM2 : Hid (1 ≤ mn ∧ mn ≤ 2) := Lib.hid (by rw [hmn]; exact sn.many_lo _ _)
      have CSZ : Hid (∀ w1, Calls Tryz.prog 19 #[x.v.val] w1 fun e w' => e = .returned (.int .i64 (33 + (x.v.dl : Int))) ∧ Below w1.heap.size w1 w') := Lib.hid (fun w1 => size_any x.v (Nat.le_trans HXL.out (by decide)) w1)
      have CCH : Hid (∀ w1, SBd w1 S p sn kb qb A C → Calls Tryz.prog 21 #[.pointer (some ⟨p, 0, none⟩), .int .i64 x.rank] w1 (Chose w1 (sn.choose x.rank))) := Lib.hid (fun w1 hs => choose_sb x.rank ⟨kb, qb, A, C, hs⟩ HFN.out)
      have CAF : Hid (∀ w1 g, SBd w1 S p sn kb qb A C → Calls Tryz.prog 20 #[.pointer (some ⟨p, 0, none⟩), .slice (some ⟨g, 0, none⟩) (sn.choose x.rank).length 2, .int .i64 (33 + (x.v.dl : Int))] w1 fun e w' => e = .returned (.slice (some ⟨g, 0, none⟩) mn 2) ∧ w1 = w') := Lib.hid (fun w1 g hs => by rw [hmn]; exact afford_sb g x.rank (33 + (x.v.dl : Int)) hs (by omega) (by have := HXL.out; omega))
      have CBK : Hid (∀ w2, Pa.KBlk 107 w2 kb sn.bk → Calls Tryz.prog 22 #[.pointer (some ⟨kb, 0, none⟩), .int .i64 nd] w2 fun e w' => e = .returned (.bool (sn.bk.may nd)) ∧ Hid (Pa.KBlk 107 w' kb (sn.bk.take nd)) ∧ Hid (Pa.Frm kb w2 w')) := Lib.hid (fun w2 hk2 => Pa.take_any nd kb _ sn.bk HFN.out.bk (by have := HK.out; have := HNL.out; omega) w2 hk2)
      have CPO : Hid (∀ w2, SBd w2 S p (sn.paid nd) kb qb A C → Calls Tryz.prog 23 #[.pointer (some ⟨qb, 0, none⟩)] w2 fun e w' => e = .returned (.tuple #[x.v.val, .int .i64 x.rank, .bool true]) ∧ Hid (Mq.QB w' qb ⟨sn.q.room, sn.q.pushed, t⟩ A C) ∧ Hid (Mq.Frm qb (A.map Addr.block) w2 w')) := Lib.hid (fun w2 hs => Mq.pop_some qb sn.q A C x t HQ.out (Nat.le_trans HNL.out.1 (by decide)) w2 hs.qblk)
      obtain ⟨D, hD⟩ : ∃ D, D = x.v := ⟨_, rfl⟩
      obtain ⟨r, hr⟩ : ∃ r, r = x.rank := ⟨_, rfl⟩
      obtain ⟨zz, hzz⟩ : ∃ zz : Int, zz = 33 + (x.v.dl : Int) := ⟨_, rfl⟩
      have hz0 : 0 ≤ zz ∧ zz ≤ 100000 := by have := HXL.out; omega
      rw [← hzz] at CSZ CAF hnd2
      rw [← hD] at CP CSZ CPO HRD HNT
      rw [← hr] at CP CCH CAF CPO
      have HD := Lib.hid hD
      have HR := Lib.hid hr
      obtain ⟨chl, hchl⟩ : ∃ chl, chl = sn.choose r := ⟨_, rfl⟩
      rw [← hchl] at CCH CAF
      have HCHL := Lib.hid hchl
      have hm2 := HM2.out
      clear hdat hnw hmn hnd hD hr hzz hq HE hchl
      go_upto_region 5 with (first
        | (go_at_call 18; (with_reducible refine (CP.out).mono ?_); rintro e w2 ⟨rfl, HB2⟩; have HZ3 : Hid (Lies (w2.alloc (.cells (Mq.dcells Mq.nil) 50)) w2.heap.size 0 (Mq.dcells Mq.nil)) := Lib.hid (Lies.new w2 (Mq.dcells Mq.nil) _ (Below.refl _ _)))
        | ((with_reducible refine wpList_store_lies rfl 50 (.tmp 4) (.tmp 17) rfl w2.heap.size 0 rfl (Mq.dcells D) rfl (Mq.dcells Mq.nil) HZ3.out rfl (Mq.infoC D) (Mq.dcells_one D) ?_); intro w3 J1 J2 J3; have HB3 : Hid (Below wr.heap.size wr w3) := Lib.hid (HB2.out.trans ((J2.out.bel ((Below.refl _ _).alloc (Nat.le_refl _) _) (by simp) (Nat.le_refl _)).mono HB2.out.size)))
        | fail)
      have HKX : Hid (wr.heap.size ≤ w2.heap.size) := Lib.hid HB2.out.size
      clear cq J2 J3 HZ3 HB2
      generalize w2.heap.size = kx at *
      have HS3 : Hid (SBd w3 S p sn kb qb A C) := Lib.hid (HS.out.keep (fun k hk => HB3.out.block k (HS.out.lt k hk)) HB3.out.size)
      go_upto_region 7 with (first
        | (with_reducible refine wpList_load_lies rfl 50 (.tmp 4) rfl kx 0 rfl (Mq.dcells D) J1.out _ Tryz.underlying50 rfl (Mq.infoC D) ?_)
        | (go_at_call 19; (with_reducible refine (CSZ.out _).mono ?_); rintro e w4 ⟨rfl, hb4⟩; have HB4 := Lib.hid hb4; clear hb4; have HS4 : Hid (SBd w4 S p sn kb qb A C) := Lib.hid (HS3.out.keep (fun k hk => HB4.out.block k (HS3.out.lt k hk)) HB4.out.size))
        | (go_at_call 21; (with_reducible refine (CCH.out _ HS4.out).mono ?_); rintro e w5 ⟨g, rfl, HG5, HB5⟩; have HS5 : Hid (SBd w5 S p sn kb qb A C) := Lib.hid (HS4.out.keep (fun k hk => HB5.out.block k (HS4.out.lt k hk)) HB5.out.size))
        | (go_at_call 20; (with_reducible refine (CAF.out _ g HS5.out).mono ?_); rintro e w6 ⟨rfl, rfl⟩)
        | fail)
      have HB15 : Hid (Below wr.heap.size wr w5) := Lib.hid (HB3.out.trans ((HB4.out.trans (HB5.out.mono HB4.out.size)).mono HB3.out.size))
      have HL5 : Hid (Lies w5 kx 0 (Mq.dcells D)) := Lib.hid ((J1.out.below HB4.out J1.out.lt).below HB5.out (Nat.lt_of_lt_of_le J1.out.lt HB4.out.size))
      have HKG : Hid (w.heap.size ≤ kx ∧ w.heap.size ≤ g ∧ kx < w5.heap.size ∧ g < w5.heap.size ∧ wr.heap.size ≤ kx ∧ wr.heap.size ≤ g) := Lib.hid (by
        have h1 := HKX.out
        have h2 := HT.out.size
        have h3 := HB3.out.size
        have h4 := HB4.out.size
        have h5 := HG5.out.2
        have h6 := HL5.out.lt
        have h7 : g < w5.heap.size := by
          have hlen : 0 < (sn.goers x).length := by rw [HGL.out.2]; exact HM2.out.1
          have hc : 0 < chl.length := by rw [HCHL.out]; have := sn.choose_length r; omega
          exact World.block_lt_of_cell? w5 _ (HG5.out.1 0 (chl[0]'hc) (List.getElem?_eq_getElem hc))
        exact ⟨by omega, by omega, h6, h7, h1, by omega⟩)
      have HFT5 : Hid (Fr (Tn p kb qb A) w w5) := Lib.hid (HT.out.next (Fr.of_below HB15.out))
      have HO5 : Hid (Out w l l' A1 C1 w5 ∧ A1.map Addr.block ≠ some kx ∧ A1.map Addr.block ≠ some g) := Lib.hid ⟨HO.out.fr (Fr.of_below (S := S) HB15.out) HLT.out, fun e => by have := HO.out.high _ e; have := HKG.out; omega, fun e => by have := HO.out.high _ e; have := HKG.out; omega⟩
      have HRD5 : Hid (Rd w5 D) := Lib.hid (rd_keep2 HRD.out (fun g _ hl => HB15.out.block g hl) HB15.out.size)
      have HG0 := Lib.hid HG5.out.1
      have c31 := HS5.out.blk.bk
      clear J1 HS3 HS4 HB3 HB4 HB5 HG5 HO HS HRD HKX
      obtain ⟨mb, hmb⟩ : ∃ mb, mb = sn.bk.may nd := ⟨_, rfl⟩
      rw [← hmb] at CBK
      have HMB := Lib.hid hmb
      clear hmb
      cases mb with
      | false =>
        have HE2 : Hid (F1 = l ∧ F2 = sn.held) := Lib.hid (by
          have := HEQ.out
          rw [flushL, if_neg (by rw [← HND.out, ← HMB.out]; decide)] at this
          exact ⟨by rw [this.1]; simp, this.2⟩)
        have HTK : Hid (sn.bk.take nd = sn.bk) := Lib.hid (by unfold Bk.take; rw [← HMB.out]; rfl)
        have hhe : (sn.he : Int) ≤ 2000000 := by have := HFN.out.he; have := HK.out; have := HNL.out; omega
        go_upto_region 8 with (first
          | (go_at_call 22; (with_reducible refine (CBK.out _ HS5.out.kblk).mono ?_); rintro e w6 ⟨rfl, HK6, HF6⟩)
          | fail)
        have HS6 : Hid (SBd w6 S p sn kb qb A C) := Lib.hid (by
          have := (HS5.out.bucket HK6.out HF6.out).1
          rw [HTK.out] at this
          exact this)
        have HFT6 : Hid (Fr (Tn p kb qb A) w5 w6) := Lib.hid (Fr.of_kb HF6.out)
        have c35 := HS6.out.blk.he
        have f35 := Lies.frozen HS6.out.blk.tl 35
        go_wp2
        go_ret
        have ht := HS6.out.tail (s' := sn.held) 5 (by decide) (.int .i64 ((sn.he : Int) + 1)) rfl rfl rfl rfl
        have hfr : Fr S w5 _ := (HFT6.out.wide HTN.out).next ht.2
        have ho := HO5.out.1.fr hfr HLT.out
        refine ⟨⟨A1, C1, l', by rw [HE2.out.1]; rfl, Lib.hid (by rw [HE2.out.1]; exact ho.own), Lib.hid (by rw [HE2.out.1]; exact ho.likes)⟩, Lib.hid ⟨⟨S, ⟨kb, qb, A, C, ?_⟩, fun _ hk => .inl hk⟩, (HFT5.out.wide HTN.out).next hfr⟩⟩
        rw [HE2.out.2]
        exact ht.1
      | true =>
        go_upto_region 10 with (first
          | (go_at_call 22; (with_reducible refine (CBK.out _ HS5.out.kblk).mono ?_); rintro e w6 ⟨rfl, HK6, HF6⟩)
          | fail)
        have HS6 : Hid (SBd w6 S p (sn.paid nd) kb qb A C) := Lib.hid (HS5.out.bucket HK6.out HF6.out).1
        have HFT6 : Hid (Fr (Tn p kb qb A) w5 w6) := Lib.hid (Fr.of_kb HF6.out)
        have c32 := HS6.out.blk.q
        clear c31 hwr hnd2 hz0
        go_upto_region 11 with (first
          | (go_at_call 23; (with_reducible refine (CPO.out _ HS6.out).mono ?_); rintro e w7 ⟨rfl, HQ7, HF7⟩)
          | fail)
        clear c32
        have HS7 : Hid (SBd w7 S p ((sn.paid nd).rest t) kb qb A C) := Lib.hid (HS6.out.popped HQ.out HQ7.out HF7.out)
        have HFT7 : Hid (Fr (Tn p kb qb A) w5 w7) := Lib.hid (HFT6.out.next (Fr.of_qb HF7.out))
        have HTK : Hid (∀ q, w.heap.size ≤ q → ¬ Tn p kb qb A q) := Lib.hid (fun q h1 h2 => by have := HLT.out q (HTN.out q h2); omega)
        have HL7 : Hid (Lies w7 kx 0 (Mq.dcells D)) := Lib.hid (HL5.out.keep (HFT7.out.block kx HL5.out.lt (HTK.out kx HKG.out.1)))
        have HG7 : Hid (∀ (i j : Nat), chl[i]? = some j → w7.cell? ⟨g, i, none⟩ = some (.int .i64 (j : Int))) := Lib.hid (fun i j hij => (World.cell?_of_block (w := w5) (a := ⟨g, i, none⟩) (HFT7.out.block g HKG.out.2.2.2.1 (HTK.out g HKG.out.2.1))).trans (HG0.out i j hij))
        have HO7 : Hid (Out w l l' A1 C1 w7) := Lib.hid (HO5.out.1.fr (HFT7.out.wide HTN.out) HLT.out)
        have HRD7 : Hid (Rd w7 D) := Lib.hid (rd_keep2 HRD5.out (fun q hq hl => HFT7.out.block q hl (HNT.out q hq).1) HFT7.out.size)
        have HFW7 : Hid (Fr (Tn p kb qb A) w w7) := Lib.hid (HFT5.out.next HFT7.out)
        obtain ⟨gl, hgl⟩ : ∃ gl, gl = sn.goers x := ⟨_, rfl⟩
        have HGL2 : Hid (gl = chl.take mn ∧ gl.length = mn) := Lib.hid ⟨by rw [hgl, HCHL.out, HR.out]; exact HGL.out.1, by rw [hgl]; exact HGL.out.2⟩
        have HGT : Hid (∀ i ∈ gl, i < 2) := Lib.hid (by rw [hgl]; exact sn.goers_lt x)
        obtain ⟨s7, hs7⟩ : ∃ s7, s7 = (sn.paid nd).rest t := ⟨_, rfl⟩
        rw [← hs7] at HS7
        have HFI : Hid (sn.first x t = s7.sends D gl) := Lib.hid (by rw [hs7, hgl, HD.out, HND.out]; rfl)
        have HF7 : Hid (s7.fit (k + 3 * j + 1)) := Lib.hid (by rw [hs7]; exact Sd.rest_fit (Sd.paid_fit HFN.out nd) HQ.out)
        have HEF : Hid (F1 = l ++ ((s7.sends D gl).1 ++ (flushL t (s7.sends D gl).2).1) ∧ F2 = (flushL t (s7.sends D gl).2).2) := Lib.hid (by
          have := HEQ.out
          rw [flushL, if_pos (by rw [← HND.out]; exact HMB.out.symm), HFI.out] at this
          exact this)
        have HT7 : Hid ((s7.sends D gl).2.q.l = t) := Lib.hid (by rw [(sends_keep D gl s7).1, hs7]; rfl)
        have HF9 : Hid ((s7.sends D gl).2.fit (k + 3 * (j + 1))) := Lib.hid (by rw [← HFI.out]; exact (Sd.first_fit HFN.out HQ.out).upto (by omega))
        have HKXG : Hid (kx < w7.heap.size ∧ g < w7.heap.size) := Lib.hid ⟨HL7.out.lt, Nat.lt_of_lt_of_le HKG.out.2.2.2.1 HFT7.out.size⟩
        clear HEQ HFI hs7 hgl HF6 HK6 HS6 HFT6 HS5 HL5 HG0 HRD5 CBK CPO CSZ CCH CAF CP HMB HQ HCHL HGL HFT5 HFT7
        obtain ⟨wo, hwo⟩ : ∃ wo, wo = wr := ⟨_, rfl⟩
        subst hwo
        go_wp2
        go_loopw [3, 56] (fun s3 s56 wx => ∃ (i : Nat) (l2 : List On) (A2 : Option Addr) (C2 : Nat), i ≤ mn ∧ s3 = .slice A2 (l ++ (s7.sends D (gl.take i)).1).length C2 ∧ s56 = .int .i64 (i : Int) ∧ Hid (Out w (l ++ (s7.sends D (gl.take i)).1) l2 A2 C2 wx) ∧ Hid (SBd wx S p (s7.sends D (gl.take i)).2 kb qb A C) ∧ Hid (Fr (Tn p kb qb A) w wx) ∧ Hid (Lies wx kx 0 (Mq.dcells D)) ∧ Hid (∀ (i j : Nat), chl[i]? = some j → wx.cell? ⟨g, i, none⟩ = some (.int .i64 (j : Int))) ∧ Hid (A2.map Addr.block ≠ some kx ∧ A2.map Addr.block ≠ some g ∧ g < wx.heap.size) ∧ Hid (Rd wx D)) (fun _ s56 _ => mn - (intOf s56).toNat)
        case atStart => exact ⟨0, l', A1, C1, Nat.zero_le _, by simp [Sd.sends], rfl, Lib.hid (by simpa [Sd.sends] using HO7.out), HS7, HFW7, HL7, HG7, Lib.hid ⟨HO5.out.2.1, HO5.out.2.2, HKXG.out.2⟩, HRD7⟩
        case round =>
          obtain ⟨i, l2, A2, C2, hi, rfl, rfl, HOx, HSx, HFx, HLx, HGx, HAx, HRx⟩ := hrel
          clear HS7 HO7 HL7 HG7 HFW7 HRD7 HO5
          by_cases hlt : i < mn
          · obtain ⟨jj, hjj⟩ : ∃ jj, gl[i]? = some jj := ⟨_, List.getElem?_eq_getElem (by rw [HGL2.out.2]; exact hlt)⟩
            have hjl : jj < 2 := HGT.out jj (List.mem_of_getElem? hjj)
            have hcj : chl[i]? = some jj := by
              rw [HGL2.out.1, List.getElem?_take_of_lt hlt] at hjj
              exact hjj
            have cg := HGx.out i jj hcj
            have HTS := Lib.hid (take_snoc gl i jj hjj)
            have HSN2 := Lib.hid (sends_snoc D jj (gl.take i) s7)
            have HFI2 := Lib.hid (sends_fit D (gl.take i) s7 _ (fun q hq => HGT.out q (List.mem_of_mem_take hq)) HF7.out)
            have HLL : Hid ((l ++ (s7.sends D (gl.take i)).1).length + 1 ≤ 100000) := Lib.hid (by
              rw [List.length_append, sends_length, List.length_take]
              have := HLN.out
              have := HNL.out
              have := HM2.out
              omega)
            have HJJ := Lib.hid hjl
            have i0 : (i : Int) < (mn : Int) := by omega
            have i1 : (mn : Int) ≤ 2 := by omega
            have HI := Lib.hid hlt
            generalize hlx : l ++ (s7.sends D (gl.take i)).1 = lx at *
            generalize (s7.sends D (gl.take i)).2 = so at *
            have HLX := Lib.hid hlx
            clear hlx
            have CSE := Lib.hid (send_sb D hjl (HFI2.out.wy jj hjl).nx HSx.out HRx.out (fun q hq => (HNT.out q hq).2.1))
            have HY : Hid (∀ l, Bytes w (so.one jj D).d.da (so.one jj D).d.dl l → Bytes wr (so.one jj D).d.da (so.one jj D).d.dl l) := Lib.hid (fun l (hl : Bytes w D.da D.dl l) => bytes_keep (w' := wr) hl (fun q hq hlq => HFx.out.block q hlq (HNT.out q hq).1) HFx.out.size)
            unfold Sends at CSE
            clear hi hlt hjj hcj hjl
            go_wp2_with (first
              | (with_reducible refine wpList_load_lies rfl 50 (.tmp 4) rfl kx 0 rfl (Mq.dcells D) HLx.out _ Tryz.underlying50 rfl (Mq.infoC D) ?_)
              | (go_at_call 24; (with_reducible refine (CSE.out).mono ?_); rintro e w4 ⟨o, rfl, HO4, HS4, HF4⟩; have HX4 := Lib.hid (tick_room HOx.out HO4.out.1 HO4.out.2.1 HO4.out.2.2 HF4.out (HLT.out p HSx.out.inS.1) HFx.out.size HY.out); have HBA : Hid (w.heap.size ≤ (w4.alloc (.cells (Mo.ocells o) 87)).heap.size) := Lib.hid (Nat.le_trans HFx.out.size (Nat.le_trans HF4.out.size (by simp))); have HNW := Lib.hid (news_one w4 o))
              | (with_reducible refine wpList_build_one rfl 51 87 (.tmp 64) rfl (.agg Mo.zc) 12 96 (Mo.ocells o) rfl Tryz.underlying51 info_sent rfl (by decide) (by decide) ?_)
              | ((with_reducible refine Mo.wpList_append_items (w := w4.alloc (.cells (Mo.ocells o) 87)) rfl (.tmp 60) (.tmp 65) rfl w.heap.size A2 lx.length C2 rfl l2 HX4.out.1.own ⟨w4.heap.size, 0, none⟩ 1 1 rfl [o] rfl HNW.out HLL.out HBA.out ?_); intro A5 C5 w5 HO5 HM5)
              | fail)
            have HP5 := Lib.hid (HX4.out.1.put HX4.out.2 HM5.out HO5.out)
            have hlow := HOx.out.low
            have hkl : kx < w4.heap.size := Nat.lt_of_lt_of_le HLx.out.lt HF4.out.size
            have hgl4 : g < w4.heap.size := Nat.lt_of_lt_of_le HAx.out.2.2 HF4.out.size
            have hpk : kx ≠ p := fun e => by have := HLT.out p HSx.out.inS.1; have := HKG.out; omega
            have hpg : g ≠ p := fun e => by have := HLT.out p HSx.out.inS.1; have := HKG.out; omega
            go_roundw
            case rel =>
              refine ⟨i + 1, l2 ++ [o], A5, C5, HI.out, by rw [HTS.out, HSN2.out, ← List.append_assoc, HLX.out]; simp, by go_num, Lib.hid (by rw [HTS.out, HSN2.out, ← List.append_assoc, HLX.out]; exact HP5.out), Lib.hid (by rw [HTS.out, HSN2.out]; exact HS4.out.keep (fun q hq => row_keep HM5.out q (HS4.out.lt q hq) (hlow q (HLT.out q hq))) (row_size HM5.out)), Lib.hid (row_fr HM5.out hlow (HFx.out.next (Fr.of_p HF4.out))), Lib.hid ?_, Lib.hid (fun i' j' hij => ?_), Lib.hid ⟨row_ne HM5.out kx hkl HAx.out.1, row_ne HM5.out g hgl4 HAx.out.2.1, Nat.lt_of_lt_of_le hgl4 (row_size HM5.out)⟩, Lib.hid ?_⟩
              · exact (HLx.out.keep (HF4.out.block kx HLx.out.lt hpk)).keep (row_keep HM5.out kx hkl HAx.out.1)
              · exact (World.cell?_of_block (w := w4) (a := ⟨g, i', none⟩) (row_keep HM5.out g hgl4 HAx.out.2.1)).trans ((World.cell?_of_block (w := wr) (a := ⟨g, i', none⟩) (HF4.out.block g HAx.out.2.2 hpg)).trans (HGx.out i' j' hij))
              · exact rd_keep2 (rd_keep2 HRx.out (fun q hq hl => HF4.out.block q hl (HNT.out q hq).2.1) HF4.out.size) (fun q hq hl => row_keep HM5.out q hl (hlow q (HLT.out q (HNT.out q hq).2.2))) (row_size HM5.out)
            case measure =>
              have := HI.out
              simp [intOf]
              omega
          · obtain rfl : i = mn := by omega
            clear hi hlt
            have htk : gl.take i = gl := by rw [← HGL2.out.2]; exact List.take_length
            rw [htk] at HOx HSx
            go_wp2
            go_roundw
            case rel =>
              refine ⟨l ++ (s7.sends D gl).1, l2, A2, C2, (s7.sends D gl).2, j + 1, by rw [htk], HOx, HSx, HFx, HF9, Lib.hid ?_, Lib.hid ?_, Lib.hid ?_⟩
              · rw [HT7.out]
                have := HJ.out
                have := HNL.out
                omega
              · rw [List.length_append, sends_length, HGL2.out.2]
                have := HLN.out
                have := HM2.out
                omega
              · rw [HT7.out]
                exact ⟨by rw [HEF.out.1, List.append_assoc], HEF.out.2⟩
            case measure =>
              rw [HSx.out.qlen, HT7.out, HQL.out]
              have := HNL.out
              omega
end Go.Proofs.YtldhlknmabpanaaGreat.Mp
