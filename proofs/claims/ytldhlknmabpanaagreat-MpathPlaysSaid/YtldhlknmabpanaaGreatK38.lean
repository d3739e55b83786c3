/-
  Own text: the law's look at both buckets, walked.
  Own text: the document's Same, walked.
  Own text: the document's Same on datagrams; Size, the document's Encode ahead; walked.
  Own text: the law's look at what both told, walked. (Written by gen_mrk.py.)
  Own text: the law's Same, walked. (Written by gen_mrl.py.)
  Own text: two senders that are alike but for where their bytes lie: what the calls make of them.
-/
import Derived.Test.YtldhlknmabpanaaGreatK37
import Derived.Test.YtldhlknmabpanaaGreatK01
import Derived.Test.YtldhlknmabpanaaGreatK12
import Derived.Test.YtldhlknmabpanaaGreatK26
namespace Go.Proofs.YtldhlknmabpanaaGreat.Mp
open Go.RowKit
variable [Ghost]

theorem sb_below {w w' : World} {S : Nat → Prop} {p : Nat} {s : Sd} (h : SB w S p s) (hb : Below w.heap.size w w') : SB w' S p s := by
  obtain ⟨kb, qb, A, C, h⟩ := h
  exact ⟨kb, qb, A, C, h.keep (fun k hk => hb.block k (h.lt k hk)) hb.size⟩
set_option maxRecDepth 100000 in
set_option maxHeartbeats 1000000 in
theorem bucket15_any {w : World} {S : Nat → Prop} {p : Nat} {s : Sd} (h : SB w S p s) :
    Calls Tryz.prog 31 #[.pointer (some ⟨p, 0, none⟩), .agg (kcells s.bk)] w fun e w' => e = .returned (.bool true) ∧ Below w.heap.size w w' := by
  obtain ⟨W1, hW1⟩ : ∃ W1, W1 = w.alloc (.cells (kcells s.bk) 37) := ⟨_, rfl⟩
  have HB1 : Hid (Below w.heap.size w W1) := Lib.hid (by rw [hW1]; exact (Below.refl _ _).alloc (Nat.le_refl _) _)
  have HL1 : Hid (Lies W1 w.heap.size 0 (kcells s.bk)) := Lib.hid (by rw [hW1]; exact Lies.new w _ _ (Below.refl _ _))
  have CB := Lib.hid (bucket_sb (sb_below h HB1.out))
  clear h
  generalize s.bk = kk at *
  obtain ⟨ra, bu, he, sp, fu⟩ := kk
  go_enter Tryz.func31, Tryz.ntmps31
  go_upto_region 1 with fail
  rw [← hW1]
  clear hW1
  go_upto_region 2 with (first
    | (go_at_call 61; (with_reducible refine (CB.out).mono ?_); rintro e w2 ⟨rfl, hb2⟩; have HB2 := Lib.hid hb2; clear hb2)
    | fail)
  obtain ⟨w3, hw3⟩ : ∃ w3, w3 = w2.alloc (.cells (kcells ⟨ra, bu, he, sp, fu⟩) 107) := ⟨_, rfl⟩
  rw [← hw3]
  have hb3 : Below w2.heap.size w2 w3 := by rw [hw3]; exact (Below.refl _ _).alloc (Nat.le_refl _) _
  have hl3 : Lies w3 w2.heap.size 0 (kcells ⟨ra, bu, he, sp, fu⟩) := by rw [hw3]; exact Lies.new w2 _ _ (Below.refl _ _)
  have hl1 : Lies w3 w.heap.size 0 (kcells ⟨ra, bu, he, sp, fu⟩) := (HL1.out.below HB2.out HL1.out.lt).below hb3 (Nat.lt_of_lt_of_le HL1.out.lt HB2.out.size)
  have HB3 : Hid (Below w.heap.size w w3) := Lib.hid ((HB1.out.trans (HB2.out.mono HB1.out.size)).trans (hb3.mono (Nat.le_trans HB1.out.size HB2.out.size)))
  have a0 : w3.cell? ⟨w.heap.size, 0, none⟩ = some (.int .i64 ra) := hl1.cell 0 (by decide : 0 < 5)
  have a1 : w3.cell? ⟨w.heap.size, 1, none⟩ = some (.int .i64 bu) := hl1.cell 1 (by decide : 1 < 5)
  have a2 : w3.cell? ⟨w.heap.size, 2, none⟩ = some (.int .i64 he) := hl1.cell 2 (by decide : 2 < 5)
  have a3 : w3.cell? ⟨w.heap.size, 3, none⟩ = some (.int .i64 sp) := hl1.cell 3 (by decide : 3 < 5)
  have a4 : w3.cell? ⟨w.heap.size, 4, none⟩ = some (.int .i64 fu) := hl1.cell 4 (by decide : 4 < 5)
  have b0 : w3.cell? ⟨w2.heap.size, 0, none⟩ = some (.int .i64 ra) := hl3.cell 0 (by decide : 0 < 5)
  have b1 : w3.cell? ⟨w2.heap.size, 1, none⟩ = some (.int .i64 bu) := hl3.cell 1 (by decide : 1 < 5)
  have b2 : w3.cell? ⟨w2.heap.size, 2, none⟩ = some (.int .i64 he) := hl3.cell 2 (by decide : 2 < 5)
  have b3 : w3.cell? ⟨w2.heap.size, 3, none⟩ = some (.int .i64 sp) := hl3.cell 3 (by decide : 3 < 5)
  have b4 : w3.cell? ⟨w2.heap.size, 4, none⟩ = some (.int .i64 fu) := hl3.cell 4 (by decide : 4 < 5)
  have n0 : (ra == ra) = true := by simp
  have n1 : (bu == bu) = true := by simp
  have n2 : (he == he) = true := by simp
  have n3 : (sp == sp) = true := by simp
  have n4 : (fu == fu) = true := by simp
  clear hw3 hb3 hl3 hl1 HL1 HB1 HB2 CB
  generalize w2.heap.size = g5 at *
  go_wp2
  go_ret
  exact ⟨rfl, HB3.out⟩
end Go.Proofs.YtldhlknmabpanaaGreat.Mp
namespace Go.Proofs.YtldhlknmabpanaaGreat
open Go.RowKit

/-- Are two lists the same? -/
def sameB (x y : List Int) : Bool := decide (x = y)
set_option maxRecDepth 100000 in
theorem same_any (a b : Option Addr) (n m c d : Nat) (x y : List Int) (w : World) (hx : Bytes w a n x) (hy : Bytes w b m y) :
    Calls Tryz.prog 94 #[.slice a n c, .slice b m d] w fun e w' => e = .returned (.bool (sameB x y)) ∧ Below w.heap.size w w' := by
  have hn := hx.max
  have hm := hy.max
  have sx := hx.size
  have sy := hy.size
  by_cases hnm : n = m
  · subst hnm
    have H := Lib.hid sx
    have H2 := Lib.hid sy
    clear sx sy
    go_enter Tryz.func94, Tryz.ntmps94
    go_wp2
    go_loopw [5] (fun i wr => ∃ k : Nat, k ≤ n ∧ i = .int .i64 k ∧ (∀ j, j < k → x.getD j 0 = y.getD j 0) ∧ Below w.heap.size w wr) (fun i _ => n - (intOf i).toNat)
    case atStart => exact ⟨0, by omega, rfl, by omega, Below.refl _ _⟩
    case round =>
      obtain ⟨k, hk, rfl, hj, hb⟩ := hrel
      have HJ := Lib.hid hj
      have h1 := hx.below hb (Nat.le_refl _)
      have h2 := hy.below hb (Nat.le_refl _)
      have HX := Lib.hid hx
      have HY := Lib.hid hy
      clear hj hx hy
      by_cases hlt : k < n
      · obtain ⟨p, o, rfl, c1⟩ : ∃ p o, a = some ⟨p, o, none⟩ ∧ wr.cell? ⟨p, o + k, none⟩ = some (.int .u8 (x.getD k 0)) := by
          rcases h1.cell with h | ⟨_, b, off, e, _, h⟩
          · omega
          · exact ⟨b, off, e, h k hlt⟩
        obtain ⟨p', o', rfl, c2⟩ : ∃ p o, b = some ⟨p, o, none⟩ ∧ wr.cell? ⟨p, o + k, none⟩ = some (.int .u8 (y.getD k 0)) := by
          rcases h2.cell with h | ⟨_, b, off, e, _, h⟩
          · omega
          · exact ⟨b, off, e, h k hlt⟩
        clear h1 h2
        obtain ⟨u, hu⟩ : ∃ u, u = x.getD k 0 := ⟨_, rfl⟩
        obtain ⟨v, hv⟩ : ∃ v, v = y.getD k 0 := ⟨_, rfl⟩
        rw [← hu] at c1
        rw [← hv] at c2
        have HU := Lib.hid hu
        have HV := Lib.hid hv
        clear hu hv
        have k0 : (0 : Int) ≤ k := by omega
        have k1 : (k : Int) < n := by omega
        cases he : (u == v)
        · have hne : (u != v) = true := by simp [bne, he]
          go_wp2
          go_quiet (fail)
          go_wp2
          go_ret
          refine ⟨ret_bool ?_, below_drewN hb _⟩
          unfold sameB
          simp only [Bool.false_eq, decide_eq_false_iff_not]
          intro e
          rw [HU.out, HV.out, e] at he
          simp at he
        · have hne : (u != v) = false := by simp [bne, he]
          go_wp2
          go_quiet (fail)
          go_wp2
          go_roundw
          case rel =>
            refine ⟨k + 1, by omega, by go_num, fun j hj => ?_, below_drewN hb _⟩
            by_cases e : j = k
            · subst e; rw [← HU.out, ← HV.out]; simpa using he
            · exact HJ.out j (by omega)
          case measure => simp [intOf]; omega
      · obtain rfl : k = n := by omega
        go_wp2
        go_ret
        refine ⟨ret_bool ?_, hb⟩
        unfold sameB
        simp only [Bool.true_eq, decide_eq_true_eq]
        exact same_getD (by rw [H.out, H2.out]) (fun i hi => HJ.out i (by rw [H.out] at hi; exact hi))
  · have hne : x ≠ y := fun e => hnm (by rw [← sx, ← sy, e])
    have hd : sameB x y = false := by unfold sameB; simp [hne]
    rw [hd]
    clear hd hne sx sy
    go_enter Tryz.func94, Tryz.ntmps94
    go_wp2
    go_ret
    exact ⟨rfl, Below.refl _ _⟩
theorem same_true (a b : Option Addr) (n m c d : Nat) (x : List Int) (w : World) (hx : Bytes w a n x) (hy : Bytes w b m x) :
    Calls Tryz.prog 94 #[.slice a n c, .slice b m d] w fun e w' => e = .returned (.bool true) ∧ Below w.heap.size w w' := by
  have h := same_any a b n m c d x x w hx hy
  rwa [show sameB x x = true by simp [sameB]] at h
end Go.Proofs.YtldhlknmabpanaaGreat
namespace Go.Proofs.YtldhlknmabpanaaGreat
open Go.RowKit

set_option maxRecDepth 100000 in
set_option maxHeartbeats 4000000 in
theorem rsame7_true (kind ses seq path tick A B K M ix : Int) (da da' : Option Addr) (dl dc dc' : Nat) (l : List Int) (w : World) (hl : Bytes w da dl l) (hl' : Bytes w da' dl l) :
    Calls Tryz.prog 67 #[.agg #[.int .i64 kind, .int .u32 ses, .int .u32 seq, .int .i64 path, .int .u32 tick, .int .u32 A, .int .u32 B, .int .i64 K, .int .i64 M, .int .i64 ix, .slice da dl dc], .agg #[.int .i64 kind, .int .u32 ses, .int .u32 seq, .int .i64 path, .int .u32 tick, .int .u32 A, .int .u32 B, .int .i64 K, .int .i64 M, .int .i64 ix, .slice da' dl dc']] w fun e w' => e = .returned (.bool true) ∧ Below w.heap.size w w' := by
  have HS : Hid (∀ w', Below w.heap.size w w' → Calls Tryz.prog 94 #[.slice da dl dc, .slice da' dl dc'] w' fun e w'' => e = .returned (.bool true) ∧ Below w'.heap.size w' w'') :=
    Lib.hid (fun w' h => same_true da da' dl dl dc dc' l w' (hl.below h (Nat.le_refl _)) (hl'.below h (Nat.le_refl _)))
  clear hl hl'
  go_enter Tryz.func67, Tryz.ntmps67
  go_wp2_with first
    | (go_at_call 94; refine (HS.out _ (((Below.refl w.heap.size w).alloc (Nat.le_refl _) _).alloc (by simp) _)).mono ?_; rintro e w1 ⟨rfl, hb⟩)
  go_ret
  exact ⟨rfl, (((Below.refl w.heap.size w).alloc (Nat.le_refl _) _).alloc (by simp) _).trans (hb.mono (by simp; omega))⟩
end Go.Proofs.YtldhlknmabpanaaGreat
namespace Go.Proofs.YtldhlknmabpanaaGreat.Mp
open Go.RowKit

/-- What both told: the same numbers, the same bytes. -/
structure Eq2 (w : World) (o : On) (d : Dg) : Prop where
  hi : (o.i : Int) = d.path
  hd : o.d = Dg.moved d o.d.da o.d.dc
  hb : ∃ lb, Bytes w o.d.da d.dl lb ∧ Bytes w d.da d.dl lb
set_option maxRecDepth 100000 in
set_option maxHeartbeats 2000000 in
theorem same15_any {w : World} {b1 b2 n C1 C2 : Nat} {A1 A2 : Option Addr} {l : List On} {m : List Dg} (h1 : Mo.OwnT w b1 (.slice A1 n C1) n l) (h2 : DRw w b2 A2 C2 m) (hn : n = m.length) (hn2 : n ≤ 1000) (hr : ∀ (i : Nat) (o : On) (d : Dg), l[i]? = some o → m[i]? = some d → Eq2 w o d) :
    Calls Tryz.prog 34 #[.slice A1 n C1, .slice A2 n C2] w fun e w' => e = .returned (.bool true) ∧ Below w.heap.size w w' := by
  have HN := Lib.hid hn
  have H1 := Lib.hid h1
  have H2 := Lib.hid h2
  have HR := Lib.hid hr
  have HL := Lib.hid h1.length
  have nb : (n : Int) ≤ 1000 := by omega
  have nn : ((n : Int) != (n : Int)) = false := by simp
  clear hn h1 h2 hr
  go_enter Tryz.func34, Tryz.ntmps34
  go_upto_region 4 with fail
  go_wp2
  go_loopw [5] (fun s5 wr => ∃ i : Nat, i ≤ n ∧ s5 = .int .i64 (i : Int) ∧ Hid (Below w.heap.size w wr)) (fun s5 _ => n - (intOf s5).toNat)
  case atStart => exact ⟨0, Nat.zero_le _, rfl, Lib.hid (Below.refl _ _)⟩
  case round =>
    obtain ⟨i, hi, rfl, HB⟩ := hrel
    have i0 : (0 : Int) ≤ (i : Int) := by omega
    have i3 : (i : Int) ≤ 1000 := by omega
    by_cases hlt : i < n
    · have i1 : (i : Int) < (n : Int) := by omega
      have HI : Hid (i + 1 ≤ n) := Lib.hid hlt
      have HDM : Hid (n - (i + 1) < n - i) := Lib.hid (by omega)
      obtain ⟨o, ho⟩ : ∃ o, l[i]? = some o := ⟨_, List.getElem?_eq_getElem (by rw [HL.out]; exact hlt)⟩
      obtain ⟨d, hd⟩ : ∃ d, m[i]? = some d := ⟨_, List.getElem?_eq_getElem (by rw [← HN.out]; exact hlt)⟩
      have he := HR.out i o d ho hd
      obtain ⟨g1, rfl, _, hg1, hl1⟩ := row_lies Mo.ocells (fun _ => rfl) (by decide) l H1.out i o ho
      obtain ⟨g2, rfl, _, hg2, hl2⟩ := row_lies Mq.dcells dcells_size (by decide) m H2.out i d hd
      have hs1 : Lies w g1 (i * 12 + 1) (Mq.dcells o.d) := hl1.sub 1 (Mq.dcells o.d) (by decide : 1 + 11 ≤ 12) (fun j hj => by
        have hj : j < 11 := hj
        rcases (by omega : j = 0 ∨ j = 1 ∨ j = 2 ∨ j = 3 ∨ j = 4 ∨ j = 5 ∨ j = 6 ∨ j = 7 ∨ j = 8 ∨ j = 9 ∨ j = 10) with rfl | rfl | rfl | rfl | rfl | rfl | rfl | rfl | rfl | rfl | rfl <;> rfl)
      have HX : Hid (∀ w', Below wr.heap.size wr w' → (w'.cell? ⟨g1, i * 12, none⟩ = some (.int .i64 (o.i : Int)) ∧ w'.cell? ⟨g2, i * 11 + 3, none⟩ = some (.int .i64 (o.i : Int)) ∧ Lies w' g1 (i * 12 + 1) (Mq.dcells o.d) ∧ Lies w' g2 (i * 11) (Mq.dcells d))) := Lib.hid (fun w' hb => by
        have hbb := HB.out.trans (hb.mono HB.out.size)
        refine ⟨(hl1.below hbb hl1.lt).cell 0 (by decide : 0 < 12), ?_, hs1.below hbb hs1.lt, hl2.below hbb hl2.lt⟩
        rw [he.hi]
        exact (hl2.below hbb hl2.lt).cell 3 (by decide : 3 < 11))
      have CS : Hid (∀ w', Below wr.heap.size wr w' → Calls Tryz.prog 67 #[o.d.val, d.val] w' fun e w1 => e = .returned (.bool true) ∧ Below wr.heap.size wr w1) := Lib.hid (fun w' hb => by
        obtain ⟨lb, hb1, hb2⟩ := he.hb
        have hbb := HB.out.trans (hb.mono HB.out.size)
        have := rsame7_true d.kind d.ses d.seq d.path d.tick d.A d.B d.K d.M d.ix o.d.da d.da d.dl o.d.dc d.dc lb w' (hb1.below hbb (Nat.le_refl _)) (hb2.below hbb (Nat.le_refl _))
        rw [he.hd]
        exact this.mono fun _ _ hh => ⟨hh.1, hb.trans (hh.2.mono hb.size)⟩)
      have no : ((o.i : Int) != (o.i : Int)) = false := by simp
      clear ho hd he hg1 hg2 hl1 hl2 hs1 hlt hi HR
      go_upto_region 6 with fail
      refine (wpIn_wide (n := 3)).1 ?_
      refine wpIn_class (fun w' => Below wr.heap.size wr w') (Below.refl _ _).drew rfl (by kernel_rfl) (by kernel_rfl) ?_
      (refine wpQuietIn_step (fun _ _ _ _ => trivial) (fun K hK => ?_); go_simp; refine ⟨_, fun _ _ => rfl, hK _ ?_⟩; clear hK K)
      (refine wpQuietIn_step (fun _ _ _ _ => trivial) (fun K hK => ?_); go_simp; refine ⟨_, fun _ _ => rfl, hK _ ?_⟩; clear hK K)
      (refine wpQuietIn_step (fun _ _ _ _ => trivial) (fun K hK => ?_); go_simp; refine ⟨_, fun _ _ => rfl, hK _ ?_⟩; clear hK K)
      (refine wpQuietIn_step (fun _ _ _ _ => trivial) (fun K hK => ?_); go_simp; refine ⟨_, fun _ _ => rfl, hK _ ?_⟩; clear hK K)
      refine wpQ_readw (.int .i64 (o.i : Int)) (fun _ _ _ _ => trivial) rfl (fun w' hw => ?_) ?_
      · have c0 := HX.out w' hw |>.1
        unfold Oper.quietAtIn
        go_simp
      simp only [Act.put, List.setIfInBounds_toArray, List.set_cons_zero, List.set_cons_succ]
      (refine wpQuietIn_step (fun _ _ _ _ => trivial) (fun K hK => ?_); go_simp; refine ⟨_, fun _ _ => rfl, hK _ ?_⟩; clear hK K)
      (refine wpQuietIn_step (fun _ _ _ _ => trivial) (fun K hK => ?_); go_simp; refine ⟨_, fun _ _ => rfl, hK _ ?_⟩; clear hK K)
      (refine wpQuietIn_step (fun _ _ _ _ => trivial) (fun K hK => ?_); go_simp; refine ⟨_, fun _ _ => rfl, hK _ ?_⟩; clear hK K)
      (refine wpQuietIn_step (fun _ _ _ _ => trivial) (fun K hK => ?_); go_simp; refine ⟨_, fun _ _ => rfl, hK _ ?_⟩; clear hK K)
      refine wpQ_readw (.int .i64 (o.i : Int)) (fun _ _ _ _ => trivial) rfl (fun w' hw => ?_) ?_
      · have c0 := HX.out w' hw |>.2.1
        unfold Oper.quietAtIn
        go_simp
      simp only [Act.put, List.setIfInBounds_toArray, List.set_cons_zero, List.set_cons_succ]
      (refine wpQuietIn_step (fun _ _ _ _ => trivial) (fun K hK => ?_); go_simp; refine ⟨_, fun _ _ => rfl, hK _ ?_⟩; clear hK K)
      (refine wpQuietIn_step (fun _ _ _ _ => trivial) (fun K hK => ?_); go_simp; refine ⟨_, fun _ _ => rfl, hK _ ?_⟩; clear hK K)
      (refine wpQuietIn_step (fun _ _ _ _ => trivial) (fun K hK => ?_); go_simp; refine ⟨_, fun _ _ => rfl, hK _ ?_⟩; clear hK K)
      (refine wpQuietIn_step (fun _ _ _ _ => trivial) (fun K hK => ?_); go_simp; refine ⟨_, fun _ _ => rfl, hK _ ?_⟩; clear hK K)
      (refine wpQuietIn_step (fun _ _ _ _ => trivial) (fun K hK => ?_); go_simp; refine ⟨_, fun _ _ => rfl, hK _ ?_⟩; clear hK K)
      (refine wpQuietIn_step (fun _ _ _ _ => trivial) (fun K hK => ?_); go_simp; refine ⟨_, fun _ _ => rfl, hK _ ?_⟩; clear hK K)
      refine wpQ_readw (o.d.val) (fun _ _ _ _ => trivial) rfl (fun w' hw => ?_) ?_
      · exact quiet_load 50 (.tmp 32) (.pointer (some ⟨g1, i * 12 + 1, none⟩)) rfl rfl ((HX.out w' hw).2.2.1.loadAt 50 _ Tryz.underlying50 rfl (Mq.infoC o.d))
      simp only [Act.put, List.setIfInBounds_toArray, List.set_cons_zero, List.set_cons_succ]
      (refine wpQuietIn_step (fun _ _ _ _ => trivial) (fun K hK => ?_); go_simp; refine ⟨_, fun _ _ => rfl, hK _ ?_⟩; clear hK K)
      (refine wpQuietIn_step (fun _ _ _ _ => trivial) (fun K hK => ?_); go_simp; refine ⟨_, fun _ _ => rfl, hK _ ?_⟩; clear hK K)
      (refine wpQuietIn_step (fun _ _ _ _ => trivial) (fun K hK => ?_); go_simp; refine ⟨_, fun _ _ => rfl, hK _ ?_⟩; clear hK K)
      refine wpQ_readw (d.val) (fun _ _ _ _ => trivial) rfl (fun w' hw => ?_) ?_
      · exact quiet_load 50 (.tmp 36) (.pointer (some ⟨g2, i * 11, none⟩)) rfl rfl ((HX.out w' hw).2.2.2.loadAt 50 _ Tryz.underlying50 rfl (Mq.infoC d))
      simp only [Act.put, List.setIfInBounds_toArray, List.set_cons_zero, List.set_cons_succ]
      refine wpQuietIn_step (fun _ _ _ _ => trivial) (fun K hK => ?_)
      go_simp
      refine ⟨.bool true, fun w' hw => callsIn_wide.2 (CS.out w' hw), hK _ ?_⟩
      clear hK K
      (refine wpQuietIn_step (fun _ _ _ _ => trivial) (fun K hK => ?_); go_simp; refine ⟨_, fun _ _ => rfl, hK _ ?_⟩; clear hK K)
      (refine wpQuietIn_step (fun _ _ _ _ => trivial) (fun K hK => ?_); go_simp; refine ⟨_, fun _ _ => rfl, hK _ ?_⟩; clear hK K)
      refine wpQuietIn_nil ?_
      rintro w5 hw5
      have HB5 := Lib.hid (HB.out.trans (hw5.mono HB.out.size))
      clear hw5 HX CS
      go_wp2
      go_roundw
      case rel => exact ⟨i + 1, HI.out, by go_num, HB5⟩
      case measure => have := HDM.out; simp [intOf] <;> omega
    · obtain rfl : i = n := by omega
      clear hlt hi
      go_wp2
      go_ret
      exact ⟨rfl, HB.out⟩
end Go.Proofs.YtldhlknmabpanaaGreat.Mp
namespace Go.Proofs.YtldhlknmabpanaaGreat.Mp
open Go.RowKit
variable [Ghost]

/-- The same sender, but for where its datagrams' bytes lie. -/
structure Twin (s t : Sd) : Prop where
  wy : t.wy = s.wy
  len : t.q.l.length = s.q.l.length
  dr : t.dr = s.dr
  he : t.he = s.he
  now : t.now = s.now
  bk : t.bk = s.bk
omit [Ghost] in
theorem infoP15 {p : Pn} : (Tryz.prog.info? 71).map (·.size) = some p.cells.size := by kernel_rfl
set_option maxRecDepth 100000 in
set_option maxHeartbeats 4000000 in
theorem same_sb {w : World} {S : Nat → Prop} {p : Nat} {s t : Sd} (A : Option Addr) (C : Nat) (h : SB w S p s) (ht : Twin s t) (_hp : p ≠ w.heap.size) :
    Calls Tryz.prog 11 #[.pointer (some ⟨p, 0, none⟩), .agg (dsa t A C)] w fun e w' => e = .returned (.bool true) ∧ Below w.heap.size w w' := by
  obtain ⟨W, hW⟩ : ∃ W, W = w.alloc (.cells (dsa t A C) 40) := ⟨_, rfl⟩
  have hd : DB W w.heap.size t A C := by rw [hW]; exact db_new w t A C _ (Below.refl _ _)
  have hb : Below w.heap.size w W := by rw [hW]; exact (Below.refl _ _).alloc (Nat.le_refl _) _
  have HB0 := Lib.hid hb
  have HDD : Hid (∀ w', Below W.heap.size W w' → DB w' w.heap.size t A C) := Lib.hid (fun w' h' => hd.below h' hd.lt)
  have HSB : Hid (∀ w', Below W.heap.size W w' → SB w' S p s) := Lib.hid (fun w' h' => sb_below h (hb.trans (h'.mono hb.size)))
  have HT := Lib.hid ht
  have HWS := Lib.hid hb.size
  obtain ⟨V, hV⟩ : ∃ V, V = dsa t A C := ⟨_, rfl⟩
  rw [← hV] at hW ⊢
  clear hV hd hb h ht _hp
  go_enter Tryz.func11, Tryz.ntmps11
  go_upto_region 1 with fail
  rw [← hW]
  clear hW
  go_wp2
  go_loopw [5] (fun s5 wr => ∃ i : Nat, i ≤ 2 ∧ s5 = .int .i64 (i : Int) ∧ Hid (Below W.heap.size W wr)) (fun s5 _ => 2 - (intOf s5).toNat)
  case atStart => exact ⟨0, by decide, rfl, Lib.hid (Below.refl _ _)⟩
  case round =>
    obtain ⟨i, hi, rfl, HB⟩ := hrel
    have i0 : (0 : Int) ≤ (i : Int) := by omega
    by_cases hlt : i < 2
    · have i1 : (i : Int) < 2 := by omega
      have HI : Hid (i + 1 ≤ 2) := Lib.hid hlt
      have HDM : Hid (2 - (i + 1) < 2 - i) := Lib.hid (by omega)
      obtain ⟨p0, hp0⟩ : ∃ p0, p0 = s.wy i := ⟨_, rfl⟩
      have HX : Hid (∀ w', Below wr.heap.size wr w' → PLie w' p (i * 15) p0 ∧ Lies w' w.heap.size (i * 78) (rowOf 78 p0.dc)) := Lib.hid (fun w' hb => by
        have hbb := HB.out.trans (hb.mono HB.out.size)
        obtain ⟨kb, qb, A', C', h'⟩ := HSB.out w' hbb
        refine ⟨?_, ?_⟩
        · rw [hp0]
          rcases (by omega : i = 0 ∨ i = 1) with rfl | rfl
          · exact h'.blk.w0
          · exact h'.blk.w1
        · have := (HDD.out w' hbb).way hlt
          rw [HT.out.wy, ← hp0] at this
          exact this)
      have CS : Hid (∀ w', Below wr.heap.size wr w' → Calls Tryz.prog 27 #[.agg p0.cells, .agg (rowOf 78 p0.dc)] w' fun e w1 => e = .returned (.bool true) ∧ Below wr.heap.size wr w1) := Lib.hid (fun w' hb => (same14_any p0 w').mono fun _ _ hh => ⟨hh.1, hb.trans (hh.2.mono hb.size)⟩)
      clear hp0 hlt hi
      go_upto_region 4 with fail
      refine (wpIn_wide (n := 3)).1 ?_
      refine wpIn_class (fun w' => Below wr.heap.size wr w') (Below.refl _ _).drew rfl (by kernel_rfl) (by kernel_rfl) ?_
      (refine wpQuietIn_step (fun _ _ _ _ => trivial) (fun K hK => ?_); go_simp; refine ⟨_, fun _ _ => rfl, hK _ ?_⟩; clear hK K)
      (refine wpQuietIn_step (fun _ _ _ _ => trivial) (fun K hK => ?_); go_simp; refine ⟨_, fun _ _ => rfl, hK _ ?_⟩; clear hK K)
      (refine wpQuietIn_step (fun _ _ _ _ => trivial) (fun K hK => ?_); go_simp; refine ⟨_, fun _ _ => rfl, hK _ ?_⟩; clear hK K)
      (refine wpQuietIn_step (fun _ _ _ _ => trivial) (fun K hK => ?_); go_simp; refine ⟨_, fun _ _ => rfl, hK _ ?_⟩; clear hK K)
      (refine wpQuietIn_step (fun _ _ _ _ => trivial) (fun K hK => ?_); go_simp; refine ⟨_, fun _ _ => rfl, hK _ ?_⟩; clear hK K)
      refine wpQ_readw (.agg p0.cells) (fun _ _ _ _ => trivial) rfl (fun w' hw => ?_) ?_
      · exact quiet_load 71 (.tmp 14) (.pointer (some ⟨p, i * 15, none⟩)) rfl rfl (((HX.out w' hw).1).loadAt 71 _ Tryz.underlying71 rfl infoP15)
      simp only [Act.put, List.setIfInBounds_toArray, List.set_cons_zero, List.set_cons_succ]
      (refine wpQuietIn_step (fun _ _ _ _ => trivial) (fun K hK => ?_); go_simp; refine ⟨_, fun _ _ => rfl, hK _ ?_⟩; clear hK K)
      (refine wpQuietIn_step (fun _ _ _ _ => trivial) (fun K hK => ?_); go_simp; refine ⟨_, fun _ _ => rfl, hK _ ?_⟩; clear hK K)
      (refine wpQuietIn_step (fun _ _ _ _ => trivial) (fun K hK => ?_); go_simp; refine ⟨_, fun _ _ => rfl, hK _ ?_⟩; clear hK K)
      refine wpQ_readw (.agg (rowOf 78 p0.dc)) (fun _ _ _ _ => trivial) rfl (fun w' hw => ?_) ?_
      · exact quiet_load 34 (.tmp 18) (.pointer (some ⟨w.heap.size, i * 78, none⟩)) rfl rfl (((HX.out w' hw).2).loadAt 34 _ Tryz.underlying34 rfl (infoP14 p0))
      simp only [Act.put, List.setIfInBounds_toArray, List.set_cons_zero, List.set_cons_succ]
      refine wpQuietIn_step (fun _ _ _ _ => trivial) (fun K hK => ?_)
      go_simp
      refine ⟨.bool true, fun w' hw => callsIn_wide.2 (CS.out w' hw), hK _ ?_⟩
      clear hK K
      (refine wpQuietIn_step (fun _ _ _ _ => trivial) (fun K hK => ?_); go_simp; refine ⟨_, fun _ _ => rfl, hK _ ?_⟩; clear hK K)
      refine wpQuietIn_nil ?_
      rintro w5 hw5
      have HB5 := Lib.hid (HB.out.trans (hw5.mono HB.out.size))
      clear hw5 HX CS
      go_wp2
      go_roundw
      case rel => exact ⟨i + 1, HI.out, by go_num, HB5⟩
      case measure => have := HDM.out; simp [intOf] <;> omega
    · obtain rfl : i = 2 := by omega
      clear hlt hi
      obtain ⟨n, hn⟩ : ∃ n, n = s.q.l.length := ⟨_, rfl⟩
      obtain ⟨dr, hdr⟩ : ∃ dr, dr = s.dr := ⟨_, rfl⟩
      obtain ⟨he, hhe⟩ : ∃ he, he = s.he := ⟨_, rfl⟩
      obtain ⟨nw, hnw⟩ : ∃ nw, nw = s.now := ⟨_, rfl⟩
      have hx : ∀ w', Below wr.heap.size wr w' → Below W.heap.size W w' := fun w' hb => HB.out.trans (hb.mono HB.out.size)
      have HY : Hid (∀ w', Below wr.heap.size wr w' → w'.cell? ⟨w.heap.size, 161, none⟩ = some (.slice A n C) ∧ w'.cell? ⟨w.heap.size, 165, none⟩ = some (.int .i64 (dr : Int)) ∧ w'.cell? ⟨w.heap.size, 166, none⟩ = some (.int .i64 (he : Int)) ∧ w'.cell? ⟨w.heap.size, 164, none⟩ = some (.int .u32 (nw : Int)) ∧ Lies w' w.heap.size 156 (kcells s.bk)) := Lib.hid (fun w' hb => by
        have h' := HDD.out w' (hx w' hb)
        have hk := h'.kl
        have hc := h'.cells
        rw [HT.out.bk] at hk
        rw [HT.out.len, ← hn] at hc
        rw [HT.out.dr, ← hdr, HT.out.he, ← hhe, HT.out.now, ← hnw] at hc
        exact ⟨hc.2.1, hc.2.2.2.2.2.1, hc.2.2.2.2.2.2, hc.2.2.2.2.1, hk⟩)
      have CW := Lib.hid (fun w' (hb : Below wr.heap.size wr w') => (waiting_sb (HSB.out w' (hx w' hb))).mono fun e w1 hh => (⟨by rw [hn]; exact hh.1, by rw [← hh.2]; exact hb⟩ : e = .returned (.int .i64 (n : Int)) ∧ Below wr.heap.size wr w1))
      have CD := Lib.hid (fun w' (hb : Below wr.heap.size wr w') => (dropped_sb (HSB.out w' (hx w' hb))).mono fun e w1 hh => (⟨by rw [hdr]; exact hh.1, by rw [← hh.2]; exact hb⟩ : e = .returned (.int .i64 (dr : Int)) ∧ Below wr.heap.size wr w1))
      have CH := Lib.hid (fun w' (hb : Below wr.heap.size wr w') => (held_sb (HSB.out w' (hx w' hb))).mono fun e w1 hh => (⟨by rw [hhe]; exact hh.1, by rw [← hh.2]; exact hb⟩ : e = .returned (.int .i64 (he : Int)) ∧ Below wr.heap.size wr w1))
      have CN := Lib.hid (fun w' (hb : Below wr.heap.size wr w') => (now_sb (HSB.out w' (hx w' hb))).mono fun e w1 hh => (⟨by rw [hnw]; exact hh.1, by rw [← hh.2]; exact hb⟩ : e = .returned (.int .u32 (nw : Int)) ∧ Below wr.heap.size wr w1))
      have CB := Lib.hid (fun w' (hb : Below wr.heap.size wr w') => (bucket15_any (HSB.out w' (hx w' hb))).mono fun e w1 hh => (⟨hh.1, hb.trans (hh.2.mono hb.size)⟩ : e = .returned (.bool true) ∧ Below wr.heap.size wr w1))
      have n1 : ((n : Int) == (n : Int)) = true := by simp
      have n2 : ((dr : Int) == (dr : Int)) = true := by simp
      have n3 : ((he : Int) == (he : Int)) = true := by simp
      have n4 : ((nw : Int) == (nw : Int)) = true := by simp
      have HB := Lib.hid (HB0.out.trans (HB.out.mono HWS.out))
      clear hn hdr hhe hnw hx
      go_upto_region 6 with fail
      refine (wpIn_wide (n := 3)).1 ?_
      refine wpIn_class (fun w' => Below wr.heap.size wr w') (Below.refl _ _).drew rfl (by kernel_rfl) (by kernel_rfl) ?_
      (refine wpQuietIn_step (fun _ _ _ _ => trivial) (fun K hK => ?_); go_simp; refine ⟨_, fun _ _ => rfl, hK _ ?_⟩; clear hK K)
      refine wpQuietIn_step (fun _ _ _ _ => trivial) (fun K hK => ?_)
      go_simp
      refine ⟨.int .i64 (n : Int), fun w' hw => callsIn_wide.2 (CW.out w' hw), hK _ ?_⟩
      clear hK K
      (refine wpQuietIn_step (fun _ _ _ _ => trivial) (fun K hK => ?_); go_simp; refine ⟨_, fun _ _ => rfl, hK _ ?_⟩; clear hK K)
      refine wpQ_readw (.slice A n C) (fun _ _ _ _ => trivial) rfl (fun w' hw => ?_) ?_
      · have c0 := (HY.out w' hw).1
        unfold Oper.quietAtIn
        go_simp
      simp only [Act.put, List.setIfInBounds_toArray, List.set_cons_zero, List.set_cons_succ]
      (refine wpQuietIn_step (fun _ _ _ _ => trivial) (fun K hK => ?_); go_simp; refine ⟨_, fun _ _ => rfl, hK _ ?_⟩; clear hK K)
      (refine wpQuietIn_step (fun _ _ _ _ => trivial) (fun K hK => ?_); go_simp; refine ⟨_, fun _ _ => rfl, hK _ ?_⟩; clear hK K)
      (refine wpQuietIn_step (fun _ _ _ _ => trivial) (fun K hK => ?_); go_simp; refine ⟨_, fun _ _ => rfl, hK _ ?_⟩; clear hK K)
      (refine wpQuietIn_step (fun _ _ _ _ => trivial) (fun K hK => ?_); go_simp; refine ⟨_, fun _ _ => rfl, hK _ ?_⟩; clear hK K)
      refine wpQuietIn_step (fun _ _ _ _ => trivial) (fun K hK => ?_)
      go_simp
      refine ⟨.int .i64 (dr : Int), fun w' hw => callsIn_wide.2 (CD.out w' hw), hK _ ?_⟩
      clear hK K
      (refine wpQuietIn_step (fun _ _ _ _ => trivial) (fun K hK => ?_); go_simp; refine ⟨_, fun _ _ => rfl, hK _ ?_⟩; clear hK K)
      refine wpQ_readw (.int .i64 (dr : Int)) (fun _ _ _ _ => trivial) rfl (fun w' hw => ?_) ?_
      · have c0 := (HY.out w' hw).2.1
        unfold Oper.quietAtIn
        go_simp
      simp only [Act.put, List.setIfInBounds_toArray, List.set_cons_zero, List.set_cons_succ]
      (refine wpQuietIn_step (fun _ _ _ _ => trivial) (fun K hK => ?_); go_simp; refine ⟨_, fun _ _ => rfl, hK _ ?_⟩; clear hK K)
      (refine wpQuietIn_step (fun _ _ _ _ => trivial) (fun K hK => ?_); go_simp; refine ⟨_, fun _ _ => rfl, hK _ ?_⟩; clear hK K)
      (refine wpQuietIn_step (fun _ _ _ _ => trivial) (fun K hK => ?_); go_simp; refine ⟨_, fun _ _ => rfl, hK _ ?_⟩; clear hK K)
      (refine wpQuietIn_step (fun _ _ _ _ => trivial) (fun K hK => ?_); go_simp; refine ⟨_, fun _ _ => rfl, hK _ ?_⟩; clear hK K)
      refine wpQuietIn_step (fun _ _ _ _ => trivial) (fun K hK => ?_)
      go_simp
      refine ⟨.int .i64 (he : Int), fun w' hw => callsIn_wide.2 (CH.out w' hw), hK _ ?_⟩
      clear hK K
      (refine wpQuietIn_step (fun _ _ _ _ => trivial) (fun K hK => ?_); go_simp; refine ⟨_, fun _ _ => rfl, hK _ ?_⟩; clear hK K)
      refine wpQ_readw (.int .i64 (he : Int)) (fun _ _ _ _ => trivial) rfl (fun w' hw => ?_) ?_
      · have c0 := (HY.out w' hw).2.2.1
        unfold Oper.quietAtIn
        go_simp
      simp only [Act.put, List.setIfInBounds_toArray, List.set_cons_zero, List.set_cons_succ]
      (refine wpQuietIn_step (fun _ _ _ _ => trivial) (fun K hK => ?_); go_simp; refine ⟨_, fun _ _ => rfl, hK _ ?_⟩; clear hK K)
      (refine wpQuietIn_step (fun _ _ _ _ => trivial) (fun K hK => ?_); go_simp; refine ⟨_, fun _ _ => rfl, hK _ ?_⟩; clear hK K)
      (refine wpQuietIn_step (fun _ _ _ _ => trivial) (fun K hK => ?_); go_simp; refine ⟨_, fun _ _ => rfl, hK _ ?_⟩; clear hK K)
      (refine wpQuietIn_step (fun _ _ _ _ => trivial) (fun K hK => ?_); go_simp; refine ⟨_, fun _ _ => rfl, hK _ ?_⟩; clear hK K)
      refine wpQuietIn_step (fun _ _ _ _ => trivial) (fun K hK => ?_)
      go_simp
      refine ⟨.int .u32 (nw : Int), fun w' hw => callsIn_wide.2 (CN.out w' hw), hK _ ?_⟩
      clear hK K
      (refine wpQuietIn_step (fun _ _ _ _ => trivial) (fun K hK => ?_); go_simp; refine ⟨_, fun _ _ => rfl, hK _ ?_⟩; clear hK K)
      refine wpQ_readw (.int .u32 (nw : Int)) (fun _ _ _ _ => trivial) rfl (fun w' hw => ?_) ?_
      · have c0 := (HY.out w' hw).2.2.2.1
        unfold Oper.quietAtIn
        go_simp
      simp only [Act.put, List.setIfInBounds_toArray, List.set_cons_zero, List.set_cons_succ]
      (refine wpQuietIn_step (fun _ _ _ _ => trivial) (fun K hK => ?_); go_simp; refine ⟨_, fun _ _ => rfl, hK _ ?_⟩; clear hK K)
      (refine wpQuietIn_step (fun _ _ _ _ => trivial) (fun K hK => ?_); go_simp; refine ⟨_, fun _ _ => rfl, hK _ ?_⟩; clear hK K)
      (refine wpQuietIn_step (fun _ _ _ _ => trivial) (fun K hK => ?_); go_simp; refine ⟨_, fun _ _ => rfl, hK _ ?_⟩; clear hK K)
      (refine wpQuietIn_step (fun _ _ _ _ => trivial) (fun K hK => ?_); go_simp; refine ⟨_, fun _ _ => rfl, hK _ ?_⟩; clear hK K)
      (refine wpQuietIn_step (fun _ _ _ _ => trivial) (fun K hK => ?_); go_simp; refine ⟨_, fun _ _ => rfl, hK _ ?_⟩; clear hK K)
      refine wpQ_readw (.agg (kcells s.bk)) (fun _ _ _ _ => trivial) rfl (fun w' hw => ?_) ?_
      · exact quiet_load 37 (.tmp 51) (.pointer (some ⟨w.heap.size, 156, none⟩)) rfl rfl (((HY.out w' hw).2.2.2.2).loadAt 37 _ Tryz.underlying37 rfl (infoK12 s.bk))
      simp only [Act.put, List.setIfInBounds_toArray, List.set_cons_zero, List.set_cons_succ]
      refine wpQuietIn_step (fun _ _ _ _ => trivial) (fun K hK => ?_)
      go_simp
      refine ⟨.bool true, fun w' hw => callsIn_wide.2 (CB.out w' hw), hK _ ?_⟩
      clear hK K
      (refine wpQuietIn_step (fun _ _ _ _ => trivial) (fun K hK => ?_); go_simp; refine ⟨_, fun _ _ => rfl, hK _ ?_⟩; clear hK K)
      (refine wpQuietIn_step (fun _ _ _ _ => trivial) (fun K hK => ?_); go_simp; refine ⟨_, fun _ _ => rfl, hK _ ?_⟩; clear hK K)
      refine wpQuietIn_nil ?_
      rintro w6 hw6
      have HB6 := Lib.hid (HB.out.trans (hw6.mono HB.out.size))
      clear hw6
      go_wp2
      go_ret
      exact ⟨rfl, HB6.out⟩
end Go.Proofs.YtldhlknmabpanaaGreat.Mp
namespace Go.Proofs.YtldhlknmabpanaaGreat.Mp
open Go.RowKit

/-- One by one. -/
inductive Fa {α β : Type} (R : α → β → Prop) : List α → List β → Prop
  | nil : Fa R [] []
  | cons {a : α} {b : β} {l : List α} {m : List β} : R a b → Fa R l m → Fa R (a :: l) (b :: m)
theorem Fa.len {α β : Type} {R : α → β → Prop} {l : List α} {m : List β} (h : Fa R l m) : l.length = m.length := by
  induction h with
  | nil => rfl
  | cons _ _ ih => simp [ih]
theorem Fa.append {α β : Type} {R : α → β → Prop} {l l' : List α} {m m' : List β} (h : Fa R l m) (h' : Fa R l' m') : Fa R (l ++ l') (m ++ m') := by
  induction h with
  | nil => exact h'
  | cons h _ ih => exact .cons h ih
theorem Fa.take {α β : Type} {R : α → β → Prop} {l : List α} {m : List β} (h : Fa R l m) : ∀ n, Fa R (l.take n) (m.take n) := by
  induction h with
  | nil => intro n; simp; exact .nil
  | cons h _ ih => intro n; cases n with
    | zero => exact .nil
    | succ n => exact .cons h (ih n)
theorem Fa.drop {α β : Type} {R : α → β → Prop} {l : List α} {m : List β} (h : Fa R l m) : ∀ n, Fa R (l.drop n) (m.drop n) := by
  induction h with
  | nil => intro n; simp; exact .nil
  | cons h h' ih => intro n; cases n with
    | zero => exact .cons h h'
    | succ n => exact ih n
theorem Fa.at_ {α β : Type} {R : α → β → Prop} {l : List α} {m : List β} (h : Fa R l m) : ∀ (i : Nat) (a : α) (b : β), l[i]? = some a → m[i]? = some b → R a b := by
  induction h with
  | nil => intro i a b h1; simp at h1
  | cons h _ ih => intro i a b h1 h2; cases i with
    | zero => simp at h1 h2; subst h1 h2; exact h
    | succ i => exact ih i a b (by simpa using h1) (by simpa using h2)
/-- Two datagrams with the same numbers and bytes. -/
structure Alike (w : World) (a b : Dg) : Prop where
  mv : b = Dg.moved a b.da b.dc
  by_ : ∃ lb, Bytes w a.da a.dl lb ∧ Bytes w b.da a.dl lb
theorem Alike.dl {w : World} {a b : Dg} (h : Alike w a b) : b.dl = a.dl := by rw [h.mv]; rfl
theorem Alike.kind {w : World} {a b : Dg} (h : Alike w a b) : b.kind = a.kind := by rw [h.mv]; rfl
theorem Alike.mark {w : World} {a b : Dg} (h : Alike w a b) (n i t : Nat) : Alike w (Mp.mark a n i t) (Mp.mark b n i t) := ⟨by rw [h.mv]; rfl, h.by_⟩
abbrev AlikeI (w : World) (x y : Mq.It) : Prop := y.rank = x.rank ∧ Alike w x.v y.v
abbrev AlikeO (w : World) (x y : On) : Prop := y.i = x.i ∧ Alike w x.d y.d
structure Rel (w : World) (s t : Sd) : Prop where
  wy : t.wy = s.wy
  ses : t.ses = s.ses
  now : t.now = s.now
  bk : t.bk = s.bk
  dr : t.dr = s.dr
  he : t.he = s.he
  room : t.q.room = s.q.room
  l : Fa (AlikeI w) s.q.l t.q.l
section
variable {w : World} {s t : Sd}
theorem Rel.len (h : Rel w s t) : t.q.l.length = s.q.l.length := h.l.len.symm
theorem Rel.twin (h : Rel w s t) : Twin s t := ⟨h.wy, h.len, h.dr, h.he, h.now, h.bk⟩
theorem Rel.sent (h : Rel w s t) (i : Nat) : Rel w (s.sent i) (t.sent i) := ⟨by show upd t.wy i _ = upd s.wy i _; rw [h.wy], h.ses, h.now, h.bk, h.dr, h.he, h.room, h.l⟩
theorem Rel.one (h : Rel w s t) (i : Nat) {a b : Dg} (hd : Alike w a b) : AlikeO w (s.one i a) (t.one i b) := ⟨rfl, by show Alike w (Mp.mark a _ _ _) (Mp.mark b _ _ _); rw [h.wy, h.now]; exact hd.mark _ _ _⟩
theorem Rel.sends {a b : Dg} (hd : Alike w a b) : ∀ (l : List Nat) {s t : Sd}, Rel w s t → Fa (AlikeO w) (s.sends a l).1 (t.sends b l).1 ∧ Rel w (s.sends a l).2 (t.sends b l).2
  | [], _, _, h => ⟨.nil, h⟩
  | i :: l, _, _, h => ⟨.cons (h.one i hd) (Rel.sends hd l (h.sent i)).1, (Rel.sends hd l (h.sent i)).2⟩
theorem Rel.ticked (h : Rel w s t) (i : Nat) : Rel w (s.ticked i) (t.ticked i) := ⟨by show upd t.wy i _ = upd s.wy i _; rw [h.wy], h.ses, h.now, h.bk, h.dr, h.he, h.room, h.l⟩
theorem Rel.paid (h : Rel w s t) (n : Int) : Rel w (s.paid n) (t.paid n) := ⟨h.wy, h.ses, h.now, by show t.bk.take n = s.bk.take n; rw [h.bk], h.dr, h.he, h.room, h.l⟩
theorem keep_alike (w : World) (ses : Nat) : Alike w (keepD ses) (keepD ses) := ⟨rfl, [], Bytes.nil w, Bytes.nil w⟩
theorem Rel.way (h : Rel w s t) (i : Nat) : Fa (AlikeO w) (s.way i).1 (t.way i).1 ∧ Rel w (s.way i).2 (t.way i).2 := by
  unfold Sd.way
  rw [h.wy, h.bk]
  split
  · rw [h.ses]
    exact Rel.sends (keep_alike w _) [i] ((h.ticked i).paid 33)
  · exact ⟨.nil, h.ticked i⟩
theorem Rel.later (h : Rel w s t) : Rel w s.later t.later := ⟨h.wy, h.ses, by show (t.now + 1) % 4294967296 = (s.now + 1) % 4294967296; rw [h.now], by show t.bk.tick 1 = s.bk.tick 1; rw [h.bk], h.dr, h.he, h.room, h.l⟩
theorem Rel.tick (h : Rel w s t) : Fa (AlikeO w) s.tick.1 t.tick.1 ∧ Rel w s.tick.2 t.tick.2 :=
  ⟨Fa.append (h.later.way 0).1 ((h.later.way 0).2.way 1).1, ((h.later.way 0).2.way 1).2⟩
theorem Rel.hear (h : Rel w s t) (i n : Nat) : Rel w (s.hear i n) (t.hear i n) := ⟨by show upd t.wy i _ = upd s.wy i _; rw [h.wy], h.ses, h.now, h.bk, h.dr, h.he, h.room, h.l⟩
theorem Rel.trip (h : Rel w s t) (i : Int) (n : Nat) : Rel w (s.trip i n) (t.trip i n) := by
  have ha : t.ago n = s.ago n := by unfold Sd.ago; rw [h.now]
  unfold Sd.trip
  rw [ha]
  split
  · exact ⟨by show upd t.wy _ _ = upd s.wy _ _; rw [h.wy], h.ses, h.now, h.bk, h.dr, h.he, h.room, h.l⟩
  · exact h
theorem pos_same (r : Int) {l m : List Mq.It} (h : Fa (AlikeI w) l m) : Mq.pos r m = Mq.pos r l := by
  unfold Mq.pos
  induction h with
  | nil => rfl
  | cons h _ ih =>
    rw [List.takeWhile_cons, List.takeWhile_cons, h.1]
    split
    · simp [ih]
    · rfl
theorem Rel.push (h : Rel w s t) (r : Int) {a b : Dg} (hd : Alike w a b) : Rel w (s.push r a) (t.push r b) := by
  have hins : Fa (AlikeI w) (s.q.ins r a) (t.q.ins r b) := by
    unfold Mq.Qn.ins
    rw [pos_same r h.l]
    exact (h.l.take _).append (.cons ⟨rfl, hd⟩ (h.l.drop _))
  refine ⟨h.wy, h.ses, h.now, h.bk, ?_, h.he, h.room, ?_⟩
  · show (if t.q.l.length < t.q.room then t.dr else t.dr + 1) = (if s.q.l.length < s.q.room then s.dr else s.dr + 1)
    rw [h.len, h.room, h.dr]
  · show Fa _ (if s.q.l.length < s.q.room then _ else _) (if t.q.l.length < t.q.room then _ else _)
    rw [h.len, h.room]
    split
    · exact hins
    · rw [List.dropLast_eq_take, List.dropLast_eq_take, hins.len]
      exact hins.take _
theorem Rel.own (h : Rel w s t) {a b : Dg} (hd : Alike w a b) (A A' : Option Addr) (C C' : Nat) (hb : ∃ lb, Bytes w A a.dl lb ∧ Bytes w A' a.dl lb) : Alike w (s.own a A C) (t.own b A' C') := ⟨by rw [hd.mv]; unfold Sd.own Dg.moved; rw [h.ses], hb⟩
theorem fa_filter (kd : Int) {l m : List Mq.It} (h : Fa (AlikeI w) l m) : Fa (AlikeI w) (l.filter (fun x => !decide (x.v.kind = kd))) (m.filter (fun x => !decide (x.v.kind = kd))) := by
  induction h with
  | nil => exact .nil
  | @cons x y l m h _ ih =>
    have e : y.v.kind = x.v.kind := h.2.kind
    by_cases hk : x.v.kind = kd
    · simp [hk, e]; exact ih
    · simp [hk, e]; exact .cons h ih
theorem Rel.forget (h : Rel w s t) (kd : Int) : Rel w (s.forget kd) (t.forget kd) := ⟨h.wy, h.ses, h.now, h.bk, h.dr, h.he, h.room, fa_filter kd h.l⟩
theorem Rel.all (h : Rel w s t) : t.choose = s.choose ∧ t.many = s.many := by
  have h0 : t.d0 = s.d0 := by unfold Sd.d0; rw [h.wy]
  have hb : ∀ r, t.both r ↔ s.both r := fun r => by unfold Sd.both Sd.all Sd.d1; rw [h0, h.wy]
  refine ⟨?_, ?_⟩
  · funext r
    unfold Sd.choose Sd.d1
    rw [h0]
    by_cases hs : s.both r
    · rw [if_pos hs, if_pos ((hb r).2 hs)]
    · rw [if_neg hs, if_neg (fun h => hs ((hb r).1 h))]
  · funext r z
    unfold Sd.many
    rw [h.bk]
    by_cases hs : s.both r ∧ s.bk.may (2 * z) = true
    · rw [if_pos hs, if_pos ⟨(hb r).2 hs.1, hs.2⟩]
    · rw [if_neg hs, if_neg (fun h => hs ⟨(hb r).1 h.1, h.2⟩)]
theorem Rel.flushL : ∀ {l m : List Mq.It}, Fa (AlikeI w) l m → ∀ {s t : Sd}, Rel w s t → Fa (AlikeO w) (Mp.flushL l s).1 (Mp.flushL m t).1 ∧ Rel w (Mp.flushL l s).2 (Mp.flushL m t).2
  | _, _, .nil, _, _, h => ⟨.nil, h⟩
  | x :: l, y :: m, .cons hxy hl, s, t, h => by
    have hc := h.all
    have hg : t.goers y = s.goers x := by unfold Sd.goers; rw [hc.1, hc.2, hxy.1, hxy.2.dl]
    have hn : t.need y = s.need x := by unfold Sd.need; rw [hc.2, hxy.1, hxy.2.dl]
    rw [Mp.flushL, Mp.flushL, hn, h.bk]
    split
    · have hr : Rel w ((s.paid (s.need x)).rest l) ((t.paid (s.need x)).rest m) := by
        have hp := h.paid (s.need x)
        exact ⟨hp.wy, hp.ses, hp.now, hp.bk, hp.dr, hp.he, hp.room, hl⟩
      have hf := Rel.sends hxy.2 (s.goers x) hr
      have e1 : s.first x l = ((s.paid (s.need x)).rest l).sends x.v (s.goers x) := rfl
      have e2 : t.first y m = ((t.paid (s.need x)).rest m).sends y.v (s.goers x) := by unfold Sd.first; rw [hn, hg]
      rw [← e1, ← e2] at hf
      exact ⟨hf.1.append (Rel.flushL hl hf.2).1, (Rel.flushL hl hf.2).2⟩
    · exact ⟨.nil, h.wy, h.ses, h.now, h.bk, h.dr, by show t.he + 1 = s.he + 1; rw [h.he], h.room, h.l⟩
theorem Rel.flush (h : Rel w s t) : Fa (AlikeO w) s.flush.1 t.flush.1 ∧ Rel w s.flush.2 t.flush.2 := Rel.flushL h.l h
end
end Go.Proofs.YtldhlknmabpanaaGreat.Mp
