/-
  Own text: Push of what may not go, walked; what a sender's calls promise, met.
  Own text: Trip, Dropped, Held, Now, Bucket, and New where there is none, walked.
  Own text: the document's Tick, walked. (Written by gen_mrg.py.)
  Own text: the document's Forget, walked. (Written by gen_mre.py.)
-/
import Derived.Test.YtldhlknmabpanaaGreatK31
import Derived.Test.YtldhlknmabpanaaGreatK34
import Derived.Test.YtldhlknmabpanaaGreatK33
import Derived.Test.YtldhlknmabpanaaGreatK16
import Derived.Test.YtldhlknmabpanaaGreatK30
namespace Go.Proofs.YtldhlknmabpanaaGreat.Mp
open Go.RowKit
variable [Ghost]

set_option maxRecDepth 100000 in
theorem push_no_sb {w : World} {S : Nat → Prop} {p : Nat} {s : Sd} (r : Int) (d : Dg) (l : List Int) (h : SB w S p s) (hl : Bytes w d.da d.dl l) (hc : chk (s.own d d.da d.dc) l ≠ 0) :
    Calls Tryz.prog 7 #[.pointer (some ⟨p, 0, none⟩), .int .i64 r, d.val] w fun e w' => e = .returned (.int .i64 (chk (s.own d d.da d.dc) l)) ∧ Hid (After SB w S p s w') := by
  obtain ⟨kb, qb, A, C, h⟩ := h
  obtain ⟨D, hD⟩ : ∃ D, D = s.own d d.da d.dc := ⟨_, rfl⟩
  obtain ⟨W0, hW0⟩ : ∃ W0, W0 = w.alloc (.cells (Mq.dcells d) 50) := ⟨_, rfl⟩
  have hb0 : Below w.heap.size w W0 := by rw [hW0]; exact (Below.refl _ _).alloc (Nat.le_refl _) _
  have hd0 : Lies W0 w.heap.size 0 (Mq.dcells d) := by rw [hW0]; exact Lies.new w (Mq.dcells d) _ (Below.refl _ _)
  have h0 : SBd W0 S p s kb qb A C := h.keep (fun k hk => hb0.block k (h.lt k hk)) hb0.size
  have c30 := h0.blk.ses
  have e1 := hd0.cell 1 (by decide : 1 < 11)
  have f1 := hd0.frozen 1
  have e3 := hd0.cell 3 (by decide : 3 < 11)
  have f3 := hd0.frozen 3
  obtain ⟨W1, hW1⟩ : ∃ W1, W1 = (W0.setCell ⟨w.heap.size, 1, none⟩ (.int .u32 (s.ses : Int))).setCell ⟨w.heap.size, 3, none⟩ (.int .i64 0) := ⟨_, rfl⟩
  have hd1 : Lies W1 w.heap.size 0 (Mq.dcells D) := by rw [hW1, hD]; exact (hd0.set 1 _).set 3 _
  have hb1 : Below w.heap.size w W1 := by rw [hW1]; exact (hb0.setCell (p := ⟨w.heap.size, 1, none⟩) (Nat.le_refl _) _).setCell (p := ⟨w.heap.size, 3, none⟩) (Nat.le_refl _) _
  obtain ⟨c, hcc⟩ : ∃ c, c = chk (s.own d d.da d.dc) l := ⟨_, rfl⟩
  have HC : Hid (∀ w', Below w.heap.size w w' → Calls Tryz.prog 15 #[D.val] w' fun e w'' => e = .returned (.int .i64 c) ∧ Below w'.heap.size w' w'') := Lib.hid (fun w' hb => by
    rw [hD, hcc]
    exact check_any (s.own d d.da d.dc) l w' (hl.below hb (Nat.le_refl _)))
  rw [← hcc] at hc ⊢
  have HW0 := Lib.hid hW0
  have HW1 := Lib.hid hW1
  have HD1 := Lib.hid hd1
  have HB1 := Lib.hid hb1
  have HH := Lib.hid h
  clear hd0 h0 hb0 hb1 hd1 hW0 hW1 hl h hD hcc
  go_enter Tryz.func7, Tryz.ntmps7
  go_upto_region 1 with fail
  rw [← HW0.out]
  go_upto_region 2 with fail
  rw [← HW1.out]
  clear c30 e1 e3 f1 f3
  go_wp2_with (first
    | (with_reducible refine wpList_load_lies rfl 50 (.tmp 5) rfl w.heap.size 0 rfl (Mq.dcells D) HD1.out _ Tryz.underlying50 rfl (Mq.infoC _) ?_)
    | (go_at_call 15; (with_reducible refine (HC.out _ HB1.out).mono ?_); rintro e W4 ⟨rfl, hb2⟩; have HB2 := Lib.hid hb2; clear hb2)
    | fail)
  go_ret
  have hb : Below w.heap.size w W4 := HB1.out.trans (HB2.out.mono HB1.out.size)
  exact ⟨rfl, Lib.hid ⟨⟨S, ⟨kb, qb, A, C, HH.out.keep (fun k hk => hb.block k (HH.out.lt k hk)) hb.size⟩, fun _ hk => .inl hk⟩, Fr.of_below hb⟩⟩
omit [Ghost] in
theorem sender_api2 : Api2 (@SB ⟨fun _ _ _ => True⟩) where
  keep := fun h e hs => @sb_keep ⟨fun _ _ _ => True⟩ _ _ _ _ _ h e hs
  lt := fun h => @sb_lt ⟨fun _ _ _ => True⟩ _ _ _ _ h
  new_ := fun ses room r b w _ hok h1 h2 => @new_sb ⟨fun _ _ _ => True⟩ ses room r b w hok h1 h2
  push := fun r d l h hf hk hl hle hn hc => (@push_sb ⟨fun _ _ _ => True⟩ _ _ _ _ _ r d l h hf hk hl hle hn hc (fun _ _ _ => trivial)).mono (fun _ _ ⟨h1, h2⟩ => ⟨h1, Lib.hid (h2.out.imp fun _ h => h.imp fun _ h => h.1)⟩)
  push_no := fun r d l h _ _ hl _ _ hc => @push_no_sb ⟨fun _ _ _ => True⟩ _ _ _ _ r d l h hl hc
  tick := fun h hf hk => @tick_sb ⟨fun _ _ _ => True⟩ _ _ _ _ _ h hf hk
  flush := fun h hf hk => @flush_sb ⟨fun _ _ _ => True⟩ _ _ _ _ _ h hf hk
  heard := fun i h hf hk hn => @heard_sb ⟨fun _ _ _ => True⟩ _ _ _ _ _ _ i h hf hk hn
  waiting := fun h => @waiting_sb ⟨fun _ _ _ => True⟩ _ _ _ _ h
omit [Ghost] in
theorem sender_api : Api (SBB (@SB ⟨fun _ _ _ => True⟩)) := sender_api2.api
end Go.Proofs.YtldhlknmabpanaaGreat.Mp
namespace Go.Proofs.YtldhlknmabpanaaGreat.Mp
open Go.RowKit
variable [Ghost]

/-- How long ago a time was, going round. -/
def Sd.ago (s : Sd) (n : Nat) : Nat := (s.now + 4294967296 - n) % 4294967296
def Sd.trip (s : Sd) (i : Int) (n : Nat) : Sd := if (0 ≤ i ∧ i < 2) ∧ s.ago n ≤ 2000 then { s with wy := upd s.wy i.toNat ((s.wy i.toNat).trip (s.ago n)) } else s
omit [Ghost] in
theorem Sd.trip_fit {s : Sd} {k : Nat} (h : s.fit k) (i : Int) (n : Nat) : (s.trip i n).fit (k + 1) := by
  unfold Sd.trip
  split
  · rename_i hi
    refine ⟨fun j hj => ?_, h.ses, h.now, Bk.fit_more h.bk (by omega), Mq.Qn.fit_more h.q (by omega), Nat.le_succ_of_le h.dr, Nat.le_succ_of_le h.he⟩
    show (upd s.wy i.toNat _ j).fit (k + 1)
    by_cases e : j = i.toNat
    · subst e; rw [upd_same]; exact Pn.trip_fit (h.wy _ hj) _
    · rw [upd_other _ _ e]; exact (h.wy j hj).upto (by omega)
  · exact h.upto (by omega)
omit [Ghost] in
theorem ago_wrap (a n : Nat) (ha : a < 4294967296) (hn : n < 4294967296) : IntKind.u32.wrap ((a : Int) - (n : Int)) = (((a + 4294967296 - n) % 4294967296 : Nat) : Int) := by rw [IntKind.wrap_u32]; omega
set_option maxRecDepth 100000 in
theorem trip_sb {w : World} {S : Nat → Prop} {p k n : Nat} {s : Sd} (i : Int) (h : SB w S p s) (hf : s.fit k) (hk : k ≤ 1000000) (hn : n < 4294967296) :
    Calls Tryz.prog 39 #[.pointer (some ⟨p, 0, none⟩), .int .i64 i, .int .u32 (n : Int)] w fun e w' => e = .returned (.tuple #[]) ∧ Hid (After SB w S p (s.trip i n) w') := by
  obtain ⟨kb, qb, A, C, h⟩ := h
  have c33 := h.blk.now
  obtain ⟨tk, htk⟩ : ∃ tk, tk = s.ago n := ⟨_, rfl⟩
  have hwr : IntKind.u32.wrap ((s.now : Int) - (n : Int)) = (tk : Int) := by rw [htk]; exact ago_wrap s.now n hf.now hn
  by_cases hi : 0 ≤ i ∧ i < 2
  · obtain ⟨j, rfl⟩ : ∃ j : Nat, i = (j : Int) := ⟨i.toNat, by omega⟩
    have hj : j < 2 := by omega
    have CK := Lib.hid (known_yes j hj w)
    by_cases ht : tk ≤ 2000
    · have HE : Hid (s.trip (j : Int) n = { s with wy := upd s.wy j ((s.wy j).trip (tk : Int)) }) := Lib.hid (by
        unfold Sd.trip
        rw [if_pos ⟨hi, by rw [← htk]; exact ht⟩, Int.toNat_natCast, ← htk])
      have hw : PLie w p (j * 15) (s.wy j) := by
        rcases (by omega : j = 0 ∨ j = 1) with rfl | rfl
        · exact h.blk.w0
        · exact h.blk.w1
      have CT := Lib.hid (ktrip_any (tk : Int) p (j * 15) _ (s.wy j).st (hf.wy j hj).st (by have := hk; omega) w hw.st)
      have HR : Hid (∀ w1, KLie w1 p (j * 15) ((s.wy j).st.trip (tk : Int)) → Prt p (j * 15) 5 w w1 → SBd w1 S p (s.trip (j : Int) n) kb qb A C ∧ Fr S w w1) := Lib.hid (fun w1 h1 h2 => by
        rw [HE.out]
        have hp := hw.putst h2 h1
        have hr : Prt p (j * 15) 15 w w1 := h2.wide (Nat.le_refl _) (by omega)
        exact h.way (w' := w1) (q := (s.wy j).trip (tk : Int)) hj (Nat.mul_comm j 15 ▸ hp) (Nat.mul_comm j 15 ▸ ⟨hr.os, hr.tape, hr.output, hr.size, hr.block, hr.part⟩))
      have t1 : (tk : Int) ≤ 2000 := by omega
      have t0 : (0 : Int) ≤ (tk : Int) := by omega
      have j0 : (0 : Int) ≤ (j : Int) := by omega
      have j1 : (j : Int) < 2 := by omega
      clear h hw hf hk hn hi ht htk HE
      go_enter Tryz.func39, Tryz.ntmps39
      go_wp2_with (first
        | (go_at_call 71; (with_reducible refine (CK.out).mono ?_); rintro e w0 ⟨rfl, rfl⟩)
        | (go_at_call 75; (with_reducible refine (CT.out).mono ?_); rintro e w1 ⟨rfl, HK1, HP1⟩)
        | fail)
      go_end0
      exact ⟨rfl, Lib.hid (after_own (HR.out w1 HK1.out HP1.out))⟩
    · have HE : Hid (s.trip (j : Int) n = s) := Lib.hid (by unfold Sd.trip; rw [if_neg (fun hh => ht (by rw [htk]; exact hh.2))])
      have ha := Lib.hid (after_own ⟨h, Fr.refl S w⟩)
      have t1 : ¬ (tk : Int) ≤ 2000 := by omega
      rw [HE.out]
      clear h hf hk hn hi ht htk HE
      go_enter Tryz.func39, Tryz.ntmps39
      go_wp2_with (first
        | (go_at_call 71; (with_reducible refine (CK.out).mono ?_); rintro e w0 ⟨rfl, rfl⟩)
        | fail)
      go_end0
      exact ⟨rfl, ha⟩
  · have HE : s.trip i n = s := by unfold Sd.trip; rw [if_neg (fun hh => hi hh.1)]
    have ha := Lib.hid (after_own ⟨h, Fr.refl S w⟩)
    have CK := Lib.hid (known_no i hi w)
    rw [HE]
    clear h hf hk hn hi htk HE
    go_enter Tryz.func39, Tryz.ntmps39
    go_wp2_with (first
      | (go_at_call 71; (with_reducible refine (CK.out).mono ?_); rintro e w0 ⟨rfl, rfl⟩)
      | fail)
    go_end0
    exact ⟨rfl, ha⟩
section
variable {w : World} {S : Nat → Prop} {p : Nat} {s : Sd}
theorem dropped_sb (h : SB w S p s) : Calls Tryz.prog 28 #[.pointer (some ⟨p, 0, none⟩)] w fun e w' => e = .returned (.int .i64 (s.dr : Int)) ∧ w = w' := by
  obtain ⟨kb, qb, A, C, h⟩ := h
  have c := h.blk.dr
  clear h
  go_enter Tryz.func28, Tryz.ntmps28
  go_wp2
  go_ret
  exact ⟨rfl, rfl⟩
theorem held_sb (h : SB w S p s) : Calls Tryz.prog 29 #[.pointer (some ⟨p, 0, none⟩)] w fun e w' => e = .returned (.int .i64 (s.he : Int)) ∧ w = w' := by
  obtain ⟨kb, qb, A, C, h⟩ := h
  have c := h.blk.he
  clear h
  go_enter Tryz.func29, Tryz.ntmps29
  go_wp2
  go_ret
  exact ⟨rfl, rfl⟩
theorem now_sb (h : SB w S p s) : Calls Tryz.prog 30 #[.pointer (some ⟨p, 0, none⟩)] w fun e w' => e = .returned (.int .u32 (s.now : Int)) ∧ w = w' := by
  obtain ⟨kb, qb, A, C, h⟩ := h
  have c := h.blk.now
  clear h
  go_enter Tryz.func30, Tryz.ntmps30
  go_wp2
  go_ret
  exact ⟨rfl, rfl⟩
end
abbrev kcells (k : Bk) : Array Value := #[.int .i64 k.ra, .int .i64 k.bu, .int .i64 k.he, .int .i64 k.sp, .int .i64 k.fu]
omit [Ghost] in
theorem infoK (k : Bk) : (Tryz.prog.info? 107).map (·.size) = some (kcells k).size := by kernel_rfl
omit [Ghost] in
theorem oneK (k : Bk) : (kcells k).all (·.oneCell') = true := by simp [Value.oneCell']
omit [Ghost] in
theorem kblk_lies {w : World} {b : Nat} {k : Bk} {t : TypeId} (h : Pa.KBlk t w b k) : Lies w b 0 (kcells k) := ⟨_, _, h, Nat.le_refl _, fun j _ => by rw [Nat.zero_add]⟩
theorem bucket_sb {w : World} {S : Nat → Prop} {p : Nat} {s : Sd} (h : SB w S p s) :
    Calls Tryz.prog 61 #[.pointer (some ⟨p, 0, none⟩)] w fun e w' => e = .returned (.agg (kcells s.bk)) ∧ Below w.heap.size w w' := by
  obtain ⟨kb, qb, A, C, h⟩ := h
  obtain ⟨W1, hW1⟩ : ∃ W1, W1 = w.alloc (.cells #[.int .i64 0, .int .i64 0, .int .i64 0, .int .i64 0, .int .i64 0] 107) := ⟨_, rfl⟩
  have HB1 : Hid (Below w.heap.size w W1) := Lib.hid (by rw [hW1]; exact (Below.refl _ _).alloc (Nat.le_refl _) _)
  have HZ : Hid (Lies W1 w.heap.size 0 (kcells ⟨0, 0, 0, 0, 0⟩)) := Lib.hid (by rw [hW1]; exact Lies.new w _ _ (Below.refl _ _))
  have h1 : SBd W1 S p s kb qb A C := h.keep (fun k hk => HB1.out.block k (h.lt k hk)) HB1.out.size
  have c := h1.blk.bk
  have HK := Lib.hid (kblk_lies h1.kblk)
  have HW1 := Lib.hid hW1
  clear h h1 hW1
  go_enter Tryz.func61, Tryz.ntmps61
  go_upto_region 1 with fail
  rw [← HW1.out]
  go_wp2_with (first
    | (with_reducible refine wpList_load_lies rfl 107 (.tmp 7) rfl kb 0 rfl (kcells s.bk) HK.out _ Tryz.underlying107 rfl (infoK s.bk) ?_)
    | ((with_reducible refine wpList_store_lies rfl 107 (.tmp 2) (.tmp 8) rfl w.heap.size 0 rfl (kcells s.bk) rfl (kcells ⟨0, 0, 0, 0, 0⟩) HZ.out rfl (infoK s.bk) (oneK s.bk) ?_); intro w2 N1 N2 N3)
    | fail)
  refine bodyPost_ret (v := .agg (kcells s.bk)) (Mq.results_cell0 (p := 2) rfl _ w2 w.heap.size _ rfl (Lies.loadVar N1.out 107 _ Tryz.underlying107 rfl (infoK s.bk))) rfl ?_
  exact ⟨rfl, N2.out.bel HB1.out HB1.out.size (Nat.le_refl _)⟩
omit [Ghost] in
theorem pnew_no (room : Int) (h : room < 1 ∨ 256 < room) (w : World) :
    Calls Tryz.prog 14 #[.int .i64 room] w fun e w' => e = .returned (.tuple #[.pointer none, .int .i64 1]) ∧ w = w' := by
  by_cases h1 : room < 1
  · clear h
    go_enter Tryz.func14, Tryz.ntmps14
    go_wp2
    go_ret2
    exact ⟨rfl, rfl⟩
  · have h2 : 256 < room := by omega
    clear h
    go_enter Tryz.func14, Tryz.ntmps14
    go_wp2
    go_ret2
    exact ⟨rfl, rfl⟩
omit [Ghost] in
set_option maxRecDepth 100000 in
theorem new_no (ses : Nat) (room : Int) (r b : Int) (w : World) (h : ¬ (okB r b = true ∧ 1 ≤ room ∧ room ≤ 256)) :
    Calls Tryz.prog 6 #[.int .u32 (ses : Int), .int .i64 r, .int .i64 b, .int .i64 room] w fun e w' => e = .returned (.tuple #[.pointer none, .int .i64 1]) ∧ Below w.heap.size w w' := by
  by_cases hok : okB r b = true
  · have CK := Lib.hid (Pa.new12_yes r b hok w)
    have hr : ¬ (1 ≤ room ∧ room ≤ 256) := fun hh => h ⟨hok, hh⟩
    have CQ := Lib.hid (fun w => pnew_no room (by omega) w)
    clear h hok hr
    go_enter Tryz.func6, Tryz.ntmps6
    go_wp2_with (first
      | (go_at_call 13; (with_reducible refine (CK.out).mono ?_); rintro e w1 ⟨rfl, HK1, HB1⟩)
      | (go_at_call 14; (with_reducible refine (CQ.out _).mono ?_); rintro e w2 ⟨rfl, rfl⟩)
      | fail)
    go_ret2
    exact ⟨rfl, HB1.out⟩
  · have CK := Lib.hid (Pa.new12_no r b (by simpa using hok) w)
    clear h hok
    go_enter Tryz.func6, Tryz.ntmps6
    go_wp2_with (first
      | (go_at_call 13; (with_reducible refine (CK.out).mono ?_); rintro e w1 ⟨rfl, HB1⟩)
      | fail)
    go_ret2
    exact ⟨rfl, HB1.out⟩
end Go.Proofs.YtldhlknmabpanaaGreat.Mp
namespace Go.Proofs.YtldhlknmabpanaaGreat.Mp
open Go.RowKit

def zDg : Value := .agg (Mq.dcells Mq.nil)
theorem infoGZ : (Tryz.prog.info? 50).map (fun i => (i.zero, i.size, i.bytes)) = some (some zDg, 11, 88) := by kernel_rfl
theorem dcells_size (d : Dg) : (Mq.dcells d).size = 11 := rfl
/-- A list of datagrams of the call's own. -/
def DRw (w : World) (base : Nat) (A : Option Addr) (C : Nat) (l : List Dg) : Prop := w.ownsRow base 50 11 (.slice A l.length C) l.length (l.flatMap (fun d => (Mq.dcells d).toList))
theorem DRw.start (w : World) (base : Nat) : DRw w base none 0 [] := World.ownsRow_nil _ _ _ _
theorem DRw.more {w : World} {base C n : Nat} {A : Option Addr} {l : List Dg} {d : Dg} (hn : n = l.length) (h : w.ownsRow base 50 11 (.slice A (n + 1) C) (n + 1) (l.flatMap (fun d => (Mq.dcells d).toList) ++ (Mq.dcells d).toList)) : DRw w base A C (l ++ [d]) := by
  subst hn
  unfold DRw
  rw [List.length_append, List.flatMap_append]
  simpa using h
theorem DRw.keep {w w' : World} {base C : Nat} {A : Option Addr} {l : List Dg} (h : DRw w base A C l) (e : ∀ k, base ≤ k → k < w.heap.size → w'.heap[k]? = w.heap[k]?) : DRw w' base A C l := ownsRow_keep h (fun g _ hg _ => e g (h.lt g hg).1 (h.lt g hg).2)
/-- The bucket in the document's box. -/
theorem DB.kl {w : World} {b : Nat} {t : Sd} {A : Option Addr} {C : Nat} (h : DB w b t A C) : Lies w b 156 (kcells t.bk) := by
  have := h.tl.sub 0 (kcells t.bk) (by decide : 0 + 5 ≤ 11) (fun j hj => by
    have hj : j < 5 := hj
    rcases (by omega : j = 0 ∨ j = 1 ∨ j = 2 ∨ j = 3 ∨ j = 4) with rfl | rfl | rfl | rfl | rfl <;> rfl)
  exact this
theorem DB.putk {w w' : World} {b : Nat} {t : Sd} {A : Option Addr} {C : Nat} (h : DB w b t A C) (k : Bk) (hp : Prt b 156 5 w w') (hk : Lies w' b 156 (kcells k)) : DB w' b { t with bk := k } A C := by
  refine ⟨Lies.beside h.w0 hp (.inl (by rw [rowOf_size]; decide)), Lies.beside h.w1 hp (.inl (by rw [rowOf_size]; decide)), ?_⟩
  refine Lies.patch (k := 0) (m := 5) (ds := kcells k) h.tl hp hk rfl rfl (fun j hj => ?_)
  have hj : j < 11 := hj
  by_cases h5 : j < 5
  · rw [if_pos ⟨Nat.zero_le _, by omega⟩]
    rcases (by omega : j = 0 ∨ j = 1 ∨ j = 2 ∨ j = 3 ∨ j = 4) with rfl | rfl | rfl | rfl | rfl <;> rfl
  · rw [if_neg (by omega)]
    rcases (by omega : j = 5 ∨ j = 6 ∨ j = 7 ∨ j = 8 ∨ j = 9 ∨ j = 10) with rfl | rfl | rfl | rfl | rfl | rfl <;> rfl
theorem infoK12 (k : Bk) : (Tryz.prog.info? 37).map (·.size) = some (kcells k).size := by kernel_rfl
/-- Between two ways: the box, the answer's box, what was told. -/
structure Tw (w wr : World) (s : Sd) (A : Option Addr) (C : Nat) (Z : Array Value) (A1 : Option Addr) (C1 : Nat) (l : List Dg) : Prop where
  db : DB wr w.heap.size s A C
  z : Lies wr (w.heap.size + 1) 0 Z
  own : DRw wr (w.heap.size + 2) A1 C1 l
  bel : Below w.heap.size w wr
  hs : w.heap.size + 2 ≤ wr.heap.size
theorem Tw.below {w wr w' : World} {s : Sd} {A : Option Addr} {C : Nat} {Z : Array Value} {A1 : Option Addr} {C1 : Nat} {l : List Dg} (h : Tw w wr s A C Z A1 C1 l) (hb : Below wr.heap.size wr w') : Tw w w' s A C Z A1 C1 l :=
  ⟨h.db.below hb h.db.lt, h.z.below hb h.z.lt, ownsRow_below h.own hb (Nat.le_refl _), h.bel.trans (hb.mono h.bel.size), Nat.le_trans h.hs hb.size⟩
/-- A part of the sender's box is turned. -/
theorem Tw.put {w wr w' : World} {s s' : Sd} {A A' : Option Addr} {C C' : Nat} {Z : Array Value} {A1 : Option Addr} {C1 : Nat} {l : List Dg} {o n : Nat} (h : Tw w wr s A C Z A1 C1 l) (hp : Prt w.heap.size o n wr w') (hd : DB w' w.heap.size s' A' C') : Tw w w' s' A' C' Z A1 C1 l :=
  ⟨hd, h.z.apart hp (by omega), h.own.keep (fun k h1 h2 => hp.block k h2 (by omega)), hp.bel h.bel h.bel.size (Nat.le_refl _), Nat.le_trans h.hs hp.size⟩
/-- One more is told. -/
theorem Tw.more {w wr w' : World} {s : Sd} {A : Option Addr} {C m : Nat} {Z : Array Value} {A1 A2 : Option Addr} {C1 C2 : Nat} {l : List Dg} {d : Dg} (h : Tw w wr s A C Z A1 C1 l) (hm : m = l.length) (ha : w'.ownsRow (w.heap.size + 2) 50 11 (.slice A2 (m + 1) C2) (m + 1) (l.flatMap (fun d => (Mq.dcells d).toList) ++ (Mq.dcells d).toList)) (hg : Grew (w.heap.size + 2) 50 (wr.alloc (.cells (Mq.dcells d) 50)) w') : Tw w w' s A C Z A2 C2 (l ++ [d]) := by
  have hb : Below (w.heap.size + 2) wr w' := (((Below.refl wr.heap.size wr).alloc (Nat.le_refl _) _).mono h.hs).trans hg.bel
  exact ⟨h.db.below hb (by omega), h.z.below hb (by omega), DRw.more hm ha, h.bel.trans (hb.mono (by omega)), Nat.le_trans h.hs hb.size⟩
theorem Tw.room {w wr : World} {s : Sd} {A : Option Addr} {C : Nat} {Z : Array Value} {A1 : Option Addr} {C1 m : Nat} {l : List Dg} (h : Tw w wr s A C Z A1 C1 l) (hm : m = l.length) (d : Dg) :
    (wr.alloc (.cells (Mq.dcells d) 50)).ownsRow (w.heap.size + 2) 50 11 (.slice A1 m C1) m (l.flatMap (fun d => (Mq.dcells d).toList)) ∧ Lies (wr.alloc (.cells (Mq.dcells d) 50)) wr.heap.size 0 (Mq.dcells d) ∧ w.heap.size + 2 ≤ (wr.alloc (.cells (Mq.dcells d) 50)).heap.size := by
  have hb : Below wr.heap.size wr (wr.alloc (.cells (Mq.dcells d) 50)) := (Below.refl _ _).alloc (Nat.le_refl _) _
  subst hm
  exact ⟨ownsRow_below h.own hb (Nat.le_refl _), Lies.new wr _ _ (Below.refl _ _), Nat.le_trans h.hs hb.size⟩
/-- Behind a stamp: the box, then the datagram's own box. -/
theorem Tw.via {w w5 w7 w8 w9 : World} {s s' : Sd} {A : Option Addr} {C n n' : Nat} {Z : Array Value} {A1 : Option Addr} {C1 : Nat} {l : List Dg} (h : Tw w w5 s A C Z A1 C1 l) (hb : Below w5.heap.size w5 w7) (hp : Prt w.heap.size 0 n w7 w8) (hd : DB w8 w.heap.size s' A C) (hq : Prt w5.heap.size 0 n' w8 w9) : Tw w w9 s' A C Z A1 C1 l := by
  have h7 := (h.below hb).put hp hd
  have hs := h.hs
  have hlt := h7.db.lt
  have hz := h7.z.lt
  refine ⟨hd.keep (hq.block _ hlt (by omega)), h7.z.apart hq (by omega), ?_, hq.bel h7.bel h7.bel.size (by omega), Nat.le_trans h7.hs hq.size⟩
  refine DRw.keep h.own (fun k h1 h2 => ?_)
  have e1 := hb.block k h2
  have e2 := hp.block k (Nat.lt_of_lt_of_le h2 hb.size) (by omega)
  have e3 := hq.block k (Nat.lt_of_lt_of_le h2 (Nat.le_trans hb.size hp.size)) (by omega)
  exact e3.trans (e2.trans e1)
/-- What a call that tells answers. -/
def RTold (w : World) (s : Sd) (l : List On) (e : Ending) (w' : World) : Prop := ∃ A C A1 C1, e = .returned (.tuple #[.agg (dsa s A C), .slice A1 l.length C1]) ∧ Hid (DRw w' w.heap.size A1 C1 (l.map On.d)) ∧ Hid (Below w.heap.size w w')
set_option maxRecDepth 100000 in
set_option maxHeartbeats 4000000 in
theorem rtick15_any (t : Sd) (A : Option Addr) (C k : Nat) (hf : t.fit k) (hk : k ≤ 1000000) (w : World) :
    Calls Tryz.prog 33 #[.agg (dsa t A C)] w fun e w' => ∃ A1 C1, e = .returned (.tuple #[.agg (dsa t.tick.2 A C), .slice A1 t.tick.1.length C1]) ∧ Hid (DRw w' w.heap.size A1 C1 (t.tick.1.map On.d)) ∧ Hid (Below w.heap.size w w') := by
  obtain ⟨W, hW⟩ : ∃ W, W = (w.alloc (.cells (dsa t A C) 40)).alloc (.cells (dsa Sdz none 0) 40) := ⟨_, rfl⟩
  obtain ⟨hb, hd, hz⟩ := two_d w t A C hW
  have hs : W.heap.size = w.heap.size + 2 := by rw [hW]; simp
  have zz := zeroD
  obtain ⟨V, hV⟩ : ∃ V, V = dsa t A C := ⟨_, rfl⟩
  obtain ⟨Z, hZ⟩ : ∃ Z, Z = dsa Sdz none 0 := ⟨_, rfl⟩
  have HZS : Hid (∀ t A C, (dsa t A C).size = Z.size) := Lib.hid (fun t A C => by rw [hZ, dsa_size, dsa_size])
  have HT0 : Hid (Tw w W t A C Z none 0 []) := Lib.hid ⟨hd, by rw [hZ]; exact hz, DRw.start _ _, hb, by omega⟩
  obtain ⟨tn, htn⟩ : ∃ tn, tn = (t.now + 1) % 4294967296 := ⟨_, rfl⟩
  have hwr : IntKind.u32.wrap ((t.now : Int) + 1) = (tn : Int) := by rw [IntKind.wrap_u32, htn]; omega
  have c164 : W.cell? ⟨w.heap.size, 164, none⟩ = some (.int .u32 (t.now : Int)) := hd.cells.2.2.2.2.1
  have f164 := hd.frozen 164
  have CB := Lib.hid (fun w' => rtick12_any 1 (by decide) (by decide) k t.bk hf.bk w')
  have HTN : Hid (Tw w (W.setCell ⟨w.heap.size, 164, none⟩ (.int .u32 (tn : Int))) { t with now := tn } A C Z none 0 []) := Lib.hid (HT0.out.put (o := 156) (n := 11) ((Prt.refl _ _ _ _).set 8 (by decide) _) (hd.tail 8 (by decide) (.int .u32 (tn : Int)) rfl rfl))
  have HLT : Hid (t.later = { t with now := tn, bk := t.bk.tick 1 }) := Lib.hid (by rw [htn]; rfl)
  obtain ⟨t2, ht2⟩ : ∃ t2, t2 = t.later := ⟨_, rfl⟩
  have HF2 : Hid (t2.fit k) := Lib.hid (by rw [ht2]; exact Sd.later_fit hf)
  have HTW : Hid (t.tick = t2.ways 2) := Lib.hid (by rw [ht2]; exact tick_ways t)
  have HT2 := Lib.hid ht2
  have HK := Lib.hid hk
  rw [HTW.out]
  rw [← hZ] at zz hW
  rw [← hV] at hW ⊢
  unfold Pa.KV at CB
  clear hb hd hz hs hV htn hf hk ht2 HT0 hZ
  go_enter Tryz.func33, Tryz.ntmps33
  go_upto_region 1 with fail
  rw [← hW]
  clear hW
  go_upto_region 2 with fail
  generalize W.setCell ⟨w.heap.size, 164, none⟩ (.int .u32 (tn : Int)) = W1 at *
  clear c164 f164 hwr
  go_upto_region 3 with (first
    | (with_reducible refine wpList_load_lies rfl 37 (.tmp 15) rfl w.heap.size 156 rfl (kcells t.bk) HTN.out.db.kl _ Tryz.underlying37 rfl (infoK12 _) ?_)
    | (go_at_call 63; (with_reducible refine (CB.out _).mono ?_); rintro e w2 ⟨rfl, hb2⟩; have HT3 := Lib.hid (HTN.out.below hb2); clear hb2)
    | ((with_reducible refine wpList_store_lies rfl 37 (.tmp 18) (.tmp 17) rfl w.heap.size 156 rfl (kcells (t.bk.tick 1)) rfl (kcells t.bk) HT3.out.db.kl rfl (infoK12 _) (oneK _) ?_); intro w3 N1 N2 N3)
    | fail)
  have HTL : Hid (Tw w w3 t2 A C Z none 0 []) := Lib.hid (by rw [HT2.out, HLT.out]; exact HT3.out.put N2.out (HT3.out.db.putk _ N2.out N1.out))
  clear HTN HT3 N1 N2 N3 CB HLT HT2
  go_upto_region 5 with fail
  have HZ : Hid (∀ w' : World, (zeroValue 40).run Tryz.prog w' = .ok (.agg Z) w') := Lib.hid zz
  obtain ⟨ZP, hZP⟩ : ∃ ZP, ZP = rowOf 78 Pn.zero.dc := ⟨_, rfl⟩
  have HZP : Hid (∀ p : Pn, (rowOf 78 p.dc).size = ZP.size) := Lib.hid (fun p => by rw [hZP, rowOf_size, rowOf_size])
  have zp := zero37
  rw [← hZP] at zp
  have IG := Lib.hid infoGZ
  have HZG : Hid (zDg.cells.size = 11) := Lib.hid rfl
  clear hZP
  go_wp2
  go_loopw [4, 5] (fun s4 s5 wr => ∃ (j m : Nat) (A1 : Option Addr) (C1 : Nat), j ≤ 2 ∧ s5 = .int .i64 (j : Int) ∧ s4 = .slice A1 m C1 ∧ Hid (m = (t2.ways j).1.length ∧ m ≤ j) ∧ Hid (Tw w wr (t2.ways j).2 A C Z A1 C1 ((t2.ways j).1.map On.d))) (fun _ s5 _ => 2 - (intOf s5).toNat)
  case atStart => exact ⟨0, 0, none, 0, by decide, rfl, rfl, Lib.hid ⟨rfl, Nat.le_refl _⟩, HTL⟩
  case round =>
    obtain ⟨j, m, A1, C1, hj, rfl, rfl, HM, HTW0⟩ := hrel
    clear HTL
    have j0 : (0 : Int) ≤ (j : Int) := by omega
    by_cases hlt : j < 2
    · have j1 : (j : Int) < 2 := by omega
      have HJ := Lib.hid hlt
      have HDM : Hid (2 - (j + 1) < 2 - j) := Lib.hid (by omega)
      have HW1 : Hid (t2.ways (j + 1) = ((t2.ways j).1 ++ ((t2.ways j).2.way j).1, ((t2.ways j).2.way j).2)) := Lib.hid rfl
      have hfs := ways_fit HF2.out j hj
      obtain ⟨l0, hl0⟩ : ∃ l0, l0 = (t2.ways j).1 := ⟨_, rfl⟩
      obtain ⟨s, hs⟩ : ∃ s, s = (t2.ways j).2 := ⟨_, rfl⟩
      rw [← hl0] at HM HTW0 HW1
      rw [← hs] at HTW0 HW1 hfs
      have HFS := Lib.hid hfs
      obtain ⟨sT, hsT⟩ : ∃ sT, sT = s.ticked j := ⟨_, rfl⟩
      have HST := Lib.hid hsT
      have hfT : sT.fit (k + 2 * j) := by rw [hsT]; exact Sd.ticked_fit hfs j
      obtain ⟨sP, hsP⟩ : ∃ sP, sP = sT.paid 33 := ⟨_, rfl⟩
      have HSP := Lib.hid hsP
      have hfP : sP.fit (k + 2 * j + 1) := by rw [hsP]; exact Sd.paid_fit hfT 33
      obtain ⟨sS, hsS⟩ : ∃ sS, sS = sP.sent j := ⟨_, rfl⟩
      have HSS := Lib.hid hsS
      obtain ⟨ses, hses⟩ : ∃ ses, ses = sT.ses := ⟨_, rfl⟩
      have HSES : Hid (ses = s.ses ∧ ses = sT.ses) := Lib.hid ⟨by rw [hses, hsT]; rfl, hses⟩
      obtain ⟨dd, hdd⟩ : ∃ dd, dd = mark (keepD ses) (sP.wy j).nx j sP.now := ⟨_, rfl⟩
      have HDD := Lib.hid hdd
      have C14 := Lib.hid (fun w' => rtick_any (s.wy j) (hfs.wy j hlt).ok w')
      have CTK : Hid (∀ w', Calls Tryz.prog 65 #[.agg (dsa sT A C), .int .i64 33] w' fun e w'' => e = .returned (.tuple #[.agg (dsa sP A C), .bool (sT.bk.may 33)]) ∧ Below w'.heap.size w' w'') := Lib.hid (fun w' => by rw [hsP]; exact rtake15_any 33 (by decide) sT A C (k + 2 * j) hfT.bk (by have := HK.out; omega) w')
      have CSM : Hid (∀ w', Calls Tryz.prog 66 #[.agg (dsa sP A C), .int .i64 (j : Int), .agg #[.int .i64 7, .int .u32 (ses : Int), .int .u32 0, .int .i64 0, .int .u32 0, .int .u32 0, .int .u32 0, .int .i64 0, .int .i64 0, .int .i64 0, .slice none 0 0]] w' fun e w'' => e = .returned (.tuple #[.agg (dsa sS A C), dd.val]) ∧ Below w'.heap.size w' w'') := Lib.hid (fun w' => by rw [hsS, hdd]; exact rstamp15_any j hlt (keepD ses) sP A C (hfP.wy j hlt).nx w')
      have HMAY : Hid (sT.bk.may 33 = s.bk.may 33) := Lib.hid (by rw [hsT]; rfl)
      have HNO : Hid (¬ ((s.wy j).fires = true ∧ s.bk.may 33 = true) → (t2.ways (j + 1)).1 = l0 ∧ (t2.ways (j + 1)).2 = sT) := Lib.hid (fun h => by rw [HW1.out, tick_eq s j h, hsT]; exact ⟨List.append_nil _, rfl⟩)
      have HYES : Hid ((s.wy j).fires = true ∧ s.bk.may 33 = true → (t2.ways (j + 1)).1.map On.d = l0.map On.d ++ [dd] ∧ (t2.ways (j + 1)).1.length = l0.length + 1 ∧ (t2.ways (j + 1)).2 = sS) := Lib.hid (fun h => by
        rw [HW1.out, way_eq s j h, hsS, hdd, HSES.out.1, hsP, hsT]
        exact ⟨by rw [List.map_append]; rfl, by rw [List.length_append]; rfl, rfl⟩)
      have hway := HTW0.out.db.way hlt
      have HWAY := Lib.hid hway
      have HTD : Hid (∀ wa wb, Tw w wa s A C Z A1 C1 (l0.map On.d) → Prt w.heap.size (j * 78) (rowOf 78 (s.wy j).tick.dc).size wa wb → Lies wb w.heap.size (j * 78) (rowOf 78 (s.wy j).tick.dc) → Tw w wb sT A C Z A1 C1 (l0.map On.d)) := Lib.hid (fun wa wb h hp hl => by
        rw [rowOf_size] at hp
        exact h.put hp (by rw [hsT]; exact h.db.setWay hlt hl hp))
      clear hlt hj hfs hl0 hs hsT hfT hsP hfP hsS hses hdd HW1 hway
      generalize (s.wy j).tick = pt at *
      generalize hfr : (s.wy j).fires = fr at *
      clear hfr
      generalize sT.bk.may 33 = my at *
      generalize s.bk.may 33 = my2 at *
      go_upto_region 8 with (first
        | (with_reducible refine wpList_load_lies rfl 34 (.tmp 26) rfl w.heap.size (j * 78) rfl (rowOf 78 (s.wy j).dc) HWAY.out _ Tryz.underlying34 rfl (infoP14 _) ?_)
        | (go_at_call 64; (with_reducible refine (C14.out _).mono ?_); rintro e w1 ⟨rfl, hb1⟩; have HTa := Lib.hid (HTW0.out.below hb1); clear hb1)
        | ((with_reducible refine wpList_store_lies rfl 34 (.tmp 6) (.tmp 29) rfl w1.heap.size 0 rfl (rowOf 78 pt.dc) rfl ZP (Lies.new w1 ZP 34 (Below.refl _ _)) (HZP.out _) (infoP14 _) (oneP14 _) ?_); intro w2 N1 N2 N3)
        | fail)
      have HTb := Lib.hid (HTa.out.below (N2.out.bel ((Below.refl w1.heap.size w1).alloc (Nat.le_refl _) (.cells ZP 34)) (by simp) (Nat.le_refl _)))
      clear HTa HWAY N2 N3 C14 HTW0
      have HN1 := N1
      clear N1
      generalize w1.heap.size = g6 at *
      go_upto_region 9 with (first
        | (with_reducible refine wpList_load_lies rfl 34 (.tmp 6) rfl g6 0 rfl (rowOf 78 pt.dc) HN1.out _ Tryz.underlying34 rfl (infoP14 _) ?_)
        | ((with_reducible refine wpList_store_lies rfl 34 (.tmp 34) (.tmp 32) rfl w.heap.size (j * 78) rfl (rowOf 78 pt.dc) rfl (rowOf 78 (s.wy j).dc) (HTb.out.db.way HJ.out) ((HZP.out _).trans (HZP.out _).symm) (infoP14 _) (oneP14 _) ?_); intro w3 N1 N2 N3)
        | fail)
      have HTc := Lib.hid (HTD.out w2 w3 HTb.out N2.out N1.out)
      clear HTb HTD N1 N2 N3 HN1
      cases fr
      · have HN := Lib.hid (HNO.out (fun h => by cases h.1))
        clear HNO HYES CTK CSM zp zz
        go_wp2
        go_roundw
        case rel => exact ⟨j + 1, m, A1, C1, HJ.out, by go_num, rfl, Lib.hid ⟨by rw [HN.out.1]; exact HM.out.1, by have := HM.out.2; omega⟩, by rw [HN.out.1, HN.out.2]; exact HTc⟩
        case measure => have := HDM.out; simp [intOf] <;> omega
      · go_upto_region 11 with (first
          | (with_reducible refine wpList_load_lies rfl 40 (.tmp 1) rfl w.heap.size 0 rfl (dsa sT A C) HTc.out.db.whole _ Tryz.underlying40 rfl (infoD15 _ _ _) ?_)
          | (go_at_call 65; (with_reducible refine (CTK.out _).mono ?_); rintro e w4 ⟨rfl, hb4⟩; have HTd := Lib.hid (HTc.out.below hb4); clear hb4)
          | ((with_reducible refine wpList_store_lies rfl 40 (.tmp 8) (.tmp 40) rfl w4.heap.size 0 rfl (dsa sP A C) rfl Z (Lies.new w4 Z 40 (Below.refl _ _)) (HZS.out _ _ _) (infoD15 _ _ _) (dsa_one _ _ _) ?_); intro w5 N1 N2 N3)
          | fail)
        have HTe := Lib.hid (HTd.out.below (N2.out.bel ((Below.refl w4.heap.size w4).alloc (Nat.le_refl _) (.cells Z 40)) (by simp) (Nat.le_refl _)))
        have HL8 := N1
        clear N1 N2 N3 HTc HTd CTK
        cases my
        · have HN := Lib.hid (HNO.out (fun h => by have := HMAY.out; rw [h.2] at this; cases this))
          clear HNO HYES CSM zp zz HMAY
          go_wp2
          go_roundw
          case rel => exact ⟨j + 1, m, A1, C1, HJ.out, by go_num, rfl, Lib.hid ⟨by rw [HN.out.1]; exact HM.out.1, by have := HM.out.2; omega⟩, by rw [HN.out.1, HN.out.2]; exact HTe⟩
          case measure => have := HDM.out; simp [intOf] <;> omega
        · have HY := Lib.hid (HYES.out (by first | exact ⟨trivial, HMAY.out.symm⟩ | exact ⟨rfl, HMAY.out.symm⟩))
          clear HNO HYES HMAY
          have HG8 : Hid (w4.heap.size < w5.heap.size) := Lib.hid HL8.out.lt
          go_upto_region 13 with fail
          obtain ⟨w6, hw6⟩ : ∃ w6, w6 = w5.alloc (.cells (Mq.dcells Mq.nil) 50) := ⟨_, rfl⟩
          rw [← hw6]
          have hb6 : Below w5.heap.size w5 w6 := by rw [hw6]; exact (Below.refl _ _).alloc (Nat.le_refl _) _
          have HL10 : Hid (Lies w6 w5.heap.size 0 (Mq.dcells Mq.nil)) := Lib.hid (by rw [hw6]; exact Lies.new w5 _ _ (Below.refl _ _))
          have HB6 := Lib.hid hb6
          have HL86 := Lib.hid (HL8.out.below hb6 HL8.out.lt)
          have c163 : w6.cell? ⟨w.heap.size, 163, none⟩ = some (.int .u32 (ses : Int)) := by rw [HSES.out.2]; exact (HTe.out.below hb6).db.cells.2.2.2.1
          clear hw6 hb6 HL8
          generalize w4.heap.size = g8 at *
          go_upto_region 14 with (first
            | (with_reducible refine wpList_load_lies rfl 40 (.tmp 8) rfl g8 0 rfl (dsa sP A C) HL86.out _ Tryz.underlying40 rfl (infoD15 _ _ _) ?_)
            | (go_at_call 66; (with_reducible refine (CSM.out _).mono ?_); rintro e w7 ⟨rfl, hb7⟩; have HB7 := Lib.hid (HB6.out.trans (hb7.mono HB6.out.size)); have HDB7 := Lib.hid (HTe.out.below HB7.out).db.whole; have HL107 := Lib.hid (HL10.out.below hb7 HL10.out.lt); clear hb7)
            | ((with_reducible refine wpList_store_lies rfl 40 (.tmp 1) (.tmp 50) rfl w.heap.size 0 rfl (dsa sS A C) rfl (dsa sT A C) HDB7.out ((HZS.out _ _ _).trans (HZS.out _ _ _).symm) (infoD15 _ _ _) (dsa_one _ _ _) ?_); intro w8 N1 N2 N3)
            | ((with_reducible refine wpList_store_lies rfl 50 (.tmp 10) (.tmp 51) rfl w5.heap.size 0 rfl (Mq.dcells dd) rfl (Mq.dcells Mq.nil) (HL107.out.apart N2.out (by have := HTe.out.hs; omega)) rfl (Mq.infoC dd) (Mq.dcells_one dd) ?_); intro w9 M1 M2 M3)
            | fail)
          have HTF := Lib.hid (HTe.out.via HB7.out N2.out (DB.of N1.out) M2.out)
          have HLD := M1
          clear N1 N2 N3 M1 M2 M3 HTe HL86 HL10 HB6 HB7 HDB7 HL107 CSM c163
          have hmm : m = (l0.map On.d).length := by rw [List.length_map]; exact HM.out.1
          have HMM := Lib.hid hmm
          have hm9 : m + 1 ≤ 100000 := by have := HM.out.2; have := HJ.out; omega
          have HM9 := Lib.hid hm9
          clear hmm hm9
          generalize w5.heap.size = g10 at *
          go_wp2_with (first
            | (with_reducible refine wpList_load_lies rfl 50 (.tmp 10) rfl g10 0 rfl (Mq.dcells dd) HLD.out _ Tryz.underlying50 rfl (Mq.infoC dd) ?_)
            | (with_reducible refine wpList_build_one rfl 95 50 (.tmp 53) rfl zDg 11 88 (Mq.dcells dd) rfl Tryz.underlying95 IG.out (dcells_size dd) (by decide) (by decide) ?_; obtain ⟨ho8, hl8, hs8⟩ := HTF.out.room HMM.out dd; have HO8 := Lib.hid ho8; have HLN := Lib.hid hl8; have HS8 := Lib.hid hs8; clear ho8 hl8 hs8)
            | (at_builtin; (with_reducible refine wpList_append_el rfl (.tmp 52) (.tmp 54) 95 50 rfl zDg 11 88 Tryz.underlying95 IG.out HZG.out (by decide) (by decide) (w.heap.size + 2) A1 m C1 rfl _ HO8.out w9.heap.size rfl (Mq.dcells dd) (dcells_size dd) HLN.out (Mq.dcells_one dd) HM9.out HS8.out ?_); intro A2 C2 w10 HA9 HG9)
            | fail)
          go_roundw
          case rel => exact ⟨j + 1, m + 1, A2, C2, HJ.out, by go_num, rfl, Lib.hid ⟨by rw [HY.out.2.1, HM.out.1], by have := HM.out.2; omega⟩, by rw [HY.out.1, HY.out.2.2]; exact Lib.hid (HTF.out.more HMM.out HA9.out HG9.out)⟩
          case measure => have := HDM.out; simp [intOf] <;> omega
    · obtain rfl : j = 2 := by omega
      clear hlt hj
      obtain ⟨sE, hsE⟩ : ∃ sE, sE = (t2.ways 2).2 := ⟨_, rfl⟩
      have HSE := Lib.hid hsE
      rw [← hsE] at HTW0
      have HMM : Hid (m = (t2.ways 2).1.length) := Lib.hid HM.out.1
      clear hsE
      go_wp2_with (first
        | (with_reducible refine wpList_load_lies rfl 40 (.tmp 1) rfl w.heap.size 0 rfl (dsa sE A C) HTW0.out.db.whole _ Tryz.underlying40 rfl (infoD15 _ _ _) ?_)
        | ((with_reducible refine wpList_store_lies rfl 40 (.tmp 2) (.tmp 56) rfl (w.heap.size + 1) 0 rfl (dsa sE A C) rfl Z HTW0.out.z (HZS.out _ _ _) (infoD15 _ _ _) (dsa_one _ _ _) ?_); intro w5 N1 N2 N3)
        | fail)
      refine bodyPost_ret (v := .tuple #[.agg (dsa sE A C), .slice A1 m C1]) (Mq.results_cell1 (p := 2) (u := 3) rfl _ w5 (w.heap.size + 1) _ _ rfl rfl (Lies.loadVar N1.out 40 _ Tryz.underlying40 rfl (infoD15 _ _ _))) rfl ?_
      refine ⟨A1, C1, by rw [HSE.out, HMM.out], Lib.hid ?_, Lib.hid (N2.out.bel HTW0.out.bel HTW0.out.bel.size (Nat.le_succ _))⟩
      exact ownsRow_low (DRw.keep HTW0.out.own (fun k h1 h2 => N2.out.block k h2 (by omega))) (by omega)
end Go.Proofs.YtldhlknmabpanaaGreat.Mp
namespace Go.Proofs.YtldhlknmabpanaaGreat.Mp
open Go.RowKit

theorem take_more {α : Type} {l : List α} {j : Nat} {x : α} (h : l[j]? = some x) : l.take (j + 1) = l.take j ++ [x] := by rw [List.take_add_one, h]; rfl
/-- An item in the document's list, wherever it lies. -/
theorem DL.item {w : World} {A : Option Addr} {l : List Mq.It} (h : DL w A l) {j : Nat} (hj : j < l.length) : ∃ g off, A = some ⟨g, off, none⟩ ∧ g < w.heap.size ∧ Lies w g (off + j * 12) (dic (l[j]'hj)) := h.at_ j _ (List.getElem?_eq_getElem hj)
set_option maxRecDepth 100000 in
set_option maxHeartbeats 2000000 in
theorem rforget15_any (kd : Int) (t : Sd) (A : Option Addr) (C : Nat) (w : World) (hl : DL w A t.q.l) (hn : t.q.l.length ≤ 1000) :
    Calls Tryz.prog 43 #[.agg (dsa t A C), .int .i64 kd] w fun e w' => ∃ A' C', e = .returned (.tuple #[.agg (dsa (t.forget kd) A' C'), .int .i64 ((t.q.l.length : Int) - ((t.forget kd).q.l.length : Int))]) ∧ Hid (LR w' w.heap.size A' C' (t.forget kd).q.l) ∧ Hid (Below w.heap.size w w') := by
  obtain ⟨W, hW⟩ : ∃ W, W = (w.alloc (.cells (dsa t A C) 40)).alloc (.cells (dsa Sdz none 0) 40) := ⟨_, rfl⟩
  obtain ⟨hb, hd, hz⟩ := two_d w t A C hW
  have hs : W.heap.size = w.heap.size + 2 := by rw [hW]; simp
  have HB := Lib.hid hb
  have HD := Lib.hid hd
  have zz := zeroD
  obtain ⟨V, hV⟩ : ∃ V, V = dsa t A C := ⟨_, rfl⟩
  obtain ⟨Z, hZ⟩ : ∃ Z, Z = dsa Sdz none 0 := ⟨_, rfl⟩
  have HLZ : Hid (Lies W (w.heap.size + 1) 0 Z) := Lib.hid (by rw [hZ]; exact hz)
  have HZS : Hid (∀ t A C, (dsa t A C).size = Z.size) := Lib.hid (fun t A C => by rw [hZ, dsa_size, dsa_size])
  obtain ⟨l, hle⟩ : ∃ l, l = t.q.l := ⟨_, rfl⟩
  obtain ⟨n, hnn⟩ : ∃ n, n = l.length := ⟨_, rfl⟩
  have HLW : Hid (DL W A l) := Lib.hid (by rw [hle]; exact hl.below hb (Nat.le_refl _))
  have HN : Hid (n = l.length) := Lib.hid hnn
  have HLE := Lib.hid hle
  have hn2 : n ≤ 1000 := by rw [hnn, hle]; exact hn
  have HN2 := Lib.hid hn2
  obtain ⟨Kf, hK⟩ : ∃ Kf : Mq.It → Bool, Kf = fun x => !decide (x.v.kind = kd) := ⟨_, rfl⟩
  have HKF := Lib.hid hK
  have HFO : Hid ((t.forget kd).q.l = l.filter Kf) := Lib.hid (by rw [hK, hle]; rfl)
  have HFL : Hid ((l.filter Kf).length ≤ n) := Lib.hid (by rw [hnn]; exact List.length_filter_le _ _)
  have HI := Lib.hid infoI
  have HZI : Hid (zI.cells.size = 12) := Lib.hid rfl
  have hz5 : t.q.l.length = n := by rw [← hle, ← hnn]
  rw [HFO.out, hz5]
  have hc161 : W.cell? ⟨w.heap.size, 161, none⟩ = some (.slice A n C) := by have := hd.cells.2.1; rw [hz5] at this; exact this
  have HC := Lib.hid hc161
  rw [← hZ] at zz hW
  rw [← hV] at hW ⊢
  clear hb hd hz hl hn hV hZ hnn hle hK hz5 hc161
  go_enter Tryz.func43, Tryz.ntmps43
  go_upto_region 1 with fail
  rw [← hW]
  clear hW zz
  go_upto_region 3 with fail
  have HBW : Hid (W.heap.size = w.heap.size + 2) := Lib.hid hs
  clear hs
  go_wp2
  go_loopw [6, 7] (fun s6 s7 wr => ∃ (j : Nat) (A1 : Option Addr) (C1 : Nat), j ≤ n ∧ s7 = .int .i64 (j : Int) ∧ s6 = .slice A1 ((l.take j).filter Kf).length C1 ∧ Hid (LR wr W.heap.size A1 C1 ((l.take j).filter Kf)) ∧ Hid (Below W.heap.size W wr)) (fun _ s7 _ => n - (intOf s7).toNat)
  case atStart => exact ⟨0, none, 0, Nat.zero_le _, rfl, rfl, Lib.hid (LR.start _ _), Lib.hid (Below.refl _ _)⟩
  case round =>
    obtain ⟨j, A1, C1, hj, rfl, rfl, HR, HBR⟩ := hrel
    have c161 : wr.cell? ⟨w.heap.size, 161, none⟩ = some (.slice A n C) := (HBR.out.cell (p := ⟨w.heap.size, 161, none⟩) HD.out.lt).trans HC.out
    have j0 : (0 : Int) ≤ (j : Int) := by omega
    have jb : (j : Int) ≤ 1000 := by omega
    by_cases hlt : j < n
    · have j1 : (j : Int) < n := by omega
      have HJ : Hid (j + 1 ≤ n) := Lib.hid hlt
      have HDM : Hid (n - (j + 1) < n - j) := Lib.hid (by omega)
      obtain ⟨g, off, rfl, hg, hit⟩ := HLW.out.item (j := j) (by have := HN.out; omega)
      obtain ⟨x, hx⟩ : ∃ x, x = l[j]'(by have := HN.out; omega) := ⟨_, rfl⟩
      rw [← hx] at hit
      have HX : Hid (l[j]? = some x) := Lib.hid (by rw [hx]; exact List.getElem?_eq_getElem _)
      have hitr := hit.below HBR.out hg
      have ck : wr.cell? ⟨g, off + j * 12 + 1, none⟩ = some (.int .i64 x.v.kind) := hitr.cell 1 (by decide : 1 < 12)
      have HIT := Lib.hid hitr
      have HTK : Hid ((l.take (j + 1)).filter Kf = (l.take j).filter Kf ++ (if Kf x then [x] else [])) := Lib.hid (by
        rw [take_more HX.out, List.filter_append]
        congr 1
        cases h : Kf x <;> simp [h])
      have HLN : Hid (((l.take j).filter Kf).length ≤ 1000) := Lib.hid (by
        have h1 := List.length_filter_le Kf (l.take j)
        have h2 := List.length_take_le j l
        have := HJ.out
        have := HN2.out
        omega)
      clear hx hg hit hitr hlt hj
      by_cases hk : x.v.kind = kd
      · have HKX : Hid (Kf x = false) := Lib.hid (by rw [HKF.out]; simp [hk])
        have hk1 : (x.v.kind != kd) = false := by simp [hk]
        clear hk
        go_wp2
        go_roundw
        case rel => exact ⟨j + 1, A1, C1, HJ.out, by go_num, by rw [HTK.out, HKX.out]; simp, by rw [HTK.out, HKX.out]; simpa using HR, HBR⟩
        case measure => have := HDM.out; simp [intOf] <;> omega
      · have HKX : Hid (Kf x = true) := Lib.hid (by rw [HKF.out]; simp [hk])
        have hk1 : (x.v.kind != kd) = true := by simp [hk]
        clear hk
        have HLL : Hid (∀ A C v, v = ((l.take j).filter Kf).length → wr.ownsRow W.heap.size 130 12 (.slice A v C) v (((l.take j).filter Kf).flatMap (fun x => (dic x).toList)) → True) := Lib.hid (fun _ _ _ _ _ => True.intro)
        obtain ⟨XS, hXS⟩ : ∃ XS, XS = ((l.take j).filter Kf).flatMap (fun x => (dic x).toList) := ⟨_, rfl⟩
        obtain ⟨m, hm⟩ : ∃ m, m = ((l.take j).filter Kf).length := ⟨_, rfl⟩
        have HRM : Hid (wr.ownsRow W.heap.size 130 12 (.slice A1 m C1) m XS) := Lib.hid (by rw [hXS, hm]; exact HR.out)
        have HM := Lib.hid hm
        have HXS := Lib.hid hXS
        have hm1 : m + 1 ≤ 100000 := by have := HLN.out; omega
        have HM1 := Lib.hid hm1
        have HOW : Hid (∀ w8, w8 = wr.alloc (.cells (dic x) 130) → w8.ownsRow W.heap.size 130 12 (.slice A1 m C1) m XS ∧ Lies w8 wr.heap.size 0 (dic x) ∧ W.heap.size ≤ w8.heap.size ∧ Below W.heap.size W w8) := Lib.hid (fun w8 e => by
          subst e
          have hb : Below wr.heap.size wr (wr.alloc (.cells (dic x) 130)) := (Below.refl _ _).alloc (Nat.le_refl _) _
          exact ⟨ownsRow_below HRM.out hb (Nat.le_refl _), Lies.new wr _ _ (Below.refl _ _), Nat.le_trans HBR.out.size hb.size, HBR.out.trans (hb.mono HBR.out.size)⟩)
        rw [← hm]
        clear hm hXS hm1 HLL
        go_wp2_with (first
          | (with_reducible refine wpList_load_lies rfl 130 (.tmp 29) rfl g (off + j * 12) rfl (dic x) HIT.out _ Tryz.underlying130 rfl (infoI15 x) ?_)
          | (with_reducible refine wpList_build_one rfl 38 130 (.tmp 30) rfl zI 12 96 (dic x) rfl Tryz.underlying38 HI.out (dic_size x) (by decide) (by decide) ?_; obtain ⟨ho8, hl8, hs8, hb8⟩ := HOW.out _ rfl; have HO8 := Lib.hid ho8; have HL8 := Lib.hid hl8; have HS8 := Lib.hid hs8; have HB8 := Lib.hid hb8; clear ho8 hl8 hs8 hb8)
          | (at_builtin; (with_reducible refine wpList_append_el rfl (.tmp 25) (.tmp 31) 38 130 rfl zI 12 96 Tryz.underlying38 HI.out HZI.out (by decide) (by decide) W.heap.size A1 m C1 rfl XS HO8.out wr.heap.size rfl (dic x) (dic_size x) HL8.out (dic_one x) HM1.out HS8.out ?_); intro A2 C2 w9 HA9 HG9)
          | fail)
        go_roundw
        case rel =>
          refine ⟨j + 1, A2, C2, HJ.out, by go_num, ?_, Lib.hid ?_, Lib.hid (HB8.out.trans HG9.out.bel)⟩
          · rw [HTK.out, HKX.out, if_pos rfl, List.length_append, ← HM.out]; rfl
          · rw [HTK.out, HKX.out, if_pos rfl]
            refine LR.more HM.out ?_
            have := HA9.out
            rw [HXS.out] at this
            exact this
        case measure => have := HDM.out; simp [intOf] <;> omega
    · obtain rfl : j = n := by omega
      have HTL : Hid (l.take j = l) := Lib.hid (by rw [HN.out, List.take_length])
      rw [HTL.out] at HR ⊢
      have hm : (l.filter Kf).length ≤ j := HFL.out
      have hwr : IntKind.i64.wrap ((j : Int) - ((l.filter Kf).length : Int)) = (j : Int) - ((l.filter Kf).length : Int) := by rw [IntKind.wrap_i64]; omega
      have hdr : DB wr w.heap.size t A C := HD.out.below HBR.out HD.out.lt
      have f161 := hdr.frozen 161
      have HDW : Hid (DB (wr.setCell ⟨w.heap.size, 161, none⟩ (.slice A1 (l.filter Kf).length C1)) w.heap.size (t.forget kd) A1 C1) := Lib.hid (hdr.tail 5 (by decide) (.slice A1 (l.filter Kf).length C1) (by rw [← HFO.out]; rfl) rfl)
      have HBE : Hid (Below w.heap.size w (wr.setCell ⟨w.heap.size, 161, none⟩ (.slice A1 (l.filter Kf).length C1))) := Lib.hid ((HB.out.trans (HBR.out.mono HB.out.size)).setCell (p := ⟨w.heap.size, 161, none⟩) (Nat.le_refl _) _)
      have HLE2 : Hid (LR (wr.setCell ⟨w.heap.size, 161, none⟩ (.slice A1 (l.filter Kf).length C1)) w.heap.size A1 C1 (l.filter Kf)) := Lib.hid (ownsRow_low (b := w.heap.size) (ownsRow_keep HR.out (fun g _ hg _ => Below.heap_setCell wr ⟨w.heap.size, 161, none⟩ _ g (by have := (HR.out.lt g hg).1; have := HBW.out; show g ≠ w.heap.size; omega))) HB.out.size)
      have HZE : Hid (Lies (wr.setCell ⟨w.heap.size, 161, none⟩ (.slice A1 (l.filter Kf).length C1)) (w.heap.size + 1) 0 Z) := Lib.hid ((HLZ.out.below HBR.out HLZ.out.lt).other (by show w.heap.size + 1 ≠ w.heap.size; omega) _)
      have HAP : Hid (∀ g, A1.map Addr.block = some g → w.heap.size + 2 ≤ g) := Lib.hid (fun g hg => by have := (LR.low HR.out g hg).1; have := HBW.out; omega)
      obtain ⟨R, hR⟩ : ∃ R, R = dsa (t.forget kd) A1 C1 := ⟨_, rfl⟩
      have HRR := Lib.hid hR
      have HWE : Hid (Lies (wr.setCell ⟨w.heap.size, 161, none⟩ (.slice A1 (l.filter Kf).length C1)) w.heap.size 0 R) := Lib.hid (by rw [hR]; exact HDW.out.whole)
      have IR : Hid ((Tryz.prog.info? 40).map (·.size) = some R.size) := Lib.hid (by rw [hR]; exact infoD15 _ _ _)
      have SR : Hid (R.size = Z.size) := Lib.hid (by rw [hR]; exact HZS.out _ _ _)
      have OR : Hid (R.all (·.oneCell') = true) := Lib.hid (by rw [hR]; exact dsa_one _ _ _)
      clear hR hdr hlt hj HR HD HLZ HBR
      generalize hmm : (l.filter Kf).length = m at *
      have HMM := Lib.hid hmm
      clear hmm
      go_upto_region 9 with fail
      generalize wr.setCell ⟨w.heap.size, 161, none⟩ (.slice A1 m C1) = w4 at *
      go_wp2_with (first
        | (with_reducible refine wpList_load_lies rfl 40 (.tmp 2) rfl w.heap.size 0 rfl R HWE.out _ Tryz.underlying40 rfl IR.out ?_)
        | ((with_reducible refine wpList_store_lies rfl 40 (.tmp 4) (.tmp 41) rfl (w.heap.size + 1) 0 rfl R rfl Z HZE.out SR.out IR.out OR.out ?_); intro w5 N1 N2 N3)
        | fail)
      refine bodyPost_ret (v := .tuple #[.agg R, .int .i64 ((j : Int) - (m : Int))]) (Mq.results_cell1 (p := 4) (u := 5) rfl _ w5 (w.heap.size + 1) _ _ rfl rfl (Lies.loadVar N1.out 40 _ Tryz.underlying40 rfl IR.out)) rfl ?_
      refine ⟨A1, C1, by rw [HRR.out, HMM.out], Lib.hid (ownsRow_keep HLE2.out (fun g _ hg _ => N2.out.block g (HLE2.out.lt g hg).2 (fun e => by
        have := HAP.out g (by
          cases A1 with
          | none => cases hg
          | some a => exact hg)
        omega))), Lib.hid (N2.out.bel HBE.out HBE.out.size (Nat.le_succ _))⟩
end Go.Proofs.YtldhlknmabpanaaGreat.Mp
