/-
  Own text: Push of what may not go, walked; what a sender's calls promise, met.
-/
import Derived.Test.YtblnmddphichgaaMpX
import Derived.Test.YtblnmddphichgaaMpQ
namespace Go.Proofs.Ytblnmddphichgaa.Mp
open Go.RowKit

set_option maxRecDepth 100000 in
theorem push_no_sb {w : World} {S : Nat → Prop} {p : Nat} {s : Sd} (r : Int) (d : Dg) (l : List Int) (h : SB w S p s) (hl : Bytes w d.da d.dl l) (hc : chk (s.own d d.da d.dc) l ≠ 0) :
    Calls Try.prog 7 #[.pointer (some ⟨p, 0, none⟩), .int .i64 r, d.val] w fun e w' => e = .returned (.int .i64 (chk (s.own d d.da d.dc) l)) ∧ Hid (After SB w S p s w') := by
  obtain ⟨kb, qb, A, C, h⟩ := h
  obtain ⟨D, hD⟩ : ∃ D, D = s.own d d.da d.dc := ⟨_, rfl⟩
  obtain ⟨W0, hW0⟩ : ∃ W0, W0 = w.alloc (.cells (Mq.dcells d) 35) := ⟨_, rfl⟩
  have hb0 : Below w.heap.size w W0 := by rw [hW0]; exact (Below.refl _ _).alloc (Nat.le_refl _) _
  have hd0 : Lies W0 w.heap.size 0 (Mq.dcells d) := by rw [hW0]; exact Lies.new w (Mq.dcells d) _ (Below.refl _ _)
  have h0 : SBd W0 S p s kb qb A C := h.keep (fun k hk => hb0.block k (h.lt k hk)) hb0.size
  have c30 := h0.blk.ses
  have e1 := hd0.cell 1 (by decide : 1 < 11)
  have f1 := hd0.frozen 1
  have e3 := hd0.cell 3 (by decide : 3 < 11)
  have f3 := hd0.frozen 3
  obtain ⟨W1, hW1⟩ : ∃ W1, W1 = (W0.setCell ⟨w.heap.size, 1, none⟩ (.int .u32 (s.ses : Int))).setCell ⟨w.heap.size, 3, none⟩ (.int .i64 0) := ⟨_, rfl⟩
  have hd1 : Lies W1 w.heap.size 0 (Mq.dcells D) := by rw [hW1, hD]; exact (hd0.set 1 _).set 3 _
  have hb1 : Below w.heap.size w W1 := by rw [hW1]; exact (hb0.setCell (p := ⟨w.heap.size, 1, none⟩) (Nat.le_refl _) _).setCell (p := ⟨w.heap.size, 3, none⟩) (Nat.le_refl _) _
  obtain ⟨c, hcc⟩ : ∃ c, c = chk (s.own d d.da d.dc) l := ⟨_, rfl⟩
  have HC : Hid (∀ w', Below w.heap.size w w' → Calls Try.prog 11 #[D.val] w' fun e w'' => e = .returned (.int .i64 c) ∧ Below w'.heap.size w' w'') := Lib.hid (fun w' hb => by
    rw [hD, hcc]
    exact check_any (s.own d d.da d.dc) l w' (hl.below hb (Nat.le_refl _)))
  rw [← hcc] at hc ⊢
  have HW0 := Lib.hid hW0
  have HW1 := Lib.hid hW1
  have HD1 := Lib.hid hd1
  have HB1 := Lib.hid hb1
  have HH := Lib.hid h
  clear hd0 h0 hb0 hb1 hd1 hW0 hW1 hl h hD hcc
  go_enter Try.func7, Try.ntmps7
  go_upto_region 1 with fail
  rw [← HW0.out]
  go_upto_region 2 with fail
  rw [← HW1.out]
  clear c30 e1 e3 f1 f3
  go_wp2_with (first
    | (with_reducible refine wpList_load_lies rfl 35 (.tmp 5) rfl w.heap.size 0 rfl (Mq.dcells D) HD1.out _ Try.underlying35 rfl (Mq.infoC _) ?_)
    | (go_at_call 11; (with_reducible refine (HC.out _ HB1.out).mono ?_); rintro e W4 ⟨rfl, hb2⟩; have HB2 := Lib.hid hb2; clear hb2)
    | fail)
  go_ret
  have hb : Below w.heap.size w W4 := HB1.out.trans (HB2.out.mono HB1.out.size)
  exact ⟨rfl, Lib.hid ⟨⟨S, ⟨kb, qb, A, C, HH.out.keep (fun k hk => hb.block k (HH.out.lt k hk)) hb.size⟩, fun _ hk => .inl hk⟩, Fr.of_below hb⟩⟩
theorem sender_api2 : Api2 SB where
  keep := fun h e hs => sb_keep h e hs
  lt := fun h => sb_lt h
  new_ := fun ses room r b w _ hok h1 h2 => new_sb ses room r b w hok h1 h2
  push := fun r d l h hf hk hl hle hn hc => push_sb r d l h hf hk hl hle hn hc
  push_no := fun r d l h _ _ hl _ _ hc => push_no_sb r d l h hl hc
  tick := fun h hf hk => tick_sb h hf hk
  flush := fun h hf hk => flush_sb h hf hk
  heard := fun i h hf hk hn => heard_sb i h hf hk hn
  waiting := fun h => waiting_sb h
theorem sender_api : Api (SBB SB) := sender_api2.api
end Go.Proofs.Ytblnmddphichgaa.Mp
