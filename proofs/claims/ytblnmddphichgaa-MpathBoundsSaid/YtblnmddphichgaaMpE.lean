/-
  Own text: law MpathBounds, its walk over what a sender's calls promise. (Written by gen_mpe.py.)
-/
import Derived.Test.YtblnmddphichgaaMpD
import Derived.Test.YtblnmddphichgaaMpZ
import Derived.Test.YtblnmddphichgaaGrow
import Derived.Deep.CutBlock
namespace Go.Proofs.Ytblnmddphichgaa.Mp
open Go.RowKit

theorem infoO (o : Op15) : (Try.prog.info? 37).map (·.size) = some o.cells.size := by kernel_rfl
theorem cells_oneO (o : Op15) : o.cells.all (·.oneCell') = true := by simp [Value.oneCell']
def op0 : Op15 := ⟨0, 0, ⟨0, 0, 0, 0, 0, 0, 0, 0, 0, 0, none, 0, 0⟩, 0, 0, 0⟩
theorem wpList_load_range {w : World} {ops : Array Oper} {rest : List Oper} {op : Oper} {a : Act} {Q : Exit → Act → World → Prop} (hgd : op.guard = none) (ty : TypeId) (x : Operand) (ho : op.op = .load ty x)
    (g o : Nat) (hx : a.eval x = .pointer (some ⟨g, o, none⟩)) (cs : Array Value) (hr : w.rangeAt g o cs.toList) (d : TypeDesc) (hu : Try.prog.underlying ty = some d) (hd : d.isRow = true) (hi : (Try.prog.info? ty).map (·.size) = some cs.size)
    (h : wpList Try.prog ops Q rest (a.put op.dst (.agg cs)) w) : wpList Try.prog ops Q (op :: rest) a w := by
  refine wpList_load_mid hgd ty x ho g o hx cs.toList d hr hu hd (by rw [hi]; simp) ?_
  simpa using h
/-- The sender's blocks lie from a place on, and this one is none of them. -/
structure Apt (B nb : Nat) (S : Nat → Prop) : Prop where
  lo : ∀ k, S k → B ≤ k
  no : ¬ S nb
theorem after_step {SB : World → (Nat → Prop) → Nat → Sd → Prop} {w w' : World} {S : Nat → Prop} {p B nb : Nat} {s : Sd} (h : After SB w S p s w') (hS : Apt B nb S) (hB : B ≤ w.heap.size) (hn : nb < w.heap.size) : ∃ S', SB w' S' p s ∧ Apt B nb S' ∧ (∀ k, S' k → S k ∨ w.heap.size ≤ k) ∧ Fr S w w' := by
  obtain ⟨⟨S', h1, h2⟩, h3⟩ := h
  refine ⟨S', h1, ⟨fun k hk => ?_, fun hk => ?_⟩, h2, h3⟩
  · rcases h2 k hk with h | h
    · exact hS.lo k h
    · omega
  · rcases h2 nb hk with h | h
    · exact hS.no h
    · omega
abbrev nx (c : Nat → Nat) : Array Value := #[.int .u32 (c 0 : Int), .int .u32 (c 1 : Int)]
theorem nx_cell {w : World} {nb pi : Nat} {c : Nat → Nat} (h : Lies w nb 0 (nx c)) (hp : pi < 2) : w.cell? ⟨nb, pi, none⟩ = some (.int .u32 (c pi : Int)) := by
  rcases (by omega : pi = 0 ∨ pi = 1) with rfl | rfl
  · exact h.cell 0 (by decide : 0 < 2)
  · exact h.cell 1 (by decide : 1 < 2)
theorem nx_set {w : World} {nb pi v : Nat} {c : Nat → Nat} (h : Lies w nb 0 (nx c)) (hp : pi < 2) : Lies (w.setCell ⟨nb, pi, none⟩ (.int .u32 (v : Int))) nb 0 (nx (upd c pi v)) := by
  rcases (by omega : pi = 0 ∨ pi = 1) with rfl | rfl
  · exact h.set 0 _
  · exact h.set 1 _
/-- Behind a call of the script: what was told, and what stands. -/
structure Mid (SB : World → (Nat → Prop) → Nat → Sd → Prop) (W0 : World) (B nb base p : Nat) (r bu : Int) (ro i : Nat) (c0 : Nat → Nat) (b0 : Int) (wx : World) (s' : Sd) (tk' : Nat) (l l' : List On) (A : Option Addr) (C : Nat) : Prop where
  sb : ∃ S', SB wx S' p s' ∧ Apt B nb S'
  fit : s'.fit (1000 * (i + 1))
  bnd : Bnd r bu ro s' tk'
  tk : tk' ≤ 100 * (i + 1)
  got : Got wx base nb l l' A C
  goes : Goes c0 l s'.nxs
  sum : b0 + total l = s'.bk.sp
  next : Lies wx nb 0 (nx c0)
  bel : Below W0.heap.size W0 wx
  size : base ≤ wx.heap.size
set_option maxRecDepth 100000 in
set_option maxHeartbeats 8000000 in
theorem bounds15_good {SB : World → (Nat → Prop) → Nat → Sd → Prop} (api : Api2 SB) (r bu : Int) (ro : Nat) (a : Option Addr) (n c : Nat) (f : Nat → Op15) (hr1 : 1 ≤ r) (hr2 : r ≤ 100000) (hb1 : 1 ≤ bu) (hb2 : bu ≤ 100000) (hq1 : 1 ≤ ro) (hq2 : ro ≤ 256) (w : World) (hz : Ops15 w a n f) :
    Calls Try.prog 3 #[.agg #[.int .i64 r, .int .i64 bu, .int .i64 (ro : Int)], .slice a n c] w (Yes15 w) := by
  obtain ⟨W0, hW0⟩ : ∃ W0, W0 = w.alloc (.cells #[.int .i64 r, .int .i64 bu, .int .i64 (ro : Int)] 23) := ⟨_, rfl⟩
  have hb0 : Below w.heap.size w W0 := by rw [hW0]; exact (Below.refl _ _).alloc (Nat.le_refl _) _
  have hL : Lies W0 w.heap.size 0 #[.int .i64 r, .int .i64 bu, .int .i64 (ro : Int)] := by rw [hW0]; exact Lies.new w _ _ (Below.refl _ _)
  have HALL : Hid (∀ w', Below W0.heap.size W0 w' → w'.cell? ⟨w.heap.size, 0, none⟩ = some (.int .i64 r) ∧ w'.cell? ⟨w.heap.size, 1, none⟩ = some (.int .i64 bu) ∧ w'.cell? ⟨w.heap.size, 2, none⟩ = some (.int .i64 (ro : Int))) := Lib.hid (fun w' hb => ⟨(hL.below hb hL.lt).cell 0 (by decide : 0 < 3), (hL.below hb hL.lt).cell 1 (by decide : 1 < 3), (hL.below hb hL.lt).cell 2 (by decide : 2 < 3)⟩)
  have HOPS : Hid (∀ w', Below W0.heap.size W0 w' → Ops15 w' a n f) := Lib.hid (fun w' hb => (hz.below hb0).below hb)
  have HB0 := Lib.hid hb0
  have HW0 := Lib.hid hW0
  have CA := Lib.hid (awake15_any api.api W0)
  have CN : Hid (∀ w, Calls Try.prog 6 #[.int .u32 7, .int .i64 r, .int .i64 bu, .int .i64 (ro : Int)] w fun e w' => ∃ p, e = .returned (.tuple #[.pointer (some ⟨p, 0, none⟩), .int .i64 0]) ∧ Hid (After SB w (fun _ => False) p (Sd.new 7 r bu ro) w')) :=
    Lib.hid (fun w => api.new_ 7 ro r bu w (by decide) (decide_eq_true ⟨hr1, by omega, hb1, by omega⟩) hq1 hq2)
  have HNEW : Hid ((Sd.new 7 r bu ro).fit 0) := Lib.hid (Sd.new_fit (by decide) (decide_eq_true ⟨hr1, by omega, hb1, by omega⟩) hq1 hq2)
  have HAPI := Lib.hid api
  have m1 : ¬ r < 1 := by omega
  have m2 : ¬ 100000 < r := by omega
  have m3 : ¬ bu < 1 := by omega
  have m4 : ¬ 100000 < bu := by omega
  have m5 : ¬ (ro : Int) < 1 := by omega
  have m6 : ¬ (256 : Int) < (ro : Int) := by omega
  have HRB : Hid (1 ≤ r ∧ r ≤ 100000 ∧ 1 ≤ bu ∧ bu ≤ 100000) := Lib.hid ⟨hr1, hr2, hb1, hb2⟩
  clear hz hb0 hL hW0 hr1 hr2 hb1 hb2 hq1 hq2 api
  go_enter Try.func3, Try.ntmps3
  go_upto_region 1 with fail
  rw [← HW0.out]
  go_upto_region 3 with (first
    | (go_at_call 5; (with_reducible refine (CA.out).mono ?_); rintro e w1 ⟨rfl, hb⟩; have HB1 := Lib.hid hb; clear hb)
    | fail)
  obtain ⟨c0, c1, c2⟩ := HALL.out w1 HB1.out
  go_upto_region 8 with (first
    | (go_at_call 6; (with_reducible refine (CN.out _).mono ?_); rintro e w2 ⟨p, rfl, HA2⟩)
    | fail)
  have hf2 := HA2.out.2
  have HB2 : Hid (Below w1.heap.size w1 w2) := Lib.hid ⟨hf2.os, hf2.tape, hf2.output, hf2.size, fun k hk => hf2.block k hk (fun h => h)⟩
  clear hf2
  have HB12 : Hid (Below W0.heap.size W0 w2) := Lib.hid (HB1.out.trans (HB2.out.mono HB1.out.size))
  have HBW : Hid (W0.heap.size ≤ w1.heap.size ∧ w1.heap.size ≤ w2.heap.size) := Lib.hid ⟨HB1.out.size, HB2.out.size⟩
  have HS2 : Hid (∃ S, SB w2 S p (Sd.new 7 r bu ro) ∧ ∀ k, S k → w1.heap.size ≤ k) := Lib.hid (by
    obtain ⟨⟨S, h1, h2⟩, _⟩ := HA2.out
    exact ⟨S, h1, fun k hk => (h2 k hk).elim (fun h => h.elim) id⟩)
  clear c0 c1 c2 m1 m2 m3 m4 m5 m6
  generalize w1.heap.size = B at *
  clear HB1 HB2 CA CN HA2
  go_upto_region 10 with fail
  obtain ⟨w3, hw3⟩ : ∃ w3, w3 = w2.alloc (.cells #[.int .u32 0, .int .u32 0] 31) := ⟨_, rfl⟩
  rw [← hw3]
  have hb3 : Below w2.heap.size w2 w3 := by rw [hw3]; exact (Below.refl _ _).alloc (Nat.le_refl _) _
  have HL3 : Hid (Lies w3 w2.heap.size 0 (nx (Sd.new 7 r bu ro).nxs)) := Lib.hid (by rw [hw3]; exact Lies.new w2 _ _ (Below.refl _ _))
  have HB3 : Hid (Below W0.heap.size W0 w3) := Lib.hid (HB12.out.trans (hb3.mono HB12.out.size))
  have HNB : Hid (W0.heap.size ≤ B ∧ B ≤ w2.heap.size ∧ W0.heap.size ≤ w2.heap.size) := Lib.hid ⟨HBW.out.1, HBW.out.2, Nat.le_trans HBW.out.1 HBW.out.2⟩
  have HS3 : Hid (∃ S, SB w3 S p (Sd.new 7 r bu ro) ∧ Apt B w2.heap.size S) := Lib.hid (by
    obtain ⟨S, h1, h2⟩ := HS2.out
    have hl := HAPI.out.lt h1
    exact ⟨S, HAPI.out.keep h1 (fun k hk => hb3.block k (hl k hk)) hb3.size, h2, fun hk => by have := hl _ hk; omega⟩)
  generalize w2.heap.size = nb at *
  clear hw3 hb3 HB12 HBW HS2
  go_wp2
  go_loopw [7, 8, 10] (fun s7 s8 s10 wr => ∃ (i : Nat) (s : Sd) (tk : Nat), i ≤ 60 ∧ s7 = .int .i64 s.bk.sp ∧ s8 = .int .i64 (tk : Int) ∧ s10 = .int .i64 (i : Int) ∧ Hid (∃ S, SB wr S p s ∧ Apt B nb S) ∧ Hid (s.fit (1000 * i)) ∧ Hid (Bnd r bu ro s tk) ∧ Hid (tk ≤ 100 * i) ∧ Hid (Lies wr nb 0 (nx s.nxs)) ∧ Hid (Below W0.heap.size W0 wr)) (fun _ _ s10 _ => 60 - (intOf s10).toNat)
  case atStart => exact ⟨0, Sd.new 7 r bu ro, 0, by decide, rfl, rfl, rfl, HS3, HNEW, Lib.hid (Bnd.new 7 ro r bu), Lib.hid (Nat.le_refl _), HL3, HB3⟩
  case round =>
    obtain ⟨i, s, tk, hi, rfl, rfl, rfl, HS, HF, HD0, HTK, HL, HB⟩ := hrel
    clear HS3 HNEW HL3 HB3
    rcases (by omega : (i < 60 ∧ i < n) ∨ (i < n ∧ ¬ i < 60) ∨ ¬ i < n) with ⟨h60, hin⟩ | ⟨hin, h60⟩ | hin
    case inr.inl =>
      have k1 : (i : Int) < (n : Int) := by omega
      have k2 : ¬ (i : Int) < 60 := by omega
      clear hin h60 hi
      go_wp2
      go_ret
      exact ⟨rfl, HB0.out.trans (HB.out.mono HB0.out.size)⟩
    case inr.inr =>
      have k1 : ¬ (i : Int) < (n : Int) := by omega
      clear hin hi
      go_wp2
      go_ret
      exact ⟨rfl, HB0.out.trans (HB.out.mono HB0.out.size)⟩
    have k1 : (i : Int) < (n : Int) := by omega
    have k2 : (i : Int) < 60 := by omega
    obtain ⟨b, off, rfl, hbl, hops⟩ := (HOPS.out wr HB.out).resolve_left (by omega)
    obtain ⟨o, ho⟩ : ∃ o, o = f i := ⟨_, rfl⟩
    have HR := Lib.hid (hops i hin).1
    have HOK := Lib.hid (hops i hin).2
    rw [← ho] at HR HOK
    have HI := Lib.hid (And.intro h60 hin)
    have HNW : Hid (nb < wr.heap.size) := Lib.hid HL.out.lt
    clear hops ho hi h60 hin hbl
    go_upto_region 15 with (first
      | (with_reducible refine wpList_load_range rfl 37 (.tmp 74) rfl b (off + i * 16) rfl o.cells HR.out _ Try.underlying37 rfl (infoO o) ?_)
      | fail)
    obtain ⟨w1, hw1⟩ : ∃ w1, w1 = wr.alloc (.cells o.cells 37) := ⟨_, rfl⟩
    rw [← hw1]
    have HB1 : Hid (Below wr.heap.size wr w1) := Lib.hid (by rw [hw1]; exact (Below.refl _ _).alloc (Nat.le_refl _) _)
    have J1 : Hid (Lies w1 wr.heap.size 0 o.cells) := Lib.hid (by rw [hw1]; exact Lies.new wr _ _ (Below.refl _ _))
    have HD1 : Hid (Lies w1 wr.heap.size 2 (Mq.dcells o.d)) := Lib.hid (J1.out.sub 2 (Mq.dcells o.d) (by decide : 2 + 11 ≤ 16) (fun j hj => by
      have : j < 11 := hj
      rcases (by omega : j = 0 ∨ j = 1 ∨ j = 2 ∨ j = 3 ∨ j = 4 ∨ j = 5 ∨ j = 6 ∨ j = 7 ∨ j = 8 ∨ j = 9 ∨ j = 10) with rfl | rfl | rfl | rfl | rfl | rfl | rfl | rfl | rfl | rfl | rfl <;> rfl))
    have HL1 : Hid (Lies w1 nb 0 (nx s.nxs)) := Lib.hid (HL.out.below HB1.out HNW.out)
    have HBB : Hid (W0.heap.size ≤ B ∧ B ≤ wr.heap.size ∧ B ≤ w1.heap.size ∧ wr.heap.size ≤ w1.heap.size ∧ nb < w1.heap.size ∧ W0.heap.size ≤ wr.heap.size ∧ wr.heap.size < w1.heap.size) := Lib.hid (by
      have := J1.out.lt
      have := HNB.out
      have := HNW.out
      have := HB1.out.size
      omega)
    have HBW1 : Hid (Below W0.heap.size W0 w1) := Lib.hid (HB.out.trans (HB1.out.mono HBB.out.2.2.2.2.2.1))
    have HS1 : Hid (∃ S, SB w1 S p s ∧ Apt B nb S) := Lib.hid (by
      obtain ⟨S, h1, h2⟩ := HS.out
      exact ⟨S, HAPI.out.keep h1 (fun k hk => HB1.out.block k (HAPI.out.lt h1 k hk)) HB1.out.size, h2⟩)
    have HSO : Hid (∃ S, SB w1 S p s ∧ Apt B nb S ∧ ¬ S wr.heap.size) := Lib.hid (by
      obtain ⟨S, h1, h2⟩ := HS.out
      exact ⟨S, HAPI.out.keep h1 (fun k hk => HB1.out.block k (HAPI.out.lt h1 k hk)) HB1.out.size, h2, fun hk => by have := HAPI.out.lt h1 _ hk; omega⟩)
    have HNO : Hid (nb < wr.heap.size) := HNW
    have HOK1 : Hid (o.ok w1) := Lib.hid (HOK.out.below HB1.out)
    generalize wr.heap.size = ob at *
    obtain ⟨kd, hkd⟩ : ∃ kd, kd = o.kind := ⟨_, rfl⟩
    have ck : w1.cell? ⟨ob, 0, none⟩ = some (.int .i64 kd) := by rw [hkd]; exact J1.out.cell 0 (by decide : 0 < 16)
    have HOB := J1
    have HKD := Lib.hid hkd
    clear J1 HR hkd hw1
    go_upto_block 2 with fail
    go_cut [8, 11] (fun s8 s11 wx => ∃ (s' : Sd) (tk' : Nat) (l l' : List On) (A' : Option Addr) (C' : Nat), s8 = .int .i64 (tk' : Int) ∧ s11 = .slice A' l.length C' ∧ Hid (Mid SB W0 B nb ob p r bu ro i s.nxs s.bk.sp wx s' tk' l l' A' C'))
    case first =>
      clear ck
      by_cases h0 : kd = 0
      · have hb0 : (kd == 0) = true := by simp [h0]
        clear h0
        obtain ⟨S, hS1, hS2⟩ := HS1.out
        obtain ⟨ly, hby⟩ := HOK1.out.by_
        have c1 : w1.cell? ⟨ob, 1, none⟩ = some (.int .i64 o.rank) := HOB.out.cell 1 (by decide : 1 < 16)
        have CPU : Hid (Calls Try.prog 7 #[.pointer (some ⟨p, 0, none⟩), .int .i64 o.rank, o.d.val] w1 fun e w' => (∃ cc : Int, e = .returned (.int .i64 cc)) ∧ Hid (∃ s', After SB w1 S p s' w' ∧ s'.nxs = s.nxs ∧ s'.bk = s.bk ∧ s'.fit (1000 * i + 1) ∧ Bnd r bu ro s' tk)) := Lib.hid (by
          by_cases hc : chk (s.own o.d o.d.da o.d.dc) ly = 0
          · refine (HAPI.out.push o.rank o.d ly hS1 HF.out (by have := HI.out; omega) hby HOK.out.d.le HOK.out.nil hc).mono ?_
            rintro e w' ⟨rfl, ha⟩
            obtain ⟨da, dc, ha⟩ := ha.out
            exact ⟨⟨0, rfl⟩, Lib.hid ⟨_, ha, rfl, rfl, Sd.push_fit HF.out _ _, HD0.out.push _ _⟩⟩
          · refine (HAPI.out.push_no o.rank o.d ly hS1 HF.out (by have := HI.out; omega) hby HOK.out.d.le HOK.out.nil hc).mono ?_
            rintro e w' ⟨rfl, ha⟩
            exact ⟨⟨_, rfl⟩, Lib.hid ⟨_, ha.out, rfl, rfl, HF.out.upto (by omega), HD0.out⟩⟩)
        have HS2 := Lib.hid hS2
        clear hS1 hS2 hby
        go_wp2_with (first
          | (with_reducible refine wpList_load_lies rfl 35 (.tmp 83) rfl ob 2 rfl (Mq.dcells o.d) HD1.out _ Try.underlying35 rfl (Mq.infoC o.d) ?_)
          | (go_at_call 7; (with_reducible refine (CPU.out).mono ?_); rintro e w2 ⟨⟨cc, rfl⟩, HA2⟩)
          | fail)
        go_meet
        obtain ⟨s', ha, e1, e2, hf', hb'⟩ := HA2.out
        obtain ⟨S', q1, q2, _, q4⟩ := after_step ha HS2.out HBB.out.2.2.1 HBB.out.2.2.2.2.1
        exact ⟨s', tk, [], [], none, 0, rfl, rfl, Lib.hid ⟨⟨S', q1, q2⟩, hf'.upto (by omega), hb', by have := HTK.out; omega, Got.start _ _ _, fun j => by rw [e1], by rw [e2]; exact Int.add_zero _, HL1.out.keep (q4.block nb HBB.out.2.2.2.2.1 HS2.out.no), HBW1.out.trans (q4.below (fun k hk => Nat.le_trans HBB.out.1 (HS2.out.lo k hk)) HBW1.out.size), Nat.le_trans HBB.out.2.2.2.1 q4.size⟩⟩
      · have hb0 : (kd == 0) = false := by simp [h0]
        by_cases h1 : kd = 1
        · have hb1 : (kd == 1) = true := by simp [h1]
          clear h0 h1
          obtain ⟨nn, hnn⟩ : ∃ nn, nn = o.n := ⟨_, rfl⟩
          have HNN := Lib.hid hnn
          clear hnn
          go_wp2
          go_loopw [8, 11, 13] (fun s8 s11 s13 wr => ∃ (k : Nat) (s' : Sd) (l l' : List On) (A' : Option Addr) (C' : Nat), k ≤ 100 ∧ s8 = .int .i64 ((tk + k : Nat) : Int) ∧ s11 = .slice A' l.length C' ∧ s13 = .int .i64 (k : Int) ∧ Hid (∃ S, SB wr S p s' ∧ Apt B nb S ∧ ¬ S ob ∧ ∀ g, A'.map Addr.block = some g → ¬ S g) ∧ Hid (s'.fit (1000 * i + 4 * k)) ∧ Hid (Bnd r bu ro s' (tk + k)) ∧ Hid (Got wr (ob + 1) nb l l' A' C' ∧ (∀ o ∈ l, o.d.dl = 0) ∧ l.length ≤ 2 * k) ∧ Hid (Goes s.nxs l s'.nxs ∧ s.bk.sp + total l = s'.bk.sp) ∧ Hid (Lies wr nb 0 (nx s.nxs)) ∧ Hid (Below W0.heap.size W0 wr) ∧ Hid (Lies wr ob 0 o.cells) ∧ Hid (w1.heap.size ≤ wr.heap.size)) (fun _ _ s13 _ => 100 - (intOf s13).toNat)
          case atStart =>
            obtain ⟨S, hS1, hS2, hS3⟩ := HSO.out
            exact ⟨0, s, [], [], none, 0, by decide, rfl, rfl, rfl, Lib.hid ⟨S, hS1, hS2, hS3, fun g hg => (by simp at hg)⟩, HF, HD0, Lib.hid ⟨Got.start _ _ _, fun o ho => (by cases ho), Nat.zero_le _⟩, Lib.hid ⟨fun _ => rfl, Int.add_zero _⟩, HL1, HBW1, HOB, Lib.hid (Nat.le_refl _)⟩
          case round =>
            obtain ⟨k, s', l, l', A1, C1, hk, rfl, rfl, rfl, HSS, HFF, HBD, HG, HGO, HLx, HBx, HOx, HSz⟩ := hrel
            have cn : wr.cell? ⟨ob, 13, none⟩ = some (.int .i64 nn) := by rw [HNN.out]; exact HOx.out.cell 13 (by decide : 13 < 16)
            rcases (by omega : ((k : Int) < nn ∧ k < 100) ∨ ((k : Int) < nn ∧ ¬ k < 100) ∨ ¬ (k : Int) < nn) with ⟨k1, k2⟩ | ⟨k1, k2⟩ | k1
            case inl =>
              have k3 : (k : Int) < 100 := by omega
              have HKK := Lib.hid k2
              obtain ⟨S', g1, g2, g3, g4⟩ := HSS.out
              have htk : (tk + k : Nat) ≤ 1000000 := by have := HTK.out; have := HI.out; omega
              have CT := Lib.hid (HAPI.out.tick g1 HFF.out (by have := HI.out; omega))
              have HG4 := Lib.hid (And.intro g2 (And.intro g3 g4))
              have HTG := Lib.hid (tick_goes s')
              have HTS := Lib.hid (tick_sum HFF.out).1
              have HTZ := Lib.hid (tick_zero s')
              have HTF := Lib.hid (tick_few s')
              have HTI := Lib.hid (Sd.tick_fit HFF.out)
              have HTB := Lib.hid (HBD.out.tick HFF.out)
              have HNL : Hid (nb < wr.heap.size ∧ ob < wr.heap.size ∧ B ≤ wr.heap.size) := Lib.hid ⟨HLx.out.lt, HOx.out.lt, by have := HBB.out; have := HSz.out; omega⟩
              unfold Told2 at CT
              generalize s'.tick.1 = lt at *
              generalize s'.tick.2 = st at *
              obtain ⟨ln, hln⟩ : ∃ ln, ln = l.length := ⟨_, rfl⟩
              obtain ⟨lm, hlm⟩ : ∃ lm, lm = lt.length := ⟨_, rfl⟩
              rw [← hln]
              rw [← hlm] at CT
              have HLN := Lib.hid hln
              have HLM := Lib.hid hlm
              clear g1 g2 g3 g4 hln hlm hk k2
              go_wp2_with (first
                | (go_at_call 8; (with_reducible refine (CT.out).mono ?_); rintro e w3 ⟨⟨A2, C2, m', rfl, HO3, HK3⟩, HA3⟩; have HG3 : Hid (Got w3 (ob + 1) nb l l' A1 C1) := Lib.hid (HG.out.1.zero HG.out.2.1 (fun g hg => HA3.out.2.block g (HG.out.1.own.lt g (by rw [Mo.own_block]; exact hg)).2 (HG4.out.2.2 g hg))); have HO1 : Hid (Mo.OwnT w3 (ob + 1) (.slice A1 ln C1) ln l') := Lib.hid (by rw [HLN.out]; exact HG3.out.own); have HBA : Hid (ob + 1 ≤ w3.heap.size) := Lib.hid (by have := HNL.out; have := HA3.out.2.size; omega); have HLL : Hid (ln + lm ≤ 100000) := Lib.hid (by have := HLN.out; have := HLM.out; have := HG.out.2.2; have := HTF.out; have := HKK.out; omega))
                | ((with_reducible refine wpList_append_row rfl (.tmp 98) (.tmp 100) rfl (ob + 1) A1 ln C1 rfl l' HO1.out wr.heap.size A2 lm C2 rfl m' HO3.out HLL.out HBA.out ?_); intro A5 C5 w5 HO5 HM5)
                | fail)
              obtain ⟨S3, q1, q2, q3, q4⟩ := after_step HA3.out HG4.out.1 HNL.out.2.2 HNL.out.1
              have hA1 : ∀ g, A1.map Addr.block = some g → ob + 1 ≤ g ∧ g < wr.heap.size := fun g hg => HG.out.1.own.lt g (by rw [Mo.own_block]; exact hg)
              have hlt3 := HAPI.out.lt q1
              have hS3 : ∀ q, S3 q → A1.map Addr.block ≠ some q := fun q hq e => by
                rcases q3 q hq with h | h
                · exact HG4.out.2.2 q e h
                · have := hA1 q e
                  omega
              have hkeep : ∀ q, q < w3.heap.size → A1.map Addr.block ≠ some q → w5.heap[q]? = w3.heap[q]? := fun q h1 h2 => HM5.out.grown.block q h1 (fun e => h2 e.symm)
              have hb5 : Below W0.heap.size W0 w5 := by
                have h1 : Below W0.heap.size W0 w3 := HBx.out.trans (q4.below (fun q hq => Nat.le_trans HBB.out.1 (HG4.out.1.lo q hq)) HBx.out.size)
                exact below_grown h1 HM5.out.grown h1.size (fun q hq => by have := hA1 q hq; have := HBB.out; omega)
              have hnl3 : nb < w3.heap.size := Nat.lt_of_lt_of_le HNL.out.1 q4.size
              have hol3 : ob < w3.heap.size := Nat.lt_of_lt_of_le HNL.out.2.1 q4.size
              have hnA : A1.map Addr.block ≠ some nb := fun e => by have := hA1 nb e; have := HNO.out; omega
              have hoA : A1.map Addr.block ≠ some ob := fun e => by have := hA1 ob e; omega
              go_roundw
              case rel =>
                refine ⟨k + 1, st, l ++ lt, l' ++ m', A5, C5, HKK.out, by go_num, by rw [HLN.out, HLM.out, List.length_append], by go_num, Lib.hid ⟨S3, HAPI.out.keep q1 (fun q hq => hkeep q (hlt3 q hq) (hS3 q hq)) HM5.out.grown.size, q2, fun h => ?_, fun g hg hs => ?_⟩, Lib.hid (HTI.out.upto (by omega)), HTB, Lib.hid ⟨Got.append HG3.out (Got.told (by rw [← HLM.out]; exact HO3.out) HK3.out (by have := HNL.out; omega) HNL.out.1) HG.out.2.1 HTZ.out (by rw [← HLN.out, ← HLM.out]; exact HO5.out), fun o ho => ?_, ?_⟩, Lib.hid ⟨HGO.out.1.append HTG.out, ?_⟩, Lib.hid ?_, Lib.hid hb5, Lib.hid ?_, Lib.hid ?_⟩
                · rcases q3 ob h with h | h
                  · exact HG4.out.2.1 h
                  · have := HNL.out; omega
                · rcases HM5.out.place with h | h
                  · exact hS3 g hs (by rw [← h]; exact hg)
                  · have := h g hg; have := hlt3 g hs; omega
                · rcases List.mem_append.1 ho with h | h
                  · exact HG.out.2.1 o h
                  · exact HTZ.out o h
                · rw [List.length_append]
                  have := HG.out.2.2
                  have := HTF.out
                  omega
                · rw [total_append, HTS.out, ← HGO.out.2]
                  omega
                · exact (HLx.out.keep (q4.block nb HNL.out.1 HG4.out.1.no)).keep (hkeep nb hnl3 hnA)
                · exact (HOx.out.keep (q4.block ob HNL.out.2.1 HG4.out.2.1)).keep (hkeep ob hol3 hoA)
                · have := HSz.out
                  have := q4.size
                  have := HM5.out.grown.size
                  omega
              case measure =>
                have := HKK.out
                simp [intOf]
                omega
            case inr.inl =>
              have k3 : ¬ (k : Int) < 100 := by omega
              clear k2
              go_wp2
              go_meet
              exact ⟨s', tk + k, l, l', A1, C1, rfl, rfl, Lib.hid ⟨HSS.out.imp fun _ h => ⟨h.1, h.2.1⟩, HFF.out.upto (by omega), HBD.out, by have := HTK.out; omega, HG.out.1.low (Nat.le_succ _), HGO.out.1, HGO.out.2, HLx.out, HBx.out, Nat.le_trans HBB.out.2.2.2.1 HSz.out⟩⟩
            case inr.inr =>
              go_wp2
              go_meet
              exact ⟨s', tk + k, l, l', A1, C1, rfl, rfl, Lib.hid ⟨HSS.out.imp fun _ h => ⟨h.1, h.2.1⟩, HFF.out.upto (by omega), HBD.out, by have := HTK.out; omega, HG.out.1.low (Nat.le_succ _), HGO.out.1, HGO.out.2, HLx.out, HBx.out, Nat.le_trans HBB.out.2.2.2.1 HSz.out⟩⟩
        · have hb1 : (kd == 1) = false := by simp [h1]
          by_cases h2 : kd = 2
          · have hb2 : (kd == 2) = true := by simp [h2]
            clear h0 h1 h2
            obtain ⟨S, hS1, hS2⟩ := HS1.out
            have CF := Lib.hid (HAPI.out.flush hS1 HF.out (by have := HI.out; omega))
            have HFG := Lib.hid (flush_goes s.q.l s)
            have HFS := Lib.hid (flush_sum s.q.l s).1
            have HFI := Lib.hid (flushL_fit s.q.l s _ rfl HF.out)
            have HFB := Lib.hid HD0.out.flush
            have HQL : Hid (s.q.l.length ≤ 256) := Lib.hid (Nat.le_trans HF.out.q.len HF.out.q.hi)
            have HS2 := Lib.hid hS2
            unfold Told2 at CF
            rw [show (flushL s.q.l s).1 = s.flush.1 from rfl, show (flushL s.q.l s).2 = s.flush.2 from rfl] at HFG
            rw [show (flushL s.q.l s).1 = s.flush.1 from rfl, show (flushL s.q.l s).2 = s.flush.2 from rfl] at HFS
            rw [show (flushL s.q.l s).2 = s.flush.2 from rfl] at HFI
            generalize s.flush.1 = lf at *
            generalize s.flush.2 = sf at *
            clear hS1 hS2
            go_wp2_with (first
              | (go_at_call 9; (with_reducible refine (CF.out).mono ?_); rintro e w3 ⟨⟨A2, C2, m', rfl, HO3, HK3⟩, HA3⟩)
              | fail)
            go_meet
            obtain ⟨S', q1, q2, _, q4⟩ := after_step HA3.out HS2.out HBB.out.2.2.1 HBB.out.2.2.2.2.1
            exact ⟨sf, tk, lf, m', A2, C2, rfl, rfl, Lib.hid ⟨⟨S', q1, q2⟩, HFI.out.upto (by have := HQL.out; omega), HFB.out, by have := HTK.out; omega, Got.told HO3.out HK3.out HBB.out.2.2.2.1 HBB.out.2.2.2.2.1, HFG.out, by rw [HFS.out], HL1.out.keep (q4.block nb HBB.out.2.2.2.2.1 HS2.out.no), HBW1.out.trans (q4.below (fun k hk => Nat.le_trans HBB.out.1 (HS2.out.lo k hk)) HBW1.out.size), Nat.le_trans HBB.out.2.2.2.1 q4.size⟩⟩
          · have hb2 : (kd == 2) = false := by simp [h2]
            by_cases h3 : kd = 3
            · have hb3 : (kd == 3) = true := by simp [h3]
              clear h0 h1 h2 h3
              obtain ⟨S, hS1, hS2⟩ := HS1.out
              have CHE := Lib.hid (HAPI.out.heard o.way hS1 HF.out (by have := HI.out; omega) HOK.out.th)
              have c14 : w1.cell? ⟨ob, 14, none⟩ = some (.int .i64 o.way) := HOB.out.cell 14 (by decide : 14 < 16)
              have c15 : w1.cell? ⟨ob, 15, none⟩ = some (.int .u32 (o.th : Int)) := HOB.out.cell 15 (by decide : 15 < 16)
              have HHN : Hid ((if 0 ≤ o.way ∧ o.way < 2 then s.hear o.way.toNat o.th else s).nxs = s.nxs ∧ (if 0 ≤ o.way ∧ o.way < 2 then s.hear o.way.toNat o.th else s).bk = s.bk ∧ (if 0 ≤ o.way ∧ o.way < 2 then s.hear o.way.toNat o.th else s).fit (1000 * i + 1) ∧ Bnd r bu ro (if 0 ≤ o.way ∧ o.way < 2 then s.hear o.way.toNat o.th else s) tk) := Lib.hid (by
                split
                · exact ⟨hear_nxs _ _ _, rfl, Sd.hear_fit HF.out _ _ HOK.out.th, HD0.out.hear _ _⟩
                · exact ⟨rfl, rfl, HF.out.upto (by omega), HD0.out⟩)
              have HS2 := Lib.hid hS2
              generalize (if 0 ≤ o.way ∧ o.way < 2 then s.hear o.way.toNat o.th else s) = sh at *
              clear hS1 hS2
              go_wp2_with (first
                | (go_at_call 10; (with_reducible refine (CHE.out).mono ?_); rintro e w3 ⟨⟨cc, rfl⟩, HA3⟩)
                | fail)
              go_meet
              obtain ⟨S', q1, q2, _, q4⟩ := after_step HA3.out HS2.out HBB.out.2.2.1 HBB.out.2.2.2.2.1
              exact ⟨sh, tk, [], [], none, 0, rfl, rfl, Lib.hid ⟨⟨S', q1, q2⟩, HHN.out.2.2.1.upto (by omega), HHN.out.2.2.2, by have := HTK.out; omega, Got.start _ _ _, fun j => by rw [HHN.out.1], by rw [HHN.out.2.1]; exact Int.add_zero _, HL1.out.keep (q4.block nb HBB.out.2.2.2.2.1 HS2.out.no), HBW1.out.trans (q4.below (fun k hk => Nat.le_trans HBB.out.1 (HS2.out.lo k hk)) HBW1.out.size), Nat.le_trans HBB.out.2.2.2.1 q4.size⟩⟩
            · have hb3 : (kd == 3) = false := by simp [h3]
              clear h0 h1 h2 h3
              go_wp2_with fail
              go_meet
              exact ⟨s, tk, [], [], none, 0, rfl, rfl, Lib.hid ⟨HS1.out, HF.out.upto (by omega), HD0.out, by have := HTK.out; omega, Got.start _ _ _, fun _ => rfl, Int.add_zero _, HL1.out, HBW1.out, HBB.out.2.2.2.1⟩⟩
    case rest =>
      obtain ⟨s', tk', l, l', A', C', rfl, rfl, HM⟩ := hcut
      have HSP : Hid (0 ≤ s.bk.sp) := Lib.hid HF.out.bk.s1
      clear HS HF HD0 HTK HL HS1 HL1 HBW1 HOB HD1 HOK HOK1 HSO HKD HB1 ck HB
      generalize wc = wm at *
      obtain ⟨m, hm⟩ : ∃ m, m = l.length := ⟨_, rfl⟩
      rw [← hm]
      have HMM := Lib.hid hm
      have hmx : (m : Int) ≤ 9223372036854775807 := by
        obtain ⟨_, _, e, h5, h6⟩ := HM.out.got.own.slice
        unfold maxLen at h6
        omega
      have HSU : Hid (s'.bk.sp ≤ 2000000000000) := Lib.hid (by have := HM.out.fit.bk.s2; have := HI.out; omega)
      have hsp0 := HSP.out
      obtain ⟨b0, hb0⟩ : ∃ b0, b0 = s.bk.sp := ⟨_, rfl⟩
      rw [← hb0]
      have HB00 := Lib.hid hb0
      clear hm hb0 hsp0
      go_wp2
      go_loopw [7, 14] (fun s7 s14 wr => ∃ (k : Nat) (c : Nat → Nat) (b : Int), k ≤ m ∧ s7 = .int .i64 b ∧ s14 = .int .i64 (k : Int) ∧ Hid (b + total (l.drop k) = s'.bk.sp ∧ 0 ≤ b) ∧ Hid (Goes c (l.drop k) s'.nxs) ∧ Hid (Lies wr nb 0 (nx c)) ∧ Hid (Got wr ob nb l l' A' C') ∧ Hid (∃ S', SB wr S' p s' ∧ Apt B nb S') ∧ Hid (Below W0.heap.size W0 wr)) (fun _ s14 _ => m - (intOf s14).toNat)
      case atStart => exact ⟨0, s.nxs, b0, Nat.zero_le _, rfl, rfl, Lib.hid ⟨by rw [HB00.out]; exact HM.out.sum, by rw [HB00.out]; exact HSP.out⟩, Lib.hid HM.out.goes, Lib.hid HM.out.next, Lib.hid HM.out.got, Lib.hid HM.out.sb, Lib.hid HM.out.bel⟩
      case round =>
        obtain ⟨k, c, b, hk, rfl, rfl, HSUM, HGO, HLX, HGT, HSX, HBX⟩ := hrel
        by_cases hlt : k < m
        · obtain ⟨o1, ho1⟩ : ∃ o1, l[k]? = some o1 := ⟨_, List.getElem?_eq_getElem (by rw [← HMM.out]; exact hlt)⟩
          have hdrop : l.drop k = o1 :: l.drop (k + 1) := by
            rw [List.drop_eq_getElem_cons (by rw [← HMM.out]; exact hlt)]
            have := (List.getElem?_eq_some_iff.1 ho1).2
            rw [this]
          have hG := HGO.out
          rw [hdrop] at hG
          obtain ⟨hp2, hpa, hsq, hgo⟩ := hG
          have hsum := HSUM.out.1
          rw [hdrop, total_cons] at hsum
          obtain ⟨o2, ho2, e1, e2, hrd, hblk⟩ := HGT.out.el k o1 ho1
          obtain ⟨g, hAg, hbg, hgl, hx⟩ := HGT.out.own.at_ k o2 ho2
          have hAg2 : A' = some ⟨g, 0, none⟩ := hAg
          subst hAg2
          obtain ⟨pi, hpi⟩ : ∃ pi, pi = o1.i := ⟨_, rfl⟩
          obtain ⟨sq, hsqv⟩ : ∃ sq, sq = c pi := ⟨_, rfl⟩
          obtain ⟨D, hD⟩ : ∃ D, D = o2.d := ⟨_, rfl⟩
          have f1 : D.seq = (sq : Int) := by rw [hD, e2, hsqv, hpi]; exact hsq
          have f2 : D.path = (pi : Int) := by rw [hD, e2, hpi]; exact hpa
          have f3 : D.dl = o1.d.dl := by rw [hD, e2]; rfl
          rw [← hpi] at hp2 hgo
          have hgn : g ≠ nb := by have := HNO.out; omega
          have hDx : Lies wr g (k * 12 + 1) (Mq.dcells D) := by
            rw [hD]
            exact hx.sub 1 (Mq.dcells o2.d) (by decide : 1 + 11 ≤ 12) (fun j hj => by
              have : j < 11 := hj
              rcases (by omega : j = 0 ∨ j = 1 ∨ j = 2 ∨ j = 3 ∨ j = 4 ∨ j = 5 ∨ j = 6 ∨ j = 7 ∨ j = 8 ∨ j = 9 ∨ j = 10) with rfl | rfl | rfl | rfl | rfl | rfl | rfl | rfl | rfl | rfl | rfl <;> rfl)
          have c0 : wr.cell? ⟨g, k * 12, none⟩ = some (.int .i64 (pi : Int)) := by
            have := hx.cell 0 (by decide : 0 < 12)
            rw [hpi, ← e1]
            exact this
          have HD : Hid (∀ w', Below wr.heap.size wr w' → Lies w' g (k * 12 + 1) (Mq.dcells D)) := Lib.hid (fun w' hb => hDx.below hb hgl)
          have HLW : Hid (∀ w', Below wr.heap.size wr w' → Lies w' nb 0 (nx c)) := Lib.hid (fun w' hb => HLX.out.below hb HLX.out.lt)
          have HC : Hid (∀ w', Below wr.heap.size wr w' → w'.cell? ⟨g, k * 12 + 3, none⟩ = some (.int .u32 (sq : Int)) ∧ w'.cell? ⟨nb, pi, none⟩ = some (.int .u32 (sq : Int)) ∧ w'.cell? ⟨g, k * 12 + 4, none⟩ = some (.int .i64 (pi : Int))) := Lib.hid (fun w' hb => by
            refine ⟨?_, by rw [hsqv]; exact nx_cell (HLW.out w' hb) hp2, ?_⟩
            · have := (HD.out w' hb).cell 2 (by decide : 2 < 11)
              rw [show (Mq.dcells D)[2]? = some (.int .u32 D.seq) from rfl, f1] at this
              exact this
            · have := (HD.out w' hb).cell 3 (by decide : 3 < 11)
              rw [show (Mq.dcells D)[3]? = some (.int .i64 D.path) from rfl, f2] at this
              exact this)
          have HRD : Hid (Rd wr D) := Lib.hid (by rw [hD]; exact hrd)
          have HCK : Hid (∀ w', Below wr.heap.size wr w' → Calls Try.prog 11 #[D.val] w' fun e w1 => e = .returned (.int .i64 0) ∧ Below wr.heap.size wr w1) := Lib.hid (fun w' hb => by
            obtain ⟨_, ly, hly, hck⟩ := HRD.out
            refine (check_any D ly w' (hly.below hb (Nat.le_refl _))).mono ?_
            rintro e w1 ⟨rfl, h1⟩
            exact ⟨by rw [hck], hb.trans (h1.mono hb.size)⟩)
          have p0 : ¬ (pi : Int) < 0 := by omega
          have p1 : ¬ (1 : Int) < (pi : Int) := by omega
          have p2 : (0 : Int) ≤ (pi : Int) := by omega
          have p3 : (pi : Int) < 2 := by omega
          have k1 : (k : Int) < (m : Int) := by omega
          have k2 : (0 : Int) ≤ (k : Int) := by omega
          obtain ⟨v, hv⟩ : ∃ v, v = (sq + 1) % 4294967296 := ⟨_, rfl⟩
          have hwr : IntKind.u32.wrap ((sq : Int) + 1) = (v : Int) := by rw [IntKind.wrap_u32, hv]; omega
          have HV : Hid (Goes (upd c pi v) (l.drop (k + 1)) s'.nxs) := Lib.hid (by rw [hv, hsqv]; exact hgo)
          have HP2 := Lib.hid hp2
          have HGN : Hid (g ≠ nb ∧ g < wr.heap.size) := Lib.hid ⟨hgn, hgl⟩
          have HK := Lib.hid hlt
          have hdl : (D.dl : Int) ≤ 1200 := by have := HRD.out.1.1; omega
          have CSZ : Hid (∀ w1, Calls Try.prog 12 #[D.val] w1 fun e w' => e = .returned (.int .i64 (33 + (D.dl : Int))) ∧ Below w1.heap.size w1 w') := Lib.hid (fun w1 => size_any D (by omega) w1)
          have HSM : Hid ((b + (33 + (D.dl : Int))) + total (l.drop (k + 1)) = s'.bk.sp ∧ 0 ≤ b + (33 + (D.dl : Int))) := Lib.hid ⟨by rw [f3]; omega, by have := HSUM.out.2; omega⟩
          have hbb : 0 ≤ b ∧ b ≤ 2000000000000 := by
            have := HSUM.out
            have := total_lo (l.drop k)
            have := HSU.out
            omega
          have HBU := Lib.hid hbb
          clear hk hlt ho1 hdrop hpa hsq hgo hsum ho2 e1 e2 hrd hblk hbg hgl hx hAg hpi hsqv hD f1 f2 f3 hp2 hgn hDx hv hbb
          go_upto_region 32 with fail
          clear c0
          refine (wpIn_wide (n := 3)).1 ?_
          refine wpIn_class (fun w' => Below wr.heap.size wr w') (Below.refl _ _).drew rfl (by kernel_rfl) (by kernel_rfl) ?_
          (refine wpQuietIn_step (fun _ _ _ _ => trivial) (fun K hK => ?_); go_simp; refine ⟨_, fun _ _ => rfl, hK _ ?_⟩; clear hK K)
          (refine wpQuietIn_step (fun _ _ _ _ => trivial) (fun K hK => ?_); go_simp; refine ⟨_, fun _ _ => rfl, hK _ ?_⟩; clear hK K)
          (refine wpQuietIn_step (fun _ _ _ _ => trivial) (fun K hK => ?_); go_simp; refine ⟨_, fun _ _ => rfl, hK _ ?_⟩; clear hK K)
          (refine wpQuietIn_step (fun _ _ _ _ => trivial) (fun K hK => ?_); go_simp; refine ⟨_, fun _ _ => rfl, hK _ ?_⟩; clear hK K)
          (refine wpQuietIn_step (fun _ _ _ _ => trivial) (fun K hK => ?_); go_simp; refine ⟨_, fun _ _ => rfl, hK _ ?_⟩; clear hK K)
          (refine wpQuietIn_step (fun _ _ _ _ => trivial) (fun K hK => ?_); go_simp; refine ⟨_, fun _ _ => rfl, hK _ ?_⟩; clear hK K)
          (refine wpQuietIn_step (fun _ _ _ _ => trivial) (fun K hK => ?_); go_simp; refine ⟨_, fun _ _ => rfl, hK _ ?_⟩; clear hK K)
          (refine wpQuietIn_step (fun _ _ _ _ => trivial) (fun K hK => ?_); go_simp; refine ⟨_, fun _ _ => rfl, hK _ ?_⟩; clear hK K)
          (refine wpQuietIn_step (fun _ _ _ _ => trivial) (fun K hK => ?_); go_simp; refine ⟨_, fun _ _ => rfl, hK _ ?_⟩; clear hK K)
          (refine wpQuietIn_step (fun _ _ _ _ => trivial) (fun K hK => ?_); go_simp; refine ⟨_, fun _ _ => rfl, hK _ ?_⟩; clear hK K)
          (refine wpQuietIn_step (fun _ _ _ _ => trivial) (fun K hK => ?_); go_simp; refine ⟨_, fun _ _ => rfl, hK _ ?_⟩; clear hK K)
          (refine wpQuietIn_step (fun _ _ _ _ => trivial) (fun K hK => ?_); go_simp; refine ⟨_, fun _ _ => rfl, hK _ ?_⟩; clear hK K)
          refine wpQ_readw (.int .u32 (sq : Int)) (fun _ _ _ _ => trivial) rfl (fun w' hw => ?_) ?_
          · have cc := (HC.out w' hw).1
            unfold Oper.quietAtIn
            go_simp
          simp only [Act.put, List.setIfInBounds_toArray, List.set_cons_zero, List.set_cons_succ]
          (refine wpQuietIn_step (fun _ _ _ _ => trivial) (fun K hK => ?_); go_simp; refine ⟨_, fun _ _ => rfl, hK _ ?_⟩; clear hK K)
          (refine wpQuietIn_step (fun _ _ _ _ => trivial) (fun K hK => ?_); go_simp; refine ⟨_, fun _ _ => rfl, hK _ ?_⟩; clear hK K)
          refine wpQ_readw (.int .u32 (sq : Int)) (fun _ _ _ _ => trivial) rfl (fun w' hw => ?_) ?_
          · have cc := (HC.out w' hw).2.1
            unfold Oper.quietAtIn
            go_simp
          simp only [Act.put, List.setIfInBounds_toArray, List.set_cons_zero, List.set_cons_succ]
          (refine wpQuietIn_step (fun _ _ _ _ => trivial) (fun K hK => ?_); go_simp; refine ⟨_, fun _ _ => rfl, hK _ ?_⟩; clear hK K)
          (refine wpQuietIn_step (fun _ _ _ _ => trivial) (fun K hK => ?_); go_simp; refine ⟨_, fun _ _ => rfl, hK _ ?_⟩; clear hK K)
          (refine wpQuietIn_step (fun _ _ _ _ => trivial) (fun K hK => ?_); go_simp; refine ⟨_, fun _ _ => rfl, hK _ ?_⟩; clear hK K)
          (refine wpQuietIn_step (fun _ _ _ _ => trivial) (fun K hK => ?_); go_simp; refine ⟨_, fun _ _ => rfl, hK _ ?_⟩; clear hK K)
          (refine wpQuietIn_step (fun _ _ _ _ => trivial) (fun K hK => ?_); go_simp; refine ⟨_, fun _ _ => rfl, hK _ ?_⟩; clear hK K)
          (refine wpQuietIn_step (fun _ _ _ _ => trivial) (fun K hK => ?_); go_simp; refine ⟨_, fun _ _ => rfl, hK _ ?_⟩; clear hK K)
          (refine wpQuietIn_step (fun _ _ _ _ => trivial) (fun K hK => ?_); go_simp; refine ⟨_, fun _ _ => rfl, hK _ ?_⟩; clear hK K)
          (refine wpQuietIn_step (fun _ _ _ _ => trivial) (fun K hK => ?_); go_simp; refine ⟨_, fun _ _ => rfl, hK _ ?_⟩; clear hK K)
          refine wpQ_readw (.int .i64 (pi : Int)) (fun _ _ _ _ => trivial) rfl (fun w' hw => ?_) ?_
          · have cc := (HC.out w' hw).2.2
            unfold Oper.quietAtIn
            go_simp
          simp only [Act.put, List.setIfInBounds_toArray, List.set_cons_zero, List.set_cons_succ]
          (refine wpQuietIn_step (fun _ _ _ _ => trivial) (fun K hK => ?_); go_simp; refine ⟨_, fun _ _ => rfl, hK _ ?_⟩; clear hK K)
          (refine wpQuietIn_step (fun _ _ _ _ => trivial) (fun K hK => ?_); go_simp; refine ⟨_, fun _ _ => rfl, hK _ ?_⟩; clear hK K)
          (refine wpQuietIn_step (fun _ _ _ _ => trivial) (fun K hK => ?_); go_simp; refine ⟨_, fun _ _ => rfl, hK _ ?_⟩; clear hK K)
          (refine wpQuietIn_step (fun _ _ _ _ => trivial) (fun K hK => ?_); go_simp; refine ⟨_, fun _ _ => rfl, hK _ ?_⟩; clear hK K)
          (refine wpQuietIn_step (fun _ _ _ _ => trivial) (fun K hK => ?_); go_simp; refine ⟨_, fun _ _ => rfl, hK _ ?_⟩; clear hK K)
          (refine wpQuietIn_step (fun _ _ _ _ => trivial) (fun K hK => ?_); go_simp; refine ⟨_, fun _ _ => rfl, hK _ ?_⟩; clear hK K)
          (refine wpQuietIn_step (fun _ _ _ _ => trivial) (fun K hK => ?_); go_simp; refine ⟨_, fun _ _ => rfl, hK _ ?_⟩; clear hK K)
          (refine wpQuietIn_step (fun _ _ _ _ => trivial) (fun K hK => ?_); go_simp; refine ⟨_, fun _ _ => rfl, hK _ ?_⟩; clear hK K)
          refine wpQ_readw D.val (fun _ _ _ _ => trivial) rfl (fun w' hw => ?_) ?_
          · exact quiet_loadAt 35 (.tmp 159) (.pointer (some ⟨g, k * 12 + 1, none⟩)) rfl rfl ((HD.out w' hw).loadAt 35 _ Try.underlying35 rfl (Mq.infoC D))
          simp only [Act.put, List.setIfInBounds_toArray, List.set_cons_zero, List.set_cons_succ]
          refine wpQuietIn_step (fun _ _ _ _ => trivial) (fun K hK => ?_)
          go_simp
          refine ⟨.int .i64 0, fun w' hw => callsIn_wide.2 (HCK.out w' hw), hK _ ?_⟩
          clear hK K
          (refine wpQuietIn_step (fun _ _ _ _ => trivial) (fun K hK => ?_); go_simp; refine ⟨_, fun _ _ => rfl, hK _ ?_⟩; clear hK K)
          (refine wpQuietIn_step (fun _ _ _ _ => trivial) (fun K hK => ?_); go_simp; refine ⟨_, fun _ _ => rfl, hK _ ?_⟩; clear hK K)
          refine wpQuietIn_nil ?_
          rintro w5 hw5
          have HW5 := Lib.hid hw5
          have cn := (HC.out w5 hw5).2.1
          have fn : w5.frozen? ⟨nb, pi, none⟩ = false := (HLW.out w5 hw5).frozen pi
          clear hw5
          go_upto_region 35 with fail
          obtain ⟨w6, hw6⟩ : ∃ w6, w6 = w5.setCell ⟨nb, pi, none⟩ (.int .u32 (v : Int)) := ⟨_, rfl⟩
          rw [← hw6]
          have HD6 : Hid (Lies w6 g (k * 12 + 1) (Mq.dcells D)) := Lib.hid (by rw [hw6]; exact (HD.out w5 HW5.out).other HGN.out.1 _)
          have HL6 : Hid (Lies w6 nb 0 (nx (upd c pi v))) := Lib.hid (by rw [hw6]; exact nx_set (HLW.out w5 HW5.out) HP2.out)
          have hk6 : ∀ q, q < wr.heap.size → q ≠ nb → w6.heap[q]? = wr.heap[q]? := fun q h1 h2 => by rw [hw6]; exact (Below.heap_setCell w5 ⟨nb, pi, none⟩ _ q h2).trans (HW5.out.block q h1)
          have hs6 : wr.heap.size ≤ w6.heap.size := by rw [hw6]; simpa using HW5.out.size
          have HGT6 := Lib.hid (HGT.out.keep hk6 hs6 HNO.out)
          have HSX6 : Hid (∃ S', SB w6 S' p s' ∧ Apt B nb S') := Lib.hid (by
            obtain ⟨S', h1, h2⟩ := HSX.out
            exact ⟨S', HAPI.out.keep h1 (fun q hq => hk6 q (HAPI.out.lt h1 q hq) (fun e => h2.no (e ▸ hq))) hs6, h2⟩)
          have HBX6 : Hid (Below W0.heap.size W0 w6) := Lib.hid (by
            rw [hw6]
            exact (HBX.out.trans (HW5.out.mono HBX.out.size)).setCell (p := ⟨nb, pi, none⟩) HNB.out.2.2 _)
          have hb1 := HBU.out
          clear hw6 hk6 hs6 cn fn hwr
          go_wp2_with (first
            | (with_reducible refine wpList_load_lies rfl 35 (.tmp 173) rfl g (k * 12 + 1) rfl (Mq.dcells D) HD6.out _ Try.underlying35 rfl (Mq.infoC D) ?_)
            | (go_at_call 12; (with_reducible refine (CSZ.out _).mono ?_); rintro e w7 ⟨rfl, hb7⟩; have HB7 := Lib.hid hb7; clear hb7)
            | fail)
          go_roundw
          case rel => exact ⟨k + 1, upd c pi v, b + (33 + (D.dl : Int)), HK.out, rfl, by go_num, HSM, HV, Lib.hid (HL6.out.below HB7.out HL6.out.lt), Lib.hid (HGT6.out.keep (fun q hq _ => HB7.out.block q hq) HB7.out.size HNO.out), Lib.hid (HSX6.out.imp fun S' h => ⟨HAPI.out.keep h.1 (fun q hq => HB7.out.block q (HAPI.out.lt h.1 q hq)) HB7.out.size, h.2⟩), Lib.hid (HBX6.out.trans (HB7.out.mono HBX6.out.size))⟩
          case measure =>
            have := HK.out
            simp [intOf]
            omega
        · obtain rfl : k = m := by omega
          have hd0 : l.drop k = [] := List.drop_of_length_le (by rw [← HMM.out]; exact Nat.le_refl _)
          have hsum := HSUM.out.1
          have hgo := HGO.out
          rw [hd0] at hsum hgo
          have hbe : b = s'.bk.sp := by
            have : total [] = 0 := rfl
            omega
          have hce : c = s'.nxs := funext hgo
          subst hbe hce
          have hok := HM.out.bnd.ok HM.out.fit
          have htk := HM.out.tk
          have hr := HRB.out
          obtain ⟨P, hP⟩ : ∃ P, P = r * (tk' : Int) := ⟨_, rfl⟩
          have hP0 : 0 ≤ P := by rw [hP]; exact Int.mul_nonneg (by omega) (by omega)
          have hP1 : P ≤ 1000000000 := by
            rw [hP]
            have h1 : r * (tk' : Int) ≤ 100000 * (tk' : Int) := Int.mul_le_mul_of_nonneg_right (by omega) (by omega)
            have := HI.out
            omega
          rw [← hP] at hok
          have hw1 : IntKind.i64.wrap (r * (tk' : Int)) = P := by rw [← hP, IntKind.wrap_i64]; omega
          have hw2 : IntKind.i64.wrap (bu + P) = bu + P := by rw [IntKind.wrap_i64]; omega
          have q1 : ¬ bu + P < s'.bk.sp := by omega
          obtain ⟨ql, hql⟩ : ∃ ql, ql = s'.q.l.length := ⟨_, rfl⟩
          rw [← hql] at hok
          have q2 : ¬ (ro : Int) < (ql : Int) := by omega
          have HSZ : Hid (∀ w', Below wr.heap.size wr w' → w'.cell? ⟨w.heap.size, 0, none⟩ = some (.int .i64 r) ∧ w'.cell? ⟨w.heap.size, 1, none⟩ = some (.int .i64 bu) ∧ w'.cell? ⟨w.heap.size, 2, none⟩ = some (.int .i64 (ro : Int))) := Lib.hid (fun w' hb => HALL.out w' (HBX.out.trans (hb.mono HBX.out.size)))
          have HWT : Hid (∀ w', Below wr.heap.size wr w' → Calls Try.prog 13 #[.pointer (some ⟨p, 0, none⟩)] w' fun e w1 => e = .returned (.int .i64 (ql : Int)) ∧ Below wr.heap.size wr w1) := Lib.hid (fun w' hb => by
            obtain ⟨S', h1, _⟩ := HSX.out
            refine (HAPI.out.waiting (HAPI.out.keep h1 (fun q hq => hb.block q (HAPI.out.lt h1 q hq)) hb.size)).mono ?_
            rintro e w1 ⟨rfl, rfl⟩
            exact ⟨by rw [hql], hb⟩)
          have k1 : ¬ (k : Int) < (k : Int) := by omega
          clear hk hlt hd0 hsum hgo hok htk hr hP hP0 hP1 hql
          obtain ⟨bb, hbb⟩ : ∃ bb, bb = s'.bk.sp := ⟨_, rfl⟩
          rw [← hbb] at q1 ⊢
          have HBBB := Lib.hid hbb
          clear hbb
          go_upto_region 36 with fail
          refine (wpIn_wide (n := 3)).1 ?_
          refine wpIn_class (fun w' => Below wr.heap.size wr w') (Below.refl _ _).drew rfl (by kernel_rfl) (by kernel_rfl) ?_
          (refine wpQuietIn_step (fun _ _ _ _ => trivial) (fun K hK => ?_); go_simp; refine ⟨_, fun _ _ => rfl, hK _ ?_⟩; clear hK K)
          (refine wpQuietIn_step (fun _ _ _ _ => trivial) (fun K hK => ?_); go_simp; refine ⟨_, fun _ _ => rfl, hK _ ?_⟩; clear hK K)
          refine wpQ_readw (.int .i64 bu) (fun _ _ _ _ => trivial) rfl (fun w' hw => ?_) ?_
          · have cc := (HSZ.out w' hw).2.1
            unfold Oper.quietAtIn
            go_simp
          simp only [Act.put, List.setIfInBounds_toArray, List.set_cons_zero, List.set_cons_succ]
          (refine wpQuietIn_step (fun _ _ _ _ => trivial) (fun K hK => ?_); go_simp; refine ⟨_, fun _ _ => rfl, hK _ ?_⟩; clear hK K)
          refine wpQ_readw (.int .i64 r) (fun _ _ _ _ => trivial) rfl (fun w' hw => ?_) ?_
          · have cc := (HSZ.out w' hw).1
            unfold Oper.quietAtIn
            go_simp
          simp only [Act.put, List.setIfInBounds_toArray, List.set_cons_zero, List.set_cons_succ]
          (refine wpQuietIn_step (fun _ _ _ _ => trivial) (fun K hK => ?_); go_simp; refine ⟨_, fun _ _ => rfl, hK _ ?_⟩; clear hK K)
          (refine wpQuietIn_step (fun _ _ _ _ => trivial) (fun K hK => ?_); go_simp; refine ⟨_, fun _ _ => rfl, hK _ ?_⟩; clear hK K)
          (refine wpQuietIn_step (fun _ _ _ _ => trivial) (fun K hK => ?_); go_simp; refine ⟨_, fun _ _ => rfl, hK _ ?_⟩; clear hK K)
          (refine wpQuietIn_step (fun _ _ _ _ => trivial) (fun K hK => ?_); go_simp; refine ⟨_, fun _ _ => rfl, hK _ ?_⟩; clear hK K)
          (refine wpQuietIn_step (fun _ _ _ _ => trivial) (fun K hK => ?_); go_simp; refine ⟨_, fun _ _ => rfl, hK _ ?_⟩; clear hK K)
          (refine wpQuietIn_step (fun _ _ _ _ => trivial) (fun K hK => ?_); go_simp; refine ⟨_, fun _ _ => rfl, hK _ ?_⟩; clear hK K)
          refine wpQuietIn_step (fun _ _ _ _ => trivial) (fun K hK => ?_)
          go_simp
          refine ⟨.int .i64 (ql : Int), fun w' hw => callsIn_wide.2 (HWT.out w' hw), hK _ ?_⟩
          clear hK K
          (refine wpQuietIn_step (fun _ _ _ _ => trivial) (fun K hK => ?_); go_simp; refine ⟨_, fun _ _ => rfl, hK _ ?_⟩; clear hK K)
          refine wpQ_readw (.int .i64 (ro : Int)) (fun _ _ _ _ => trivial) rfl (fun w' hw => ?_) ?_
          · have cc := (HSZ.out w' hw).2.2
            unfold Oper.quietAtIn
            go_simp
          simp only [Act.put, List.setIfInBounds_toArray, List.set_cons_zero, List.set_cons_succ]
          (refine wpQuietIn_step (fun _ _ _ _ => trivial) (fun K hK => ?_); go_simp; refine ⟨_, fun _ _ => rfl, hK _ ?_⟩; clear hK K)
          (refine wpQuietIn_step (fun _ _ _ _ => trivial) (fun K hK => ?_); go_simp; refine ⟨_, fun _ _ => rfl, hK _ ?_⟩; clear hK K)
          refine wpQuietIn_nil ?_
          rintro w5 hw5
          have HW5 := Lib.hid hw5
          clear hw5
          go_wp2
          go_roundw
          case rel => exact ⟨i + 1, s', tk', HI.out.1, by rw [HBBB.out], rfl, by go_num, Lib.hid (HSX.out.imp fun S' h => ⟨HAPI.out.keep h.1 (fun q hq => HW5.out.block q (HAPI.out.lt h.1 q hq)) HW5.out.size, h.2⟩), Lib.hid HM.out.fit, Lib.hid HM.out.bnd, Lib.hid HM.out.tk, Lib.hid (HLX.out.below HW5.out HLX.out.lt), Lib.hid (HBX.out.trans (HW5.out.mono HBX.out.size))⟩
          case measure =>
            have := HI.out
            simp [intOf]
            omega
end Go.Proofs.Ytblnmddphichgaa.Mp
