/-
  Own text: layer 18 (reasm): Take, whole; the other calls of a window that the laws need.
  Own text: layer 18 (reasm): a new window; the law's same.
  Own text: layer 17 (group): a group's datagram at a number that it has, walked.
  Own text: layer 17 (group): the document's datagram of a group, walked (written by gen_gmc.py).
  Own text: layer 17 (group): All, walked.
  Own text: layer 18 (reasm): shards of a group's code word tell its inputs.
-/
import Derived.Test.YtjcbcdjfhcnhcaaK21
import Derived.Test.YtjcbcdjfhcnhcaaK16
import Derived.Test.YtjcbcdjfhcnhcaaK14
import Derived.BigQuiet
namespace Go.Proofs.Ytjcbcdjfhcnhcaa
open Go.RowKit
theorem code_fit {S : Wn} {d : Cd} (hb : d.bad = 0) : d.len = 2 ∧ 0 ≤ d.ix := by
  obtain ⟨_, _, _, _, _, h1, _, h2⟩ := Cd.bad_zero hb
  exact ⟨h2, h1⟩
theorem take18 (b t base n : Nat) (O : Nat → Prop) (S : Wn) (kind ses seq path tick K M ix : Int) (A B : Nat) (da : Option Addr) (dl dc b0 b1 : Nat) (w : World) (h : CW w b t base O none S) (hS : S.ok n) (hn : n ≤ 299) (hst : S.next = none) (hA : A < 4294967296) (hB : B < 4294967296) (h0 : b0 ≤ 255) (h1 : b1 ≤ 255) (hD : dl = 2 → ∃ g off, da = some ⟨g, off, none⟩ ∧ 2 ≤ dc ∧ Rw w g off (f2 ⟨ix.toNat, b0, b1⟩)) :
    Calls Try.prog 20 #[.pointer (some ⟨b, 0, none⟩), .agg #[.int .i64 kind, .int .u32 ses, .int .u32 seq, .int .i64 path, .int .u32 tick, .int .u32 (A : Nat), .int .u32 (B : Nat), .int .i64 K, .int .i64 M, .int .i64 ix, .slice da dl dc]] w (TakeTo b t base O S (⟨kind, A, B, K, M, ix, dl, b0, b1⟩ : Cd) w) := by
  by_cases hb : badOf kind K M ix dl = 0
  · have hbase : S.base ≤ 300 := by have := hS.base; omega
    rcases Wn.far_ahead (S := S) hbase hA with ⟨f1, f2', f3, f4, f5⟩ | ⟨f1, f2'⟩ | ⟨f1, f2'⟩
    · by_cases hc : S.code (⟨kind, A, B, K, M, ix, dl, b0, b1⟩ : Cd) = 0
      · obtain ⟨e1, e2⟩ := code_fit (S := S) (d := (⟨kind, A, B, K, M, ix, dl, b0, b1⟩ : Cd)) hb
        dsimp only at e1 e2
        subst e1
        obtain ⟨ixn, rfl⟩ : ∃ ixn : Nat, ix = ixn := ⟨ix.toNat, by omega⟩
        obtain ⟨g, off, rfl, hdc, hrw⟩ := hD rfl
        rw [Int.toNat_natCast] at hrw
        exact take18_yes b t base n O S kind ses seq path tick K M ixn A B g off dc b0 b1 w h hS hn hA hb f1 ⟨f2', f3, f4, f5⟩ hst hB h0 h1 hdc hrw hc
      · exact take18_other b t base n O S kind ses seq path tick K M ix A B da dl dc b0 b1 w h hS hn hA hb f1 ⟨f2', f3, f4, f5⟩ hc
    · exact take18_long b t base n O S kind ses seq path tick K M ix A B da dl dc b0 b1 w h hS hn hA hb f1 f2'
    · exact take18_old b t base n O S kind ses seq path tick K M ix A B da dl dc b0 b1 w h hS hn hA hb f1 f2'
  · exact take18_bad b t base n O S kind ses seq path tick K M ix A B da dl dc b0 b1 w h hS hn hA hb
section
variable {w : World} {b t base : Nat} {O : Nat → Prop} {x : Option Nat} {S : Wn}
theorem base18 (h : CW w b t base O x S) : Calls Try.prog 26 #[.pointer (some ⟨b, 0, none⟩)] w fun e w' => e = .returned (.int .u32 (S.base : Nat)) ∧ w = w' := by
  obtain ⟨sv, rd, h1, _⟩ := h.ex
  obtain ⟨k0, k1, k2, k3, k4, k5⟩ := h1.cells
  clear h1 h
  go_enter Try.func26, Try.ntmps26
  go_wp2
  go_ret
  exact ⟨rfl, rfl⟩
theorem frames18 (h : CW w b t base O x S) : Calls Try.prog 25 #[.pointer (some ⟨b, 0, none⟩)] w fun e w' => e = .returned (.int .i64 (S.frames : Nat)) ∧ w = w' := by
  obtain ⟨sv, rd, h1, _⟩ := h.ex
  obtain ⟨k0, k1, k2, k3, k4, k5⟩ := h1.cells
  clear h1 h
  go_enter Try.func25, Try.ntmps25
  go_wp2
  go_ret
  exact ⟨rfl, rfl⟩
theorem mended18 (h : CW w b t base O x S) : Calls Try.prog 40 #[.pointer (some ⟨b, 0, none⟩)] w fun e w' => e = .returned (.int .i64 (S.mended : Nat)) ∧ w = w' := by
  obtain ⟨sv, rd, h1, _⟩ := h.ex
  obtain ⟨k0, k1, k2, k3, k4, k5⟩ := h1.cells
  clear h1 h
  go_enter Try.func40, Try.ntmps40
  go_wp2
  go_ret
  exact ⟨rfl, rfl⟩
end
/-- What Ready answers: its list lies where the window's row was. -/
def ReadTo (b t base : Nat) (O : Nat → Prop) (S : Wn) (w : World) (e : Ending) (w' : World) : Prop :=
  ∃ A C, e = .returned (.slice A S.ready.length C) ∧ Hid (Ins w' A S.ready.length S.ready) ∧ Hid (A = none → C = 0) ∧ Hid (CW w' b t base (OO O w w') none S.read) ∧ Hid (FrO O w w')
theorem CW.read {w : World} {b t base : Nat} {O : Nat → Prop} {S : Wn} (h : CW w b t base O none S) : CW (w.setCell ⟨b, 165, none⟩ (.slice none 0 0)) b t base (OO O w (w.setCell ⟨b, 165, none⟩ (.slice none 0 0))) none S.read ∧ FrO O w (w.setCell ⟨b, 165, none⟩ (.slice none 0 0)) := by
  obtain ⟨sv, rd, h1, h2, h3, h4, h5, h6, h7⟩ := h.ex
  have hTb := h1.typ
  have hc := h1.cells
  obtain ⟨w', hw'⟩ : ∃ w', w' = w.setCell ⟨b, 165, none⟩ (.slice none 0 0) := ⟨_, rfl⟩
  have hP : PrtR b none (fun j => j = 165) w w' := by rw [hw']; exact (PrtR.refl b none (fun j => j = 165) w).set 165 rfl _
  have c165 : w'.cell? ⟨b, 165, none⟩ = some (.slice none 0 0) := by rw [hw']; exact World.cell?_setCell_same w _ _ hc.2.2.2.2.2
  rw [← hw']
  have keep : ∀ {g : Nat} {T : TypeId}, Typ w g T → T ≠ 105 → w'.heap[g]? = w.heap[g]? := fun {g T} hg hT => hP.block g hg.lt (Typ.ne hg hTb hT) (fun e => by cases e)
  have hl0 := h1.lies (show 0 < 32 by omega)
  refine ⟨⟨h.tb, h.bb, h.tab.keep (hP.block t (World.rowIs.lt h.tab) (by have := h.tb; have := h.bb; omega) (fun e => by cases e)), fun k hk => ?_, .inl h.ob, sv, .slice none 0 0, ?_, OwnU.none _ _, fun g hg => (by cases hg), fun s hs' => ?_, fun s g hs' hg => .inl (h5 s g hs' hg), h6, fun s g hs' hg => ⟨(by intro e; cases e), .inl (h7 s g hs' hg).2⟩⟩, hP.os, hP.tape, hP.output, hP.size, fun k hk hno => hP.block k hk (fun e => hno (by rw [e]; exact h.ob)) (fun e => by cases e)⟩
  · rcases hk with hk | hk
    · exact ⟨(h.own k hk).1, Nat.lt_of_lt_of_le (h.own k hk).2 hP.size⟩
    · exact ⟨Nat.le_trans h.low hk.1, hk.2⟩
  · have hh := h1.turn hP (s0 := 0) (fun j hj => .inr (.inr (.inr (.inr (.inl hj))))) (hP.cell hTb hc.2.1 (by omega)) (hP.cell hTb hc.2.2.1 (by omega)) (hP.cell hTb hc.2.2.2.1 (by omega)) (hP.cell hTb hc.2.2.2.2.1 (by omega)) c165 (by omega) (hP.lies hl0 (fun j hj => by have := (h4 0 (by omega)).size; omega)) (h4 0 (by omega)).size
    have e : (fun s => if s = 0 then sv 0 else sv s) = sv := by
      funext s
      by_cases e : s = 0
      · rw [if_pos e, e]
      · rw [if_neg e]
    rw [e] at hh
    exact hh
  · have hi := h4 s hs'
    exact hi.keep (fun g hg => keep (hi.typ3 hg).2.2 (by decide)) (fun g cur hcur => keep ⟨cur, hcur⟩ (by decide)) (fun g hg => keep (hi.typ4 hg).2.2 (by decide))
theorem ready18 (b t base : Nat) (O : Nat → Prop) (S : Wn) (w : World) (h : CW w b t base O none S) :
    Calls Try.prog 23 #[.pointer (some ⟨b, 0, none⟩)] w (ReadTo b t base O S w) := by
  have HR := Lib.hid h.read
  obtain ⟨sv, rd, h1, h2, _⟩ := h.ex
  obtain ⟨k0, k1, k2, k3, k4, k5⟩ := h1.cells
  have q5 := h1.frozen 165
  obtain ⟨A, C, rfl, hA, hC⟩ := h2.slice
  have HNC : Hid (A = none → C = 0) := Lib.hid (fun hA => by
    obtain ⟨A', C', e, _, _, h9⟩ := row_slice h2
    cases e
    exact h9 hA)
  have HI : Hid (Ins (w.setCell ⟨b, 165, none⟩ (.slice none 0 0)) A S.ready.length S.ready) := Lib.hid (by
    have ho : OwnU (w.setCell ⟨b, 165, none⟩ (.slice none 0 0)) base (.slice A S.ready.length C) S.ready.length S.ready := OwnU.keep h2 (fun g hg => set_other18 _ _ _ _ _ (fun e => by
      obtain ⟨_, _, hty⟩ := row_type h2 hg
      exact (Typ.ne hty h1.typ (by decide)) e))
    exact ho.ins)
  clear h h1 h2
  go_enter Try.func23, Try.ntmps23
  go_wp2
  go_ret
  exact ⟨A, C, rfl, HI, HNC, Lib.hid HR.out.1, Lib.hid HR.out.2⟩
end Go.Proofs.Ytjcbcdjfhcnhcaa
namespace Go.Proofs.Ytjcbcdjfhcnhcaa
open Go.RowKit
/-- The cells of a window to which nothing came. -/
def zf18 (i : Nat) : Value := if i = 0 then .pointer none else if i = 1 then .int .u32 0 else if i < 5 then .int .i64 0 else if i = 165 then .slice none 0 0 else if i % 5 = 0 then .int .u32 0 else if i % 5 < 3 then .int .i64 0 else .slice none 0 0
theorem zeros18 : Try.zeroCells105 = ((List.range 166).map zf18).toArray := by kernel_rfl
theorem zeros18_get (p : Value) (i : Nat) (h : i < 166) : (Try.zeroCells105.setIfInBounds 0 p)[i]? = some (if i = 0 then p else zf18 i) := by
  by_cases e : i = 0
  · subst e
    rw [if_pos rfl, zeros18]
    simp
  · rw [if_neg e, Array.getElem?_setIfInBounds_ne (by omega), zeros18]
    simp [h]
theorem zeros18_win (t : Nat) : WinC (Try.zeroCells105.setIfInBounds 0 (.pointer (some ⟨t, 0, none⟩))) t 0 0 0 0 (fun _ => #[.int .u32 0, .int .i64 0, .int .i64 0, .slice none 0 0, .slice none 0 0]) (.slice none 0 0) := by
  refine ⟨by rw [Array.size_setIfInBounds, zeros18]; simp, zeros18_get _ 0 (by omega), zeros18_get _ 1 (by omega), zeros18_get _ 2 (by omega), zeros18_get _ 3 (by omega), zeros18_get _ 4 (by omega), zeros18_get _ 165 (by omega), fun s hs => ⟨rfl, fun j hj => ?_⟩⟩
  rw [zeros18_get _ _ (by omega), if_neg (by omega)]
  unfold zf18
  rw [if_neg (by omega), if_neg (by omega), if_neg (by omega), if_neg (by omega)]
  match j, hj with
  | 0, _ => rw [if_pos (by omega)]; rfl
  | 1, _ => rw [if_neg (by omega), if_pos (by omega)]; rfl
  | 2, _ => rw [if_neg (by omega), if_pos (by omega)]; rfl
  | 3, _ => rw [if_neg (by omega), if_neg (by omega)]; rfl
  | 4, _ => rw [if_neg (by omega), if_neg (by omega)]; rfl
theorem new18 (t : Nat) (w : World) (ht : IsTab w t) :
    Calls Try.prog 18 #[.pointer (some ⟨t, 0, none⟩)] w fun e w' => e = .returned (.pointer (some ⟨w.heap.size, 0, none⟩)) ∧ Hid (CW w' w.heap.size t w.heap.size (fun k => k = w.heap.size) none Wn.zero) ∧ Hid (Below w.heap.size w w') := by
  have htl : t < w.heap.size := World.rowIs.lt ht
  have HCW : Hid (CW (w.alloc (.cells (Try.zeroCells105.setIfInBounds 0 (.pointer (some ⟨t, 0, none⟩))) 105)) w.heap.size t w.heap.size (fun k => k = w.heap.size) none Wn.zero) := Lib.hid (by
    have hb : Below w.heap.size w (w.alloc (.cells (Try.zeroCells105.setIfInBounds 0 (.pointer (some ⟨t, 0, none⟩))) 105)) := (Below.refl _ _).alloc (Nat.le_refl _) _
    refine ⟨htl, Nat.le_refl _, ht.below hb htl, fun k hk => ?_, rfl, fun _ => #[.int .u32 0, .int .i64 0, .int .i64 0, .slice none 0 0, .slice none 0 0], .slice none 0 0, ⟨_, Go.Deep.blk_alloc_new w _, zeros18_win t⟩, OwnU.none _ _, fun g hg => (by cases hg), fun s _ => .inl ⟨?_, rfl⟩, fun s g _ hg => (by cases hg), fun s s' g _ _ _ hg => (by cases hg), fun s g _ hg => (by cases hg)⟩
    · rw [hk, World.size_alloc]
      omega
    · cases e : Wn.zero.slot s with
      | none => rfl
      | some p => exact absurd (Wn.of_some e).2.1 (by simp [Wn.zero]))
  clear ht htl
  go_enter Try.func18, Try.ntmps18
  go_wp2
  go_ret
  exact ⟨rfl, HCW, Lib.hid ((Below.refl _ _).alloc (Nat.le_refl _) _)⟩
/-- Alike inputs. -/
theorem same18 (a a' : Option Addr) (n c c' : Nat) (l l' : List Int) (w : World) (h : Ins w a n l) (h' : Ins w a' n l') (hn : n ≤ 100000) (e : l = l') :
    Calls Try.prog 22 #[.slice a n c, .slice a' n c'] w fun x w' => x = .returned (.bool true) ∧ Below w.heap.size w w' := by
  subst e
  have H := Lib.hid h
  have H' := Lib.hid h'
  have hn2 : (n : Int) ≤ 100000 := by omega
  clear h h'
  go_enter Try.func22, Try.ntmps22
  go_wp2
  go_loopw [5] (fun j wr => ∃ q k : Nat, q ≤ n ∧ j = .int .i64 (q : Int) ∧ wr = w.drewN k) (fun j _ => n - (intOf j).toNat)
  case atStart => exact ⟨0, 0, Nat.zero_le _, rfl, rfl⟩
  case round =>
    obtain ⟨q, k, hq, rfl, rfl⟩ := hrel
    by_cases hlt : q < n
    · obtain ⟨b, off, rfl, hb, hc⟩ : ∃ b off, a = some ⟨b, off, none⟩ ∧ b < w.heap.size ∧ ∀ i, i < n → w.cell? ⟨b, off + i, none⟩ = some (.int .u16 (l.getD i 0)) := H.out.2.resolve_left (by omega)
      obtain ⟨b', off', rfl, hb', hc'⟩ : ∃ b off, a' = some ⟨b, off, none⟩ ∧ b < w.heap.size ∧ ∀ i, i < n → w.cell? ⟨b, off + i, none⟩ = some (.int .u16 (l.getD i 0)) := H'.out.2.resolve_left (by omega)
      have c1 := hc q hlt
      have c2 := hc' q hlt
      have i1 : (q : Int) < n := by omega
      generalize l.getD q 0 = z at *
      clear hc hc'
      go_upto_region 6 with fail
      go_quiet (fail)
      go_wp2
      go_roundw
      case rel => exact ⟨q + 1, _, hlt, by go_num, rfl⟩
      case measure => simp [intOf] <;> omega
    · obtain rfl : q = n := by omega
      go_wp2
      go_ret
      exact ⟨rfl, below_drewN (Below.refl _ _) _⟩
end Go.Proofs.Ytjcbcdjfhcnhcaa
namespace Go.Proofs.Ytjcbcdjfhcnhcaa
open Go.RowKit

theorem infoC17 (d : Dg) : (Try.prog.info? 44).map (·.size) = some d.cells.size := by kernel_rfl
theorem dcells17_one (d : Dg) : d.cells.all (·.oneCell') = true := by simp [Value.oneCell']
/-- Where a row of shards has its i-th one. -/
def At17 (w : World) (A : Option Addr) (i : Nat) (f : Nat → Nat) : Prop := ∃ b off g o c, A = some ⟨b, off, none⟩ ∧ w.cell? ⟨b, off + i, none⟩ = some (.slice (some ⟨g, o, none⟩) 2 c) ∧ 2 ≤ c ∧ c ≤ maxLen ∧ Rw w g o f ∧ b < w.heap.size
end Go.Proofs.Ytjcbcdjfhcnhcaa
namespace Go.Proofs.Ytjcbcdjfhcnhcaa
open Go.RowKit

set_option maxRecDepth 100000 in
set_option maxHeartbeats 4000000 in
theorem rdg_any (no fst k m : Int) (A : Option Addr) (n C i : Nat) (b off g o c : Nat) (w : World) (hn : n ≤ C) (hn2 : n ≤ 1000) (hi : i < n) (hA : A = some ⟨b, off, none⟩) (hc : w.cell? ⟨b, off + i, none⟩ = some (.slice (some ⟨g, o, none⟩) 2 c)) (hbl : b < w.heap.size) :
    Calls Try.prog 16 #[.agg #[.int .u32 no, .int .u32 fst, .int .i64 k, .int .i64 m, .slice A n C], .int .i64 i] w fun e w' => e = .returned (dgv no fst k m i (some ⟨g, o, none⟩) c).val ∧ Hid (Below w.heap.size w w') := by
  subst hA
  have hs0 : (w.alloc (.cells #[.int .u32 no, .int .u32 fst, .int .i64 k, .int .i64 m, .slice (some ⟨b, off, none⟩) n C] 34)).heap.size = w.heap.size + 1 := by simp
  obtain ⟨W, hW⟩ : ∃ W, W = (w.alloc (.cells #[.int .u32 no, .int .u32 fst, .int .i64 k, .int .i64 m, .slice (some ⟨b, off, none⟩) n C] 34)).alloc (.cells Dg.zero.cells 44) := ⟨_, rfl⟩
  have h1 : B5 34 W w.heap.size (.int .u32 no) (.int .u32 fst) (.int .i64 k) (.int .i64 m) (.slice (some ⟨b, off, none⟩) n C) := by
    have h := B5.new w 34 (.int .u32 no) (.int .u32 fst) (.int .i64 k) (.int .i64 m) (.slice (some ⟨b, off, none⟩) n C)
    rw [hW]
    exact h.keep (Below.heap_alloc _ _ _ h.lt)
  have HB : Hid (Below w.heap.size w W) := Lib.hid (by rw [hW]; exact ((Below.refl w.heap.size w).alloc (Nat.le_refl _) _).alloc (by simp) _)
  have HL : Hid (∀ u, Below (w.heap.size + 1) W u → u.cell? ⟨w.heap.size, 0, none⟩ = some (.int .u32 no) ∧ u.cell? ⟨w.heap.size, 1, none⟩ = some (.int .u32 fst) ∧ u.cell? ⟨w.heap.size, 2, none⟩ = some (.int .i64 k) ∧ u.cell? ⟨w.heap.size, 3, none⟩ = some (.int .i64 m) ∧ u.cell? ⟨w.heap.size, 4, none⟩ = some (.slice (some ⟨b, off, none⟩) n C) ∧ u.cell? ⟨b, off + i, none⟩ = some (.slice (some ⟨g, o, none⟩) 2 c)) := Lib.hid (fun u hu => by
    obtain ⟨y0, y1, y2, y3, y4⟩ := (h1.below hu (Nat.lt_succ_self _)).cells
    have hbb := HB.out.trans (hu.mono (Nat.le_succ _))
    exact ⟨y0, y1, y2, y3, y4, (hbb.cell (p := ⟨b, off + i, none⟩) hbl).trans hc⟩)
  have HZ : Hid (∀ u, Below W.heap.size W u → Lies u (w.heap.size + 1) 0 Dg.zero.cells) := Lib.hid (fun u hu => by
    rw [hW, ← hs0] at *
    exact Lies.new _ _ _ hu)
  have HZB : Hid (W.heap.size = w.heap.size + 2) := Lib.hid (by rw [hW]; simp)
  have j0 : ¬ (i : Int) < 0 := by omega
  have j2 : (i : Int) < n := by omega
  have j3 : (0 : Int) ≤ i := by omega
  have j4 : i < n := hi
  dsimp only [Dg.zero, Dg.cells] at hW
  clear hs0 h1 hc hbl hn hn2 hi
  unfold dgv
  by_cases hk : (i : Int) < k
  · simp only [hk, if_true, if_false]
    go_enter Try.func16, Try.ntmps16
    go_upto_region 1 with fail
    rw [← hW]
    clear hW
    refine wp_region_held_drew (S := fun w' => w'.cell? ⟨w.heap.size, 0, none⟩ = some (.int .u32 no) ∧ w'.cell? ⟨w.heap.size, 1, none⟩ = some (.int .u32 fst) ∧ w'.cell? ⟨w.heap.size, 2, none⟩ = some (.int .i64 k) ∧ w'.cell? ⟨w.heap.size, 3, none⟩ = some (.int .i64 m) ∧ w'.cell? ⟨w.heap.size, 4, none⟩ = some (.slice (some ⟨b, off, none⟩) n C) ∧ w'.cell? ⟨b, off + i, none⟩ = some (.slice (some ⟨g, o, none⟩) 2 c)) (by kernel_rfl) (HL.out _ (Below.refl _ W).drew) (fun hHeld => ?_)
    refine taken_at (i := 0) (v := .pointer (some ⟨w.heap.size, 0, none⟩)) (some 6) rfl rfl (by kernel_rfl) (by kernel_rfl) (by kernel_rfl) (fun _ _ _ h => h) (Or.inl ⟨rfl, fun w' hw => by obtain ⟨k0, k1, k2, k3, k4, k5⟩ := hw; go_simp⟩) hHeld ?_
    try simp only [Act.put, List.setIfInBounds_toArray, List.set_cons_zero, List.set_cons_succ]
    refine taken_at (i := 1) (v := .int .u32 no) (some 7) rfl rfl (by kernel_rfl) (by kernel_rfl) (by kernel_rfl) (fun _ _ _ h => h) (Or.inl ⟨rfl, fun w' hw => by obtain ⟨k0, k1, k2, k3, k4, k5⟩ := hw; go_simp⟩) hHeld ?_
    try simp only [Act.put, List.setIfInBounds_toArray, List.set_cons_zero, List.set_cons_succ]
    refine taken_at (i := 2) (v := .pointer (some ⟨w.heap.size, 1, none⟩)) (some 8) rfl rfl (by kernel_rfl) (by kernel_rfl) (by kernel_rfl) (fun _ _ _ h => h) (Or.inl ⟨rfl, fun w' hw => by obtain ⟨k0, k1, k2, k3, k4, k5⟩ := hw; go_simp⟩) hHeld ?_
    try simp only [Act.put, List.setIfInBounds_toArray, List.set_cons_zero, List.set_cons_succ]
    refine taken_at (i := 3) (v := .int .u32 fst) (some 9) rfl rfl (by kernel_rfl) (by kernel_rfl) (by kernel_rfl) (fun _ _ _ h => h) (Or.inl ⟨rfl, fun w' hw => by obtain ⟨k0, k1, k2, k3, k4, k5⟩ := hw; go_simp⟩) hHeld ?_
    try simp only [Act.put, List.setIfInBounds_toArray, List.set_cons_zero, List.set_cons_succ]
    refine taken_at (i := 4) (v := .pointer (some ⟨w.heap.size, 2, none⟩)) (some 10) rfl rfl (by kernel_rfl) (by kernel_rfl) (by kernel_rfl) (fun _ _ _ h => h) (Or.inl ⟨rfl, fun w' hw => by obtain ⟨k0, k1, k2, k3, k4, k5⟩ := hw; go_simp⟩) hHeld ?_
    try simp only [Act.put, List.setIfInBounds_toArray, List.set_cons_zero, List.set_cons_succ]
    refine taken_at (i := 5) (v := .int .i64 k) (some 11) rfl rfl (by kernel_rfl) (by kernel_rfl) (by kernel_rfl) (fun _ _ _ h => h) (Or.inl ⟨rfl, fun w' hw => by obtain ⟨k0, k1, k2, k3, k4, k5⟩ := hw; go_simp⟩) hHeld ?_
    try simp only [Act.put, List.setIfInBounds_toArray, List.set_cons_zero, List.set_cons_succ]
    refine taken_at (i := 6) (v := .pointer (some ⟨w.heap.size, 3, none⟩)) (some 12) rfl rfl (by kernel_rfl) (by kernel_rfl) (by kernel_rfl) (fun _ _ _ h => h) (Or.inl ⟨rfl, fun w' hw => by obtain ⟨k0, k1, k2, k3, k4, k5⟩ := hw; go_simp⟩) hHeld ?_
    try simp only [Act.put, List.setIfInBounds_toArray, List.set_cons_zero, List.set_cons_succ]
    refine taken_at (i := 7) (v := .int .i64 m) (some 13) rfl rfl (by kernel_rfl) (by kernel_rfl) (by kernel_rfl) (fun _ _ _ h => h) (Or.inl ⟨rfl, fun w' hw => by obtain ⟨k0, k1, k2, k3, k4, k5⟩ := hw; go_simp⟩) hHeld ?_
    try simp only [Act.put, List.setIfInBounds_toArray, List.set_cons_zero, List.set_cons_succ]
    refine taken_at (i := 8) (v := .int .i64 (i : Int)) (some 14) rfl rfl (by kernel_rfl) (by kernel_rfl) (by kernel_rfl) (fun _ _ _ h => h) (Or.inl ⟨rfl, fun _ _ => rfl⟩) hHeld ?_
    try simp only [Act.put, List.setIfInBounds_toArray, List.set_cons_zero, List.set_cons_succ]
    refine taken_at (i := 9) (v := .pointer (some ⟨w.heap.size, 4, none⟩)) (some 15) rfl rfl (by kernel_rfl) (by kernel_rfl) (by kernel_rfl) (fun _ _ _ h => h) (Or.inl ⟨rfl, fun w' hw => by obtain ⟨k0, k1, k2, k3, k4, k5⟩ := hw; go_simp⟩) hHeld ?_
    try simp only [Act.put, List.setIfInBounds_toArray, List.set_cons_zero, List.set_cons_succ]
    refine taken_at (i := 10) (v := .slice (some ⟨b, off, none⟩) n C) (some 16) rfl rfl (by kernel_rfl) (by kernel_rfl) (by kernel_rfl) (fun _ _ _ h => h) (Or.inl ⟨rfl, fun w' hw => by obtain ⟨k0, k1, k2, k3, k4, k5⟩ := hw; go_simp⟩) hHeld ?_
    try simp only [Act.put, List.setIfInBounds_toArray, List.set_cons_zero, List.set_cons_succ]
    refine taken_at (i := 11) (v := .int .i64 (i : Int)) (some 17) rfl rfl (by kernel_rfl) (by kernel_rfl) (by kernel_rfl) (fun _ _ _ h => h) (Or.inl ⟨rfl, fun _ _ => rfl⟩) hHeld ?_
    try simp only [Act.put, List.setIfInBounds_toArray, List.set_cons_zero, List.set_cons_succ]
    refine taken_at (i := 12) (v := .pointer (some ⟨b, off + i, none⟩)) (some 18) rfl rfl (by kernel_rfl) (by kernel_rfl) (by kernel_rfl) (fun _ _ _ h => h) (Or.inl ⟨rfl, fun w' hw => by obtain ⟨k0, k1, k2, k3, k4, k5⟩ := hw; go_simp⟩) hHeld ?_
    try simp only [Act.put, List.setIfInBounds_toArray, List.set_cons_zero, List.set_cons_succ]
    refine taken_at (i := 13) (v := .slice (some ⟨g, o, none⟩) 2 c) (some 19) rfl rfl (by kernel_rfl) (by kernel_rfl) (by kernel_rfl) (fun _ _ _ h => h) (Or.inl ⟨rfl, fun w' hw => by obtain ⟨k0, k1, k2, k3, k4, k5⟩ := hw; go_simp⟩) hHeld ?_
    try simp only [Act.put, List.setIfInBounds_toArray, List.set_cons_zero, List.set_cons_succ]
    refine taken_at (i := 14) (v := .agg #[.int .i64 2, .int .u32 0, .int .u32 0, .int .i64 0, .int .u32 0, .int .u32 no, .int .u32 fst, .int .i64 k, .int .i64 m, .int .i64 (i : Int), .slice (some ⟨g, o, none⟩) 2 c]) (some 20) rfl rfl (by kernel_rfl) (by kernel_rfl) (by kernel_rfl) (fun _ _ _ h => h) (Or.inl ⟨rfl, fun w' hw => by go_simp⟩) hHeld ?_
    try simp only [Act.put, List.setIfInBounds_toArray, List.set_cons_zero, List.set_cons_succ]
    refine wpAnyH_ready (rs := [15]) (by kernel_rfl) (by simp) ?_
    refine AllReadyH.cons rfl (fun K hK => ?_) AllReadyH.nil
    go_simp
    have HB3 : Hid (Below W.heap.size W (W.alloc (.cells Dg.zero.cells 44)).drew) := Lib.hid ((Below.refl W.heap.size W).alloc (Nat.le_refl _) _).drew
    have HN3 : Hid (Lies (W.alloc (.cells Dg.zero.cells 44)).drew W.heap.size 0 Dg.zero.cells) := Lib.hid (Lies.new W _ _ (Below.refl _ _)).drew
    dsimp only [Dg.zero, Dg.cells] at HB3 HN3
    refine hK.out _ _ (HL.out _ (HB3.out.mono (by rw [HZB.out]; exact Nat.le_succ _))) (fun hHeld => ?_)
    clear hK K
    try simp only [Act.put, List.setIfInBounds_toArray, List.set_cons_zero, List.set_cons_succ]
    generalize (W.alloc _).drew = w3 at *
    refine wpAnyH_ready (rs := [16]) (by kernel_rfl) (by simp) ?_
    refine AllReadyH.cons rfl (fun K hK => ?_) AllReadyH.nil
    refine step_store_lies rfl 44 (.tmp 5) (.tmp 20) rfl W.heap.size 0 rfl #[.int .i64 2, .int .u32 0, .int .u32 0, .int .i64 0, .int .u32 0, .int .u32 no, .int .u32 fst, .int .i64 k, .int .i64 m, .int .i64 (i : Int), .slice (some ⟨g, o, none⟩) 2 c] rfl _ HN3.out rfl (infoC17 ⟨2, 0, 0, 0, 0, no, fst, k, m, (i : Int), some ⟨g, o, none⟩, 2, c⟩) (dcells17_one ⟨2, 0, 0, 0, 0, no, fst, k, m, (i : Int), some ⟨g, o, none⟩, 2, c⟩) ?_
    intro w4 J1 J2 J3
    have HB4 : Hid (Below W.heap.size W w4) := Lib.hid (J2.out.bel HB3.out HB3.out.size (Nat.le_refl _))
    refine hK.out _ _ (HL.out _ (HB4.out.mono (by rw [HZB.out]; exact Nat.le_succ _))) (fun hHeld => ?_)
    clear hK K
    try simp only [Act.put, List.setIfInBounds_toArray, List.set_cons_zero, List.set_cons_succ]
    refine wpAnyH_done (by kernel_rfl) ?_ _
    clear hHeld
    obtain ⟨_, _, x2, _⟩ := HL.out _ (HB4.out.mono (by rw [HZB.out]; exact Nat.le_succ _))
    have z0 : w4.cell? ⟨W.heap.size, 0, none⟩ = some (.int .i64 2) := J1.out.cell 0 (by simp)
    have f0 := J1.out.frozen 0
    go_upto_region 4 with fail
    have HX := J1
    have HY := HB4
    generalize w4 = w5 at *
    have HZ5 := Lib.hid (HZ.out w5 HY.out)
    have HI : Hid ((Try.prog.info? 44).map (·.size) = some (#[.int .i64 2, .int .u32 0, .int .u32 0, .int .i64 0, .int .u32 0, .int .u32 no, .int .u32 fst, .int .i64 k, .int .i64 m, .int .i64 (i : Int), .slice (some ⟨g, o, none⟩) 2 c] : Array Value).size) := Lib.hid (infoC17 ⟨2, 0, 0, 0, 0, no, fst, k, m, (i : Int), some ⟨g, o, none⟩, 2, c⟩)
    have HO : Hid ((#[.int .i64 2, .int .u32 0, .int .u32 0, .int .i64 0, .int .u32 0, .int .u32 no, .int .u32 fst, .int .i64 k, .int .i64 m, .int .i64 (i : Int), .slice (some ⟨g, o, none⟩) 2 c] : Array Value).all (·.oneCell') = true) := Lib.hid (dcells17_one ⟨2, 0, 0, 0, 0, no, fst, k, m, (i : Int), some ⟨g, o, none⟩, 2, c⟩)
    go_wp2_with (first | (with_reducible refine wpList_load_lies rfl 44 (.tmp 5) rfl W.heap.size 0 rfl #[.int .i64 2, .int .u32 0, .int .u32 0, .int .i64 0, .int .u32 0, .int .u32 no, .int .u32 fst, .int .i64 k, .int .i64 m, .int .i64 (i : Int), .slice (some ⟨g, o, none⟩) 2 c] HX.out _ Try.underlying44 rfl HI.out ?_) | (with_reducible refine wpList_store_lies rfl 44 (.tmp 4) (.tmp 26) rfl (w.heap.size + 1) 0 rfl #[.int .i64 2, .int .u32 0, .int .u32 0, .int .i64 0, .int .u32 0, .int .u32 no, .int .u32 fst, .int .i64 k, .int .i64 m, .int .i64 (i : Int), .slice (some ⟨g, o, none⟩) 2 c] rfl Dg.zero.cells HZ5.out rfl HI.out HO.out ?_; intro w6 N1 N2 N3) | fail)
    have y0 : w6.cell? ⟨w.heap.size + 1, 0, none⟩ = some (.int .i64 2) := N1.out.cell 0 (by simp)
    have y1 : w6.cell? ⟨w.heap.size + 1, 1, none⟩ = some (.int .u32 0) := N1.out.cell 1 (by simp)
    have y2 : w6.cell? ⟨w.heap.size + 1, 2, none⟩ = some (.int .u32 0) := N1.out.cell 2 (by simp)
    have y3 : w6.cell? ⟨w.heap.size + 1, 3, none⟩ = some (.int .i64 0) := N1.out.cell 3 (by simp)
    have y4 : w6.cell? ⟨w.heap.size + 1, 4, none⟩ = some (.int .u32 0) := N1.out.cell 4 (by simp)
    have y5 : w6.cell? ⟨w.heap.size + 1, 5, none⟩ = some (.int .u32 no) := N1.out.cell 5 (by simp)
    have y6 : w6.cell? ⟨w.heap.size + 1, 6, none⟩ = some (.int .u32 fst) := N1.out.cell 6 (by simp)
    have y7 : w6.cell? ⟨w.heap.size + 1, 7, none⟩ = some (.int .i64 k) := N1.out.cell 7 (by simp)
    have y8 : w6.cell? ⟨w.heap.size + 1, 8, none⟩ = some (.int .i64 m) := N1.out.cell 8 (by simp)
    have y9 : w6.cell? ⟨w.heap.size + 1, 9, none⟩ = some (.int .i64 (i : Int)) := N1.out.cell 9 (by simp)
    have y10 : w6.cell? ⟨w.heap.size + 1, 10, none⟩ = some (.slice (some ⟨g, o, none⟩) 2 c) := N1.out.cell 10 (by simp)
    refine bodyPost_ret (v := .agg #[.int .i64 2, .int .u32 0, .int .u32 0, .int .i64 0, .int .u32 0, .int .u32 no, .int .u32 fst, .int .i64 k, .int .i64 m, .int .i64 (i : Int), .slice (some ⟨g, o, none⟩) 2 c]) (by simp [results, Try.results16, go_sem, y0, y1, y2, y3, y4, y5, y6, y7, y8, y9, y10]) rfl ?_
    exact ⟨rfl, Lib.hid (N2.out.bel (HB.out.trans (HY.out.mono HB.out.size)) (Nat.le_trans HB.out.size HY.out.size) (Nat.le_succ _))⟩
  · simp only [hk, if_true, if_false]
    go_enter Try.func16, Try.ntmps16
    go_upto_region 1 with fail
    rw [← hW]
    clear hW
    refine wp_region_held_drew (S := fun w' => w'.cell? ⟨w.heap.size, 0, none⟩ = some (.int .u32 no) ∧ w'.cell? ⟨w.heap.size, 1, none⟩ = some (.int .u32 fst) ∧ w'.cell? ⟨w.heap.size, 2, none⟩ = some (.int .i64 k) ∧ w'.cell? ⟨w.heap.size, 3, none⟩ = some (.int .i64 m) ∧ w'.cell? ⟨w.heap.size, 4, none⟩ = some (.slice (some ⟨b, off, none⟩) n C) ∧ w'.cell? ⟨b, off + i, none⟩ = some (.slice (some ⟨g, o, none⟩) 2 c)) (by kernel_rfl) (HL.out _ (Below.refl _ W).drew) (fun hHeld => ?_)
    refine taken_at (i := 0) (v := .pointer (some ⟨w.heap.size, 0, none⟩)) (some 6) rfl rfl (by kernel_rfl) (by kernel_rfl) (by kernel_rfl) (fun _ _ _ h => h) (Or.inl ⟨rfl, fun w' hw => by obtain ⟨k0, k1, k2, k3, k4, k5⟩ := hw; go_simp⟩) hHeld ?_
    try simp only [Act.put, List.setIfInBounds_toArray, List.set_cons_zero, List.set_cons_succ]
    refine taken_at (i := 1) (v := .int .u32 no) (some 7) rfl rfl (by kernel_rfl) (by kernel_rfl) (by kernel_rfl) (fun _ _ _ h => h) (Or.inl ⟨rfl, fun w' hw => by obtain ⟨k0, k1, k2, k3, k4, k5⟩ := hw; go_simp⟩) hHeld ?_
    try simp only [Act.put, List.setIfInBounds_toArray, List.set_cons_zero, List.set_cons_succ]
    refine taken_at (i := 2) (v := .pointer (some ⟨w.heap.size, 1, none⟩)) (some 8) rfl rfl (by kernel_rfl) (by kernel_rfl) (by kernel_rfl) (fun _ _ _ h => h) (Or.inl ⟨rfl, fun w' hw => by obtain ⟨k0, k1, k2, k3, k4, k5⟩ := hw; go_simp⟩) hHeld ?_
    try simp only [Act.put, List.setIfInBounds_toArray, List.set_cons_zero, List.set_cons_succ]
    refine taken_at (i := 3) (v := .int .u32 fst) (some 9) rfl rfl (by kernel_rfl) (by kernel_rfl) (by kernel_rfl) (fun _ _ _ h => h) (Or.inl ⟨rfl, fun w' hw => by obtain ⟨k0, k1, k2, k3, k4, k5⟩ := hw; go_simp⟩) hHeld ?_
    try simp only [Act.put, List.setIfInBounds_toArray, List.set_cons_zero, List.set_cons_succ]
    refine taken_at (i := 4) (v := .pointer (some ⟨w.heap.size, 2, none⟩)) (some 10) rfl rfl (by kernel_rfl) (by kernel_rfl) (by kernel_rfl) (fun _ _ _ h => h) (Or.inl ⟨rfl, fun w' hw => by obtain ⟨k0, k1, k2, k3, k4, k5⟩ := hw; go_simp⟩) hHeld ?_
    try simp only [Act.put, List.setIfInBounds_toArray, List.set_cons_zero, List.set_cons_succ]
    refine taken_at (i := 5) (v := .int .i64 k) (some 11) rfl rfl (by kernel_rfl) (by kernel_rfl) (by kernel_rfl) (fun _ _ _ h => h) (Or.inl ⟨rfl, fun w' hw => by obtain ⟨k0, k1, k2, k3, k4, k5⟩ := hw; go_simp⟩) hHeld ?_
    try simp only [Act.put, List.setIfInBounds_toArray, List.set_cons_zero, List.set_cons_succ]
    refine taken_at (i := 6) (v := .pointer (some ⟨w.heap.size, 3, none⟩)) (some 12) rfl rfl (by kernel_rfl) (by kernel_rfl) (by kernel_rfl) (fun _ _ _ h => h) (Or.inl ⟨rfl, fun w' hw => by obtain ⟨k0, k1, k2, k3, k4, k5⟩ := hw; go_simp⟩) hHeld ?_
    try simp only [Act.put, List.setIfInBounds_toArray, List.set_cons_zero, List.set_cons_succ]
    refine taken_at (i := 7) (v := .int .i64 m) (some 13) rfl rfl (by kernel_rfl) (by kernel_rfl) (by kernel_rfl) (fun _ _ _ h => h) (Or.inl ⟨rfl, fun w' hw => by obtain ⟨k0, k1, k2, k3, k4, k5⟩ := hw; go_simp⟩) hHeld ?_
    try simp only [Act.put, List.setIfInBounds_toArray, List.set_cons_zero, List.set_cons_succ]
    refine taken_at (i := 8) (v := .int .i64 (i : Int)) (some 14) rfl rfl (by kernel_rfl) (by kernel_rfl) (by kernel_rfl) (fun _ _ _ h => h) (Or.inl ⟨rfl, fun _ _ => rfl⟩) hHeld ?_
    try simp only [Act.put, List.setIfInBounds_toArray, List.set_cons_zero, List.set_cons_succ]
    refine taken_at (i := 9) (v := .pointer (some ⟨w.heap.size, 4, none⟩)) (some 15) rfl rfl (by kernel_rfl) (by kernel_rfl) (by kernel_rfl) (fun _ _ _ h => h) (Or.inl ⟨rfl, fun w' hw => by obtain ⟨k0, k1, k2, k3, k4, k5⟩ := hw; go_simp⟩) hHeld ?_
    try simp only [Act.put, List.setIfInBounds_toArray, List.set_cons_zero, List.set_cons_succ]
    refine taken_at (i := 10) (v := .slice (some ⟨b, off, none⟩) n C) (some 16) rfl rfl (by kernel_rfl) (by kernel_rfl) (by kernel_rfl) (fun _ _ _ h => h) (Or.inl ⟨rfl, fun w' hw => by obtain ⟨k0, k1, k2, k3, k4, k5⟩ := hw; go_simp⟩) hHeld ?_
    try simp only [Act.put, List.setIfInBounds_toArray, List.set_cons_zero, List.set_cons_succ]
    refine taken_at (i := 11) (v := .int .i64 (i : Int)) (some 17) rfl rfl (by kernel_rfl) (by kernel_rfl) (by kernel_rfl) (fun _ _ _ h => h) (Or.inl ⟨rfl, fun _ _ => rfl⟩) hHeld ?_
    try simp only [Act.put, List.setIfInBounds_toArray, List.set_cons_zero, List.set_cons_succ]
    refine taken_at (i := 12) (v := .pointer (some ⟨b, off + i, none⟩)) (some 18) rfl rfl (by kernel_rfl) (by kernel_rfl) (by kernel_rfl) (fun _ _ _ h => h) (Or.inl ⟨rfl, fun w' hw => by obtain ⟨k0, k1, k2, k3, k4, k5⟩ := hw; go_simp⟩) hHeld ?_
    try simp only [Act.put, List.setIfInBounds_toArray, List.set_cons_zero, List.set_cons_succ]
    refine taken_at (i := 13) (v := .slice (some ⟨g, o, none⟩) 2 c) (some 19) rfl rfl (by kernel_rfl) (by kernel_rfl) (by kernel_rfl) (fun _ _ _ h => h) (Or.inl ⟨rfl, fun w' hw => by obtain ⟨k0, k1, k2, k3, k4, k5⟩ := hw; go_simp⟩) hHeld ?_
    try simp only [Act.put, List.setIfInBounds_toArray, List.set_cons_zero, List.set_cons_succ]
    refine taken_at (i := 14) (v := .agg #[.int .i64 2, .int .u32 0, .int .u32 0, .int .i64 0, .int .u32 0, .int .u32 no, .int .u32 fst, .int .i64 k, .int .i64 m, .int .i64 (i : Int), .slice (some ⟨g, o, none⟩) 2 c]) (some 20) rfl rfl (by kernel_rfl) (by kernel_rfl) (by kernel_rfl) (fun _ _ _ h => h) (Or.inl ⟨rfl, fun w' hw => by go_simp⟩) hHeld ?_
    try simp only [Act.put, List.setIfInBounds_toArray, List.set_cons_zero, List.set_cons_succ]
    refine wpAnyH_ready (rs := [15]) (by kernel_rfl) (by simp) ?_
    refine AllReadyH.cons rfl (fun K hK => ?_) AllReadyH.nil
    go_simp
    have HB3 : Hid (Below W.heap.size W (W.alloc (.cells Dg.zero.cells 44)).drew) := Lib.hid ((Below.refl W.heap.size W).alloc (Nat.le_refl _) _).drew
    have HN3 : Hid (Lies (W.alloc (.cells Dg.zero.cells 44)).drew W.heap.size 0 Dg.zero.cells) := Lib.hid (Lies.new W _ _ (Below.refl _ _)).drew
    dsimp only [Dg.zero, Dg.cells] at HB3 HN3
    refine hK.out _ _ (HL.out _ (HB3.out.mono (by rw [HZB.out]; exact Nat.le_succ _))) (fun hHeld => ?_)
    clear hK K
    try simp only [Act.put, List.setIfInBounds_toArray, List.set_cons_zero, List.set_cons_succ]
    generalize (W.alloc _).drew = w3 at *
    refine wpAnyH_ready (rs := [16]) (by kernel_rfl) (by simp) ?_
    refine AllReadyH.cons rfl (fun K hK => ?_) AllReadyH.nil
    refine step_store_lies rfl 44 (.tmp 5) (.tmp 20) rfl W.heap.size 0 rfl #[.int .i64 2, .int .u32 0, .int .u32 0, .int .i64 0, .int .u32 0, .int .u32 no, .int .u32 fst, .int .i64 k, .int .i64 m, .int .i64 (i : Int), .slice (some ⟨g, o, none⟩) 2 c] rfl _ HN3.out rfl (infoC17 ⟨2, 0, 0, 0, 0, no, fst, k, m, (i : Int), some ⟨g, o, none⟩, 2, c⟩) (dcells17_one ⟨2, 0, 0, 0, 0, no, fst, k, m, (i : Int), some ⟨g, o, none⟩, 2, c⟩) ?_
    intro w4 J1 J2 J3
    have HB4 : Hid (Below W.heap.size W w4) := Lib.hid (J2.out.bel HB3.out HB3.out.size (Nat.le_refl _))
    refine hK.out _ _ (HL.out _ (HB4.out.mono (by rw [HZB.out]; exact Nat.le_succ _))) (fun hHeld => ?_)
    clear hK K
    try simp only [Act.put, List.setIfInBounds_toArray, List.set_cons_zero, List.set_cons_succ]
    refine wpAnyH_done (by kernel_rfl) ?_ _
    clear hHeld
    obtain ⟨_, _, x2, _⟩ := HL.out _ (HB4.out.mono (by rw [HZB.out]; exact Nat.le_succ _))
    have z0 : w4.cell? ⟨W.heap.size, 0, none⟩ = some (.int .i64 2) := J1.out.cell 0 (by simp)
    have f0 := J1.out.frozen 0
    go_upto_region 4 with fail
    have HX : Hid (Lies (w4.setCell ⟨W.heap.size, 0, none⟩ (.int .i64 3)) W.heap.size 0 #[.int .i64 3, .int .u32 0, .int .u32 0, .int .i64 0, .int .u32 0, .int .u32 no, .int .u32 fst, .int .i64 k, .int .i64 m, .int .i64 (i : Int), .slice (some ⟨g, o, none⟩) 2 c]) := Lib.hid (J1.out.set 0 (.int .i64 3))
    have HY : Hid (Below W.heap.size W (w4.setCell ⟨W.heap.size, 0, none⟩ (.int .i64 3))) := Lib.hid (HB4.out.setCell (p := ⟨W.heap.size, 0, none⟩) (Nat.le_refl _) _)
    generalize w4.setCell _ _ = w5 at *
    have HZ5 := Lib.hid (HZ.out w5 HY.out)
    have HI : Hid ((Try.prog.info? 44).map (·.size) = some (#[.int .i64 3, .int .u32 0, .int .u32 0, .int .i64 0, .int .u32 0, .int .u32 no, .int .u32 fst, .int .i64 k, .int .i64 m, .int .i64 (i : Int), .slice (some ⟨g, o, none⟩) 2 c] : Array Value).size) := Lib.hid (infoC17 ⟨3, 0, 0, 0, 0, no, fst, k, m, (i : Int), some ⟨g, o, none⟩, 2, c⟩)
    have HO : Hid ((#[.int .i64 3, .int .u32 0, .int .u32 0, .int .i64 0, .int .u32 0, .int .u32 no, .int .u32 fst, .int .i64 k, .int .i64 m, .int .i64 (i : Int), .slice (some ⟨g, o, none⟩) 2 c] : Array Value).all (·.oneCell') = true) := Lib.hid (dcells17_one ⟨3, 0, 0, 0, 0, no, fst, k, m, (i : Int), some ⟨g, o, none⟩, 2, c⟩)
    go_wp2_with (first | (with_reducible refine wpList_load_lies rfl 44 (.tmp 5) rfl W.heap.size 0 rfl #[.int .i64 3, .int .u32 0, .int .u32 0, .int .i64 0, .int .u32 0, .int .u32 no, .int .u32 fst, .int .i64 k, .int .i64 m, .int .i64 (i : Int), .slice (some ⟨g, o, none⟩) 2 c] HX.out _ Try.underlying44 rfl HI.out ?_) | (with_reducible refine wpList_store_lies rfl 44 (.tmp 4) (.tmp 26) rfl (w.heap.size + 1) 0 rfl #[.int .i64 3, .int .u32 0, .int .u32 0, .int .i64 0, .int .u32 0, .int .u32 no, .int .u32 fst, .int .i64 k, .int .i64 m, .int .i64 (i : Int), .slice (some ⟨g, o, none⟩) 2 c] rfl Dg.zero.cells HZ5.out rfl HI.out HO.out ?_; intro w6 N1 N2 N3) | fail)
    have y0 : w6.cell? ⟨w.heap.size + 1, 0, none⟩ = some (.int .i64 3) := N1.out.cell 0 (by simp)
    have y1 : w6.cell? ⟨w.heap.size + 1, 1, none⟩ = some (.int .u32 0) := N1.out.cell 1 (by simp)
    have y2 : w6.cell? ⟨w.heap.size + 1, 2, none⟩ = some (.int .u32 0) := N1.out.cell 2 (by simp)
    have y3 : w6.cell? ⟨w.heap.size + 1, 3, none⟩ = some (.int .i64 0) := N1.out.cell 3 (by simp)
    have y4 : w6.cell? ⟨w.heap.size + 1, 4, none⟩ = some (.int .u32 0) := N1.out.cell 4 (by simp)
    have y5 : w6.cell? ⟨w.heap.size + 1, 5, none⟩ = some (.int .u32 no) := N1.out.cell 5 (by simp)
    have y6 : w6.cell? ⟨w.heap.size + 1, 6, none⟩ = some (.int .u32 fst) := N1.out.cell 6 (by simp)
    have y7 : w6.cell? ⟨w.heap.size + 1, 7, none⟩ = some (.int .i64 k) := N1.out.cell 7 (by simp)
    have y8 : w6.cell? ⟨w.heap.size + 1, 8, none⟩ = some (.int .i64 m) := N1.out.cell 8 (by simp)
    have y9 : w6.cell? ⟨w.heap.size + 1, 9, none⟩ = some (.int .i64 (i : Int)) := N1.out.cell 9 (by simp)
    have y10 : w6.cell? ⟨w.heap.size + 1, 10, none⟩ = some (.slice (some ⟨g, o, none⟩) 2 c) := N1.out.cell 10 (by simp)
    refine bodyPost_ret (v := .agg #[.int .i64 3, .int .u32 0, .int .u32 0, .int .i64 0, .int .u32 0, .int .u32 no, .int .u32 fst, .int .i64 k, .int .i64 m, .int .i64 (i : Int), .slice (some ⟨g, o, none⟩) 2 c]) (by simp [results, Try.results16, go_sem, y0, y1, y2, y3, y4, y5, y6, y7, y8, y9, y10]) rfl ?_
    exact ⟨rfl, Lib.hid (N2.out.bel (HB.out.trans (HY.out.mono HB.out.size)) (Nat.le_trans HB.out.size HY.out.size) (Nat.le_succ _))⟩
end Go.Proofs.Ytjcbcdjfhcnhcaa
namespace Go.Proofs.Ytjcbcdjfhcnhcaa
open Go.RowKit

/-- A row of shards, each of two bytes: some are of this call's own, the others are those of before. -/
structure Cp (w : World) (base : Nat) (v : Value) (n : Nat) (G : Nat → Nat → Nat) : Prop where
  own : ∃ l, OwnS w base v n l ∧ ∀ i, i < n → ∃ g o c, l[i]? = some (.slice (some ⟨g, o, none⟩) 2 c) ∧ 2 ≤ c ∧ c ≤ maxLen ∧ Rw w g o (G i)
theorem Cp.of {w : World} {base n : Nat} {v : Value} {l : List Value} {G : Nat → Nat → Nat} (h : OwnS w base v n l) (h2 : ∀ i, i < n → ∃ g o c, l[i]? = some (.slice (some ⟨g, o, none⟩) 2 c) ∧ 2 ≤ c ∧ c ≤ maxLen ∧ Rw w g o (G i)) : Cp w base v n G := ⟨l, h, h2⟩
theorem Cp.keep {w w' : World} {base n : Nat} {v : Value} {G : Nat → Nat → Nat} (h : Cp w base v n G) (hk : ∀ (k : Nat) (C : Array Value) (t : TypeId), w.heap[k]? = some (Obj.cells C t (0, 0)) → t = 42 ∨ t = 5 → w'.heap[k]? = w.heap[k]?) : Cp w' base v n G := by
  obtain ⟨l, h1, h2⟩ := h.own
  refine ⟨l, ⟨h1.1, h1.2.imp id ?_⟩, fun i hi => ?_⟩
  · rintro ⟨g, cap, cur, e, hb, hg, h3⟩
    exact ⟨g, cap, cur, e, hb, (hk g _ _ hg (.inl rfl)).trans hg, h3⟩
  · obtain ⟨g, o, c, e1, e2, e3, e4⟩ := h2 i hi
    obtain ⟨cur, hm⟩ := e4.1
    exact ⟨g, o, c, e1, e2, e3, e4.keep (hk g _ _ hm (.inr rfl))⟩
theorem Cp.below {w w' : World} {base n B : Nat} {v : Value} {G : Nat → Nat → Nat} (h : Cp w base v n G) (hb : Below B w w') (hB : w.heap.size ≤ B) : Cp w' base v n G :=
  h.keep fun k _ _ hg _ => hb.block k (Nat.lt_of_lt_of_le (Array.getElem?_eq_some_iff.1 hg).1 hB)
/-- The i-th one, where it lies. -/
theorem Cp.at_ {w : World} {base n C : Nat} {A : Option Addr} {G : Nat → Nat → Nat} (h : Cp w base (.slice A n C) n G) (i : Nat) (hi : i < n) : ∃ b, A = some ⟨b, 0, none⟩ ∧ base ≤ b ∧ b < w.heap.size ∧ n ≤ C ∧ C ≤ maxLen ∧ w.frozen? ⟨b, i, none⟩ = false ∧ (∃ cur : Array Value, w.heap[b]? = some (.cells cur 42 (0, 0))) ∧ ∃ g o c, w.cell? ⟨b, i, none⟩ = some (.slice (some ⟨g, o, none⟩) 2 c) ∧ 2 ≤ c ∧ c ≤ maxLen ∧ Rw w g o (G i) := by
  obtain ⟨l, h1, h2⟩ := h.own
  rcases h1.2 with ⟨_, e⟩ | ⟨b, cap, cur, e, hb, hg, h3, h4, _⟩
  · omega
  · simp only [Value.slice.injEq, true_and] at e
    obtain ⟨rfl, rfl⟩ := e
    obtain ⟨g, o, c, e1, e2, e3, e4⟩ := h2 i hi
    have hl : l.length = n := by have := h1.1; simpa using this
    refine ⟨b, rfl, hb, (Array.getElem?_eq_some_iff.1 hg).1, h3, h4, World.ownsRow.frozenAt h1 i, ⟨cur, hg⟩, g, o, c, ?_, e2, e3, e4⟩
    rw [World.ownsRow.cellAt h1 i (by omega)]
    exact e1
/-- Another one in its place. -/
theorem Cp.set {w : World} {base n C b : Nat} {G : Nat → Nat → Nat} (h : Cp w base (.slice (some ⟨b, 0, none⟩) n C) n G) (i : Nat) (hi : i < n) (g o c : Nat) (h2 : 2 ≤ c) (h3 : c ≤ maxLen) (h4 : Rw w g o (G i)) : Cp (w.setCell ⟨b, i, none⟩ (.slice (some ⟨g, o, none⟩) 2 c)) base (.slice (some ⟨b, 0, none⟩) n C) n G := by
  obtain ⟨b', e, _, _, _, _, _, ⟨cur, hcur⟩, _⟩ := h.at_ i hi
  simp only [Option.some.injEq, Addr.mk.injEq, and_true] at e
  subst e
  obtain ⟨l, h1, h5⟩ := h.own
  have hl : l.length = n := by have := h1.1; simpa using this
  have hr : ∀ {g o : Nat} {f : Nat → Nat}, Rw w g o f → Rw (w.setCell ⟨b, i, none⟩ (.slice (some ⟨g, o, none⟩) 2 c)) g o f ∧ g ≠ b := fun {g o f} hx => by
    obtain ⟨⟨cu, hc⟩, _⟩ := id hx
    have hne : g ≠ b := by
      rintro rfl
      rw [hcur] at hc
      simp only [Option.some.injEq, Obj.cells.injEq] at hc
      exact absurd hc.2.1 (by decide)
    exact ⟨hx.keep (Below.heap_setCell _ _ _ _ hne), hne⟩
  refine ⟨l.set i (.slice (some ⟨g, o, none⟩) 2 c), (World.ownsRow.stored h1 i (.slice (some ⟨g, o, none⟩) 2 c)).1, fun j hj => ?_⟩
  by_cases e : j = i
  · subst e
    exact ⟨g, o, c, by rw [List.getElem?_set_self (by omega)], h2, h3, h4.keep (Below.heap_setCell _ _ _ _ (hr h4).2)⟩
  · obtain ⟨g', o', c', e1, e2, e3, e4⟩ := h5 j hj
    exact ⟨g', o', c', by rw [List.getElem?_set_ne (fun h => e h.symm)]; exact e1, e2, e3, e4.keep (Below.heap_setCell _ _ _ _ (hr e4).2)⟩
end Go.Proofs.Ytjcbcdjfhcnhcaa
namespace Go.Proofs.Ytjcbcdjfhcnhcaa
open Go.RowKit

theorem Shs.cp {w : World} {base n : Nat} {v : Value} {G : Nat → Nat → Nat} (h : Shs w base v n G) : Cp w base v n G := by
  obtain ⟨l, h1, h2⟩ := h
  refine ⟨l, h1, fun i hi => ?_⟩
  obtain ⟨g, off, N, d, e1, e2, e3, _, e5⟩ := h2 i hi
  exact ⟨g, off, 2, e1, Nat.le_refl _, by unfold maxLen; omega, Rw.dat e2 e3 e5⟩
theorem Cp.list {w : World} {base n : Nat} {v : Value} {G : Nat → Nat → Nat} (h : Cp w base v n G) : ∃ l, OwnS w base v n l ∧ (∀ u ∈ l, u.oneCell' = true) ∧ ∀ i, i < n → ∃ g o c, l[i]? = some (.slice (some ⟨g, o, none⟩) 2 c) ∧ 2 ≤ c ∧ c ≤ maxLen ∧ Rw w g o (G i) := by
  obtain ⟨l, h1, h2⟩ := h.own
  have hl : l.length = n := by have := h1.1; simpa using this
  refine ⟨l, h1, fun u hu => ?_, h2⟩
  obtain ⟨i, hi⟩ := List.mem_iff_getElem?.1 hu
  obtain ⟨g, o, c, e, _⟩ := h2 i (by have := (List.getElem?_eq_some_iff.1 hi).1; omega)
  rw [hi] at e
  simp only [Option.some.injEq] at e
  rw [e]
  rfl
end Go.Proofs.Ytjcbcdjfhcnhcaa
namespace Go.Proofs.Ytjcbcdjfhcnhcaa
open Go.RowKit
theorem be2_co (z : Int) (h0 : 0 ≤ z) (h1 : z ≤ 65535) : ((256 * co (be 2 z) 0 + co (be 2 z) 1 : Nat) : Int) = z := by
  have e : be 2 z = [bt 2 z 0, bt 2 z 1] := rfl
  have e0 : bt 2 z 0 = z / 256 % 256 := by simp [bt]
  have e1 : bt 2 z 1 = z % 256 := by simp [bt]
  rw [e, e0, e1]
  simp [co]
  omega
theorem ins_word (Z : List Int) (k m : Nat) (s : List Sd) (hk1 : 1 ≤ k) (hk2 : k ≤ 16) (hm : m ≤ 16) (hl : s.length = k) (hZ : Z.length = k) (hv : ∀ z ∈ Z, 0 ≤ z ∧ z ≤ 65535) (hix : ∀ x ∈ s, x.ix < k + m) (ho : s.Pairwise fun x y => x.ix ≠ y.ix) (hs : ∀ x ∈ s, x.b0 = G17 Z k x.ix 0 ∧ x.b1 = G17 Z k x.ix 1) : decIn k m s = Z := by
  have hg : GoodIx (ixL s) (k + m) k := by have := good_sd hix ho; rwa [hl] at this
  have hX : ∀ i, i < k → ∀ c, c < 2 → co (byL s i) c = wordE (fun j => be 2 (Z.getD j 0)) k (ixL s i).toNat c := fun i hi c hc => by
    have hi2 : i < s.length := by omega
    obtain ⟨e0, e1⟩ := hs _ (List.getElem_mem hi2)
    have hx : (ixL s i).toNat = (s[i]).ix := by rw [ixL_at hi2]; simp
    have hb : byL s i = [(((s[i]).b0 : Nat) : Int), (((s[i]).b1 : Nat) : Int)] := by
      unfold byL
      rw [List.getD_eq_getElem?_getD, List.getElem?_eq_getElem hi2]
      rfl
    rw [hx, hb]
    match c, hc with
    | 0, _ => simp [co]; exact e0
    | 1, _ => simp [co]; exact e1
  refine List.ext_getElem? fun i => ?_
  by_cases h1 : i < k
  · have h2 : i < Z.length := by omega
    have hd : ∀ c, c < 2 → decE (ixL s) (byL s) k (k + m) k i c = co (be 2 (Z.getD i 0)) c := fun c hc => by
      rw [dec_word (D := fun j => be 2 (Z.getD j 0)) (by omega) hg (Nat.le_refl _) hX (by omega) hc]
      exact G17_data Z (by omega) h1 c
    have hz := hv (Z.getD i 0) (by rw [List.getD_eq_getElem?_getD, List.getElem?_eq_getElem h2]; exact List.getElem_mem _)
    have e := be2_co _ hz.1 hz.2
    rw [← hd 0 (by omega), ← hd 1 (by omega)] at e
    have hget : Z.getD i 0 = Z[i] := by rw [List.getD_eq_getElem?_getD, List.getElem?_eq_getElem h2]; rfl
    rw [hget] at e
    unfold decIn
    rw [List.getElem?_map, List.getElem?_range h1, List.getElem?_eq_getElem h2, ← e]
    show some _ = some _
    unfold decAt
    rw [hl]
  · rw [List.getElem?_eq_none (by rw [decIn_len]; omega), List.getElem?_eq_none (by omega)]
end Go.Proofs.Ytjcbcdjfhcnhcaa
