/-
  Own text: the page's example of layer 14 holds.
  what holds between two calls of a play; a script.
-/
import Derived.Test.YtopnceniihgkpaaPtC
import Derived.Test.YtopnceniihgkpaaPtG
import Derived.Test.YtopnceniihgkpaaLiB
namespace Go.Proofs.Ytopnceniihgkpaa
open Go.RowKit

theorem zcells_eq : Pn.zero.cells = #[.int .i64 0, .int .i64 0, .int .i64 0, .int .i64 0, .int .i64 0, .bool false, .int .u32 0, .int .u64 0, .int .i64 0, .int .i64 0, .int .i64 0, .int .i64 0, .int .i64 0, .int .i64 0, .int .u32 0] := rfl
/-- A way by which nothing has come for so many ticks. -/
def Pn.still (j : Int) : Pn := ⟨Sk.zero, Sn.zero, j, 0, 0, 0⟩
theorem Pn.still_ok {j : Int} (h0 : 0 ≤ j) (h1 : j ≤ 100) : (Pn.still j).ok := ⟨h0, by show j ≤ 1073741824; omega, .inl ⟨rfl, rfl⟩⟩
theorem Pn.still_tick {j : Int} (h0 : 0 ≤ j) (h1 : j < 19) : (Pn.still j).tick = Pn.still (j + 1) ∧ (Pn.still j).fires = false := by
  have e : more30 (Pn.still j).q = j + 1 := by
    show (if j < 1073741824 then j + 1 else 1073741824) = j + 1
    rw [if_pos (by omega)]
  unfold Pn.tick Pn.fires
  rw [e, if_pos (by omega), if_pos (by omega)]
  exact ⟨rfl, rfl⟩
theorem Pn.still_last : (Pn.still 19).fires = true ∧ (Pn.still 19).tick.state = 1 := by decide +kernel
set_option maxRecDepth 100000 in
set_option maxHeartbeats 1000000 in
theorem awake14_any (w : World) :
    Calls Try.prog 6 #[] w fun e w' => e = .returned (.bool true) ∧ Below w.heap.size w w' := by
  obtain ⟨W, hW⟩ : ∃ W, W = w.alloc (.cells Pn.zero.cells 31) := ⟨_, rfl⟩
  have HB := Lib.hid (show Below w.heap.size w W by rw [hW]; exact (Below.refl _ _).alloc (Nat.le_refl _) _)
  have HP := Lib.hid (show PLie W w.heap.size 0 (Pn.still 0) by rw [hW]; exact Lies.new w Pn.zero.cells _ (Below.refl _ _))
  have CT : Hid (∀ j : Nat, j < 19 → ∀ w', PLie w' w.heap.size 0 (Pn.still j) → Calls Try.prog 10 #[.pointer (some ⟨w.heap.size, 0, none⟩)] w' fun e w1 => e = .returned (.bool false) ∧ Hid (PLie w1 w.heap.size 0 (Pn.still ((j + 1 : Nat) : Int))) ∧ Hid (Prt w.heap.size 0 15 w' w1)) := Lib.hid (fun j hj w' hp => by
    have h := tick_any w.heap.size 0 (Pn.still j) (Pn.still_ok (by omega) (by omega)) w' hp
    obtain ⟨e1, e2⟩ := Pn.still_tick (j := (j : Int)) (by omega) (by omega)
    rw [e1, e2] at h
    exact h)
  have CL : Hid (∀ w', PLie w' w.heap.size 0 (Pn.still 19) → Calls Try.prog 10 #[.pointer (some ⟨w.heap.size, 0, none⟩)] w' fun e w1 => e = .returned (.bool true) ∧ Hid (PLie w1 w.heap.size 0 (Pn.still 19).tick) ∧ Hid (Prt w.heap.size 0 15 w' w1)) := Lib.hid (fun w' hp => by
    have h := tick_any w.heap.size 0 (Pn.still 19) (Pn.still_ok (by omega) (by omega)) w' hp
    rw [Pn.still_last.1] at h
    exact h)
  have CS : Hid (∀ w', PLie w' w.heap.size 0 (Pn.still 19) → Calls Try.prog 12 #[.pointer (some ⟨w.heap.size, 0, none⟩)] w' fun e w1 => e = .returned (.int .i64 0) ∧ w' = w1) := Lib.hid (fun w' hp => state_any w.heap.size 0 (Pn.still 19) w' hp)
  have CU : Hid (∀ w', PLie w' w.heap.size 0 (Pn.still 19).tick → Calls Try.prog 12 #[.pointer (some ⟨w.heap.size, 0, none⟩)] w' fun e w1 => e = .returned (.int .i64 1) ∧ w' = w1) := Lib.hid (fun w' hp => by
    have h := state_any w.heap.size 0 (Pn.still 19).tick w' hp
    rw [Pn.still_last.2] at h
    exact h)
  rw [zcells_eq] at hW
  generalize (Pn.still 19).tick = pl at *
  go_enter Try.func6, Try.ntmps6
  go_upto_region 2 with fail
  rw [← hW]
  clear hW
  go_wp2
  go_loopw [2] (fun i wr => ∃ j : Nat, i = .int .i64 (j : Int) ∧ Hid (j ≤ 19) ∧ Hid (PLie wr w.heap.size 0 (Pn.still j)) ∧ Hid (Below w.heap.size w wr)) (fun i _ => 19 - (intOf i).toNat)
  case atStart => exact ⟨0, rfl, Lib.hid (Nat.zero_le _), HP, HB⟩
  case round =>
    obtain ⟨j, rfl, HJ, HP, HW⟩ := hrel
    have hj := HJ.out
    by_cases hlt : j < 19
    · have k1 : (j : Int) < 19 := by omega
      have HJ2 : Hid (j + 1 ≤ 19) := Lib.hid (by omega)
      have HD : Hid (19 - (j + 1) < 19 - j) := Lib.hid (by omega)
      have CT1 := Lib.hid (CT.out j hlt wr HP.out)
      clear hlt hj
      go_wp2_with (first
        | (go_at_call 10; (with_reducible refine (CT1.out).mono ?_); rintro e w1 ⟨rfl, HP1, HT1⟩; have HW1 := Lib.hid (HT1.out.bel HW.out HW.out.size (Nat.le_refl _)))
        | fail)
      go_roundw
      case rel => exact ⟨j + 1, by go_num, HJ2, HP1, HW1⟩
      case measure => have := HD.out; simp [intOf] <;> omega
    · obtain rfl : j = 19 := by omega
      have HP : Hid (PLie wr w.heap.size 0 (Pn.still 19)) := HP
      clear hlt hj HJ
      go_wp2_with (first
        | (go_at_call 12; (with_reducible refine (CS.out _ HP.out).mono ?_); rintro e w1 ⟨rfl, rfl⟩)
        | (go_at_call 10; (with_reducible refine (CL.out _ HP.out).mono ?_); rintro e w2 ⟨rfl, HP2, HT2⟩; have HW2 := Lib.hid (HT2.out.bel HW.out HW.out.size (Nat.le_refl _)); clear HP CS)
        | (go_at_call 12; (with_reducible refine (CU.out _ HP2.out).mono ?_); rintro e w3 ⟨rfl, rfl⟩)
        | fail)
      go_ret
      exact ⟨rfl, HW2.out⟩
end Go.Proofs.Ytopnceniihgkpaa
namespace Go.Proofs.Ytopnceniihgkpaa
open Go.RowKit

theorem Pn.cells_one (p : Pn) : p.cells.all (·.oneCell') = true := by simp [Value.oneCell']
theorem info31 : (Try.prog.info? 31).map (·.size) = some 15 := by kernel_rfl
/-- A script that came in: which call, the number, the ticks. -/
def Ops14 (w : World) (a : Option Addr) (n : Nat) (K : Nat → Int) (N : Nat → Nat) (T : Nat → Int) : Prop :=
  n = 0 ∨ ∃ g off, a = some ⟨g, off, none⟩ ∧ g < w.heap.size ∧ ∀ i, i < n → w.cell? ⟨g, off + i * 3, none⟩ = some (.int .i64 (K i)) ∧ w.cell? ⟨g, off + i * 3 + 1, none⟩ = some (.int .u32 (N i)) ∧ w.cell? ⟨g, off + i * 3 + 2, none⟩ = some (.int .i64 (T i)) ∧ N i < 4294967296
theorem Ops14.below {w w' : World} {a : Option Addr} {n : Nat} {K : Nat → Int} {N : Nat → Nat} {T : Nat → Int} (h : Ops14 w a n K N T) {B : Nat} (hb : Below B w w') (hB : w.heap.size ≤ B) : Ops14 w' a n K N T :=
  h.imp id fun ⟨g, off, e, hl, hc⟩ => ⟨g, off, e, Nat.lt_of_lt_of_le hl hb.size, fun i hi => ⟨(hb.cell (p := ⟨g, off + i * 3, none⟩) (by show g < B; omega)).trans (hc i hi).1, (hb.cell (p := ⟨g, off + i * 3 + 1, none⟩) (by show g < B; omega)).trans (hc i hi).2.1, (hb.cell (p := ⟨g, off + i * 3 + 2, none⟩) (by show g < B; omega)).trans (hc i hi).2.2.1, (hc i hi).2.2.2⟩⟩
theorem Ops14.at_ {w : World} {a : Option Addr} {n : Nat} {K : Nat → Int} {N : Nat → Nat} {T : Nat → Int} (h : Ops14 w a n K N T) {j : Nat} (hj : j < n) : ∃ g off, a = some ⟨g, off, none⟩ ∧ N j < 4294967296 ∧ ∀ w', Below w.heap.size w w' → w'.cell? ⟨g, off + j * 3, none⟩ = some (.int .i64 (K j)) ∧ w'.cell? ⟨g, off + j * 3 + 1, none⟩ = some (.int .u32 (N j)) ∧ w'.cell? ⟨g, off + j * 3 + 2, none⟩ = some (.int .i64 (T j)) := by
  rcases h with h | ⟨g, off, e, hg, h⟩
  · omega
  · exact ⟨g, off, e, (h j hj).2.2.2, fun w' hb => ⟨(hb.cell (p := ⟨g, off + j * 3, none⟩) hg).trans (h j hj).1, (hb.cell (p := ⟨g, off + j * 3 + 1, none⟩) hg).trans (h j hj).2.1, (hb.cell (p := ⟨g, off + j * 3 + 2, none⟩) hg).trans (h j hj).2.2.1⟩⟩
/-- Between two calls, in a play that began at w: the code's way is p, the document's d. -/
structure St0 (w : World) (p d : Pn) (W : World) : Prop where
  code : PLie W (w.heap.size + 2) 0 p
  doc : RB W (w.heap.size + 3) d
  res0 : PLie W w.heap.size 0 Pn.zero
  res1 : RB W (w.heap.size + 1) Pn.zero
  bel : Below w.heap.size w W
abbrev opCells (k : Int) (n : Nat) (t : Int) : Array Value := #[.int .i64 k, .int .u32 n, .int .i64 t]
section
variable {w W W' : World} {p d : Pn}
theorem St0.below (h : St0 w p d W) (hb : Below W.heap.size W W') : St0 w p d W' :=
  ⟨h.code.below hb h.code.lt, h.doc.below hb h.doc.lt, h.res0.below hb h.res0.lt, h.res1.below hb h.res1.lt, h.bel.trans (hb.mono h.bel.size)⟩
theorem St0.drew (h : St0 w p d W) : St0 w p d W.drew := ⟨h.code, h.doc, h.res0, h.res1, h.bel.drew⟩
theorem St0.start (w : World) {W : World} (hW : W = (((w.alloc (.cells Pn.zero.cells 31)).alloc (.cells (rowOf 78 Pn.zero.dc) 37)).alloc (.cells Pn.zero.cells 31)).alloc (.cells (rowOf 78 Pn.zero.dc) 37)) : St0 w Pn.zero Pn.zero W := by
  obtain ⟨hb, hx⟩ := two14 w Pn.zero rfl
  obtain ⟨hb', hx'⟩ := two14 _ Pn.zero hW
  have hs : ((w.alloc (.cells Pn.zero.cells 31)).alloc (.cells (rowOf 78 Pn.zero.dc) 37)).heap.size = w.heap.size + 2 := by simp
  obtain ⟨r0, r1⟩ := hx _ hb'
  obtain ⟨c, d⟩ := hx' W (Below.refl _ _)
  rw [hs] at c d
  exact ⟨c, d, r0, r1, hb.trans (hb'.mono hb.size)⟩
/-- With a call's own box at g. -/
structure St14 (w : World) (p d : Pn) (g : Nat) (k : Int) (n : Nat) (t : Int) (W : World) : Prop where
  st : St0 w p d W
  op : Lies W g 0 (opCells k n t)
  hg : w.heap.size + 3 < g
variable {g n : Nat} {k t : Int}
theorem St14.start (h : St0 w p d W) (k : Int) (n : Nat) (t : Int) {W' : World} (hW : W' = W.alloc (.cells #[.int .i64 k, .int .u32 n, .int .i64 t] 54)) : St14 w p d W.heap.size k n t W' :=
  ⟨h.below (by rw [hW]; exact (Below.refl _ _).alloc (Nat.le_refl _) _), by rw [hW]; exact Lies.new W (opCells k n t) _ (Below.refl _ _), h.doc.lt⟩
theorem St14.three (h : St14 w p d g k n t W) : W.cell? ⟨g, 0, none⟩ = some (.int .i64 k) ∧ W.cell? ⟨g, 1, none⟩ = some (.int .u32 n) ∧ W.cell? ⟨g, 2, none⟩ = some (.int .i64 t) :=
  ⟨h.op.cell 0 (by decide : 0 < 3), h.op.cell 1 (by decide : 1 < 3), h.op.cell 2 (by decide : 2 < 3)⟩
theorem St14.below (h : St14 w p d g k n t W) (hb : Below W.heap.size W W') : St14 w p d g k n t W' := ⟨h.st.below hb, h.op.below hb h.op.lt, h.hg⟩
/-- The code's call. -/
theorem St14.code {p' : Pn} (h : St14 w p d g k n t W) (hk : PLie W' (w.heap.size + 2) 0 p') (hp : Prt (w.heap.size + 2) 0 15 W W') : St14 w p' d g k n t W' :=
  ⟨⟨hk, h.st.doc.of_block (hp.block _ h.st.doc.lt (by omega)), Lies.apart h.st.res0 hp (by omega), h.st.res1.of_block (hp.block _ h.st.res1.lt (by omega)), hp.bel h.st.bel h.st.bel.size (by omega)⟩, h.op.apart hp (by have := h.hg; omega), h.hg⟩
/-- The document's box is written. -/
theorem St14.doc {d' : Pn} (h : St14 w p d g k n t W) (hk : RB W' (w.heap.size + 3) d') (h2 : ∀ c, c ≠ w.heap.size + 3 → W'.heap[c]? = W.heap[c]?) (h3 : Below (w.heap.size + 3) W W') : St14 w p d' g k n t W' :=
  ⟨⟨Lies.keep h.st.code (h2 _ (by omega)), hk, Lies.keep h.st.res0 (h2 _ (by omega)), h.st.res1.of_block (h2 _ (by omega)), h.st.bel.trans (h3.mono (by omega))⟩, h.op.keep (h2 _ (by have := h.hg; omega)), h.hg⟩
theorem below_one {b B : Nat} {W : World} (hB : B ≤ b) (i : Nat) (v : Value) : Below B W (W.setCell ⟨b, i, none⟩ v) := (Below.refl _ _).setCell (p := ⟨b, i, none⟩) hB v
theorem St14.docnx (h : St14 w p d g k n t W) (m : Nat) : St14 w p ⟨d.st, d.sn, d.q, d.pr, d.ga, m⟩ g k n t (W.setCell ⟨w.heap.size + 3, 77, none⟩ (.int .u32 m)) :=
  h.doc (h.st.doc.setnx m) (fun c hc => Below.heap_setCell _ _ _ c hc) (below_one (Nat.le_refl _) _ _)
theorem St14.docst (h : St14 w p d g k n t W) (s : Sk) : St14 w p ⟨s, d.sn, d.q, d.pr, d.ga, d.nx⟩ g k n t (((((W.setCell ⟨w.heap.size + 3, 0, none⟩ (.int .i64 s.lo)).setCell ⟨w.heap.size + 3, 1, none⟩ (.int .i64 s.rt)).setCell ⟨w.heap.size + 3, 2, none⟩ (.int .i64 s.va)).setCell ⟨w.heap.size + 3, 3, none⟩ (.int .i64 s.ma)).setCell ⟨w.heap.size + 3, 4, none⟩ (.int .i64 s.tr)) :=
  h.doc (h.st.doc.setst s) (fun c hc => by rw [Below.heap_setCell _ _ _ c hc, Below.heap_setCell _ _ _ c hc, Below.heap_setCell _ _ _ c hc, Below.heap_setCell _ _ _ c hc, Below.heap_setCell _ _ _ c hc])
    (((((below_one (Nat.le_refl _) _ _).trans (below_one (Nat.le_refl _) _ _)).trans (below_one (Nat.le_refl _) _ _)).trans (below_one (Nat.le_refl _) _ _)).trans (below_one (Nat.le_refl _) _ _))
end
end Go.Proofs.Ytopnceniihgkpaa
