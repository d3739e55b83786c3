/-
  Own text: layer 17 (group): a shard of two bytes; bytes.Clone of one; a group's datagrams, walked.
-/
import Derived.Test.YtjcbcdjfhcnhcaaGrE
import Derived.Test.YtjcbcdjfhcnhcaaRSame7
import Derived.Test.YtjcbcdjfhcnhcaaDgB
import Derived.Lib.SliceRun
namespace Go.Proofs.Ytjcbcdjfhcnhcaa
open Go.RowKit

/-- A shard of two bytes, and where it lies. -/
def Rw (w : World) (g off : Nat) (f : Nat → Nat) : Prop :=
  (∃ cur : Array Value, w.heap[g]? = some (.cells cur 5 (0, 0))) ∧ w.cell? ⟨g, off, none⟩ = some (.int .u8 (f 0 : Nat)) ∧ w.cell? ⟨g, off + 1, none⟩ = some (.int .u8 (f 1 : Nat)) ∧ f 0 ≤ 255 ∧ f 1 ≤ 255
theorem Rw.lt {w : World} {g off : Nat} {f : Nat → Nat} (h : Rw w g off f) : g < w.heap.size := by
  obtain ⟨⟨cur, h⟩, _⟩ := h
  exact (Array.getElem?_eq_some_iff.1 h).1
theorem Rw.keep {w w' : World} {g off : Nat} {f : Nat → Nat} (h : Rw w g off f) (e : w'.heap[g]? = w.heap[g]?) : Rw w' g off f := by
  obtain ⟨⟨cur, h0⟩, h1, h2, h3⟩ := h
  refine ⟨⟨cur, e.trans h0⟩, ?_, ?_, h3⟩
  · unfold World.cell? at *
    simp only [e]
    exact h1
  · unfold World.cell? at *
    simp only [e]
    exact h2
theorem Rw.below {w w' : World} {g off B : Nat} {f : Nat → Nat} (h : Rw w g off f) (hb : Below B w w') (hB : w.heap.size ≤ B) : Rw w' g off f := h.keep (hb.block g (Nat.lt_of_lt_of_le h.lt hB))
/-- Its bytes. -/
def two (f : Nat → Nat) : List Int := [(f 0 : Nat), (f 1 : Nat)]
theorem Rw.bytes {w : World} {g off : Nat} {f : Nat → Nat} (h : Rw w g off f) : Bytes w (some ⟨g, off, none⟩) 2 (two f) := by
  obtain ⟨_, h1, h2, h3, h4⟩ := id h
  refine ⟨rfl, by omega, fun i hi => ?_, .inr ⟨by omega, g, off, rfl, h.lt, fun i hi => ?_⟩⟩
  · rcases (show i = 0 ∨ i = 1 by omega) with rfl | rfl <;> simp [two] <;> omega
  · rcases (show i = 0 ∨ i = 1 by omega) with rfl | rfl
    · exact h1
    · exact h2
theorem Rw.dat {w : World} {g off N : Nat} {d : List Int} {f : Nat → Nat} (h : Dat w g N d) (hN : off + 2 ≤ N) (hc : ∀ c, c < 2 → co d (off + c) = f c) : Rw w g off f := by
  obtain ⟨cur, hm, _⟩ := h.mem
  have h0 := h.cell off (by omega)
  have h1 := h.cell (off + 1) (by omega)
  have e0 := hc 0 (by omega)
  have e1 := hc 1 (by omega)
  rw [Nat.add_zero] at e0
  rw [e0] at h0
  rw [e1] at h1
  have b0 := h.by_.lt off
  have b1 := h.by_.lt (off + 1)
  exact ⟨⟨_, hm⟩, h0, h1, by omega, by omega⟩
set_option maxRecDepth 100000 in
/-- A copy of a shard. -/
theorem bclone2_any (g off c : Nat) (f : Nat → Nat) (w : World) (h : Rw w g off f) (hc : 2 ≤ c) :
    Calls Try.prog 37 #[.slice (some ⟨g, off, none⟩) 2 c] w fun e w' => ∃ g' c', e = .returned (.slice (some ⟨g', 0, none⟩) 2 c') ∧ Hid (2 ≤ c' ∧ c' ≤ maxLen ∧ w.heap.size ≤ g' ∧ Rw w' g' 0 f ∧ Below w.heap.size w w') := by
  have hf := h.2.2.2
  have HL := Lib.hid h.bytes
  have q : ∀ (w : World) (a : Option Addr) (n c n' c' : Nat), (binOp .eql 42 (.slice a n c) (.slice none n' c')).run Try.prog w = .ok (.bool a.isNone) w := fun w a n c n' c' => Lib.run_eql_slice_nil w _ _ a n c n' c' Try.underlying42
  have HW := Lib.hid (Own8.lit w w.heap.size (Nat.le_refl _))
  have HB0 : Hid (Below w.heap.size w (w.alloc (.cells #[] 5))) := Lib.hid ((Below.refl _ w).alloc (Nat.le_refl _) _)
  have HY : Hid (Bytes (w.alloc (.cells #[] 5)) (some ⟨g, off, none⟩) 2 (two f)) := Lib.hid (HL.out.below HB0.out (Nat.le_refl _))
  have HC : Hid (2 ≤ c) := Lib.hid hc
  have HN : Hid ((some ⟨g, off, none⟩ : Option Addr) = none → c = 0) := Lib.hid (fun e => nomatch e)
  have H6 : Hid (0 + 2 ≤ 1000000) := Lib.hid (by omega)
  have H7 : Hid (w.heap.size ≤ (w.alloc (.cells #[] 5)).heap.size) := Lib.hid (by simp)
  have H8 : Hid (2 = 0 + 2) := Lib.hid (by omega)
  clear h hc
  go_enter Try.func37, Try.ntmps37
  go_wp2_with ((with_reducible refine wpList_append_bytes (w := w.alloc _) rfl (.tmp 5) (.tmp 6) rfl w.heap.size _ _ _ rfl [] HW.out _ _ _ rfl (two f) HY.out HN.out H6.out w.heap.size w HB0.out (Nat.le_refl _) H7.out 2 H8.out (two f) rfl ?_); intro A C w1 hown hb; have HO := hown; have HB := Lib.hid hb; clear hown hb)
  go_ret
  obtain ⟨hlen, ⟨_, h0⟩ | ⟨g', cap, cur, e, hg, hh, h1, h2, h3, h4⟩⟩ := HO.out
  · omega
  simp only [Value.slice.injEq] at e
  obtain ⟨rfl, _, rfl⟩ := e
  refine ⟨g', _, rfl, Lib.hid ⟨h1, h2, hg, ⟨⟨cur, hh⟩, ?_, ?_, hf⟩, HB.out⟩⟩
  · exact World.ownsRow.cellAt HO.out 0 (by simp)
  · exact World.ownsRow.cellAt HO.out 1 (by simp)
/-- A datagram of a group: its numbers, its bytes at g. -/
def dgv (no fst k m i : Int) (a : Option Addr) (c : Nat) : Dg := ⟨if i < k then 2 else 3, 0, 0, 0, 0, no, fst, k, m, i, a, 2, c⟩
set_option maxRecDepth 100000 in
set_option maxHeartbeats 1000000 in
theorem gdg_no (no fst k m i : Int) (A : Option Addr) (n C : Nat) (w : World) (hi : i < 0 ∨ (n : Int) ≤ i) :
    Calls Try.prog 14 #[.agg #[.int .u32 no, .int .u32 fst, .int .i64 k, .int .i64 m, .slice A n C], .int .i64 i] w fun e w' => e = .returned (.tuple #[Dg.zero.val, .int .i64 62]) ∧ Hid (Below w.heap.size w w') := by
  have hs0 : (w.alloc (.cells #[.int .u32 no, .int .u32 fst, .int .i64 k, .int .i64 m, .slice A n C] 28)).heap.size = w.heap.size + 1 := by simp
  obtain ⟨W, hW⟩ : ∃ W, W = (w.alloc (.cells #[.int .u32 no, .int .u32 fst, .int .i64 k, .int .i64 m, .slice A n C] 28)).alloc (.cells Dg.zero.cells 44) := ⟨_, rfl⟩
  have h1 : B5 28 W w.heap.size (.int .u32 no) (.int .u32 fst) (.int .i64 k) (.int .i64 m) (.slice A n C) := by
    have h := B5.new w 28 (.int .u32 no) (.int .u32 fst) (.int .i64 k) (.int .i64 m) (.slice A n C)
    rw [hW]
    exact h.keep (Below.heap_alloc _ _ _ h.lt)
  have h2 : DBlk W (w.heap.size + 1) Dg.zero := by
    rw [hW, ← hs0]
    exact Go.Deep.blk_alloc_new _ _
  have HB : Hid (Below w.heap.size w W) := Lib.hid (by rw [hW]; exact ((Below.refl w.heap.size w).alloc (Nat.le_refl _) _).alloc (by simp) _)
  obtain ⟨x0, x1, x2, x3, x4⟩ := h1.cells
  have H2 := Lib.hid h2
  obtain ⟨_, r0, r1, r2, r3, r4, r5, r6, r7, r8, r9, r10⟩ := h2.box
  have fr0 := h2.frozen 0
  have fr1 := h2.frozen 1
  have fr2 := h2.frozen 2
  have fr3 := h2.frozen 3
  have fr4 := h2.frozen 4
  have fr5 := h2.frozen 5
  have fr6 := h2.frozen 6
  have fr7 := h2.frozen 7
  have fr8 := h2.frozen 8
  have fr9 := h2.frozen 9
  have fr10 := h2.frozen 10
  dsimp only [Dg.zero, Dg.cells] at r0 r1 r2 r3 r4 r5 r6 r7 r8 r9 r10 hW
  have HR : Hid (Below w.heap.size w (setDg W (w.heap.size + 1) Dg.zero)) := Lib.hid (setDg_below HB.out (Nat.le_succ _) _)
  have HF := Lib.hid (DBlk.write h2 Dg.zero)
  dsimp only [setDg, Dg.zero] at HF HR
  rcases hi with hi | hi
  · clear hs0 h1 h2
    go_enter Try.func14, Try.ntmps14
    go_upto_region 1 with fail
    rw [← hW]
    clear hW
    go_wp2
    obtain ⟨_, z0, z1, z2, z3, z4, z5, z6, z7, z8, z9, z10⟩ := HF.out.box
    refine bodyPost_ret (v := .tuple #[Dg.zero.val, .int .i64 62]) (by simp [results, Try.results14, go_sem, z0, z1, z2, z3, z4, z5, z6, z7, z8, z9, z10, Dg.zero]) rfl ?_
    exact ⟨rfl, HR⟩
  · have hi2 : ¬ i < 0 := by omega
    clear hs0 h1 h2
    go_enter Try.func14, Try.ntmps14
    go_upto_region 1 with fail
    rw [← hW]
    clear hW
    go_wp2
    obtain ⟨_, z0, z1, z2, z3, z4, z5, z6, z7, z8, z9, z10⟩ := HF.out.box
    refine bodyPost_ret (v := .tuple #[Dg.zero.val, .int .i64 62]) (by simp [results, Try.results14, go_sem, z0, z1, z2, z3, z4, z5, z6, z7, z8, z9, z10, Dg.zero]) rfl ?_
    exact ⟨rfl, HR⟩
end Go.Proofs.Ytjcbcdjfhcnhcaa
