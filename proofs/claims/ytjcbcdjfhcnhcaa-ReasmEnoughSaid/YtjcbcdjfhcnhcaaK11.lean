/-
  Own text: a datagram in plain numbers.
  Own text: a block that holds a datagram (cut out of Form7 and Read7).
  Own text: layer 18 (reasm): the code's calls that only read, walked.
  Own text: layer 18 (reasm): is there a shard such that ..?
-/
import Derived.Test.YtjcbcdjfhcnhcaaK01
import Derived.Test.YtjcbcdjfhcnhcaaK10
namespace Go.Proofs.Ytjcbcdjfhcnhcaa
open Go.RowKit

/-- A datagram in plain numbers. -/
structure Dg where
  kind : Int
  ses : Int
  seq : Int
  path : Int
  tick : Int
  A : Int
  B : Int
  K : Int
  M : Int
  ix : Int
  da : Option Addr
  dl : Nat
  dc : Nat
/-- As a value. -/
abbrev Dg.val (d : Dg) : Value := .agg #[.int .i64 d.kind, .int .u32 d.ses, .int .u32 d.seq, .int .i64 d.path, .int .u32 d.tick, .int .u32 d.A, .int .u32 d.B, .int .i64 d.K, .int .i64 d.M, .int .i64 d.ix, .slice d.da d.dl d.dc]
/-- The numbers fit their kinds. -/
structure Dg.fit (d : Dg) : Prop where
  kind : -9223372036854775808 ≤ d.kind ∧ d.kind ≤ 9223372036854775807
  path : -9223372036854775808 ≤ d.path ∧ d.path ≤ 9223372036854775807
  K : -9223372036854775808 ≤ d.K ∧ d.K ≤ 9223372036854775807
  M : -9223372036854775808 ≤ d.M ∧ d.M ≤ 9223372036854775807
  ix : -9223372036854775808 ≤ d.ix ∧ d.ix ≤ 9223372036854775807
  ses : 0 ≤ d.ses ∧ d.ses ≤ 4294967295
  seq : 0 ≤ d.seq ∧ d.seq ≤ 4294967295
  tick : 0 ≤ d.tick ∧ d.tick ≤ 4294967295
  A : 0 ≤ d.A ∧ d.A ≤ 4294967295
  B : 0 ≤ d.B ∧ d.B ≤ 4294967295
  le : d.dl ≤ d.dc
  max : d.dc ≤ 9223372036854775807
end Go.Proofs.Ytjcbcdjfhcnhcaa
namespace Go.Proofs.Ytjcbcdjfhcnhcaa
open Go.RowKit

/-- A datagram in its box. -/
structure DBox (w : World) (b : Nat) (d : Dg) : Prop where
  lt : b < w.heap.size
  c0 : w.cell? ⟨b, 0, none⟩ = some (.int .i64 d.kind)
  c1 : w.cell? ⟨b, 1, none⟩ = some (.int .u32 d.ses)
  c2 : w.cell? ⟨b, 2, none⟩ = some (.int .u32 d.seq)
  c3 : w.cell? ⟨b, 3, none⟩ = some (.int .i64 d.path)
  c4 : w.cell? ⟨b, 4, none⟩ = some (.int .u32 d.tick)
  c5 : w.cell? ⟨b, 5, none⟩ = some (.int .u32 d.A)
  c6 : w.cell? ⟨b, 6, none⟩ = some (.int .u32 d.B)
  c7 : w.cell? ⟨b, 7, none⟩ = some (.int .i64 d.K)
  c8 : w.cell? ⟨b, 8, none⟩ = some (.int .i64 d.M)
  c9 : w.cell? ⟨b, 9, none⟩ = some (.int .i64 d.ix)
  c10 : w.cell? ⟨b, 10, none⟩ = some (.slice d.da d.dl d.dc)
theorem DBox.below {w w' : World} {b B : Nat} {d : Dg} (h : DBox w b d) (hb : Below B w w') (hB : b < B) : DBox w' b d :=
  ⟨Nat.lt_of_lt_of_le h.lt hb.size, (hb.cell (p := ⟨b, 0, none⟩) hB).trans h.c0, (hb.cell (p := ⟨b, 1, none⟩) hB).trans h.c1, (hb.cell (p := ⟨b, 2, none⟩) hB).trans h.c2, (hb.cell (p := ⟨b, 3, none⟩) hB).trans h.c3, (hb.cell (p := ⟨b, 4, none⟩) hB).trans h.c4,
    (hb.cell (p := ⟨b, 5, none⟩) hB).trans h.c5, (hb.cell (p := ⟨b, 6, none⟩) hB).trans h.c6, (hb.cell (p := ⟨b, 7, none⟩) hB).trans h.c7, (hb.cell (p := ⟨b, 8, none⟩) hB).trans h.c8, (hb.cell (p := ⟨b, 9, none⟩) hB).trans h.c9, (hb.cell (p := ⟨b, 10, none⟩) hB).trans h.c10⟩
abbrev Dg.cells (d : Dg) : Array Value := #[.int .i64 d.kind, .int .u32 d.ses, .int .u32 d.seq, .int .i64 d.path, .int .u32 d.tick, .int .u32 d.A, .int .u32 d.B, .int .i64 d.K, .int .i64 d.M, .int .i64 d.ix, .slice d.da d.dl d.dc]
theorem blk_set {w : World} {b : Nat} {C : Array Value} {t : TypeId} {fr : Nat × Nat} (h : w.heap[b]? = some (.cells C t fr)) (i : Nat) (v : Value) : (w.setCell ⟨b, i, none⟩ v).heap[b]? = some (.cells (C.setIfInBounds i v) t fr) := by
  simp only [World.setCell, Array.getElem?_modify, h]
  simp
theorem blk_frozen {w : World} {b : Nat} {C : Array Value} {t : TypeId} (h : w.heap[b]? = some (.cells C t (0, 0))) (i : Nat) : w.frozen? ⟨b, i, none⟩ = false := by simp [World.frozen?, h]
/-- A block that holds a datagram. -/
def DBlk (w : World) (b : Nat) (d : Dg) : Prop := w.heap[b]? = some (.cells d.cells 44 (0, 0))
theorem DBlk.lt {w : World} {b : Nat} {d : Dg} (h : DBlk w b d) : b < w.heap.size := (Array.getElem?_eq_some_iff.1 h).1
theorem DBlk.box {w : World} {b : Nat} {d : Dg} (h : DBlk w b d) : DBox w b d := by
  unfold DBlk at h
  refine ⟨DBlk.lt h, ?_, ?_, ?_, ?_, ?_, ?_, ?_, ?_, ?_, ?_, ?_⟩ <;> (simp only [World.cell?, h]; rfl)
theorem DBlk.frozen {w : World} {b : Nat} {d : Dg} (h : DBlk w b d) (i : Nat) : w.frozen? ⟨b, i, none⟩ = false := by
  unfold DBlk at h
  simp [World.frozen?, h]
theorem DBlk.keep {w w' : World} {b : Nat} {d : Dg} (h : DBlk w b d) (e : w'.heap[b]? = w.heap[b]?) : DBlk w' b d := e.trans h
theorem DBlk.below {w w' : World} {b B : Nat} {d : Dg} (h : DBlk w b d) (hb : Below B w w') (hB : b < B) : DBlk w' b d := h.keep (hb.block b hB)
theorem DBlk.drew {w : World} {b : Nat} {d : Dg} (h : DBlk w b d) : DBlk w.drew b d := h.keep rfl
/-- A store of a whole datagram. -/
abbrev setDg (w : World) (b : Nat) (d : Dg) : World := ((((((((((w.setCell ⟨b, 0, none⟩ (.int .i64 d.kind)).setCell ⟨b, 1, none⟩ (.int .u32 d.ses)).setCell ⟨b, 2, none⟩ (.int .u32 d.seq)).setCell ⟨b, 3, none⟩ (.int .i64 d.path)).setCell ⟨b, 4, none⟩ (.int .u32 d.tick)).setCell ⟨b, 5, none⟩ (.int .u32 d.A)).setCell ⟨b, 6, none⟩ (.int .u32 d.B)).setCell ⟨b, 7, none⟩ (.int .i64 d.K)).setCell ⟨b, 8, none⟩ (.int .i64 d.M)).setCell ⟨b, 9, none⟩ (.int .i64 d.ix)).setCell ⟨b, 10, none⟩ (.slice d.da d.dl d.dc)
theorem DBlk.write {w : World} {b : Nat} {d : Dg} (h : DBlk w b d) (d' : Dg) : DBlk (setDg w b d') b d' := by
  unfold DBlk at *
  have h := blk_set (blk_set (blk_set (blk_set (blk_set (blk_set (blk_set (blk_set (blk_set (blk_set (blk_set h 0 (.int .i64 d'.kind)) 1 (.int .u32 d'.ses)) 2 (.int .u32 d'.seq)) 3 (.int .i64 d'.path)) 4 (.int .u32 d'.tick)) 5 (.int .u32 d'.A)) 6 (.int .u32 d'.B)) 7 (.int .i64 d'.K)) 8 (.int .i64 d'.M)) 9 (.int .i64 d'.ix)) 10 (.slice d'.da d'.dl d'.dc)
  simp only [Dg.cells, List.setIfInBounds_toArray, List.set_cons_zero, List.set_cons_succ] at h
  exact h
def Dg.zero : Dg := ⟨0, 0, 0, 0, 0, 0, 0, 0, 0, 0, none, 0, 0⟩
end Go.Proofs.Ytjcbcdjfhcnhcaa
namespace Go.Proofs.Ytjcbcdjfhcnhcaa
open Go.RowKit

/-- How far a number is ahead. -/
def aheadZ (n b : Nat) : Int := if b + 2147483648 ≤ n then (n : Int) - b - 4294967296 else (n : Int) - b
theorem behind18 (n b : Nat) (hn : n < 4294967296) (hb : b ≤ 1000) (w : World) :
    Calls Try.prog 75 #[.int .u32 n, .int .u32 b] w fun e w' => e = .returned (.int .i64 (aheadZ n b)) ∧ w = w' := by
  have HR : Hid (aheadZ n b = if b + 2147483648 ≤ n then (n : Int) - b - 4294967296 else (n : Int) - b) := Lib.hid rfl
  generalize aheadZ n b = r at *
  go_enter Try.func75, Try.ntmps75
  go_wp2
  go_ret
  refine ⟨ret_int ?_, rfl⟩
  have := HR.out
  unfold wrap64 wrap32
  omega
/-- What is the matter with a shard, in itself. -/
def badOf (kind K M ix : Int) (len : Nat) : Int :=
  if kind ≠ 2 ∧ kind ≠ 3 then 72 else if K < 1 ∨ 16 < K ∨ M < 0 ∨ 16 < M ∨ ix < 0 ∨ K + M ≤ ix then 62 else if len ≠ 2 then 61 else 0
theorem bad72 {kind K M ix : Int} {len : Nat} (h : kind ≠ 2) (h' : kind ≠ 3) : badOf kind K M ix len = 72 := by unfold badOf; rw [if_pos ⟨h, h'⟩]
theorem bad62 {kind K M ix : Int} {len : Nat} (h : kind = 2 ∨ kind = 3) (h' : K < 1 ∨ 16 < K ∨ M < 0 ∨ 16 < M ∨ ix < 0 ∨ K + M ≤ ix) : badOf kind K M ix len = 62 := by unfold badOf; rw [if_neg (by omega), if_pos h']
theorem bad61 {kind K M ix : Int} {len : Nat} (h : kind = 2 ∨ kind = 3) (h' : ¬ (K < 1 ∨ 16 < K ∨ M < 0 ∨ 16 < M ∨ ix < 0 ∨ K + M ≤ ix)) (hl : len ≠ 2) : badOf kind K M ix len = 61 := by unfold badOf; rw [if_neg (by omega), if_neg h', if_pos hl]
theorem bad00 {kind K M ix : Int} {len : Nat} (h : kind = 2 ∨ kind = 3) (h' : ¬ (K < 1 ∨ 16 < K ∨ M < 0 ∨ 16 < M ∨ ix < 0 ∨ K + M ≤ ix)) (hl : ¬ len ≠ 2) : badOf kind K M ix len = 0 := by unfold badOf; rw [if_neg (by omega), if_neg h', if_neg hl]
set_option maxRecDepth 100000 in
set_option maxHeartbeats 8000000 in
theorem check18 (kind ses seq path tick A B K M ix : Int) (da : Option Addr) (dl dc : Nat) (w : World) :
    Calls Try.prog 45 #[.agg #[.int .i64 kind, .int .u32 ses, .int .u32 seq, .int .i64 path, .int .u32 tick, .int .u32 A, .int .u32 B, .int .i64 K, .int .i64 M, .int .i64 ix, .slice da dl dc]] w fun e w' => e = .returned (.int .i64 (badOf kind K M ix dl)) ∧ Below w.heap.size w w' := by
  have hb : Below w.heap.size w (w.alloc (.cells #[.int .i64 kind, .int .u32 ses, .int .u32 seq, .int .i64 path, .int .u32 tick, .int .u32 A, .int .u32 B, .int .i64 K, .int .i64 M, .int .i64 ix, .slice da dl dc] 44)) := (Below.refl _ _).alloc (Nat.le_refl _) _
  have HB := Lib.hid hb
  clear hb
  have HL : Hid (∀ z : Int, badOf kind K M ix dl = z → Ending.returned (.int .i64 z) = .returned (.int .i64 (badOf kind K M ix dl))) := Lib.hid (fun z h => by rw [h])
  go_enter Try.func45, Try.ntmps45
  by_cases hk2 : kind = 2
  · subst hk2
    by_cases h1 : K < 1
    · go_wp2; go_ret; exact ⟨HL.out _ (bad62 (.inl rfl) (by omega)), HB.out⟩
    by_cases h2 : 16 < K
    · go_wp2; go_ret; exact ⟨HL.out _ (bad62 (.inl rfl) (by omega)), HB.out⟩
    by_cases h3 : M < 0
    · go_wp2; go_ret; exact ⟨HL.out _ (bad62 (.inl rfl) (by omega)), HB.out⟩
    by_cases h4 : 16 < M
    · go_wp2; go_ret; exact ⟨HL.out _ (bad62 (.inl rfl) (by omega)), HB.out⟩
    by_cases h5 : ix < 0
    · go_wp2; go_ret; exact ⟨HL.out _ (bad62 (.inl rfl) (by omega)), HB.out⟩
    by_cases h6 : K + M ≤ ix
    · go_wp2; go_ret; exact ⟨HL.out _ (bad62 (.inl rfl) (by omega)), HB.out⟩
    by_cases h7 : dl = 2
    · subst h7
      go_wp2; go_ret; exact ⟨HL.out _ (bad00 (.inl rfl) (by omega) (by omega)), HB.out⟩
    · have h8 : ¬ ((dl : Int) = 2) := by omega
      go_wp2; go_ret; exact ⟨HL.out _ (bad61 (.inl rfl) (by omega) h7), HB.out⟩
  by_cases hk3 : kind = 3
  · subst hk3
    by_cases h1 : K < 1
    · go_wp2; go_ret; exact ⟨HL.out _ (bad62 (.inr rfl) (by omega)), HB.out⟩
    by_cases h2 : 16 < K
    · go_wp2; go_ret; exact ⟨HL.out _ (bad62 (.inr rfl) (by omega)), HB.out⟩
    by_cases h3 : M < 0
    · go_wp2; go_ret; exact ⟨HL.out _ (bad62 (.inr rfl) (by omega)), HB.out⟩
    by_cases h4 : 16 < M
    · go_wp2; go_ret; exact ⟨HL.out _ (bad62 (.inr rfl) (by omega)), HB.out⟩
    by_cases h5 : ix < 0
    · go_wp2; go_ret; exact ⟨HL.out _ (bad62 (.inr rfl) (by omega)), HB.out⟩
    by_cases h6 : K + M ≤ ix
    · go_wp2; go_ret; exact ⟨HL.out _ (bad62 (.inr rfl) (by omega)), HB.out⟩
    by_cases h7 : dl = 2
    · subst h7
      go_wp2; go_ret; exact ⟨HL.out _ (bad00 (.inr rfl) (by omega) (by omega)), HB.out⟩
    · have h8 : ¬ ((dl : Int) = 2) := by omega
      go_wp2; go_ret; exact ⟨HL.out _ (bad61 (.inr rfl) (by omega) h7), HB.out⟩
  have e2 : (kind != 2) = true := by simp [hk2]
  have e3 : (kind != 3) = true := by simp [hk3]
  go_wp2; go_ret; exact ⟨HL.out _ (bad72 hk2 hk3), HB.out⟩
theorem came18 (b o : Nat) (k : Int) (w : World) (h : w.cell? ⟨b, o + 1, none⟩ = some (.int .i64 k)) :
    Calls Try.prog 47 #[.pointer (some ⟨b, o, none⟩)] w fun e w' => e = .returned (.bool (decide (0 < k))) ∧ w = w' := by
  go_enter Try.func47, Try.ntmps47
  go_wp2
  go_ret
  exact ⟨rfl, rfl⟩
theorem whole18 (b o n C : Nat) (A : Option Addr) (w : World) (h : w.cell? ⟨b, o + 4, none⟩ = some (.slice A n C)) :
    Calls Try.prog 49 #[.pointer (some ⟨b, o, none⟩)] w fun e w' => e = .returned (.bool (decide (0 < n))) ∧ w = w' := by
  go_enter Try.func49, Try.ntmps49
  go_wp2
  go_ret
  exact ⟨ret_bool (by simp), rfl⟩
theorem at18 (b base no s : Nat) (hn : no < 4294967296) (hb : base ≤ 1000) (hs : no % 32 = s) (w : World) (h : w.cell? ⟨b, 1, none⟩ = some (.int .u32 base)) :
    Calls Try.prog 46 #[.pointer (some ⟨b, 0, none⟩), .int .u32 no] w fun e w' => e = .returned (if aheadZ no base < 0 then .tuple #[.pointer none, .int .i64 90] else if 32 ≤ aheadZ no base then .tuple #[.pointer none, .int .i64 2] else .tuple #[.pointer (some ⟨b, 5 + s * 5, none⟩), .int .i64 0]) ∧ w = w' := by
  have CB := Lib.hid (behind18 no base hn hb w)
  have hs2 : ((no : Nat) : Int) % 32 = (s : Int) := by omega
  have hs3 : s < 32 := by omega
  have hs4 : (s : Int) < 32 := by omega
  generalize aheadZ no base = z at *
  clear hs hb
  go_enter Try.func46, Try.ntmps46
  by_cases h1 : z < 0
  · rw [if_pos h1]
    go_wp2_with (first
      | (go_at_call 75; (with_reducible refine (CB.out).mono ?_); rintro e w1 ⟨rfl, rfl⟩)
      | fail)
    go_ret2
    exact ⟨rfl, rfl⟩
  rw [if_neg h1]
  by_cases h2 : 32 ≤ z
  · rw [if_pos h2]
    go_wp2_with (first
      | (go_at_call 75; (with_reducible refine (CB.out).mono ?_); rintro e w1 ⟨rfl, rfl⟩)
      | fail)
    go_ret2
    exact ⟨rfl, rfl⟩
  rw [if_neg h2]
  go_wp2_with (first
    | (go_at_call 75; (with_reducible refine (CB.out).mono ?_); rintro e w1 ⟨rfl, rfl⟩)
    | fail)
  go_ret2
  exact ⟨by simp, rfl⟩
/-- The closure of has. -/
theorem has1_18 (c : Nat) (i x : Int) (A : Option Addr) (L C : Nat) (w : World) (h : w.cell? ⟨c, 0, none⟩ = some (.int .i64 i)) :
    Calls Try.prog 77 #[.agg #[.int .i64 x, .slice A L C], .pointer (some ⟨c, 0, none⟩)] w fun e w' => e = .returned (.bool (decide (x = i))) ∧ Below w.heap.size w w' := by
  have hb : Below w.heap.size w (w.alloc (.cells #[.int .i64 x, .slice A L C] 111)) := (Below.refl _ _).alloc (Nat.le_refl _) _
  have HB := Lib.hid hb
  have h2 := (hb.cell (p := ⟨c, 0, none⟩) (World.block_lt_of_cell? w _ h)).trans h
  clear hb h
  go_enter Try.func77, Try.ntmps77
  go_wp2
  go_ret
  exact ⟨rfl, HB.out⟩
/-- The closure of mend. -/
theorem mend1_18 (c b o : Nat) (k x : Int) (A : Option Addr) (L C : Nat) (w : World) (h : w.cell? ⟨c, 0, none⟩ = some (.pointer (some ⟨b, o, none⟩))) (hk : w.cell? ⟨b, o + 1, none⟩ = some (.int .i64 k)) :
    Calls Try.prog 78 #[.agg #[.int .i64 x, .slice A L C], .pointer (some ⟨c, 0, none⟩)] w fun e w' => e = .returned (.bool (decide (k ≤ x))) ∧ Below w.heap.size w w' := by
  have hb : Below w.heap.size w (w.alloc (.cells #[.int .i64 x, .slice A L C] 111)) := (Below.refl _ _).alloc (Nat.le_refl _) _
  have HB := Lib.hid hb
  have h2 := (hb.cell (p := ⟨c, 0, none⟩) (World.block_lt_of_cell? w _ h)).trans h
  have h3 := (hb.cell (p := ⟨b, o + 1, none⟩) (World.block_lt_of_cell? w _ hk)).trans hk
  clear hb h hk
  go_enter Try.func78, Try.ntmps78
  go_upto_region 1 with fail
  go_quiet (fail)
  go_wp2
  go_ret
  exact ⟨rfl, below_drewN HB.out _⟩
end Go.Proofs.Ytjcbcdjfhcnhcaa
namespace Go.Proofs.Ytjcbcdjfhcnhcaa
open Go.RowKit
/-- The first such place; -1. -/
def First (q : Nat → Bool) (n : Nat) (r : Int) : Prop := (∃ j : Nat, j < n ∧ r = j ∧ q j = true) ∨ (r = -1 ∧ ∀ j, j < n → q j = false)
theorem First.any {q : Nat → Bool} {n : Nat} {r : Int} {v : Bool} (h : First q n r) (hv : v = true ↔ ∃ j, j < n ∧ q j = true) : decide (0 ≤ r) = v := by
  rcases h with ⟨j, h1, rfl, h2⟩ | ⟨rfl, h2⟩
  · rw [hv.2 ⟨j, h1, h2⟩]
    exact decide_eq_true (by omega)
  · cases v with
    | false => rfl
    | true =>
      obtain ⟨j, h3, h4⟩ := hv.1 rfl
      rw [h2 j h3] at h4
      cases h4
set_option maxHeartbeats 1000000 in
theorem index18_has (c n cap : Nat) (a : Option Addr) (I : Nat → Int) (A : Nat → Option Addr) (L C : Nat → Nat) (X : Nat → List Int) (q : Nat → Bool) (w : World) (hn : n ≤ 1000) (hs : ShardsIn w a n cap I A L C X)
    (hG : ∀ w' r, Below w.heap.size w w' → r < n → Calls Try.prog 77 #[.agg #[.int .i64 (I r), .slice (A r) (L r) (C r)], .pointer (some ⟨c, 0, none⟩)] w' fun e w'' => e = .returned (.bool (q r)) ∧ Below w'.heap.size w' w'') :
    Calls Try.prog 93 #[.slice a n cap, .func (.func 77) #[] #[.pointer (some ⟨c, 0, none⟩)]] w fun e w' => ∃ r, e = .returned (.int .i64 r) ∧ Hid (First q n r) ∧ Below w.heap.size w w' := by
  have HS := Lib.hid hs
  have HG := Lib.hid hG
  have hn2 : (n : Int) ≤ 1000 := by omega
  clear hs hG
  go_enter Try.func93, Try.ntmps93
  go_wp2
  go_loopw [8] (fun j wr => ∃ p : Nat, p ≤ n ∧ j = .int .i64 (p : Int) ∧ Hid (∀ i, i < p → q i = false) ∧ Hid (Below w.heap.size w wr)) (fun j _ => n - (intOf j).toNat)
  case atStart => exact ⟨0, Nat.zero_le _, rfl, Lib.hid (fun i hi => absurd hi (by omega)), Lib.hid (Below.refl _ _)⟩
  case round =>
    obtain ⟨p, hp, rfl, HN, HB⟩ := hrel
    by_cases hpn : p < n
    · obtain ⟨g, off, rfl, hg, c0, c1⟩ := HS.out.cells p hpn
      have d0 := (HB.out.cell (p := ⟨g, off + p * 2, none⟩) hg).trans c0
      have d1 := (HB.out.cell (p := ⟨g, off + p * 2 + 1, none⟩) hg).trans c1
      have CG := Lib.hid (HG.out wr p HB.out hpn)
      have i1 : (p : Int) < n := by omega
      clear c0 c1 hg
      generalize I p = ip at *
      generalize A p = ap at *
      generalize L p = lp at *
      generalize C p = cp at *
      cases hq : q p with
      | true =>
        rw [hq] at CG
        go_wp2_with (first
          | (go_at_call 77; (with_reducible refine (CG.out).mono ?_); rintro e w1 ⟨rfl, hb⟩; have HB1 := Lib.hid hb; clear hb)
          | fail)
        go_ret
        exact ⟨_, rfl, Lib.hid (.inl ⟨p, hpn, rfl, hq⟩), HB.out.trans (HB1.out.mono HB.out.size)⟩
      | false =>
        rw [hq] at CG
        have HQ := Lib.hid hq
        clear hq
        go_wp2_with (first
          | (go_at_call 77; (with_reducible refine (CG.out).mono ?_); rintro e w1 ⟨rfl, hb⟩; have HB1 := Lib.hid hb; clear hb)
          | fail)
        go_roundw
        case rel => exact ⟨p + 1, by omega, by go_num, Lib.hid (fun i hi => by
          by_cases e : i = p
          · rw [e]; exact HQ.out
          · exact HN.out i (by omega)), Lib.hid (HB.out.trans (HB1.out.mono HB.out.size))⟩
        case measure => simp [intOf] <;> omega
    · obtain rfl : p = n := by omega
      go_wp2
      go_ret
      exact ⟨_, rfl, Lib.hid (.inr ⟨rfl, HN.out⟩), HB.out⟩
theorem contains18_has (c n cap : Nat) (a : Option Addr) (I : Nat → Int) (A : Nat → Option Addr) (L C : Nat → Nat) (X : Nat → List Int) (q : Nat → Bool) (w : World) (hn : n ≤ 1000) (hs : ShardsIn w a n cap I A L C X)
    (hG : ∀ w' r, Below w.heap.size w w' → r < n → Calls Try.prog 77 #[.agg #[.int .i64 (I r), .slice (A r) (L r) (C r)], .pointer (some ⟨c, 0, none⟩)] w' fun e w'' => e = .returned (.bool (q r)) ∧ Below w'.heap.size w' w'') (v : Bool) (hv : v = true ↔ ∃ j, j < n ∧ q j = true) :
    Calls Try.prog 76 #[.slice a n cap, .func (.func 77) #[] #[.pointer (some ⟨c, 0, none⟩)]] w fun e w' => e = .returned (.bool v) ∧ Below w.heap.size w w' := by
  have HI := Lib.hid (index18_has c n cap a I A L C X q w hn hs hG)
  have HV := Lib.hid hv
  clear hs hG hv
  go_enter Try.func76, Try.ntmps76
  go_wp2_with (go_at_call 93; (with_reducible refine (HI.out).mono ?_); rintro e w1 ⟨r, rfl, HF, HB⟩)
  go_ret
  exact ⟨ret_bool (by have := HF.out.any HV.out; simpa using this), HB⟩
set_option maxHeartbeats 1000000 in
theorem index18_mend (c n cap : Nat) (a : Option Addr) (I : Nat → Int) (A : Nat → Option Addr) (L C : Nat → Nat) (X : Nat → List Int) (q : Nat → Bool) (w : World) (hn : n ≤ 1000) (hs : ShardsIn w a n cap I A L C X)
    (hG : ∀ w' r, Below w.heap.size w w' → r < n → Calls Try.prog 78 #[.agg #[.int .i64 (I r), .slice (A r) (L r) (C r)], .pointer (some ⟨c, 0, none⟩)] w' fun e w'' => e = .returned (.bool (q r)) ∧ Below w'.heap.size w' w'') :
    Calls Try.prog 93 #[.slice a n cap, .func (.func 78) #[] #[.pointer (some ⟨c, 0, none⟩)]] w fun e w' => ∃ r, e = .returned (.int .i64 r) ∧ Hid (First q n r) ∧ Below w.heap.size w w' := by
  have HS := Lib.hid hs
  have HG := Lib.hid hG
  have hn2 : (n : Int) ≤ 1000 := by omega
  clear hs hG
  go_enter Try.func93, Try.ntmps93
  go_wp2
  go_loopw [8] (fun j wr => ∃ p : Nat, p ≤ n ∧ j = .int .i64 (p : Int) ∧ Hid (∀ i, i < p → q i = false) ∧ Hid (Below w.heap.size w wr)) (fun j _ => n - (intOf j).toNat)
  case atStart => exact ⟨0, Nat.zero_le _, rfl, Lib.hid (fun i hi => absurd hi (by omega)), Lib.hid (Below.refl _ _)⟩
  case round =>
    obtain ⟨p, hp, rfl, HN, HB⟩ := hrel
    by_cases hpn : p < n
    · obtain ⟨g, off, rfl, hg, c0, c1⟩ := HS.out.cells p hpn
      have d0 := (HB.out.cell (p := ⟨g, off + p * 2, none⟩) hg).trans c0
      have d1 := (HB.out.cell (p := ⟨g, off + p * 2 + 1, none⟩) hg).trans c1
      have CG := Lib.hid (HG.out wr p HB.out hpn)
      have i1 : (p : Int) < n := by omega
      clear c0 c1 hg
      generalize I p = ip at *
      generalize A p = ap at *
      generalize L p = lp at *
      generalize C p = cp at *
      cases hq : q p with
      | true =>
        rw [hq] at CG
        go_wp2_with (first
          | (go_at_call 78; (with_reducible refine (CG.out).mono ?_); rintro e w1 ⟨rfl, hb⟩; have HB1 := Lib.hid hb; clear hb)
          | fail)
        go_ret
        exact ⟨_, rfl, Lib.hid (.inl ⟨p, hpn, rfl, hq⟩), HB.out.trans (HB1.out.mono HB.out.size)⟩
      | false =>
        rw [hq] at CG
        have HQ := Lib.hid hq
        clear hq
        go_wp2_with (first
          | (go_at_call 78; (with_reducible refine (CG.out).mono ?_); rintro e w1 ⟨rfl, hb⟩; have HB1 := Lib.hid hb; clear hb)
          | fail)
        go_roundw
        case rel => exact ⟨p + 1, by omega, by go_num, Lib.hid (fun i hi => by
          by_cases e : i = p
          · rw [e]; exact HQ.out
          · exact HN.out i (by omega)), Lib.hid (HB.out.trans (HB1.out.mono HB.out.size))⟩
        case measure => simp [intOf] <;> omega
    · obtain rfl : p = n := by omega
      go_wp2
      go_ret
      exact ⟨_, rfl, Lib.hid (.inr ⟨rfl, HN.out⟩), HB.out⟩
theorem contains18_mend (c n cap : Nat) (a : Option Addr) (I : Nat → Int) (A : Nat → Option Addr) (L C : Nat → Nat) (X : Nat → List Int) (q : Nat → Bool) (w : World) (hn : n ≤ 1000) (hs : ShardsIn w a n cap I A L C X)
    (hG : ∀ w' r, Below w.heap.size w w' → r < n → Calls Try.prog 78 #[.agg #[.int .i64 (I r), .slice (A r) (L r) (C r)], .pointer (some ⟨c, 0, none⟩)] w' fun e w'' => e = .returned (.bool (q r)) ∧ Below w'.heap.size w' w'') (v : Bool) (hv : v = true ↔ ∃ j, j < n ∧ q j = true) :
    Calls Try.prog 76 #[.slice a n cap, .func (.func 78) #[] #[.pointer (some ⟨c, 0, none⟩)]] w fun e w' => e = .returned (.bool v) ∧ Below w.heap.size w w' := by
  have HI := Lib.hid (index18_mend c n cap a I A L C X q w hn hs hG)
  have HV := Lib.hid hv
  clear hs hG hv
  go_enter Try.func76, Try.ntmps76
  go_wp2_with (go_at_call 93; (with_reducible refine (HI.out).mono ?_); rintro e w1 ⟨r, rfl, HF, HB⟩)
  go_ret
  exact ⟨ret_bool (by have := HF.out.any HV.out; simpa using this), HB⟩
/-- Has it a shard of that number? -/
theorem has18 (b o n cap : Nat) (a : Option Addr) (s : List Sd) (A : Nat → Option Addr) (L C : Nat → Nat) (X : Nat → List Int) (i : Int) (w : World) (hn : n ≤ 1000) (hl : s.length = n) (h : w.cell? ⟨b, o + 3, none⟩ = some (.slice a n cap)) (hs : ShardsIn w a n cap (ixL s) A L C X) :
    Calls Try.prog 50 #[.pointer (some ⟨b, o, none⟩), .int .i64 i] w fun e w' => e = .returned (.bool (hasIx s i)) ∧ Below w.heap.size w w' := by
  have hb : Below w.heap.size w (w.alloc (.cells #[.int .i64 i] 3)) := (Below.refl _ _).alloc (Nat.le_refl _) _
  have hc : (w.alloc (.cells #[.int .i64 i] 3)).cell? ⟨w.heap.size, 0, none⟩ = some (.int .i64 i) := new_box w _ _
  have HC := Lib.hid (contains18_has w.heap.size n cap a (ixL s) A L C X (fun r => decide (ixL s r = i)) (w.alloc (.cells #[.int .i64 i] 3)) hn (hs.below hb (Nat.le_refl _)) (fun w' r hw' hr => has1_18 w.heap.size i (ixL s r) (A r) (L r) (C r) w' ((hw'.cell (p := ⟨w.heap.size, 0, none⟩) (by simp)).trans hc)) (hasIx s i) (by
    unfold hasIx
    rw [List.any_eq_true]
    constructor
    · rintro ⟨x, hx, hd⟩
      obtain ⟨j, hj⟩ := List.mem_iff_getElem?.1 hx
      refine ⟨j, by rw [← hl]; exact (List.getElem?_eq_some_iff.1 hj).1, ?_⟩
      have e : ixL s j = (x.ix : Int) := by unfold ixL; rw [List.getD_eq_getElem?_getD, hj]; rfl
      rw [e]
      exact hd
    · rintro ⟨j, hj, hd⟩
      rw [← hl] at hj
      refine ⟨s[j], List.getElem_mem hj, ?_⟩
      have e : ixL s j = ((s[j]).ix : Int) := by unfold ixL; rw [List.getD_eq_getElem?_getD, List.getElem?_eq_getElem hj]; rfl
      rw [e] at hd
      exact hd))
  have HB := Lib.hid hb
  have h2 := (hb.cell (p := ⟨b, o + 3, none⟩) (World.block_lt_of_cell? w _ h)).trans h
  clear hb hc hs h
  go_enter Try.func50, Try.ntmps50
  go_wp2_with (go_at_call 76; (with_reducible refine (HC.out).mono ?_); rintro e w1 ⟨rfl, hb1⟩; have HB1 := Lib.hid hb1; clear hb1)
  go_ret
  exact ⟨rfl, HB.out.trans (HB1.out.mono HB.out.size)⟩
set_option maxRecDepth 100000 in
set_option maxHeartbeats 2000000 in
theorem fits18 (b o : Nat) (pf pk pm kind ses seq path tick A B K M ix : Int) (da : Option Addr) (dl dc : Nat) (w : World) (h0 : w.cell? ⟨b, o, none⟩ = some (.int .u32 pf)) (h1 : w.cell? ⟨b, o + 1, none⟩ = some (.int .i64 pk)) (h2 : w.cell? ⟨b, o + 2, none⟩ = some (.int .i64 pm)) :
    Calls Try.prog 48 #[.pointer (some ⟨b, o, none⟩), .agg #[.int .i64 kind, .int .u32 ses, .int .u32 seq, .int .i64 path, .int .u32 tick, .int .u32 A, .int .u32 B, .int .i64 K, .int .i64 M, .int .i64 ix, .slice da dl dc]] w fun e w' => e = .returned (.bool (decide (B = pf ∧ K = pk ∧ M = pm))) ∧ Below w.heap.size w w' := by
  have hb : Below w.heap.size w (w.alloc (.cells #[.int .i64 kind, .int .u32 ses, .int .u32 seq, .int .i64 path, .int .u32 tick, .int .u32 A, .int .u32 B, .int .i64 K, .int .i64 M, .int .i64 ix, .slice da dl dc] 44)) := (Below.refl _ _).alloc (Nat.le_refl _) _
  have HB := Lib.hid hb
  have g0 := (hb.cell (p := ⟨b, o, none⟩) (World.block_lt_of_cell? w _ h0)).trans h0
  have g1 := (hb.cell (p := ⟨b, o + 1, none⟩) (World.block_lt_of_cell? w _ h1)).trans h1
  have g2 := (hb.cell (p := ⟨b, o + 2, none⟩) (World.block_lt_of_cell? w _ h2)).trans h2
  clear hb h0 h1 h2
  have HL : Hid (∀ v : Bool, v = decide (B = pf ∧ K = pk ∧ M = pm) → Ending.returned (.bool v) = .returned (.bool (decide (B = pf ∧ K = pk ∧ M = pm)))) := Lib.hid (fun v h => by rw [h])
  go_enter Try.func48, Try.ntmps48
  by_cases e0 : B = pf
  · have f0 : (B == pf) = true := by simp [e0]
    by_cases e1 : K = pk
    · have f1 : (K == pk) = true := by simp [e1]
      cases f2 : (M == pm) with
      | true =>
        have HE : Hid (B = pf ∧ K = pk ∧ M = pm) := Lib.hid ⟨e0, e1, by simpa using f2⟩
        clear e0 e1
        go_upto_region 1 with fail
        go_quiet (fail)
        go_wp2
        go_ret
        exact ⟨HL.out _ (decide_eq_true HE.out).symm, below_drewN HB.out _⟩
      | false =>
        have HE : Hid (¬ (B = pf ∧ K = pk ∧ M = pm)) := Lib.hid (fun h => by simp [h.2.2] at f2)
        clear e0 e1
        go_upto_region 1 with fail
        go_quiet (fail)
        go_wp2
        go_ret
        exact ⟨HL.out _ (decide_eq_false HE.out).symm, below_drewN HB.out _⟩
    · have f1 : (K == pk) = false := by simp [e1]
      have HE : Hid (¬ (B = pf ∧ K = pk ∧ M = pm)) := Lib.hid (fun h => e1 h.2.1)
      clear e0 e1
      go_upto_region 1 with fail
      go_quiet (fail)
      go_wp2
      go_ret
      exact ⟨HL.out _ (decide_eq_false HE.out).symm, below_drewN HB.out _⟩
  · have f0 : (B == pf) = false := by simp [e0]
    have HE : Hid (¬ (B = pf ∧ K = pk ∧ M = pm)) := Lib.hid (fun h => e0 h.1)
    clear e0
    go_upto_region 1 with fail
    go_quiet (fail)
    go_wp2
    go_ret
    exact ⟨HL.out _ (decide_eq_false HE.out).symm, below_drewN HB.out _⟩
end Go.Proofs.Ytjcbcdjfhcnhcaa
