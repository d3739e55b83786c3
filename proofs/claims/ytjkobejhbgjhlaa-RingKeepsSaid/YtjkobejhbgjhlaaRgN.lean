/-
  Own text: the calls of one round of the law's play, each by what it leaves of both rings.
-/
import Derived.Test.YtjkobejhbgjhlaaRgL
namespace Go.Proofs.Ytjkobejhbgjhlaa
open Go.RowKit

/-- Between two calls of a round. -/
def St (w : World) (e : Nat) (kd n v : Int) (b : Nat) (R1 R2 : Rn) (A2 : Option Addr) (C2 : Nat) (W : World) : Prop :=
  ∃ A C xs, Tw w.heap.size b R1 R2 A C xs A2 C2 W ∧ OpB W e kd n v ∧ Below w.heap.size w W
/-- Between two rounds. -/
def Lo (w : World) (b : Nat) (R : Rn) (A2 : Option Addr) (C2 : Nat) (W : World) : Prop :=
  ∃ A C xs, Tw w.heap.size b R R A C xs A2 C2 W ∧ Below w.heap.size w W
/-- The document's Set has answered. -/
def Sp (w : World) (e : Nat) (kd n v : Int) (b g : Nat) (R1 R2 R3 : Rn) (A2 : Option Addr) (C2 : Nat) (A3 : Option Addr) (C3 : Nat) (W : World) : Prop :=
  ∃ A C xs, Pd w.heap.size b g R1 R2 R3 A C xs A2 C2 A3 C3 W ∧ OpB W e kd n v ∧ Below w.heap.size w W
/-- There is a clone. -/
def Sc (w : World) (e : Nat) (kd n v : Int) (b c : Nat) (R1 R2 Rc : Rn) (A2 : Option Addr) (C2 : Nat) (W : World) : Prop :=
  ∃ A C xs Ac Cc zs, Cl w.heap.size b c R1 R2 Rc A C xs A2 C2 Ac Cc zs W ∧ OpB W e kd n v ∧ Below w.heap.size w W
section
variable {w W : World} {e b : Nat} {kd n v : Int} {R1 R2 : Rn} {A2 : Option Addr} {C2 : Nat}
theorem St.op (h : St w e kd n v b R1 R2 A2 C2 W) : OpB W e kd n v := by
  obtain ⟨_, _, _, _, h, _⟩ := h; exact h
theorem St.box (h : St w e kd n v b R1 R2 A2 C2 W) : DBx W (w.heap.size + 1) R2.room R2.first (.slice A2 R2.l.length C2) := by
  obtain ⟨_, _, _, h, _, _⟩ := h; exact h.box
theorem St.dl (h : St w e kd n v b R1 R2 A2 C2 W) : DL W R2 A2 C2 := by
  obtain ⟨_, _, _, h, _, _⟩ := h; exact h.dl
theorem St.bel (h : St w e kd n v b R1 R2 A2 C2 W) : Below w.heap.size w W := by
  obtain ⟨_, _, _, _, _, h⟩ := h; exact h
theorem St.loads (h : St w e kd n v b R1 R2 A2 C2 W) : W.cell? ⟨e, 0, none⟩ = some (.int .i64 kd) ∧ W.cell? ⟨e, 1, none⟩ = some (.int .i64 n) ∧ W.cell? ⟨e, 2, none⟩ = some (.int .i64 v) ∧
    W.cell? ⟨w.heap.size + 1, 0, none⟩ = some (.int .i64 (R2.room : Int)) ∧ W.cell? ⟨w.heap.size + 1, 1, none⟩ = some (.int .i64 (R2.first : Int)) ∧ W.cell? ⟨w.heap.size + 1, 2, none⟩ = some (.slice A2 R2.l.length C2) :=
  ⟨h.op.cells.1, h.op.cells.2.1, h.op.cells.2.2, h.box.cells.1, h.box.cells.2.1, h.box.cells.2.2⟩
theorem Lo.bel {R : Rn} (h : Lo w b R A2 C2 W) : Below w.heap.size w W := by
  obtain ⟨_, _, _, _, h⟩ := h; exact h
theorem Lo.box {R : Rn} (h : Lo w b R A2 C2 W) : DBx W (w.heap.size + 1) R.room R.first (.slice A2 R.l.length C2) := by
  obtain ⟨_, _, _, h, _⟩ := h; exact h.box
theorem Lo.res {R : Rn} (h : Lo w b R A2 C2 W) : DBx W w.heap.size 0 0 (.slice none 0 0) := by
  obtain ⟨_, _, _, h, _⟩ := h; exact h.res
theorem Lo.drew {R : Rn} (h : Lo w b R A2 C2 W) : Lo w b R A2 C2 W.drew := by
  obtain ⟨A, C, xs, h1, h3⟩ := h
  exact ⟨A, C, xs, ⟨h1.rb.drewN 1, h1.box, h1.res, OwnI.keep h1.dl (fun _ _ => rfl), h1.sb, h1.ss, h1.sd, h1.ap⟩, h3.drew⟩
theorem St.lo {R : Rn} (h : St w e kd n v b R R A2 C2 W) : Lo w b R A2 C2 W := by
  obtain ⟨A, C, xs, h1, _, h2⟩ := h; exact ⟨A, C, xs, h1, h2⟩
theorem St.drew (h : St w e kd n v b R1 R2 A2 C2 W) : St w e kd n v b R1 R2 A2 C2 W.drew := by
  obtain ⟨A, C, xs, h1, h2, h3⟩ := h
  exact ⟨A, C, xs, ⟨h1.rb.drewN 1, h1.box, h1.res, OwnI.keep h1.dl (fun _ _ => rfl), h1.sb, h1.ss, h1.sd, h1.ap⟩, h2, h3.drew⟩
theorem Lo.start {R : Rn} (kd n v : Int) (h : Lo w b R A2 C2 W) : St w W.heap.size kd n v b R R A2 C2 (W.alloc (.cells #[.int .i64 kd, .int .i64 n, .int .i64 v] 47)) := by
  obtain ⟨A, C, xs, h1, h2⟩ := h
  exact ⟨A, C, xs, h1.below ((Below.refl W.heap.size W).alloc (Nat.le_refl _) _) (Nat.le_refl _), OpB.new W kd n v, h2.alloc h2.size _⟩
section
variable {k : Nat} (hk : k ≤ 1000000)
include hk
theorem put_st (z : Int) (hf : R1.fit k) (h : St w e kd n v b R1 R2 A2 C2 W) :
    Calls Try.prog 17 #[.pointer (some ⟨b, 0, none⟩), .int .i64 z] W fun x W' => x = .returned (.int .i64 (R1.next : Int)) ∧ Hid (St w e kd n v b (R1.put z) R2 A2 C2 W') := by
  obtain ⟨A, C, xs, h1, h2, h3⟩ := h
  refine (put_any z b k R1 A C xs hf hk W h1.rb).mono ?_
  rintro x W' ⟨rfl, hp⟩
  obtain ⟨A', C', ys, g1, g2, g3⟩ := hp.out
  rw [own_block] at g2 g3
  rw [own_block] at g2
  exact ⟨rfl, Lib.hid ⟨A', C', ys, h1.code g1 g2 g3, h2.keepF h1.rb g3, h1.bel h3 g3⟩⟩
theorem drop_st (z : Int) (hf : R1.fit k) (h : St w e kd n v b R1 R2 A2 C2 W) :
    Calls Try.prog 25 #[.pointer (some ⟨b, 0, none⟩), .int .i64 z] W fun x W' => x = .returned (.tuple #[]) ∧ Hid (St w e kd n v b (R1.drop z) R2 A2 C2 W') := by
  obtain ⟨A, C, xs, h1, h2, h3⟩ := h
  refine (drop_any z b k R1 A C xs hf hk W h1.rb).mono ?_
  rintro x W' ⟨rfl, hp, hq⟩
  obtain ⟨ys, hy, g1⟩ := hp.out
  have g3 := hq.out
  rw [own_block] at g3
  exact ⟨rfl, Lib.hid ⟨A, C, ys, h1.code g1 (.inl rfl) g3, h2.keepF h1.rb g3, h1.bel h3 g3⟩⟩
theorem cut_st (z : Int) (hf : R1.fit k) (h : St w e kd n v b R1 R2 A2 C2 W) :
    Calls Try.prog 27 #[.pointer (some ⟨b, 0, none⟩), .int .i64 z] W fun x W' => x = .returned (.tuple #[]) ∧ Hid (St w e kd n v b (R1.cut z) R2 A2 C2 W') := by
  obtain ⟨A, C, xs, h1, h2, h3⟩ := h
  refine (cut_any z b k R1 A C xs hf hk W h1.rb).mono ?_
  rintro x W' ⟨rfl, hp, hq⟩
  obtain ⟨ys, hy, g1⟩ := hp.out
  have g3 := hq.out
  rw [own_block] at g3
  exact ⟨rfl, Lib.hid ⟨A, C, ys, h1.code g1 (.inl rfl) g3, h2.keepF h1.rb g3, h1.bel h3 g3⟩⟩
theorem reset_st (z : Nat) (hz : z ≤ 1099511627776) (hf : R1.fit k) (h : St w e kd n v b R1 R2 A2 C2 W) :
    Calls Try.prog 29 #[.pointer (some ⟨b, 0, none⟩), .int .i64 (z : Int)] W fun x W' => x = .returned (.tuple #[]) ∧ Hid (St w e kd n v b ⟨R1.room, z, []⟩ R2 A2 C2 W') := by
  obtain ⟨A, C, xs, h1, h2, h3⟩ := h
  refine (reset_any z hz b k R1 A C xs hf hk W h1.rb).mono ?_
  rintro x W' ⟨rfl, hp, hq⟩
  obtain ⟨ys, hy, g1⟩ := hp.out
  have g3 := hq.out
  rw [own_block] at g3
  exact ⟨rfl, Lib.hid ⟨A, C, ys, h1.code g1 (.inl rfl) g3, h2.keepF h1.rb g3, h1.bel h3 g3⟩⟩
/-- What the code's Set leaves. -/
theorem setr_any (x z : Int) {A : Option Addr} {C : Nat} {xs : List Int} (hf : R1.fit k) (h : RB W b R1 A C xs) :
    Calls Try.prog 24 #[.pointer (some ⟨b, 0, none⟩), .int .i64 x, .int .i64 z] W fun e W' => e = .returned (.int .i64 (R1.kept x)) ∧ ∃ ys, RB W' b (R1.set x z) A C ys ∧ Frm b (A.map Addr.block) W W' := by
  by_cases hn : R1.kept x = 0
  · refine (setr_some x z b k R1 A C xs hf hk hn W h).mono ?_
    rintro e W' ⟨rfl, hp, hq⟩
    obtain ⟨ys, hy, g1⟩ := hp.out
    have g3 := hq.out
    rw [own_block] at g3
    exact ⟨by rw [hn], ys, g1, g3⟩
  · refine (setr_none x z b R1 A C xs hn W h).mono ?_
    rintro e W' ⟨rfl, rfl⟩
    refine ⟨rfl, xs, ?_, Frm.refl _ _ _⟩
    unfold Rn.set
    rw [if_neg hn]
    exact h
theorem setp_st (x z : Int) {g : Nat} {R3 : Rn} {A3 : Option Addr} {C3 : Nat} (hf : R1.fit k) (h : Sp w e kd n v b g R1 R2 R3 A2 C2 A3 C3 W) :
    Calls Try.prog 24 #[.pointer (some ⟨b, 0, none⟩), .int .i64 x, .int .i64 z] W fun y W' => y = .returned (.int .i64 (R1.kept x)) ∧ Hid (Sp w e kd n v b g (R1.set x z) R2 R3 A2 C2 A3 C3 W') := by
  obtain ⟨A, C, xs, h1, h2, h3⟩ := h
  refine (setr_any hk x z hf h1.tw.rb).mono ?_
  rintro y W' ⟨rfl, ys, g1, g3⟩
  exact ⟨rfl, Lib.hid ⟨A, C, ys, h1.code g1 (.inl rfl) g3, h2.keepF h1.tw.rb g3, h1.tw.bel h3 g3⟩⟩
theorem putc_st (z : Int) {c : Nat} {Rc : Rn} (hf : R1.fit k) (h : Sc w e kd n v b c R1 R2 Rc A2 C2 W) :
    Calls Try.prog 17 #[.pointer (some ⟨b, 0, none⟩), .int .i64 z] W fun x W' => x = .returned (.int .i64 (R1.next : Int)) ∧ Hid (Sc w e kd n v b c (R1.put z) R2 Rc A2 C2 W') := by
  obtain ⟨A, C, xs, Ac, Cc, zs, h1, h2, h3⟩ := h
  refine (put_any z b k R1 A C xs hf hk W h1.tw.rb).mono ?_
  rintro x W' ⟨rfl, hp⟩
  obtain ⟨A', C', ys, g1, g2, g3⟩ := hp.out
  rw [own_block] at g2 g3
  rw [own_block] at g2
  exact ⟨rfl, Lib.hid ⟨A', C', ys, Ac, Cc, zs, h1.code g1 g2 g3, h2.keepF h1.tw.rb g3, h1.tw.bel h3 g3⟩⟩
theorem setc_st (x z : Int) {c : Nat} {Rc : Rn} (hf : R1.fit k) (h : Sc w e kd n v b c R1 R2 Rc A2 C2 W) :
    Calls Try.prog 24 #[.pointer (some ⟨b, 0, none⟩), .int .i64 x, .int .i64 z] W fun y W' => y = .returned (.int .i64 (R1.kept x)) ∧ Hid (Sc w e kd n v b c (R1.set x z) R2 Rc A2 C2 W') := by
  obtain ⟨A, C, xs, Ac, Cc, zs, h1, h2, h3⟩ := h
  refine (setr_any hk x z hf h1.tw.rb).mono ?_
  rintro y W' ⟨rfl, ys, g1, g3⟩
  exact ⟨rfl, Lib.hid ⟨A, C, ys, Ac, Cc, zs, h1.code g1 (.inl rfl) g3, h2.keepF h1.tw.rb g3, h1.tw.bel h3 g3⟩⟩
theorem same_st {R : Rn} (hf : R.fit k) (h : St w e kd n v b R R A2 C2 W) :
    Calls Try.prog 31 #[.pointer (some ⟨b, 0, none⟩), DV R A2 C2] W fun x W' => x = .returned (.bool true) ∧ Hid (St w e kd n v b R R A2 C2 W') := by
  obtain ⟨A, C, xs, h1, h2, h3⟩ := h
  refine (same9_any k b R A C xs A2 C2 hf hk W h1.rb h1.dl).mono ?_
  rintro x W' ⟨rfl, hb⟩
  exact ⟨rfl, Lib.hid ⟨A, C, xs, h1.below hb (Nat.le_refl _), h2.below hb (Nat.le_refl _), h3.trans (hb.mono h3.size)⟩⟩
omit hk in
theorem clone_st (hf : R1.fit k) (h : St w e kd n v b R1 R2 A2 C2 W) :
    Calls Try.prog 30 #[.pointer (some ⟨b, 0, none⟩)] W fun x W' => x = .returned (.pointer (some ⟨W.heap.size, 0, none⟩)) ∧ Hid (Sc w e kd n v b W.heap.size R1 R2 R1 A2 C2 W') := by
  obtain ⟨A, C, xs, h1, h2, h3⟩ := h
  refine (clone9_any b k R1 A C xs hf W h1.rb).mono ?_
  rintro x W' ⟨rfl, hp, hq⟩
  obtain ⟨Ac, Cc, zs, g1, g2, g3, g4⟩ := hp.out
  have hb := hq.out
  exact ⟨rfl, Lib.hid ⟨A, C, xs, Ac, Cc, zs, h1.clone hb g1 (fun k hk => g4 k (by rw [own_block]; exact hk)), h2.below hb (Nat.le_refl _), h3.trans (hb.mono h3.size)⟩⟩
theorem next_st (hf : R2.fit k) (h : St w e kd n v b R1 R2 A2 C2 W) :
    Calls Try.prog 21 #[DV R2 A2 C2] W fun x W' => x = .returned (.int .i64 (R2.next : Int)) ∧ Hid (St w e kd n v b R1 R2 A2 C2 W') := by
  obtain ⟨A, C, xs, h1, h2, h3⟩ := h
  refine (rnext_any R2 A2 C2 k hf hk W).mono ?_
  rintro x W' ⟨rfl, hb⟩
  exact ⟨rfl, Lib.hid ⟨A, C, xs, h1.below hb (Nat.le_refl _), h2.below hb (Nat.le_refl _), h3.trans (hb.mono h3.size)⟩⟩
/-- What a document's call leaves, and what it is when the answer is written. -/
def Ans (w : World) (e : Nat) (kd n v : Int) (b : Nat) (R1 R2 R' : Rn) (A2 : Option Addr) (C2 : Nat) (x : Ending) (W' : World) : Prop :=
  ∃ A3 C3, x = .returned (DV R' A3 C3) ∧ Hid (DBx W' (w.heap.size + 1) R2.room R2.first (.slice A2 R2.l.length C2)) ∧
    Hid (St w e kd n v b R1 R' A3 C3 (((W'.setCell ⟨w.heap.size + 1, 0, none⟩ (.int .i64 (R'.room : Int))).setCell ⟨w.heap.size + 1, 1, none⟩ (.int .i64 (R'.first : Int))).setCell ⟨w.heap.size + 1, 2, none⟩ (.slice A3 R'.l.length C3)))
omit hk in
theorem St.ans {R' : Rn} {x : Ending} {W' : World} (h : St w e kd n v b R1 R2 A2 C2 W) (hd : DTo W A2 R' x W') : Ans w e kd n v b R1 R2 R' A2 C2 x W' := by
  obtain ⟨A, C, xs, h1, h2, h3⟩ := h
  obtain ⟨A3, C3, rfl, g1, g2, g3⟩ := hd
  have hx := h1.box.below g2.out h1.box.lt
  refine ⟨A3, C3, rfl, Lib.hid hx, Lib.hid ⟨A, C, xs, h1.doc g2.out g1.out g3.out, (h2.below g2.out (Nat.le_refl _)).write hx _ _ _, ?_⟩⟩
  exact (((h3.trans (g2.out.mono h3.size)).setCell (p := ⟨w.heap.size + 1, 0, none⟩) (Nat.le_succ _) _).setCell (p := ⟨w.heap.size + 1, 1, none⟩) (Nat.le_succ _) _).setCell (p := ⟨w.heap.size + 1, 2, none⟩) (Nat.le_succ _) _
theorem rput_st (z : Int) (hf : R2.fit k) (h : St w e kd n v b R1 R2 A2 C2 W) :
    Calls Try.prog 22 #[DV R2 A2 C2, .int .i64 z] W (Ans w e kd n v b R1 R2 (R2.put z) A2 C2) :=
  (rput_any z R2 A2 C2 k hf hk W h.dl).mono fun _ _ g => h.ans g
theorem rdrop_st (z : Int) (hf : R2.fit k) (h : St w e kd n v b R1 R2 A2 C2 W) :
    Calls Try.prog 26 #[DV R2 A2 C2, .int .i64 z] W (Ans w e kd n v b R1 R2 (R2.drop z) A2 C2) :=
  (rdrop_any z R2 A2 C2 k hf hk W h.dl).mono fun _ _ g => h.ans g
theorem rcut_st (z : Int) (hf : R2.fit k) (h : St w e kd n v b R1 R2 A2 C2 W) :
    Calls Try.prog 28 #[DV R2 A2 C2, .int .i64 z] W (Ans w e kd n v b R1 R2 (R2.cut z) A2 C2) :=
  (rcut_any z R2 A2 C2 k hf hk W h.dl).mono fun _ _ g => h.ans g
/-- What the document's Set leaves, and the box that its answer then lies in. -/
def Ans2 (w : World) (e : Nat) (kd n v : Int) (b : Nat) (R1 R2 R' : Rn) (c : Int) (A2 : Option Addr) (C2 : Nat) (x : Ending) (W' : World) : Prop :=
  ∃ A3 C3, x = .returned (.tuple #[DV R' A3 C3, .int .i64 c]) ∧ Hid (Sp w e kd n v b W'.heap.size R1 R2 R' A2 C2 A3 C3 (W'.alloc (.cells #[.int .i64 (R'.room : Int), .int .i64 (R'.first : Int), .slice A3 R'.l.length C3] 27)))
theorem rset_st (y z : Int) (hf : R2.fit k) (h : St w e kd n v b R1 R2 A2 C2 W) :
    Calls Try.prog 23 #[DV R2 A2 C2, .int .i64 y, .int .i64 z] W (Ans2 w e kd n v b R1 R2 (R2.set y z) (R2.kept y) A2 C2) := by
  have key : Calls Try.prog 23 #[DV R2 A2 C2, .int .i64 y, .int .i64 z] W (DTo2 W A2 (R2.set y z) (R2.kept y)) := by
    by_cases hn : R2.kept y = 0
    · exact rset_some y z R2 A2 C2 k hf hk hn W h.dl
    · exact rset_none y z R2 A2 C2 k hf hk hn W h.dl
  refine key.mono fun x W' g => ?_
  obtain ⟨A, C, xs, h1, h2, h3⟩ := h
  obtain ⟨A3, C3, rfl, g1, g2, g3⟩ := g
  exact ⟨A3, C3, rfl, Lib.hid ⟨A, C, xs, h1.pend g2.out g1.out g3.out, (h2.below g2.out (Nat.le_refl _)).below ((Below.refl W'.heap.size W').alloc (Nat.le_refl _) _) (Nat.le_refl _), (h3.trans (g2.out.mono h3.size)).alloc (Nat.le_trans h3.size g2.out.size) _⟩⟩
end
theorem Sp.op {g : Nat} {R3 : Rn} {A3 : Option Addr} {C3 : Nat} (h : Sp w e kd n v b g R1 R2 R3 A2 C2 A3 C3 W) : OpB W e kd n v := by
  obtain ⟨_, _, _, _, h, _⟩ := h; exact h
theorem Sp.box {g : Nat} {R3 : Rn} {A3 : Option Addr} {C3 : Nat} (h : Sp w e kd n v b g R1 R2 R3 A2 C2 A3 C3 W) : DBx W (w.heap.size + 1) R2.room R2.first (.slice A2 R2.l.length C2) := by
  obtain ⟨_, _, _, h, _, _⟩ := h; exact h.tw.box
theorem Sp.new {g : Nat} {R3 : Rn} {A3 : Option Addr} {C3 : Nat} (h : Sp w e kd n v b g R1 R2 R3 A2 C2 A3 C3 W) : DBx W g R3.room R3.first (.slice A3 R3.l.length C3) := by
  obtain ⟨_, _, _, h, _, _⟩ := h; exact h.box
theorem Sp.done {g : Nat} {R3 : Rn} {A3 : Option Addr} {C3 : Nat} (h : Sp w e kd n v b g R1 R2 R3 A2 C2 A3 C3 W) :
    St w e kd n v b R1 R3 A3 C3 (((W.setCell ⟨w.heap.size + 1, 0, none⟩ (.int .i64 (R3.room : Int))).setCell ⟨w.heap.size + 1, 1, none⟩ (.int .i64 (R3.first : Int))).setCell ⟨w.heap.size + 1, 2, none⟩ (.slice A3 R3.l.length C3)) := by
  obtain ⟨A, C, xs, h1, h2, h3⟩ := h
  exact ⟨A, C, xs, h1.tw.write h1.dl h1.sd h1.ap, h2.write h1.tw.box _ _ _, ((h3.setCell (p := ⟨w.heap.size + 1, 0, none⟩) (Nat.le_succ _) _).setCell (p := ⟨w.heap.size + 1, 1, none⟩) (Nat.le_succ _) _).setCell (p := ⟨w.heap.size + 1, 2, none⟩) (Nat.le_succ _) _⟩
theorem Sc.op {c : Nat} {Rc : Rn} (h : Sc w e kd n v b c R1 R2 Rc A2 C2 W) : OpB W e kd n v := by
  obtain ⟨_, _, _, _, _, _, _, h, _⟩ := h; exact h
theorem Sc.done {c : Nat} {Rc : Rn} (h : Sc w e kd n v b c R1 R2 Rc A2 C2 W) : St w e kd n v c Rc R2 A2 C2 W := by
  obtain ⟨_, _, _, Ac, Cc, zs, h1, h2, h3⟩ := h
  exact ⟨Ac, Cc, zs, h1.done, h2, h3⟩
theorem St.clear (h : St w e kd n v b R1 R2 A2 C2 W) (z : Nat) : St w e kd n v b R1 ⟨R2.room, z, []⟩ none 0 ((W.setCell ⟨w.heap.size + 1, 1, none⟩ (.int .i64 (z : Int))).setCell ⟨w.heap.size + 1, 2, none⟩ (.slice none 0 0)) := by
  obtain ⟨A, C, xs, h1, h2, h3⟩ := h
  refine ⟨A, C, xs, h1.clear z, ?_, (h3.setCell (p := ⟨w.heap.size + 1, 1, none⟩) (Nat.le_succ _) _).setCell (p := ⟨w.heap.size + 1, 2, none⟩) (Nat.le_succ _) _⟩
  have hk : e ≠ w.heap.size + 1 := cells_apart h2 h1.box (by decide)
  unfold OpB
  rw [Below.heap_setCell _ ⟨w.heap.size + 1, 2, none⟩ _ e hk, Below.heap_setCell _ ⟨w.heap.size + 1, 1, none⟩ _ e hk]
  exact h2
end
end Go.Proofs.Ytjkobejhbgjhlaa
