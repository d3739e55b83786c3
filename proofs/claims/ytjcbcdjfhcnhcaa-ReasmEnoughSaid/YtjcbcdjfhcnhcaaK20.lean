/-
  Own text: layer 18 (reasm): a shard comes: the walk of Take.
-/
import Derived.Test.YtjcbcdjfhcnhcaaK19
namespace Go.Proofs.Ytjcbcdjfhcnhcaa
open Go.RowKit
/-- What Take answers, and leaves. -/
def TakeTo (b t base : Nat) (O : Nat → Prop) (S : Wn) (d : Cd) (w : World) (e : Ending) (w' : World) : Prop :=
  e = .returned (.int .i64 (S.code d)) ∧ Hid (CW w' b t base (OO O w w') none (S.take d)) ∧ Hid (FrO O w w')
theorem Wn.take_no {S : Wn} {d : Cd} (h1 : S.code d ≠ 0) (h2 : S.code d ≠ 171) : S.take d = S := by
  unfold Wn.take
  rw [if_neg h2, if_pos h1]
theorem bad_vals (kind K M ix : Int) (dl : Nat) : badOf kind K M ix dl = 0 ∨ badOf kind K M ix dl = 72 ∨ badOf kind K M ix dl = 62 ∨ badOf kind K M ix dl = 61 := by
  unfold badOf
  split
  · exact .inr (.inl rfl)
  · split
    · exact .inr (.inr (.inl rfl))
    · split
      · exact .inr (.inr (.inr rfl))
      · exact .inl rfl
theorem code_bad {S : Wn} {d : Cd} {z : Int} (h : d.bad = z) (hz : z ≠ 0) : S.code d = z := by
  unfold Wn.code
  rw [h, if_pos hz]
theorem code_far {S : Wn} {d : Cd} {z : Int} (h : d.bad = 0) (h2 : S.far d.A = z) (hz : z ≠ 0) : S.code d = z := by
  unfold Wn.code
  rw [h, if_neg (fun c => c rfl), h2, if_pos hz]
set_option maxRecDepth 100000 in
set_option maxHeartbeats 2000000 in
theorem take18_bad (b t base n : Nat) (O : Nat → Prop) (S : Wn) (kind ses seq path tick K M ix : Int) (A B : Nat) (da : Option Addr) (dl dc b0 b1 : Nat) (w : World) (h : CW w b t base O none S) (hS : S.ok n) (hn : n ≤ 299) (hA : A < 4294967296) (hb : badOf kind K M ix dl ≠ 0) :
    Calls Try.prog 20 #[.pointer (some ⟨b, 0, none⟩), .agg #[.int .i64 kind, .int .u32 ses, .int .u32 seq, .int .i64 path, .int .u32 tick, .int .u32 (A : Nat), .int .u32 (B : Nat), .int .i64 K, .int .i64 M, .int .i64 ix, .slice da dl dc]] w (TakeTo b t base O S (⟨kind, A, B, K, M, ix, dl, b0, b1⟩ : Cd) w) := by
  obtain ⟨W, hW⟩ : ∃ W, W = w.alloc (.cells #[.int .i64 kind, .int .u32 ses, .int .u32 seq, .int .i64 path, .int .u32 tick, .int .u32 (A : Nat), .int .u32 (B : Nat), .int .i64 K, .int .i64 M, .int .i64 ix, .slice da dl dc] 44) := ⟨_, rfl⟩
  have HB0 : Hid (Below w.heap.size w W) := Lib.hid (by rw [hW]; exact (Below.refl _ _).alloc (Nat.le_refl _) _)
  have hDX : Lies W w.heap.size 0 #[.int .i64 kind, .int .u32 ses, .int .u32 seq, .int .i64 path, .int .u32 tick, .int .u32 (A : Nat), .int .u32 (B : Nat), .int .i64 K, .int .i64 M, .int .i64 ix, .slice da dl dc] := by rw [hW]; exact Lies.new _ _ _ (Below.refl _ _)
  have HX : Hid (∀ u, Below W.heap.size W u → u.cell? ⟨w.heap.size, 0, none⟩ = some (.int .i64 kind) ∧ u.cell? ⟨w.heap.size, 1, none⟩ = some (.int .u32 ses) ∧ u.cell? ⟨w.heap.size, 2, none⟩ = some (.int .u32 seq) ∧ u.cell? ⟨w.heap.size, 3, none⟩ = some (.int .i64 path) ∧ u.cell? ⟨w.heap.size, 4, none⟩ = some (.int .u32 tick) ∧ u.cell? ⟨w.heap.size, 5, none⟩ = some (.int .u32 (A : Nat)) ∧ u.cell? ⟨w.heap.size, 6, none⟩ = some (.int .u32 (B : Nat)) ∧ u.cell? ⟨w.heap.size, 7, none⟩ = some (.int .i64 K) ∧ u.cell? ⟨w.heap.size, 8, none⟩ = some (.int .i64 M) ∧ u.cell? ⟨w.heap.size, 9, none⟩ = some (.int .i64 ix) ∧ u.cell? ⟨w.heap.size, 10, none⟩ = some (.slice da dl dc)) := Lib.hid (fun u hu => by
    have hd := hDX.below hu hDX.lt
    exact ⟨lies_get hd 0 rfl, lies_get hd 1 rfl, lies_get hd 2 rfl, lies_get hd 3 rfl, lies_get hd 4 rfl, lies_get hd 5 rfl, lies_get hd 6 rfl, lies_get hd 7 rfl, lies_get hd 8 rfl, lies_get hd 9 rfl, lies_get hd 10 rfl⟩)
  have HCW : Hid (∀ u, Below w.heap.size w u → CW u b t base (OO O w u) none S ∧ FrO O w u) := Lib.hid (fun u hu => ⟨h.over hu, FrO.of_below hu⟩)
  have HCH := Lib.hid (fun u => check18 kind ses seq path tick (A : Nat) (B : Nat) K M ix da dl dc u)
  obtain ⟨x0, x1, x2, x3, x4, x5, x6, x7, x8, x9, x10⟩ := HX.out W (Below.refl _ _)
  have hv := bad_vals kind K M ix dl
  obtain ⟨z, hz⟩ : ∃ z, z = badOf kind K M ix dl := ⟨_, rfl⟩
  rw [← hz] at HCH hb hv
  have hcode : S.code (⟨kind, A, B, K, M, ix, dl, b0, b1⟩ : Cd) = z := code_bad hz.symm hb
  have HNO : Hid (S.take (⟨kind, A, B, K, M, ix, dl, b0, b1⟩ : Cd) = S) := Lib.hid (Wn.take_no (by rw [hcode]; exact hb) (by rw [hcode]; omega))
  have HCO := Lib.hid hcode
  have hne : (z != 0) = true := by simp [hb]
  clear hz hcode hv hb h hS hn hA hDX
  go_enter Try.func20, Try.ntmps20
  go_upto_region 1 with fail
  rw [← hW]
  clear hW
  go_wp2_with (first
    | (go_at_call 45; (with_reducible refine (HCH.out _).mono ?_); rintro e w1 ⟨rfl, hb1⟩; have HW1 := Lib.hid hb1; clear hb1; have HB1 := Lib.hid (HB0.out.trans (HW1.out.mono HB0.out.size)); obtain ⟨x0, x1, x2, x3, x4, x5, x6, x7, x8, x9, x10⟩ := HX.out _ HW1.out)
    | fail "arm")
  go_ret
  exact ⟨congrArg (fun z : Int => Ending.returned (.int .i64 z)) HCO.out.symm, by rw [HNO.out]; exact Lib.hid (HCW.out _ HB1.out).1, Lib.hid (HCW.out _ HB1.out).2⟩
set_option maxRecDepth 100000 in
set_option maxHeartbeats 2000000 in
theorem take18_old (b t base n : Nat) (O : Nat → Prop) (S : Wn) (kind ses seq path tick K M ix : Int) (A B : Nat) (da : Option Addr) (dl dc b0 b1 : Nat) (w : World) (h : CW w b t base O none S) (hS : S.ok n) (hn : n ≤ 299) (hA : A < 4294967296) (hb : badOf kind K M ix dl = 0) (hfar : S.far A = 90) (hz : aheadZ A S.base < 0) :
    Calls Try.prog 20 #[.pointer (some ⟨b, 0, none⟩), .agg #[.int .i64 kind, .int .u32 ses, .int .u32 seq, .int .i64 path, .int .u32 tick, .int .u32 (A : Nat), .int .u32 (B : Nat), .int .i64 K, .int .i64 M, .int .i64 ix, .slice da dl dc]] w (TakeTo b t base O S (⟨kind, A, B, K, M, ix, dl, b0, b1⟩ : Cd) w) := by
  obtain ⟨W, hW⟩ : ∃ W, W = w.alloc (.cells #[.int .i64 kind, .int .u32 ses, .int .u32 seq, .int .i64 path, .int .u32 tick, .int .u32 (A : Nat), .int .u32 (B : Nat), .int .i64 K, .int .i64 M, .int .i64 ix, .slice da dl dc] 44) := ⟨_, rfl⟩
  have HB0 : Hid (Below w.heap.size w W) := Lib.hid (by rw [hW]; exact (Below.refl _ _).alloc (Nat.le_refl _) _)
  have hDX : Lies W w.heap.size 0 #[.int .i64 kind, .int .u32 ses, .int .u32 seq, .int .i64 path, .int .u32 tick, .int .u32 (A : Nat), .int .u32 (B : Nat), .int .i64 K, .int .i64 M, .int .i64 ix, .slice da dl dc] := by rw [hW]; exact Lies.new _ _ _ (Below.refl _ _)
  have HX : Hid (∀ u, Below W.heap.size W u → u.cell? ⟨w.heap.size, 0, none⟩ = some (.int .i64 kind) ∧ u.cell? ⟨w.heap.size, 1, none⟩ = some (.int .u32 ses) ∧ u.cell? ⟨w.heap.size, 2, none⟩ = some (.int .u32 seq) ∧ u.cell? ⟨w.heap.size, 3, none⟩ = some (.int .i64 path) ∧ u.cell? ⟨w.heap.size, 4, none⟩ = some (.int .u32 tick) ∧ u.cell? ⟨w.heap.size, 5, none⟩ = some (.int .u32 (A : Nat)) ∧ u.cell? ⟨w.heap.size, 6, none⟩ = some (.int .u32 (B : Nat)) ∧ u.cell? ⟨w.heap.size, 7, none⟩ = some (.int .i64 K) ∧ u.cell? ⟨w.heap.size, 8, none⟩ = some (.int .i64 M) ∧ u.cell? ⟨w.heap.size, 9, none⟩ = some (.int .i64 ix) ∧ u.cell? ⟨w.heap.size, 10, none⟩ = some (.slice da dl dc)) := Lib.hid (fun u hu => by
    have hd := hDX.below hu hDX.lt
    exact ⟨lies_get hd 0 rfl, lies_get hd 1 rfl, lies_get hd 2 rfl, lies_get hd 3 rfl, lies_get hd 4 rfl, lies_get hd 5 rfl, lies_get hd 6 rfl, lies_get hd 7 rfl, lies_get hd 8 rfl, lies_get hd 9 rfl, lies_get hd 10 rfl⟩)
  have HCW : Hid (∀ u, Below w.heap.size w u → CW u b t base (OO O w u) none S ∧ FrO O w u) := Lib.hid (fun u hu => ⟨h.over hu, FrO.of_below hu⟩)
  have HCH := Lib.hid (fun u => check18 kind ses seq path tick (A : Nat) (B : Nat) K M ix da dl dc u)
  obtain ⟨x0, x1, x2, x3, x4, x5, x6, x7, x8, x9, x10⟩ := HX.out W (Below.refl _ _)
  have hcode : S.code (⟨kind, A, B, K, M, ix, dl, b0, b1⟩ : Cd) = 90 := code_far hb hfar (by omega)
  have HNO : Hid (S.take (⟨kind, A, B, K, M, ix, dl, b0, b1⟩ : Cd) = S) := Lib.hid (Wn.take_no (by rw [hcode]; omega) (by rw [hcode]; omega))
  have HCO := Lib.hid hcode
  rw [hb] at HCH
  have hbase : S.base ≤ 300 := by have := hS.base; omega
  have HAT : Hid (∀ u, Below w.heap.size w u → Calls Try.prog 46 #[.pointer (some ⟨b, 0, none⟩), .int .u32 (A : Nat)] u fun e u' => e = .returned (.tuple #[.pointer none, .int .i64 90]) ∧ u = u') := Lib.hid (fun u hu => by
    obtain ⟨sv, rd, h1, _⟩ := (h.below hu).ex
    exact (at18 b S.base A (A % 32) hA (by omega) rfl u h1.cells.2.1).mono fun e u' he => ⟨by rw [he.1, if_pos hz], he.2⟩)
  clear hcode hfar hz hb h hS hn hA hDX hbase
  go_enter Try.func20, Try.ntmps20
  go_upto_region 1 with fail
  rw [← hW]
  clear hW
  go_wp2_with (first
    | (go_at_call 45; (with_reducible refine (HCH.out _).mono ?_); rintro e w1 ⟨rfl, hb1⟩; have HW1 := Lib.hid hb1; clear hb1; have HB1 := Lib.hid (HB0.out.trans (HW1.out.mono HB0.out.size)); obtain ⟨x0, x1, x2, x3, x4, x5, x6, x7, x8, x9, x10⟩ := HX.out _ HW1.out)
    | (go_at_call 46; (with_reducible refine (HAT.out _ HB1.out).mono ?_); rintro e w1' ⟨rfl, rfl⟩)
    | fail "arm")
  go_ret
  exact ⟨congrArg (fun z : Int => Ending.returned (.int .i64 z)) HCO.out.symm, by rw [HNO.out]; exact Lib.hid (HCW.out _ HB1.out).1, Lib.hid (HCW.out _ HB1.out).2⟩
set_option maxRecDepth 100000 in
set_option maxHeartbeats 2000000 in
theorem take18_long (b t base n : Nat) (O : Nat → Prop) (S : Wn) (kind ses seq path tick K M ix : Int) (A B : Nat) (da : Option Addr) (dl dc b0 b1 : Nat) (w : World) (h : CW w b t base O none S) (hS : S.ok n) (hn : n ≤ 299) (hA : A < 4294967296) (hb : badOf kind K M ix dl = 0) (hfar : S.far A = 2) (hz : 32 ≤ aheadZ A S.base) :
    Calls Try.prog 20 #[.pointer (some ⟨b, 0, none⟩), .agg #[.int .i64 kind, .int .u32 ses, .int .u32 seq, .int .i64 path, .int .u32 tick, .int .u32 (A : Nat), .int .u32 (B : Nat), .int .i64 K, .int .i64 M, .int .i64 ix, .slice da dl dc]] w (TakeTo b t base O S (⟨kind, A, B, K, M, ix, dl, b0, b1⟩ : Cd) w) := by
  obtain ⟨W, hW⟩ : ∃ W, W = w.alloc (.cells #[.int .i64 kind, .int .u32 ses, .int .u32 seq, .int .i64 path, .int .u32 tick, .int .u32 (A : Nat), .int .u32 (B : Nat), .int .i64 K, .int .i64 M, .int .i64 ix, .slice da dl dc] 44) := ⟨_, rfl⟩
  have HB0 : Hid (Below w.heap.size w W) := Lib.hid (by rw [hW]; exact (Below.refl _ _).alloc (Nat.le_refl _) _)
  have hDX : Lies W w.heap.size 0 #[.int .i64 kind, .int .u32 ses, .int .u32 seq, .int .i64 path, .int .u32 tick, .int .u32 (A : Nat), .int .u32 (B : Nat), .int .i64 K, .int .i64 M, .int .i64 ix, .slice da dl dc] := by rw [hW]; exact Lies.new _ _ _ (Below.refl _ _)
  have HX : Hid (∀ u, Below W.heap.size W u → u.cell? ⟨w.heap.size, 0, none⟩ = some (.int .i64 kind) ∧ u.cell? ⟨w.heap.size, 1, none⟩ = some (.int .u32 ses) ∧ u.cell? ⟨w.heap.size, 2, none⟩ = some (.int .u32 seq) ∧ u.cell? ⟨w.heap.size, 3, none⟩ = some (.int .i64 path) ∧ u.cell? ⟨w.heap.size, 4, none⟩ = some (.int .u32 tick) ∧ u.cell? ⟨w.heap.size, 5, none⟩ = some (.int .u32 (A : Nat)) ∧ u.cell? ⟨w.heap.size, 6, none⟩ = some (.int .u32 (B : Nat)) ∧ u.cell? ⟨w.heap.size, 7, none⟩ = some (.int .i64 K) ∧ u.cell? ⟨w.heap.size, 8, none⟩ = some (.int .i64 M) ∧ u.cell? ⟨w.heap.size, 9, none⟩ = some (.int .i64 ix) ∧ u.cell? ⟨w.heap.size, 10, none⟩ = some (.slice da dl dc)) := Lib.hid (fun u hu => by
    have hd := hDX.below hu hDX.lt
    exact ⟨lies_get hd 0 rfl, lies_get hd 1 rfl, lies_get hd 2 rfl, lies_get hd 3 rfl, lies_get hd 4 rfl, lies_get hd 5 rfl, lies_get hd 6 rfl, lies_get hd 7 rfl, lies_get hd 8 rfl, lies_get hd 9 rfl, lies_get hd 10 rfl⟩)
  have HCW : Hid (∀ u, Below w.heap.size w u → CW u b t base (OO O w u) none S ∧ FrO O w u) := Lib.hid (fun u hu => ⟨h.over hu, FrO.of_below hu⟩)
  have HCH := Lib.hid (fun u => check18 kind ses seq path tick (A : Nat) (B : Nat) K M ix da dl dc u)
  obtain ⟨x0, x1, x2, x3, x4, x5, x6, x7, x8, x9, x10⟩ := HX.out W (Below.refl _ _)
  have hcode : S.code (⟨kind, A, B, K, M, ix, dl, b0, b1⟩ : Cd) = 2 := code_far hb hfar (by omega)
  have HNO : Hid (S.take (⟨kind, A, B, K, M, ix, dl, b0, b1⟩ : Cd) = S) := Lib.hid (Wn.take_no (by rw [hcode]; omega) (by rw [hcode]; omega))
  have HCO := Lib.hid hcode
  rw [hb] at HCH
  have hbase : S.base ≤ 300 := by have := hS.base; omega
  have HAT : Hid (∀ u, Below w.heap.size w u → Calls Try.prog 46 #[.pointer (some ⟨b, 0, none⟩), .int .u32 (A : Nat)] u fun e u' => e = .returned (.tuple #[.pointer none, .int .i64 2]) ∧ u = u') := Lib.hid (fun u hu => by
    obtain ⟨sv, rd, h1, _⟩ := (h.below hu).ex
    exact (at18 b S.base A (A % 32) hA (by omega) rfl u h1.cells.2.1).mono fun e u' he => ⟨by rw [he.1, if_neg (by omega), if_pos hz], he.2⟩)
  clear hcode hfar hz hb h hS hn hA hDX hbase
  go_enter Try.func20, Try.ntmps20
  go_upto_region 1 with fail
  rw [← hW]
  clear hW
  go_wp2_with (first
    | (go_at_call 45; (with_reducible refine (HCH.out _).mono ?_); rintro e w1 ⟨rfl, hb1⟩; have HW1 := Lib.hid hb1; clear hb1; have HB1 := Lib.hid (HB0.out.trans (HW1.out.mono HB0.out.size)); obtain ⟨x0, x1, x2, x3, x4, x5, x6, x7, x8, x9, x10⟩ := HX.out _ HW1.out)
    | (go_at_call 46; (with_reducible refine (HAT.out _ HB1.out).mono ?_); rintro e w1' ⟨rfl, rfl⟩)
    | fail "arm")
  go_ret
  exact ⟨congrArg (fun z : Int => Ending.returned (.int .i64 z)) HCO.out.symm, by rw [HNO.out]; exact Lib.hid (HCW.out _ HB1.out).1, Lib.hid (HCW.out _ HB1.out).2⟩
set_option maxRecDepth 100000 in
set_option maxHeartbeats 4000000 in
theorem take18_other (b t base n : Nat) (O : Nat → Prop) (S : Wn) (kind ses seq path tick K M ix : Int) (A B : Nat) (da : Option Addr) (dl dc b0 b1 : Nat) (w : World) (h : CW w b t base O none S) (hS : S.ok n) (hn : n ≤ 299) (hA : A < 4294967296) (hb : badOf kind K M ix dl = 0) (hfar : S.far A = 0) (hz : 0 ≤ aheadZ A S.base ∧ aheadZ A S.base < 32 ∧ S.base ≤ A ∧ A < S.base + 32) (hc : S.code (⟨kind, A, B, K, M, ix, dl, b0, b1⟩ : Cd) ≠ 0) :
    Calls Try.prog 20 #[.pointer (some ⟨b, 0, none⟩), .agg #[.int .i64 kind, .int .u32 ses, .int .u32 seq, .int .i64 path, .int .u32 tick, .int .u32 (A : Nat), .int .u32 (B : Nat), .int .i64 K, .int .i64 M, .int .i64 ix, .slice da dl dc]] w (TakeTo b t base O S (⟨kind, A, B, K, M, ix, dl, b0, b1⟩ : Cd) w) := by
  obtain ⟨W, hW⟩ : ∃ W, W = w.alloc (.cells #[.int .i64 kind, .int .u32 ses, .int .u32 seq, .int .i64 path, .int .u32 tick, .int .u32 (A : Nat), .int .u32 (B : Nat), .int .i64 K, .int .i64 M, .int .i64 ix, .slice da dl dc] 44) := ⟨_, rfl⟩
  have HB0 : Hid (Below w.heap.size w W) := Lib.hid (by rw [hW]; exact (Below.refl _ _).alloc (Nat.le_refl _) _)
  have hDX : Lies W w.heap.size 0 #[.int .i64 kind, .int .u32 ses, .int .u32 seq, .int .i64 path, .int .u32 tick, .int .u32 (A : Nat), .int .u32 (B : Nat), .int .i64 K, .int .i64 M, .int .i64 ix, .slice da dl dc] := by rw [hW]; exact Lies.new _ _ _ (Below.refl _ _)
  have HX : Hid (∀ u, Below W.heap.size W u → u.cell? ⟨w.heap.size, 0, none⟩ = some (.int .i64 kind) ∧ u.cell? ⟨w.heap.size, 1, none⟩ = some (.int .u32 ses) ∧ u.cell? ⟨w.heap.size, 2, none⟩ = some (.int .u32 seq) ∧ u.cell? ⟨w.heap.size, 3, none⟩ = some (.int .i64 path) ∧ u.cell? ⟨w.heap.size, 4, none⟩ = some (.int .u32 tick) ∧ u.cell? ⟨w.heap.size, 5, none⟩ = some (.int .u32 (A : Nat)) ∧ u.cell? ⟨w.heap.size, 6, none⟩ = some (.int .u32 (B : Nat)) ∧ u.cell? ⟨w.heap.size, 7, none⟩ = some (.int .i64 K) ∧ u.cell? ⟨w.heap.size, 8, none⟩ = some (.int .i64 M) ∧ u.cell? ⟨w.heap.size, 9, none⟩ = some (.int .i64 ix) ∧ u.cell? ⟨w.heap.size, 10, none⟩ = some (.slice da dl dc)) := Lib.hid (fun u hu => by
    have hd := hDX.below hu hDX.lt
    exact ⟨lies_get hd 0 rfl, lies_get hd 1 rfl, lies_get hd 2 rfl, lies_get hd 3 rfl, lies_get hd 4 rfl, lies_get hd 5 rfl, lies_get hd 6 rfl, lies_get hd 7 rfl, lies_get hd 8 rfl, lies_get hd 9 rfl, lies_get hd 10 rfl⟩)
  have HCW : Hid (∀ u, Below w.heap.size w u → CW u b t base (OO O w u) none S ∧ FrO O w u) := Lib.hid (fun u hu => ⟨h.over hu, FrO.of_below hu⟩)
  have HCH := Lib.hid (fun u => check18 kind ses seq path tick (A : Nat) (B : Nat) K M ix da dl dc u)
  obtain ⟨x0, x1, x2, x3, x4, x5, x6, x7, x8, x9, x10⟩ := HX.out W (Below.refl _ _)
  rw [hb] at HCH
  have hbase : S.base ≤ 300 := by have := hS.base; omega
  have hdb : S.doubles ≤ 300 := by have := hS.doubles; omega
  have HAT : Hid (∀ u, Below w.heap.size w u → Calls Try.prog 46 #[.pointer (some ⟨b, 0, none⟩), .int .u32 (A : Nat)] u fun e u' => e = .returned (.tuple #[.pointer (some ⟨b, 5 + A % 32 * 5, none⟩), .int .i64 0]) ∧ u = u') := Lib.hid (fun u hu => by
    obtain ⟨sv, rd, h1, _⟩ := (h.below hu).ex
    exact (at18 b S.base A (A % 32) hA (by omega) rfl u h1.cells.2.1).mono fun e u' he => ⟨by rw [he.1, if_neg (by omega), if_neg (by omega)], he.2⟩)
  obtain ⟨sv, rd, g1, g2, g3, g4, g5, g6, g7⟩ := h.ex
  have hs0 : A % 32 < 32 := Nat.mod_lt _ (by omega)
  have hi := g4 _ hs0
  have hraw : ((none : Option Nat) == some (A % 32)) = false := rfl
  rw [hraw] at hi
  obtain ⟨pf, pk, pm, SA, m, SC, QA, qn, QC, sh, hc5⟩ := CW.cells5 (d := (⟨kind, A, B, K, M, ix, dl, b0, b1⟩ : Cd)) hS hz.2.2 hi
  have hl := g1.lies hs0
  rw [hc5.eq] at hl
  have hbw : b < w.heap.size := hl.lt
  have HL : Hid (∀ u, Below w.heap.size w u → Lies u b (5 + A % 32 * 5) #[.int .u32 (pf : Nat), .int .i64 (pk : Nat), .int .i64 (pm : Nat), .slice SA m SC, .slice QA qn QC] ∧ WB u b t S.base S.frames S.doubles S.mended sv rd ∧ ShO u base (fun _ => True) (.slice SA m SC) sh) := Lib.hid (fun u hu => ⟨hl.below hu hbw, g1.keep (hu.block b hbw), hc5.row.below hu (Nat.le_refl _)⟩)
  have HCM := Lib.hid (fun u (hu : Below w.heap.size w u) => came18 b (5 + A % 32 * 5) (pk : Nat) u (lies_get (HL.out u hu).1 1 rfl))
  have HFI := Lib.hid (fun u (hu : Below w.heap.size w u) => fits18 b (5 + A % 32 * 5) (pf : Nat) (pk : Nat) (pm : Nat) kind ses seq path tick (A : Nat) (B : Nat) K M ix da dl dc u (by have := lies_get (HL.out u hu).1 0 rfl; rwa [Nat.add_zero] at this) (lies_get (HL.out u hu).1 1 rfl) (lies_get (HL.out u hu).1 2 rfl))
  have HWH := Lib.hid (fun u (hu : Below w.heap.size w u) => whole18 b (5 + A % 32 * 5) qn QC QA u (lies_get (HL.out u hu).1 4 rfl))
  have HHS : Hid (∀ u, Below w.heap.size w u → Calls Try.prog 50 #[.pointer (some ⟨b, 5 + A % 32 * 5, none⟩), .int .i64 ix] u fun e u' => e = .returned (.bool (hasIx sh ix)) ∧ Below u.heap.size u u') := Lib.hid (fun u hu => by
    obtain ⟨A', C', hs⟩ := (HL.out u hu).2.2.shards hc5.len hc5.ix
    exact has18 b (5 + A % 32 * 5) m SC SA sh A' (fun _ => 2) C' (byL sh) ix u (by have := hc5.le; omega) hc5.len (lies_get (HL.out u hu).1 3 rfl) hs)
  have hcode : S.code (⟨kind, A, B, K, M, ix, dl, b0, b1⟩ : Cd) = if 0 < pk ∧ ¬ (B = pf ∧ K = (pk : Nat) ∧ M = (pm : Nat)) then 170 else if 0 < qn ∨ hasIx sh ix = true then 171 else 0 := by
    have hcc := hc5.code
    rw [if_neg (fun c => c hb), if_neg (fun c => c hfar)] at hcc
    exact hcc
  have hBe : (((B : Nat) : Int) = ((pf : Nat) : Int) ∧ K = ((pk : Nat) : Int) ∧ M = ((pm : Nat) : Int)) ↔ (B = pf ∧ K = ((pk : Nat) : Int) ∧ M = ((pm : Nat) : Int)) := by
    constructor <;> (rintro ⟨q1, q2, q3⟩; exact ⟨by omega, q2, q3⟩)
  rw [hcode] at hc
  have j3 : (S.doubles : Int) ≤ 300 := by omega
  have HTW : Hid (∀ u, Below w.heap.size w u → ∀ v, v = Value.int .i64 ((S.doubles + 1 : Nat) : Int) → CW (u.setCell ⟨b, 3, none⟩ v) b t base (OO O w (u.setCell ⟨b, 3, none⟩ v)) none S.twice ∧ FrO O w (u.setCell ⟨b, 3, none⟩ v)) := Lib.hid (fun u hu v hv => by
    subst hv
    have h1 := (HCW.out u hu).1.twice
    exact ⟨h1.1.flat (HCW.out u hu).2.size h1.2.size h.low h.own, (HCW.out u hu).2.trans h1.2⟩)
  by_cases q1 : 0 < pk ∧ ¬ (B = pf ∧ K = (pk : Nat) ∧ M = (pm : Nat))
  · rw [if_pos q1] at hcode
    have HNO : Hid (S.take (⟨kind, A, B, K, M, ix, dl, b0, b1⟩ : Cd) = S) := Lib.hid (Wn.take_no (by rw [hcode]; omega) (by rw [hcode]; omega))
    have HCO := Lib.hid hcode
    have v1 : decide ((0 : Int) < ((pk : Nat) : Int)) = true := decide_eq_true (by have := q1.1; omega)
    have v2 : decide (((B : Nat) : Int) = ((pf : Nat) : Int) ∧ K = ((pk : Nat) : Int) ∧ M = ((pm : Nat) : Int)) = false := decide_eq_false (fun hh => q1.2 (hBe.1 hh))
    rw [v1] at HCM
    rw [v2] at HFI
    clear hb hfar hz h hS hn hA hDX hbase g1 g2 g3 g4 g5 g6 g7 hi hraw hc5 hl hs0 hbw
    clear hcode q1 v1 v2 hBe HTW hc
    generalize A % 32 = s0 at *
    go_enter Try.func20, Try.ntmps20
    go_upto_region 1 with fail
    rw [← hW]
    clear hW
    go_wp2_with (first
      | (go_at_call 45; (with_reducible refine (HCH.out _).mono ?_); rintro e w1 ⟨rfl, hb1⟩; have HW1 := Lib.hid hb1; clear hb1; have HB1 := Lib.hid (HB0.out.trans (HW1.out.mono HB0.out.size)); obtain ⟨x0, x1, x2, x3, x4, x5, x6, x7, x8, x9, x10⟩ := HX.out _ HW1.out)
      | (go_at_call 46; (with_reducible refine (HAT.out _ HB1.out).mono ?_); rintro e w1' ⟨rfl, rfl⟩)
      | (go_at_call 47; (with_reducible refine (HCM.out _ HB1.out).mono ?_); rintro e w1'' ⟨rfl, rfl⟩)
      | (go_at_call 48; (with_reducible refine (HFI.out _ HB1.out).mono ?_); rintro e w2 ⟨rfl, hb2⟩; have HW2 := Lib.hid (HW1.out.trans (hb2.mono HW1.out.size)); have HB2 := Lib.hid (HB1.out.trans (hb2.mono HB1.out.size)); clear hb2; obtain ⟨x0, x1, x2, x3, x4, x5, x6, x7, x8, x9, x10⟩ := HX.out _ HW2.out)
      | fail "arm")
    go_ret
    exact ⟨congrArg (fun z : Int => Ending.returned (.int .i64 z)) HCO.out.symm, by rw [HNO.out]; exact Lib.hid (HCW.out _ HB2.out).1, Lib.hid (HCW.out _ HB2.out).2⟩
  · rw [if_neg q1] at hcode hc
    have q2 : 0 < qn ∨ hasIx sh ix = true := Decidable.byContradiction (fun hh => by rw [if_neg hh] at hc; exact hc rfl)
    rw [if_pos q2] at hcode
    have HNO : Hid (S.take (⟨kind, A, B, K, M, ix, dl, b0, b1⟩ : Cd) = S.twice) := Lib.hid (by unfold Wn.take; rw [if_pos hcode])
    have HCO := Lib.hid hcode
    by_cases q3 : 0 < pk
    all_goals by_cases q4 : 0 < qn
    · have v1 : decide ((0 : Int) < ((pk : Nat) : Int)) = true := decide_eq_true (by omega)
      have v2 : decide (((B : Nat) : Int) = ((pf : Nat) : Int) ∧ K = ((pk : Nat) : Int) ∧ M = ((pm : Nat) : Int)) = true := decide_eq_true (hBe.2 (Decidable.byContradiction (fun hh => q1 ⟨q3, hh⟩)))
      rw [v1] at HCM
      rw [v2] at HFI
      have v3 : decide (0 < qn) = true := decide_eq_true q4
      rw [v3] at HWH
      clear hb hfar hz h hS hn hA hDX hbase g1 g2 g3 g4 g5 g6 g7 hi hraw hc5 hl hs0 hbw
      clear hcode q1 q2 q3 q4 hBe hc v1 v3 v2
      generalize A % 32 = s0 at *
      go_enter Try.func20, Try.ntmps20
      go_upto_region 1 with fail
      rw [← hW]
      clear hW
      go_wp2_with (first
        | (go_at_call 45; (with_reducible refine (HCH.out _).mono ?_); rintro e w1 ⟨rfl, hb1⟩; have HW1 := Lib.hid hb1; clear hb1; have HB1 := Lib.hid (HB0.out.trans (HW1.out.mono HB0.out.size)); obtain ⟨x0, x1, x2, x3, x4, x5, x6, x7, x8, x9, x10⟩ := HX.out _ HW1.out)
        | (go_at_call 46; (with_reducible refine (HAT.out _ HB1.out).mono ?_); rintro e w1' ⟨rfl, rfl⟩)
        | (go_at_call 47; (with_reducible refine (HCM.out _ HB1.out).mono ?_); rintro e w1'' ⟨rfl, rfl⟩)
        | (go_at_call 48; (with_reducible refine (HFI.out _ HB1.out).mono ?_); rintro e w2 ⟨rfl, hb2⟩; have HW2 := Lib.hid (HW1.out.trans (hb2.mono HW1.out.size)); have HB2 := Lib.hid (HB1.out.trans (hb2.mono HB1.out.size)); clear hb2; obtain ⟨x0, x1, x2, x3, x4, x5, x6, x7, x8, x9, x10⟩ := HX.out _ HW2.out)
        | (go_at_call 49; (with_reducible refine (HWH.out _ HB2.out).mono ?_); rintro e w2' ⟨rfl, rfl⟩; obtain ⟨_, _, _, k3, _⟩ := (HL.out _ HB2.out).2.1.cells; have q3 := (HL.out _ HB2.out).2.1.frozen 3)
        | fail "arm")
      go_ret
      exact ⟨congrArg (fun z : Int => Ending.returned (.int .i64 z)) HCO.out.symm, by rw [HNO.out]; exact Lib.hid (HTW.out _ HB2.out _ (by simp)).1, Lib.hid (HTW.out _ HB2.out _ (by simp)).2⟩
    · have v1 : decide ((0 : Int) < ((pk : Nat) : Int)) = true := decide_eq_true (by omega)
      have v2 : decide (((B : Nat) : Int) = ((pf : Nat) : Int) ∧ K = ((pk : Nat) : Int) ∧ M = ((pm : Nat) : Int)) = true := decide_eq_true (hBe.2 (Decidable.byContradiction (fun hh => q1 ⟨q3, hh⟩)))
      rw [v1] at HCM
      rw [v2] at HFI
      have v3 : decide (0 < qn) = false := decide_eq_false q4
      rw [v3] at HWH
      have v4 : hasIx sh ix = true := q2.elim (fun hh => absurd hh q4) id
      rw [v4] at HHS
      clear hb hfar hz h hS hn hA hDX hbase g1 g2 g3 g4 g5 g6 g7 hi hraw hc5 hl hs0 hbw
      clear hcode q1 q2 q3 q4 hBe hc v1 v3 v2 v4
      generalize A % 32 = s0 at *
      go_enter Try.func20, Try.ntmps20
      go_upto_region 1 with fail
      rw [← hW]
      clear hW
      go_wp2_with (first
        | (go_at_call 45; (with_reducible refine (HCH.out _).mono ?_); rintro e w1 ⟨rfl, hb1⟩; have HW1 := Lib.hid hb1; clear hb1; have HB1 := Lib.hid (HB0.out.trans (HW1.out.mono HB0.out.size)); obtain ⟨x0, x1, x2, x3, x4, x5, x6, x7, x8, x9, x10⟩ := HX.out _ HW1.out)
        | (go_at_call 46; (with_reducible refine (HAT.out _ HB1.out).mono ?_); rintro e w1' ⟨rfl, rfl⟩)
        | (go_at_call 47; (with_reducible refine (HCM.out _ HB1.out).mono ?_); rintro e w1'' ⟨rfl, rfl⟩)
        | (go_at_call 48; (with_reducible refine (HFI.out _ HB1.out).mono ?_); rintro e w2 ⟨rfl, hb2⟩; have HW2 := Lib.hid (HW1.out.trans (hb2.mono HW1.out.size)); have HB2 := Lib.hid (HB1.out.trans (hb2.mono HB1.out.size)); clear hb2; obtain ⟨x0, x1, x2, x3, x4, x5, x6, x7, x8, x9, x10⟩ := HX.out _ HW2.out)
        | (go_at_call 49; (with_reducible refine (HWH.out _ HB2.out).mono ?_); rintro e w2' ⟨rfl, rfl⟩)
        | (go_at_call 50; (with_reducible refine (HHS.out _ HB2.out).mono ?_); rintro e w3 ⟨rfl, hb3⟩; have HW3 := Lib.hid (HW2.out.trans (hb3.mono HW2.out.size)); have HB3 := Lib.hid (HB2.out.trans (hb3.mono HB2.out.size)); clear hb3; obtain ⟨x0, x1, x2, x3, x4, x5, x6, x7, x8, x9, x10⟩ := HX.out _ HW3.out; obtain ⟨_, _, _, k3, _⟩ := (HL.out _ HB3.out).2.1.cells; have q3 := (HL.out _ HB3.out).2.1.frozen 3)
        | fail "arm")
      go_ret
      exact ⟨congrArg (fun z : Int => Ending.returned (.int .i64 z)) HCO.out.symm, by rw [HNO.out]; exact Lib.hid (HTW.out _ HB3.out _ (by simp)).1, Lib.hid (HTW.out _ HB3.out _ (by simp)).2⟩
    · have v1 : decide ((0 : Int) < ((pk : Nat) : Int)) = false := decide_eq_false (by omega)
      rw [v1] at HCM
      have v3 : decide (0 < qn) = true := decide_eq_true q4
      rw [v3] at HWH
      clear hb hfar hz h hS hn hA hDX hbase g1 g2 g3 g4 g5 g6 g7 hi hraw hc5 hl hs0 hbw
      clear hcode q1 q2 q3 q4 hBe hc v1 v3
      generalize A % 32 = s0 at *
      go_enter Try.func20, Try.ntmps20
      go_upto_region 1 with fail
      rw [← hW]
      clear hW
      go_wp2_with (first
        | (go_at_call 45; (with_reducible refine (HCH.out _).mono ?_); rintro e w1 ⟨rfl, hb1⟩; have HW1 := Lib.hid hb1; clear hb1; have HB1 := Lib.hid (HB0.out.trans (HW1.out.mono HB0.out.size)); obtain ⟨x0, x1, x2, x3, x4, x5, x6, x7, x8, x9, x10⟩ := HX.out _ HW1.out)
        | (go_at_call 46; (with_reducible refine (HAT.out _ HB1.out).mono ?_); rintro e w1' ⟨rfl, rfl⟩)
        | (go_at_call 47; (with_reducible refine (HCM.out _ HB1.out).mono ?_); rintro e w1'' ⟨rfl, rfl⟩)
        | (go_at_call 49; (with_reducible refine (HWH.out _ HB1.out).mono ?_); rintro e w2' ⟨rfl, rfl⟩; obtain ⟨_, _, _, k3, _⟩ := (HL.out _ HB1.out).2.1.cells; have q3 := (HL.out _ HB1.out).2.1.frozen 3)
        | fail "arm")
      go_ret
      exact ⟨congrArg (fun z : Int => Ending.returned (.int .i64 z)) HCO.out.symm, by rw [HNO.out]; exact Lib.hid (HTW.out _ HB1.out _ (by simp)).1, Lib.hid (HTW.out _ HB1.out _ (by simp)).2⟩
    · have v1 : decide ((0 : Int) < ((pk : Nat) : Int)) = false := decide_eq_false (by omega)
      rw [v1] at HCM
      have v3 : decide (0 < qn) = false := decide_eq_false q4
      rw [v3] at HWH
      have v4 : hasIx sh ix = true := q2.elim (fun hh => absurd hh q4) id
      rw [v4] at HHS
      clear hb hfar hz h hS hn hA hDX hbase g1 g2 g3 g4 g5 g6 g7 hi hraw hc5 hl hs0 hbw
      clear hcode q1 q2 q3 q4 hBe hc v1 v3 v4
      generalize A % 32 = s0 at *
      go_enter Try.func20, Try.ntmps20
      go_upto_region 1 with fail
      rw [← hW]
      clear hW
      go_wp2_with (first
        | (go_at_call 45; (with_reducible refine (HCH.out _).mono ?_); rintro e w1 ⟨rfl, hb1⟩; have HW1 := Lib.hid hb1; clear hb1; have HB1 := Lib.hid (HB0.out.trans (HW1.out.mono HB0.out.size)); obtain ⟨x0, x1, x2, x3, x4, x5, x6, x7, x8, x9, x10⟩ := HX.out _ HW1.out)
        | (go_at_call 46; (with_reducible refine (HAT.out _ HB1.out).mono ?_); rintro e w1' ⟨rfl, rfl⟩)
        | (go_at_call 47; (with_reducible refine (HCM.out _ HB1.out).mono ?_); rintro e w1'' ⟨rfl, rfl⟩)
        | (go_at_call 49; (with_reducible refine (HWH.out _ HB1.out).mono ?_); rintro e w2' ⟨rfl, rfl⟩)
        | (go_at_call 50; (with_reducible refine (HHS.out _ HB1.out).mono ?_); rintro e w3 ⟨rfl, hb3⟩; have HW3 := Lib.hid (HW1.out.trans (hb3.mono HW1.out.size)); have HB3 := Lib.hid (HB1.out.trans (hb3.mono HB1.out.size)); clear hb3; obtain ⟨x0, x1, x2, x3, x4, x5, x6, x7, x8, x9, x10⟩ := HX.out _ HW3.out; obtain ⟨_, _, _, k3, _⟩ := (HL.out _ HB3.out).2.1.cells; have q3 := (HL.out _ HB3.out).2.1.frozen 3)
        | fail "arm")
      go_ret
      exact ⟨congrArg (fun z : Int => Ending.returned (.int .i64 z)) HCO.out.symm, by rw [HNO.out]; exact Lib.hid (HTW.out _ HB3.out _ (by simp)).1, Lib.hid (HTW.out _ HB3.out _ (by simp)).2⟩
end Go.Proofs.Ytjcbcdjfhcnhcaa
