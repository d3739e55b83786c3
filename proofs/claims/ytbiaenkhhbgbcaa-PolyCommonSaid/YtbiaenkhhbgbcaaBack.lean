/-
  Own text: slices.Backward over bytes: what its iterator hands over, and what a loop's body must keep.
-/
import Derived.Test.YtbiaenkhhbgbcaaByteB
import Derived.RangeFuncNested
import Derived.RangeFuncBox
import Derived.RangeFuncBound
import Derived.RangeFuncCalls
import Derived.RangeFuncLeaves
import Derived.Shelf.Abstract
import Derived.Shelf.RegionOpen
import Derived.OwnWalkIn
import Derived.TacticsInMore
import Derived.LoopNIn
import Derived.LoopIn
namespace Go.Proofs.Ytbiaenkhhbgbcaa
open Go.RowKit Go.Shelf
attribute [local go_sem] Oper.semAt_some

/-- A place of a list of m, and what may stand there. -/
abbrev Spot (m : Nat) (V : Nat → Int → Prop) := { p : Nat × Int // p.1 < m ∧ V p.1 p.2 }
/-- The places from the last one down, so many. -/
def down (m k : Nat) : List Nat := (List.range k).map (fun j => m - 1 - j)
theorem down_succ (m k : Nat) : down m (k + 1) = down m k ++ [m - 1 - k] := by simp [down, List.range_succ]
theorem down_length (m k : Nat) : (down m k).length = k := by simp [down]
/-- Which places have come. -/
def placesOf {m : Nat} {V : Nat → Int → Prop} (ys : List (Spot m V)) : List Nat := ys.map (fun x => x.1.1)
theorem placesOf_snoc {m : Nat} {V : Nat → Int → Prop} (ys : List (Spot m V)) (x : Spot m V) : placesOf (ys ++ [x]) = placesOf ys ++ [x.1.1] := by simp [placesOf]
/-- At each place stands what may. -/
def Spots (V : Nat → Int → Prop) (b off m : Nat) (W : World) : Prop := ∀ j, j < m → ∃ z, V j z ∧ W.cell? ⟨b, off + j, none⟩ = some (.int .u8 z)
/-- What a round keeps: the slice's box, and that at each place stands what may. -/
def Kp (V : Nat → Int → Prop) (Bs : Nat) (sv : Value) (b off m : Nat) (W W' : World) : Prop :=
  (W.cell? ⟨Bs, 0, none⟩ = some sv → W'.cell? ⟨Bs, 0, none⟩ = some sv) ∧ (Spots V b off m W → Spots V b off m W')
theorem Kp.trans' {V : Nat → Int → Prop} {Bs : Nat} {sv : Value} {b off m : Nat} {A B C : World} (h : Kp V Bs sv b off m A B) (k : Kp V Bs sv b off m B C) : Kp V Bs sv b off m A C :=
  ⟨fun e => k.1 (h.1 e), fun e => k.2 (h.2 e)⟩
theorem Kp.obj {V : Nat → Int → Prop} {Bs : Nat} {sv : Value} {b off m : Nat} (W : World) (l : Nat) (o o' : Obj) (hl : W.heap[l]? = some o) (ho : o.isCells = false) : Kp V Bs sv b off m W (W.putObj l o') :=
  ⟨fun e => cell_kept e (grownBy_putObj' W l o') (fun r e => by cases e; exact ⟨o, hl, ho⟩), fun h j hj => by
    obtain ⟨z, hz, hc⟩ := h j hj
    exact ⟨z, hz, cell_kept hc (grownBy_putObj' W l o') (fun r e => by cases e; exact ⟨o, hl, ho⟩)⟩⟩
theorem Kp.below {V : Nat → Int → Prop} {Bs : Nat} {sv : Value} {b off m : Nat} {B : Nat} {W W' : World} (h : Below B W W') (h1 : Bs < B) (h2 : m = 0 ∨ b < B) : Kp V Bs sv b off m W W' :=
  ⟨fun e => (h.cell (p := ⟨Bs, 0, none⟩) h1).trans e, fun g j hj => by
    obtain ⟨z, hz, hc⟩ := g j hj
    exact ⟨z, hz, (h.cell (p := ⟨b, off + j, none⟩) (by show b < B; omega)).trans hc⟩⟩

theorem cell_lt {W : World} {b o : Nat} {v : Value} (h : W.cell? ⟨b, o, none⟩ = some v) : b < W.heap.size := by
  rcases Nat.lt_or_ge b W.heap.size with g | g
  · exact g
  · simp [World.cell?, Array.getElem?_eq_none g] at h
theorem Kp.all {V : Nat → Int → Prop} {Bs : Nat} {sv : Value} {b off m : Nat} {W W' : World} (h : Below W.heap.size W W') : Kp V Bs sv b off m W W' :=
  ⟨fun e => (h.cell (p := ⟨Bs, 0, none⟩) (cell_lt e)).trans e, fun g j hj => by
    obtain ⟨z, hz, hc⟩ := g j hj
    exact ⟨z, hz, (h.cell (p := ⟨b, off + j, none⟩) (cell_lt hc)).trans hc⟩⟩
theorem cell_far {W : World} {b o : Nat} {p : Addr} (h : b ≠ p.block) (v : Value) : (W.setCell p v).cell? ⟨b, o, none⟩ = W.cell? ⟨b, o, none⟩ := World.cell?_of_block (Below.heap_setCell W p v b h)
theorem Kp.set {V : Nat → Int → Prop} {Bs : Nat} {sv : Value} {b off m : Nat} {W : World} {p : Addr} (h1 : Bs ≠ p.block) (h2 : m = 0 ∨ b ≠ p.block) (v : Value) : Kp V Bs sv b off m W (W.setCell p v) :=
  ⟨fun e => (cell_far h1 v).trans e, fun g j hj => by
    obtain ⟨z, hz, hc⟩ := g j hj
    exact ⟨z, hz, (cell_far (h2.resolve_left (by omega)) v).trans hc⟩⟩
set_option maxRecDepth 100000 in
set_option maxHeartbeats 2000000 in
theorem back1_in (F : Fence) (n : Nat) (hf : F.fn 37) (hro : F.round = none) (hn : 1 ≤ n) (l Bs b off m cap : Nat) (V : Nat → Int → Prop) (hm : m ≤ 9223372036854775807) (sv : Value) (hsv : sv = .slice (some ⟨b, off, none⟩) m cap ∨ (m = 0 ∧ ∃ A, sv = .slice A 0 cap)) (J Jx : List (Spot m V) → World → Prop)
    (hY : ∀ pre x W, J pre W → pre.length < m → YieldAt F (n - 1) Try.prog l #[.int .i64 (x.1.1 : Int), .int .u8 x.1.2] W fun e W' =>
      (e = .returned (.bool true) ∧ J (pre ++ [x]) W' ∧ Kp V Bs sv b off m W W') ∨ (e = .returned (.bool false) ∧ Jx (pre ++ [x]) W'))
    (W : World) (hBs : W.cell? ⟨Bs, 0, none⟩ = some sv) (hc : Spots V b off m W) (h0 : J [] W) :
    CallsIn F n Try.prog 37 #[.func (.yield l) #[] #[], .pointer (some ⟨Bs, 0, none⟩)] W fun e W' => (∃ v, e = .returned v) ∧
      ((∃ ys, placesOf ys = down m m ∧ J ys W') ∨ (∃ pre, (∃ k, k ≤ m ∧ placesOf pre = down m k) ∧ Jx pre W')) := by
  obtain ⟨A, hA, hA2⟩ : ∃ A, sv = .slice A m cap ∧ (0 < m → A = some ⟨b, off, none⟩) := by
    rcases hsv with h | ⟨h, A, h2⟩
    · exact ⟨_, h, fun _ => rfl⟩
    · exact ⟨A, by rw [h2, h], fun h3 => by omega⟩
  subst hA
  have HB := Lib.hid hBs
  have HC := Lib.hid hc
  clear hc hsv
  refine callsIn_of_wp Try.func37 rfl hf ?_ hro
  simp only [Try.ntmps37, List.size_toArray, List.length_cons, List.length_nil, Nat.reduceAdd, Nat.reduceSub, Array.replicate_succ, Array.replicate_zero, List.push_toArray, List.append_toArray, List.nil_append, List.cons_append]
  gi_wp2
  gi_loopw [3] (fun i wr => ∃ (k : Nat) (pre : List (Spot m V)), k ≤ m ∧ placesOf pre = down m k ∧ i = .int .i64 ((m : Int) - 1 - k) ∧ J pre wr ∧ Hid (wr.cell? ⟨Bs, 0, none⟩ = some (.slice A m cap)) ∧ Hid (Spots V b off m wr))
    (fun i _ => (intOf i + 1).toNat)
  case atStart => exact ⟨0, [], Nat.zero_le _, rfl, by simp, h0, HB, HC⟩
  case round =>
    obtain ⟨k, pre, hk, hp, rfl, hJs, HBr, HCr⟩ := hrel
    have hlen : pre.length = k := by have := congrArg List.length hp; simpa [placesOf, down_length] using this
    by_cases hlt : k < m
    · obtain ⟨z, hz, hcz⟩ := HCr.out (m - 1 - k) (by omega)
      obtain ⟨q, hq⟩ : ∃ q, m - 1 - k = q := ⟨_, rfl⟩
      have hq2 : (m : Int) - 1 - k = q := by omega
      rw [hq] at hz hcz
      rw [hq2]
      obtain rfl := hA2 (by omega)
      obtain ⟨fn, tmps, assign, body, hy, hR⟩ := hY pre ⟨(q, z), by show q < m; omega, hz⟩ wr hJs (by omega)
      dsimp only at hy
      have q0 : (0 : Int) ≤ q := by omega
      have q1 : (q : Int) < m := by omega
      have hbs := HBr.out
      gi_wp2
      refine hR.mono ?_
      rintro e W3 (⟨rfl, hJ3, hk3⟩ | ⟨rfl, hJx3⟩)
      · gi_wp2
        go_roundw
        case rel => exact ⟨k + 1, _, by omega, by rw [placesOf_snoc, hp, down_succ, hq], by go_num, hJ3, Lib.hid (hk3.1 HBr.out), Lib.hid (hk3.2 HCr.out)⟩
        case measure => simp [intOf] <;> omega
      · gi_wp2
        refine bodyPost_ret (results_none rfl _ _ _) rfl ?_
        exact ⟨⟨_, rfl⟩, .inr ⟨_, ⟨k + 1, by omega, by rw [placesOf_snoc, hp, down_succ, hq]⟩, hJx3⟩⟩
    · obtain rfl : k = m := by omega
      gi_wp2
      go_end0
      exact ⟨⟨_, rfl⟩, .inl ⟨pre, hp, hJs⟩⟩
theorem back_in (F : Fence) (n : Nat) (hf : F.fn 32) (hro : F.round = none) (a : Option Addr) (len cap : Nat) (w : World) :
    CallsIn F n Try.prog 32 #[.slice a len cap] w fun e w' => e = .returned (.func (.func 37) #[] #[.pointer (some ⟨w.heap.size, 0, none⟩)]) ∧ w' = w.alloc (.cells #[.slice a len cap] 22) := by
  refine callsIn_of_wp Try.func32 rfl hf ?_ hro
  simp only [Try.ntmps32, List.size_toArray, List.length_cons, List.length_nil, Nat.reduceAdd, Nat.reduceSub, Array.replicate_succ, Array.replicate_zero, List.push_toArray, List.append_toArray, List.nil_append, List.cons_append]
  gi_wp2
  go_ret
  exact ⟨rfl, rfl⟩
/-- The iterator, handed back by slices.Backward. -/
theorem back_stops (F : Fence) (n : Nat) (hf : F.fn 37) (hro : F.round = none) (hn : 1 ≤ n) (Bs b off m cap : Nat) (V : Nat → Int → Prop) (hm : m ≤ 9223372036854775807) (sv : Value) (hsv : sv = .slice (some ⟨b, off, none⟩) m cap ∨ (m = 0 ∧ ∃ A, sv = .slice A 0 cap))
    (w : World) (hBs : Bs < w.heap.size) (hb : m = 0 ∨ b < w.heap.size) (hc : w.cell? ⟨Bs, 0, none⟩ = some sv) (hs : Spots V b off m w) :
    SeqStopsK F n Try.prog 37 #[.pointer (some ⟨Bs, 0, none⟩)] (fun x : Spot m V => #[Value.int .i64 (x.1.1 : Int), Value.int .u8 x.1.2]) (Kp V Bs sv b off m) (fun ys => placesOf ys = down m m)
      (fun pre => ∃ k, k ≤ m ∧ placesOf pre = down m k) m w := fun l J Jx W hW _ _ hY h0 => by
  have hk : Kp V Bs sv b off m w W := Kp.below hW hBs hb
  exact back1_in F n hf hro hn l Bs b off m cap V hm sv hsv J Jx hY W (hk.1 hc) (hk.2 hs) h0
end Go.Proofs.Ytbiaenkhhbgbcaa
