/-
  Own text: what Missing's iterator hands over.
-/
import Derived.Test.YtfemiflgnadfkaaSqN
import Derived.RangeFuncNested
import Derived.RangeFuncBox
import Derived.RangeFuncBound
import Derived.RangeFuncCalls
import Derived.RangeFuncLeaves
import Derived.OwnWalkIn
import Derived.TacticsInMore
import Derived.LoopNIn
import Derived.LoopIn
namespace Go.Proofs.Ytfemiflgnadfkaa
open Go.RowKit
attribute [local go_sem] Oper.semAt_some

/-- A place whose bit is set. -/
abbrev Hole (g : BitVec 64) := { i : Nat // i < 64 ∧ g.getLsbD i = true }
/-- The first k places from above whose bits are set. -/
def gl (g : BitVec 64) : Nat → List Nat
  | 0 => []
  | k + 1 => gl g k ++ (if g.getLsbD (63 - k) then [63 - k] else [])
theorem gl_length (g : BitVec 64) : ∀ k, (gl g k).length ≤ k
  | 0 => Nat.le_refl _
  | k + 1 => by unfold gl; rw [List.length_append]; have := gl_length g k; split <;> simp <;> omega
theorem gl_set {g : BitVec 64} {k : Nat} (h : g.getLsbD (63 - k) = true) : gl g (k + 1) = gl g k ++ [63 - k] := by
  show gl g k ++ _ = _
  rw [if_pos h]
theorem gl_not {g : BitVec 64} {k : Nat} (h : g.getLsbD (63 - k) = false) : gl g (k + 1) = gl g k := by
  show gl g k ++ _ = _
  rw [if_neg (by rw [h]; exact Bool.false_ne_true), List.append_nil]
/-- Which have come. -/
def holesOf {g : BitVec 64} (ys : List (Hole g)) : List Nat := ys.map (fun x => x.1)
theorem holesOf_snoc {g : BitVec 64} (ys : List (Hole g)) (x : Hole g) : holesOf (ys ++ [x]) = holesOf ys ++ [x.1] := by simp [holesOf]
/-- What a round keeps: the two boxes. -/
def Km (q p : Nat) (u v : Value) (W W' : World) : Prop :=
  (W.cell? ⟨q, 0, none⟩ = some u → W'.cell? ⟨q, 0, none⟩ = some u) ∧ (W.cell? ⟨p, 0, none⟩ = some v → W'.cell? ⟨p, 0, none⟩ = some v)
theorem Km.trans' {q p : Nat} {u v : Value} {A B C : World} (h : Km q p u v A B) (k : Km q p u v B C) : Km q p u v A C :=
  ⟨fun e => k.1 (h.1 e), fun e => k.2 (h.2 e)⟩
theorem Km.obj {q p : Nat} {u v : Value} (W : World) (l : Nat) (o o' : Obj) (hl : W.heap[l]? = some o) (ho : o.isCells = false) : Km q p u v W (W.putObj l o') :=
  ⟨fun e => cell_kept e (grownBy_putObj' W l o') (fun r e => by cases e; exact ⟨o, hl, ho⟩), fun e => cell_kept e (grownBy_putObj' W l o') (fun r e => by cases e; exact ⟨o, hl, ho⟩)⟩
theorem Km.below {q p : Nat} {u v : Value} {B : Nat} {W W' : World} (h : Below B W W') (h1 : q < B) (h2 : p < B) : Km q p u v W W' :=
  ⟨fun e => (h.cell (p := ⟨q, 0, none⟩) h1).trans e, fun e => (h.cell (p := ⟨p, 0, none⟩) h2).trans e⟩
theorem bit_test64 (r : BitVec 64) (k : Nat) : (bits .and .u64 ((r.toNat : Int) / 2 ^ k) 1 == 1) = r.getLsbD k := by
  rw [shr64]
  have h1 := and64 (r >>> k).toNat 1 (BitVec.isLt _) (by omega)
  have h2 : bits .and .u64 ((r >>> k).toNat : Int) 1 = (((r >>> k).toNat % 2 : Nat) : Int) := by
    rw [← Nat.and_one_is_mod]; exact h1
  rw [h2]
  have h : (r >>> k).getLsbD 0 = r.getLsbD k := by rw [BitVec.getLsbD_ushiftRight]; rfl
  rw [← h, ← BitVec.testBit_toNat, Nat.testBit_zero, Bool.eq_iff_iff]
  generalize (r >>> k).toNat = x
  simp only [beq_iff_eq, decide_eq_true_eq]
  omega
set_option maxRecDepth 100000 in
set_option maxHeartbeats 2000000 in
theorem miss1_in (F : Fence) (n : Nat) (hf : F.fn 23) (hro : F.round = none) (hn : 1 ≤ n) (l q p T : Nat) (_ : T < 4294967296) (g : BitVec 64) (J Jx : List (Hole g) → World → Prop)
    (hY : ∀ pre x W, J pre W → pre.length < 64 → YieldAt F (n - 1) Try.prog l #[.int .u32 (((T : Int) - (x.1 : Int)) % 4294967296)] W fun e W' =>
      (e = .returned (.bool true) ∧ J (pre ++ [x]) W' ∧ Km q p (.int .u64 (g.toNat : Int)) (.int .u32 (T : Int)) W W') ∨ (e = .returned (.bool false) ∧ Jx (pre ++ [x]) W'))
    (W : World) (hq : W.cell? ⟨q, 0, none⟩ = some (.int .u64 (g.toNat : Int))) (hp : W.cell? ⟨p, 0, none⟩ = some (.int .u32 (T : Int))) (h0 : J [] W) :
    CallsIn F n Try.prog 23 #[.func (.yield l) #[] #[], .pointer (some ⟨q, 0, none⟩), .pointer (some ⟨p, 0, none⟩)] W fun e W' => (∃ v, e = .returned v) ∧
      ((∃ ys, holesOf ys = gl g 64 ∧ J ys W') ∨ (∃ pre, (∃ k, k ≤ 64 ∧ holesOf pre = gl g k) ∧ Jx pre W')) := by
  have HQ := Lib.hid hq
  have HP := Lib.hid hp
  clear hq hp
  refine callsIn_of_wp Try.func23 rfl hf ?_ hro
  simp only [Try.ntmps23, List.size_toArray, List.length_cons, List.length_nil, Nat.reduceAdd, Nat.reduceSub, Array.replicate_succ, Array.replicate_zero, List.push_toArray, List.append_toArray, List.nil_append, List.cons_append]
  gi_wp2
  gi_loopw [4] (fun i wr => ∃ (k : Nat) (pre : List (Hole g)), k ≤ 64 ∧ holesOf pre = gl g k ∧ i = .int .i64 ((63 : Int) - k) ∧ J pre wr ∧ Hid (wr.cell? ⟨q, 0, none⟩ = some (.int .u64 (g.toNat : Int))) ∧ Hid (wr.cell? ⟨p, 0, none⟩ = some (.int .u32 (T : Int))))
    (fun i _ => (intOf i + 1).toNat)
  case atStart => exact ⟨0, [], Nat.zero_le _, rfl, by simp, h0, HQ, HP⟩
  case round =>
    obtain ⟨k, pre, hk, hpre, rfl, hJs, HQr, HPr⟩ := hrel
    have hlen : pre.length ≤ k := by have := congrArg List.length hpre; have := gl_length g k; simp [holesOf] at *; omega
    by_cases hlt : k < 64
    · obtain ⟨i, hi⟩ : ∃ i, 63 - k = i := ⟨_, rfl⟩
      have hi2 : (63 : Int) - k = i := by omega
      have hi3 : i < 64 := by omega
      rw [hi2]
      have q0 : (0 : Int) ≤ i := by omega
      have q1 : (i : Int) ≤ 64 := by omega
      have hbq := HQr.out
      have hbp := HPr.out
      have bt := bit_test64 g i
      cases hb : g.getLsbD i
      · rw [hb] at bt
        have HB := Lib.hid hb
        clear hb
        gi_wp2
        refine ⟨fun f h => (by cases h), ?_⟩
        gi_wp2
        go_roundw
        case rel => exact ⟨k + 1, _, by omega, by rw [hpre, gl_not (by rw [hi]; exact HB.out)], by go_num, hJs, HQr, HPr⟩
        case measure => simp [intOf] <;> omega
      · rw [hb] at bt
        obtain ⟨fn, tmps, assign, body, hy, hR⟩ := hY pre ⟨i, hi3, hb⟩ wr hJs (by omega)
        dsimp only at hy
        have HB := Lib.hid hb
        gi_wp2
        refine hR.mono ?_
        rintro e W3 (⟨rfl, hJ3, hk3⟩ | ⟨rfl, hJx3⟩)
        · gi_wp2
          go_roundw
          case rel => exact ⟨k + 1, _, by omega, by rw [holesOf_snoc, hpre, gl_set (by rw [hi]; exact HB.out), hi], by go_num, hJ3, Lib.hid (hk3.1 HQr.out), Lib.hid (hk3.2 HPr.out)⟩
          case measure => simp [intOf] <;> omega
        · gi_wp2
          refine bodyPost_ret (results_none rfl _ _ _) rfl ?_
          exact ⟨⟨_, rfl⟩, .inr ⟨_, ⟨k + 1, by omega, by rw [holesOf_snoc, hpre, gl_set (by rw [hi]; exact HB.out), hi]⟩, hJx3⟩⟩
    · obtain rfl : k = 64 := by omega
      gi_wp2
      go_end0
      exact ⟨⟨_, rfl⟩, .inl ⟨pre, hpre, hJs⟩⟩
end Go.Proofs.Ytfemiflgnadfkaa
