/-
  Own text: layer 17 (group): Inputs, walked.
-/
import Derived.Test.YtphddcbkjikgfaaGrA
namespace Go.Proofs.Ytphddcbkjikgfaa
open Go.RowKit

/-- The inputs, as far as they are read. -/
def inV (F : Nat → Int) (k j : Nat) : Value := if j < k then .int .u16 (F j) else .int .u16 0
theorem in_zero (w : World) (F : Nat → Int) (n : Nat) : (w.alloc (.cells (madeCells #[.int .u16 0] n) 54)).rowIs w.heap.size 54 n (inV F 0) :=
  (World.rowIs_made w (.int .u16 0) n 54).congr (fun i _ => by unfold inV; rw [if_neg (by omega)])
theorem in_step {w : World} {g n k : Nat} {F : Nat → Int} {z : Int} (hz : z = F k) (H : w.rowIs g 54 n (inV F k)) : (w.setCell ⟨g, k, none⟩ (.int .u16 z)).rowIs g 54 n (inV F (k + 1)) :=
  (H.set k _).congr (fun i _ => by
    unfold inV
    by_cases e : i = k
    · rw [if_pos e, if_pos (by omega), e, hz]
    · rw [if_neg e]
      by_cases g : i < k
      · rw [if_pos g, if_pos (by omega)]
      · rw [if_neg g, if_neg (by omega)])
/-- What Inputs answers, of shards of two bytes each. -/
def TakenTo (n : Nat) (F : Nat → Int) (w : World) (e : Ending) (w' : World) : Prop :=
  ∃ g, e = .returned (.tuple #[.slice (some ⟨g, 0, none⟩) n n, .bool true]) ∧ Hid (w.heap.size ≤ g) ∧ Hid (w'.rowIs g 54 n (fun i => .int .u16 (F i))) ∧ Hid (Below w.heap.size w w')
/-- Of others, one of which at least is longer or shorter. -/
def NoneTo (w : World) (e : Ending) (w' : World) : Prop := e = .returned (.tuple #[.slice none 0 0, .bool false]) ∧ Hid (Below w.heap.size w w')
set_option maxRecDepth 100000 in
set_option maxHeartbeats 1000000 in
theorem inputs_any (n cap : Nat) (a : Option Addr) (A : Nat → Option Addr) (L C : Nat → Nat) (X : Nat → List Int) (w : World) (hc : ColsIn w a n cap A L C X) (hn : n ≤ 1000) (F : Nat → Int) (hF : ∀ i, i < n → L i = 2 → F i = wordOf (X i)) :
    Calls Try.prog 17 #[.slice a n cap] w fun e w' => ((∀ i, i < n → L i = 2) ∧ TakenTo n F w e w') ∨ ((∃ i, i < n ∧ L i ≠ 2) ∧ NoneTo w e w') := by
  have hmk := fun w => run_make_row' (P := Try.prog) 24 54 (.int .u16 0) 2 Try.underlying24 info_in rfl .i64 .i64 n (by omega) (by omega) w
  have HC0 := Lib.hid (in_zero w F n)
  have HB0 : Hid (Below w.heap.size w (w.alloc (.cells (madeCells #[.int .u16 0] n) 54))) := Lib.hid (below_put w _)
  have HX : Hid (∀ w' : World, Below w.heap.size w w' → ColsIn w' a n cap A L C X) := Lib.hid (fun w' hb => hc.below hb (Nat.le_refl w.heap.size))
  have HFF := Lib.hid hF
  clear hF hc
  go_enter Try.func17, Try.ntmps17
  go_wp2
  clear hmk
  generalize w.alloc (.cells (madeCells #[.int .u16 0] n) 54) = w1 at *
  have HH : Hid (w.heap.size ≤ w.heap.size) := Lib.hid (Nat.le_refl _)
  obtain ⟨g, hg⟩ : ∃ g, g = w.heap.size := ⟨_, rfl⟩
  rw [← hg] at HC0 HB0 HX
  have HGG := Lib.hid hg
  rw [← hg]
  clear hg HH
  go_loopw [5, 6, 12] (fun _ _ i wr => ∃ k : Nat, k ≤ n ∧ i = .int .i64 k ∧ Hid (wr.rowIs g 54 n (inV F k)) ∧ Hid (∀ j, j < k → L j = 2) ∧ Hid (Below g w wr)) (fun _ _ i _ => n - (intOf i).toNat)
  case atStart => exact ⟨0, by omega, rfl, HC0, Lib.hid (fun j hj => absurd hj (by omega)), HB0⟩
  case round =>
    clear HC0 HB0
    obtain ⟨k, hk, rfl, HO, HL, HB⟩ := hrel
    obtain ⟨wo, ho⟩ : ∃ wo, wo = wr := ⟨_, rfl⟩
    subst ho
    by_cases hlt : k < n
    · have j0 : (0 : Int) ≤ k := by omega
      have j1 : (k : Int) < n := by omega
      obtain ⟨⟨b1, o1, rfl, _, c1⟩, s1⟩ := (HX.out _ HB.out).2.2.2 k hlt
      have HS := Lib.hid s1
      by_cases h2 : L k = 2
      · have c0 := HO.out.cell hlt
        have f0 := HO.out.frozen k
        unfold inV at c0
        rw [if_neg (by omega)] at c0
        have hle2 := Nat.le_trans s1.cap s1.top
        have hcap := s1.cap
        have htop := s1.top
        rw [h2] at c1 hle2 hcap
        have hbt : Bytes wo (A k) 2 (X k) := by have := s1.bytes; rw [h2] at this; exact this
        have HGT := Lib.hid (get7_any (A k) 2 (C k) (X k) wo hbt (by omega) (by omega) hcap htop)
        have hwv : 0 ≤ wordOf (X k) ∧ wordOf (X k) ≤ 65535 := by
          have hs := hbt.size
          have h0 := hbt.byte 0 (by omega)
          have h1 := hbt.byte 1 (by omega)
          obtain ⟨x, y, hxy⟩ : ∃ x y, X k = [x, y] := by
            match hX : X k with
            | [] => rw [hX] at hs; simp at hs
            | [x] => rw [hX] at hs; simp at hs
            | [x, y] => exact ⟨x, y, rfl⟩
            | _ :: _ :: _ :: _ => rw [hX] at hs; simp at hs
          rw [hxy] at h0 h1 ⊢
          simp at h0 h1
          simp [wordOf]
          omega
        have hwr : IntKind.u16.wrap (wordOf (X k)) = wordOf (X k) := by rw [IntKind.wrap_u16]; omega
        have HFK := Lib.hid (HFF.out k hlt h2)
        have HL2 : Hid (∀ j, j < k + 1 → L j = 2) := Lib.hid (fun j hj => if e : j = k then e ▸ h2 else HL.out j (by omega))
        have HLT := Lib.hid hlt
        generalize wordOf (X k) = v at *
        clear hbt s1 HX HFF HS h2 HL hlt
        go_wp2_with (first
          | (go_at_call 38; (with_reducible refine HGT.out.mono ?_); rintro e w2 ⟨rfl, rfl⟩)
          | fail)
        go_roundw
        case rel => exact ⟨k + 1, by have := HLT.out; omega, by go_num, Lib.hid (in_step HFK.out.symm HO.out), HL2, Lib.hid (HB.out.setCell (p := ⟨g, k, none⟩) (Nat.le_refl _) _)⟩
        case measure => have := HLT.out; simp [intOf]; omega
      · have h3 : ((L k : Nat) : Int) ≠ 2 := by omega
        have hle2 := Nat.le_trans s1.cap s1.top
        have HNL : Hid (∃ i, i < n ∧ L i ≠ 2) := Lib.hid ⟨k, hlt, h2⟩
        clear s1 h2 HFF HX HS
        go_wp2
        go_ret2
        exact .inr ⟨HNL.out, rfl, by rw [← HGG.out]; exact HB⟩
    · obtain rfl : k = n := by omega
      go_wp2
      go_ret2
      exact .inl ⟨HL.out, g, rfl, Lib.hid (by rw [HGG.out]; exact Nat.le_refl _), Lib.hid (HO.out.congr (fun i hi => by unfold inV; rw [if_pos hi])), by rw [← HGG.out]; exact HB⟩
end Go.Proofs.Ytphddcbkjikgfaa
