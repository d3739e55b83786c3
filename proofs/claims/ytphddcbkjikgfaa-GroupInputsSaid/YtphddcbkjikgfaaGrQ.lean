/-
  Own text: law GroupInputs, walked.
-/
import Derived.Test.YtphddcbkjikgfaaGrI
import Derived.Test.YtphddcbkjikgfaaGrP
namespace Go.Proofs.Ytphddcbkjikgfaa
open Go.RowKit

/-- A law's word. -/
def Yes17 (w : World) (e : Ending) (w' : World) : Prop := e = .returned (.bool true) ∧ Below w.heap.size w w'
theorem inputs17_long (n cap : Nat) (a : Option Addr) (w : World) (h : 100 < n) :
    Calls Try.prog 4 #[.slice a n cap] w (Yes17 w) := by
  have C0 := Lib.hid (fun w => awake17_any w)
  have j1 : (100 : Int) < n := by omega
  clear h
  go_enter Try.func4, Try.ntmps4
  go_wp2_with (first
    | (go_at_call 7; (with_reducible refine (C0.out _).mono ?_); rintro e w1 ⟨rfl, HB1⟩)
    | fail)
  go_ret
  exact ⟨rfl, HB1.out⟩
set_option maxRecDepth 100000 in
set_option maxHeartbeats 1000000 in
theorem inputs17_bad (n cap : Nat) (a : Option Addr) (A : Nat → Option Addr) (L C : Nat → Nat) (X : Nat → List Int) (w : World) (hc : ColsIn w a n cap A L C X) (hn : n ≤ 100) (hb : ∃ i, i < n ∧ L i ≠ 2) :
    Calls Try.prog 4 #[.slice a n cap] w (Yes17 w) := by
  have C0 := Lib.hid (fun w => awake17_any w)
  have HX : Hid (∀ w' : World, Below w.heap.size w w' → ColsIn w' a n cap A L C X) := Lib.hid (fun w' hb => hc.below hb (Nat.le_refl w.heap.size))
  have CI : Hid (∀ w' : World, Below w.heap.size w w' → Calls Try.prog 17 #[.slice a n cap] w' (NoneTo w')) := Lib.hid (fun w' h => (inputs_any n cap a A L C X w' (HX.out w' h) (by omega) (fun i => wordOf (X i)) (fun _ _ _ => rfl)).mono fun e w'' hx => by
    rcases hx with ⟨h1, _⟩ | ⟨_, h2⟩
    · obtain ⟨i, hi, h3⟩ := hb
      exact absurd (h1 i hi) h3
    · exact h2)
  have HBD := Lib.hid hb
  unfold NoneTo at CI
  have j1 : ¬ (100 : Int) < n := by omega
  clear hc hb
  go_enter Try.func4, Try.ntmps4
  go_wp2_with (first
    | (go_at_call 7; (with_reducible refine (C0.out _).mono ?_); rintro e w1 ⟨rfl, HB1⟩)
    | (go_at_call 17; (with_reducible refine (CI.out _ HB1.out).mono ?_); rintro e w2 ⟨rfl, hb⟩; have HB2 := Lib.hid (b_on HB1.out hb.out); clear hb)
    | fail)
  go_loopw [5] (fun i wr => ∃ k : Nat, k ≤ n ∧ i = .int .i64 k ∧ Hid (∀ j, j < k → L j = 2) ∧ wr = w2) (fun i _ => n - (intOf i).toNat)
  case atStart => exact ⟨0, by omega, rfl, Lib.hid (fun j hj => absurd hj (by omega)), rfl⟩
  case round =>
    obtain ⟨k, hk, rfl, HL, rfl⟩ := hrel
    obtain ⟨wo, ho⟩ : ∃ wo, wo = wr := ⟨_, rfl⟩
    subst ho
    by_cases hlt : k < n
    · have j0 : (0 : Int) ≤ k := by omega
      have j2 : (k : Int) < n := by omega
      obtain ⟨⟨b1, o1, rfl, _, c1⟩, s1⟩ := (HX.out _ HB2.out).2.2.2 k hlt
      have hle2 := Nat.le_trans s1.cap s1.top
      clear s1
      by_cases h2 : L k = 2
      · rw [h2] at c1 hle2
        have HL2 : Hid (∀ j, j < k + 1 → L j = 2) := Lib.hid (fun j hj => if e : j = k then e ▸ h2 else HL.out j (by omega))
        clear h2
        go_wp2
        go_roundw
        case rel => exact ⟨k + 1, by omega, by go_num, HL2, trivial⟩
        case measure => simp [intOf]; omega
      · have h3 : ((L k : Nat) : Int) ≠ 2 := by omega
        clear h2
        go_wp2
        go_ret
        exact ⟨rfl, HB2.out⟩
    · exfalso
      obtain ⟨i, hi, h3⟩ := HBD.out
      exact h3 (HL.out i (by omega))
set_option maxRecDepth 100000 in
set_option maxHeartbeats 1000000 in
theorem inputs17_good (n cap : Nat) (a : Option Addr) (A : Nat → Option Addr) (L C : Nat → Nat) (X : Nat → List Int) (w : World) (hc : ColsIn w a n cap A L C X) (hn : n ≤ 100) (hL : ∀ i, i < n → L i = 2) :
    Calls Try.prog 4 #[.slice a n cap] w (Yes17 w) := by
  have C0 := Lib.hid (fun w => awake17_any w)
  have HX : Hid (∀ w' : World, Below w.heap.size w w' → ColsIn w' a n cap A L C X) := Lib.hid (fun w' hb => hc.below hb (Nat.le_refl w.heap.size))
  have HWV : Hid (∀ i, i < n → 0 ≤ wordOf (X i) ∧ wordOf (X i) ≤ 65535) := Lib.hid (fun i hi => by
    have hbt := (hc.2.2.2 i hi).2.bytes
    rw [hL i hi] at hbt
    have hs := hbt.size
    have h0 := hbt.byte 0 (by omega)
    have h1 := hbt.byte 1 (by omega)
    obtain ⟨x, y, hxy⟩ : ∃ x y, X i = [x, y] := by
      match hX : X i with
      | [] => rw [hX] at hs; simp at hs
      | [x] => rw [hX] at hs; simp at hs
      | [x, y] => exact ⟨x, y, rfl⟩
      | _ :: _ :: _ :: _ => rw [hX] at hs; simp at hs
    rw [hxy] at h0 h1 ⊢
    simp at h0 h1
    simp [wordOf]
    omega)
  have CI : Hid (∀ w' : World, Below w.heap.size w w' → Calls Try.prog 17 #[.slice a n cap] w' (TakenTo n (fun i => wordOf (X i)) w')) := Lib.hid (fun w' h => (inputs_any n cap a A L C X w' (HX.out w' h) (by omega) (fun i => wordOf (X i)) (fun _ _ _ => rfl)).mono fun e w'' hx => by
    rcases hx with ⟨_, h1⟩ | ⟨⟨i, hi, h2⟩, _⟩
    · exact h1
    · exact absurd (hL i hi) h2)
  have HL := Lib.hid hL
  unfold TakenTo at CI
  have j1 : ¬ (100 : Int) < n := by omega
  clear hc hL
  go_enter Try.func4, Try.ntmps4
  go_wp2_with (first
    | (go_at_call 7; (with_reducible refine (C0.out _).mono ?_); rintro e w1 ⟨rfl, HB1⟩)
    | (go_at_call 17; (with_reducible refine (CI.out _ HB1.out).mono ?_); rintro e w2 ⟨g, rfl, HG, HR, hb⟩; have HB2 := Lib.hid (b_on HB1.out hb.out); clear hb)
    | fail)
  go_loopw [5] (fun i wr => ∃ k : Nat, k ≤ n ∧ i = .int .i64 k ∧ wr = w2) (fun i _ => n - (intOf i).toNat)
  case atStart => exact ⟨0, by omega, rfl, rfl⟩
  case round =>
    obtain ⟨k, hk, rfl, rfl⟩ := hrel
    obtain ⟨wo, ho⟩ : ∃ wo, wo = wr := ⟨_, rfl⟩
    subst ho
    by_cases hlt : k < n
    · have j0 : (0 : Int) ≤ k := by omega
      have j2 : (k : Int) < n := by omega
      obtain ⟨⟨b1, o1, rfl, _, c1⟩, s1⟩ := (HX.out _ HB2.out).2.2.2 k hlt
      rw [HL.out k hlt] at c1
      clear s1
      go_wp2
      go_roundw
      case rel => exact ⟨k + 1, by omega, by go_num, trivial⟩
      case measure => simp [intOf]; omega
    · obtain rfl : k = n := by omega
      go_wp2
      go_loopw [6] (fun i wr => ∃ q, ∃ j : Nat, j ≤ k ∧ i = .int .i64 j ∧ wr = wo.drewN q) (fun i _ => k - (intOf i).toNat)
      case atStart => exact ⟨0, 0, by omega, rfl, rfl⟩
      case round =>
        obtain ⟨q, j, hj, rfl, hw⟩ := hrel
        have HBR : Hid (Below w.heap.size w wr) := Lib.hid (by rw [hw]; exact below_drewN HB2.out q)
        have HRR : Hid (wr.rowIs g 54 k (fun i => .int .u16 (wordOf (X i)))) := Lib.hid (by rw [hw]; exact HR.out)
        have HW := Lib.hid hw
        clear hw
        obtain ⟨wi, hi⟩ : ∃ wi, wi = wr := ⟨_, rfl⟩
        subst hi
        by_cases hlt2 : j < k
        · have j0 : (0 : Int) ≤ j := by omega
          have j2 : (j : Int) < k := by omega
          obtain ⟨⟨b1, o1, rfl, _, c1⟩, s1⟩ := (HX.out _ HBR.out).2.2.2 j hlt2
          have c0 := HRR.out.cell hlt2
          have hcap := s1.cap
          have htop := s1.top
          have hbt := s1.bytes
          rw [HL.out j hlt2] at c1 hcap hbt
          have HGT := Lib.hid (fun m => rget7_any (A j) 2 (C j) (X j) (wi.drewN m) (hbt.drewN m) (by omega) (by omega) hcap htop)
          have hwv := HWV.out j hlt2
          have hwr : IntKind.u64.wrap (wordOf (X j)) = wordOf (X j) := by rw [IntKind.wrap_u64]; omega
          generalize wordOf (X j) = v at *
          clear s1 hbt hcap htop hwv HX HWV HL HR HRR CI
          go_wp2
          go_quiet ((go_at_call 18; exact (HGT.out _).mono fun _ _ h => ⟨h.1, _, h.2.symm⟩))
          go_wp2
          go_roundw
          case rel =>
            rw [HW.out, World.drewN_drewN]
            exact ⟨_, j + 1, by omega, by go_num, rfl⟩
          case measure => simp [intOf]; omega
        · obtain rfl : j = k := by omega
          go_wp2
          go_ret
          exact ⟨rfl, HBR.out⟩
theorem inputs17_walk (n cap : Nat) (a : Option Addr) (A : Nat → Option Addr) (L C : Nat → Nat) (X : Nat → List Int) (w : World) (hc : ColsIn w a n cap A L C X) :
    Calls Try.prog 4 #[.slice a n cap] w (Yes17 w) := by
  by_cases h : 100 < n
  · exact inputs17_long n cap a w h
  · by_cases hL : ∀ i, i < n → L i = 2
    · exact inputs17_good n cap a A L C X w hc (by omega) hL
    · exact inputs17_bad n cap a A L C X w hc (by omega) (by
        simp only [Classical.not_forall] at hL
        obtain ⟨i, hi, h3⟩ := hL
        exact ⟨i, hi, h3⟩)
end Go.Proofs.Ytphddcbkjikgfaa
