/-
  Own text: layer 17 (group): the iterator that All answers, walked.
-/
import Derived.Test.YtjcbcdjfhcnhcaaGmE
import Derived.Test.YtjcbcdjfhcnhcaaRangeM
import Derived.TacticsInMore
import Derived.LoopNIn
import Derived.LoopIn
namespace Go.Proofs.Ytjcbcdjfhcnhcaa
open Go.RowKit
attribute [local go_sem] Oper.semAt_some

theorem yield_wide {m m' l : Nat} {args : Array Value} {W : World} {R : Ending → World → Prop} (h : YieldAt Fence.wide m Try.prog l args W R) : YieldAt Fence.wide m' Try.prog l args W R := by
  obtain ⟨fn, tmps, assign, body, h1, h2⟩ := h
  exact ⟨fn, tmps, assign, body, h1, h2.1, fun c cs _ => h2.2 c cs (room_wide _)⟩
/-- What is handed over: a number, and a datagram whose bytes are its own. -/
abbrev encG (no fst k m : Int) (i : Nat) (x : Nat × Nat) : Array Value := #[.int .i64 (i : Int), (dgv no fst k m i (some ⟨x.1, 0, none⟩) x.2).val]
def MG (G : Nat → Nat → Nat) (i : Nat) (x : Nat × Nat) (A : World) : Prop := 2 ≤ x.2 ∧ x.2 ≤ maxLen ∧ Rw A x.1 0 (G i)
set_option maxRecDepth 100000 in
set_option maxHeartbeats 4000000 in
theorem gall1_yields (r p n C base : Nat) (no fst k m : Int) (A : Option Addr) (G : Nat → Nat → Nat) (w0 : World) (hn : n ≤ 1000) (h0 : 0 < n) (hB : B5 28 w0 p (.int .u32 no) (.int .u32 fst) (.int .i64 k) (.int .i64 m) (.slice A n C)) (hC : Cp w0 base (.slice A n C) n G) :
    Yields Fence.wide r Try.prog 38 #[.pointer (some ⟨p, 0, none⟩)] n (encG no fst k m) (MG G) w0 := by
  intro l J W hW hJ hY hJ0
  have HY := Lib.hid hY
  have HJ := Lib.hid hJ
  have HBX : Hid (∀ u, Below w0.heap.size w0 u → B5 28 u p (.int .u32 no) (.int .u32 fst) (.int .i64 k) (.int .i64 m) (.slice A n C)) := Lib.hid (fun u hu => hB.below hu hB.lt)
  have HCP : Hid (∀ u, Below w0.heap.size w0 u → Cp u base (.slice A n C) n G) := Lib.hid (fun u hu => hC.below hu (Nat.le_refl _))
  have HNC : Hid (n ≤ C) := Lib.hid (by obtain ⟨_, _, _, _, h, _⟩ := hC.at_ 0 h0; exact h)
  have HW := Lib.hid hW
  have HJ0 := Lib.hid hJ0
  have HN : Hid (n ≤ 1000) := Lib.hid hn
  have j0 : (n : Int) ≤ 1000 := by omega
  obtain ⟨x0, x1, x2, x3, x4⟩ := (HBX.out W hW).cells
  clear hJ hY hB hC h0 hW hJ0 hn
  refine callsIn_of_wp Try.func38 rfl trivial ?_ rfl
  simp only [Try.ntmps38, List.size_toArray, List.length_cons, List.length_nil, Nat.reduceAdd, Nat.reduceSub, Array.replicate_succ, Array.replicate_zero, List.push_toArray, List.append_toArray, List.nil_append, List.cons_append]
  gi_wp2
  clear x0 x1 x2 x3 x4
  gi_loopw [3, 4, 5, 9] (fun _ _ _ i wr => ∃ q : Nat, q ≤ n ∧ i = .int .i64 (q : Int) ∧ J q wr ∧ Hid (Below w0.heap.size w0 wr)) (fun _ _ _ i _ => n - (intOf i).toNat)
  case atStart => exact ⟨0, Nat.zero_le _, rfl, HJ0.out, HW⟩
  case round =>
    obtain ⟨q, hq, rfl, hJs, HE⟩ := hrel
    obtain ⟨wo, ho⟩ : ∃ wo, wo = wr := ⟨_, rfl⟩
    subst ho
    have HJS := Lib.hid hJs
    clear hJs HJ0 HW
    by_cases hlt : q < n
    · have HDG := Lib.hid (gdg_yes no fst k m A n C q (G q) wo HNC.out HN.out hlt ((HCP.out wo HE.out).at17 q hlt))
      have HLT := Lib.hid hlt
      have j1 : (q : Int) < n := by omega
      have j2 : (0 : Int) ≤ q := by omega
      obtain ⟨x0, x1, x2, x3, x4⟩ := (HBX.out wo HE.out).cells
      clear hlt hq
      gi_wp2_with (first
        | (refine ⟨trivial, (fun h => by cases h), ?_⟩; gi_at_call 14; refine (callsIn_wide.2 HDG.out).mono ?_; rintro e w3 ⟨g', c', rfl, H3⟩)
        | fail "arm")
      obtain ⟨W2, hW2⟩ : ∃ W2, W2 = w3.alloc (.cells (dgv no fst k m q (some ⟨g', 0, none⟩) c').cells 44) := ⟨_, rfl⟩
      have hb3 : Below wo.heap.size wo W2 := by rw [hW2]; exact H3.out.2.2.2.2.alloc H3.out.2.2.2.2.size _
      have hm3 : Rw W2 g' 0 (G q) := by rw [hW2]; exact H3.out.2.2.2.1.keep (Below.heap_alloc _ _ _ H3.out.2.2.2.1.lt)
      have he3 := HE.out.trans (hb3.mono HE.out.size)
      have hy := HY.out q (g', c') W2 HLT.out (HJ.out q wo W2 HJS.out hb3) he3 ⟨H3.out.1, H3.out.2.1, hm3⟩
      obtain ⟨fn, tmps, assign, body, hyl, hR⟩ := hy
      dsimp only [encG, Dg.val, Dg.cells] at hyl hW2
      rw [← hW2, hyl]
      clear hyl hW2 hb3 hm3 he3
      gi_wp2
      refine ⟨(fun h => by cases h), hR.mono ?_⟩
      rintro e w4 ⟨rfl, hJ4, hE4⟩
      have HJ4 := Lib.hid hJ4
      have HE4 := Lib.hid hE4
      clear hJ4 hE4
      dsimp only
      gi_wp2
      go_roundw
      case rel => exact ⟨q + 1, HLT.out, by go_num, HJ4.out, HE4⟩
      case measure => simp [intOf]; (have := HLT.out; omega)
    · obtain rfl : q = n := by omega
      gi_wp2
      go_end0
      exact ⟨⟨_, rfl⟩, HJS.out⟩
end Go.Proofs.Ytjcbcdjfhcnhcaa
