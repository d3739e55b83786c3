/-
  Own text: how long a list is without the noughts at its end; Degree, cut, Clone, Trim walked.
-/
import Derived.Test.YtbiaenkhhbgbcaaBack
namespace Go.Proofs.Ytbiaenkhhbgbcaa
open Go.RowKit Go.Shelf
attribute [local go_sem] Oper.semAt_some

/-- How many of the first k places are left without the noughts behind them. -/
def cutK (l : List Int) : Nat → Nat
  | 0 => 0
  | k + 1 => if l.getD k 0 = 0 then cutK l k else k + 1
/-- How long a list is without the noughts at its end. -/
def dn (l : List Int) : Nat := cutK l l.length
theorem cutK_le (l : List Int) : ∀ k, cutK l k ≤ k
  | 0 => Nat.le_refl _
  | k + 1 => by unfold cutK; split; · exact Nat.le_succ_of_le (cutK_le l k)
                · exact Nat.le_refl _
theorem dn_le (l : List Int) : dn l ≤ l.length := cutK_le l _
theorem cutK_zeros (l : List Int) (i : Nat) : ∀ n, i ≤ n → (∀ j, i ≤ j → j < n → l.getD j 0 = 0) → cutK l n = cutK l i
  | 0, h, _ => by obtain rfl : i = 0 := by omega
                  rfl
  | n + 1, h, hz => by
    by_cases e : i = n + 1
    · rw [e]
    · conv => lhs; unfold cutK
      rw [if_pos (hz n (by omega) (by omega))]
      exact cutK_zeros l i n (by omega) (fun j h1 h2 => hz j h1 (by omega))
theorem cutK_top (l : List Int) (i : Nat) (h : l.getD i 0 ≠ 0) : cutK l (i + 1) = i + 1 := by unfold cutK; rw [if_neg h]
theorem cutK_last (l : List Int) : ∀ k, cutK l k ≠ 0 → l.getD (cutK l k - 1) 0 ≠ 0
  | 0, h => absurd rfl h
  | k + 1, h => by
    unfold cutK at h ⊢
    by_cases e : l.getD k 0 = 0
    · rw [if_pos e] at h ⊢; exact cutK_last l k h
    · rw [if_neg e]; simpa using e
theorem dn_last (l : List Int) (h : dn l ≠ 0) : l.getD (dn l - 1) 0 ≠ 0 := cutK_last l _ h
theorem cutK_above (l : List Int) : ∀ k j, cutK l k ≤ j → j < k → l.getD j 0 = 0
  | 0, j, _, h => by omega
  | k + 1, j, h1, h2 => by
    unfold cutK at h1
    by_cases e : l.getD k 0 = 0
    · rw [if_pos e] at h1
      by_cases g : j = k
      · rw [g]; exact e
      · exact cutK_above l k j h1 (by omega)
    · rw [if_neg e] at h1; omega
theorem dn_above (l : List Int) (j : Nat) (h : dn l ≤ j) : l.getD j 0 = 0 := by
  by_cases g : j < l.length
  · exact cutK_above l _ j h g
  · simp [List.getD_eq_getElem?_getD, List.getElem?_eq_none (Nat.le_of_not_lt g)]

theorem mem_down {m k j : Nat} (h1 : j < m) (h2 : m ≤ j + k) : j ∈ down m k := by
  simp only [down, List.mem_map, List.mem_range]
  exact ⟨m - 1 - j, by omega, by omega⟩
/-- What holds between two rounds of Degree's loop. -/
def DegI (R : Nat) {m : Nat} {V : Nat → Int → Prop} (pre : List (Spot m V)) (W : World) : Prop :=
  (∀ p ∈ pre, p.1.2 = 0) ∧ W.cell? ⟨R, 0, none⟩ = some (.int .i64 0) ∧ W.frozen? ⟨R, 0, none⟩ = false
/-- What holds when it has left its loop. -/
def DegX (R : Nat) {m : Nat} {V : Nat → Int → Prop} (c : Code) (pre : List (Spot m V)) (W : World) : Prop :=
  c = .ret ∧ ∃ ini last, pre = ini ++ [last] ∧ (∀ p ∈ ini, p.1.2 = 0) ∧ last.1.2 ≠ 0 ∧ W.cell? ⟨R, 0, none⟩ = some (.int .i64 (last.1.1 : Int))
theorem DegI.more {R m : Nat} {V : Nat → Int → Prop} {pre : List (Spot m V)} {W : World} (h : DegI R pre W) (x : Spot m V) (hx : x.1.2 = 0) : DegI R (pre ++ [x]) W :=
  ⟨fun p hp => (List.mem_append.1 hp).elim (h.1 p) (fun e => by obtain rfl : p = x := List.mem_singleton.1 e
                                                                exact hx), h.2⟩
theorem DegI.left {R m : Nat} {V : Nat → Int → Prop} {pre : List (Spot m V)} {W : World} (h : DegI R pre W) (x : Spot m V) (hx : x.1.2 ≠ 0) : DegX R .ret (pre ++ [x]) (W.setCell ⟨R, 0, none⟩ (.int .i64 (x.1.1 : Int))) :=
  ⟨rfl, pre, x, rfl, h.1, hx, World.cell?_setCell_same' _ _ _ (by rw [h.2.1]; rfl)⟩
set_option maxRecDepth 100000 in
set_option maxHeartbeats 2000000 in
theorem degree_in (F : Fence) (n : Nat) (h1f : F.fn 19) (h2f : F.fn 32) (h3f : F.fn 37) (hro : F.round = none) (hn : 3 ≤ n) (a : Option Addr) (len cap : Nat) (l : List Int) (w : World) (hl : Bytes w a len l) :
    CallsIn F n Try.prog 19 #[.slice a len cap] w fun e W' => e = .returned (.int .i64 ((dn l : Int) - 1)) ∧ Below w.heap.size w W' := by
  have h1 : 1 ≤ n := by omega
  have hlen := hl.size
  have hmax := hl.max
  obtain ⟨b, off, hA, hb, hS⟩ : ∃ b off, ((Value.slice a len cap) = .slice (some ⟨b, off, none⟩) len cap ∨ (len = 0 ∧ ∃ A, (Value.slice a len cap) = .slice A 0 cap)) ∧ (len = 0 ∨ b < w.heap.size) ∧ Spots (fun j z => z = l.getD j 0) b off len w := by
    rcases hl.cell with h | ⟨_, b, off, rfl, hb, hc⟩
    · subst h; exact ⟨0, 0, .inr ⟨rfl, a, rfl⟩, .inl rfl, fun j hj => by omega⟩
    · exact ⟨b, off, .inl rfl, .inr hb, fun j hj => ⟨_, rfl, hc j hj⟩⟩
  refine callsIn_of_wp_marks Try.func19 rfl h1f ?_ hro
  simp only [Try.ntmps19, List.size_toArray, List.length_cons, List.length_nil, Nat.reduceAdd, Nat.reduceSub, Array.replicate_succ, Array.replicate_zero, List.push_toArray, List.append_toArray, List.nil_append, List.cons_append]
  gi_wp2_with (gi_at_call 32; refine (back_in F (n - 1) h2f hro _ _ _ _).mono ?_; rintro e w' ⟨rfl, rfl⟩)
  have bR := Boxed.new w 3 (.int .i64 0)
  have bN := Boxed.new (w.alloc (.cells #[.int .i64 0] 3)) 22 (.slice a len cap)
  rw [World.size_alloc] at bN
  have hB0 : Below w.heap.size w ((w.alloc (.cells #[.int .i64 0] 3)).alloc (.cells #[.slice a len cap] 22)) := ((Below.refl _ w).alloc (Nat.le_refl _) _).alloc (by simp) _
  refine wpIn_rangeFunc_ownG hro h1 (gf := 37) (lb := #[.pointer (some ⟨w.heap.size + 1, 0, none⟩)]) rfl h3f (enters_of Try.func37 (by kernel_rfl) rfl)
    (back_stops F (n - 1) h3f hro (by omega) (w.heap.size + 1) b off len cap (fun j z => z = l.getD j 0) hmax (.slice a len cap) hA _ (by simp) (by simp; omega) bN.cell (fun j hj => by
      obtain ⟨z, hz, hc⟩ := hS j hj
      exact ⟨z, hz, (hB0.cell (p := ⟨b, off + j, none⟩) (by show b < _; omega)).trans hc⟩))
    Kp.trans' (fun W l o o' _ h2 h3 _ => Kp.obj W l o o' h2 h3) (Below.refl _ _) (fun _ => rfl)
    (fun pre W => DegI w.heap.size pre W ∧ Below w.heap.size w W)
    (fun c pre W => DegX w.heap.size c pre W ∧ Below w.heap.size w W)
    (OwnFrom.and (Own.from (fun s A B row hs hg hr => ⟨hs.1, cell_kept hs.2.1 hg hr, (frozen_kept hs.2.1 hg hr).trans hs.2.2⟩) _) (ownFrom_below (Nat.le_refl _) (by simp; omega)))
    (fun c => OwnFrom.and (Own.from (fun s A B row hs hg hr => by obtain ⟨hc, ini, last, e1, e2, e3, e4⟩ := hs; exact ⟨hc, ini, last, e1, e2, e3, cell_kept e4 hg hr⟩) _) (ownFrom_below (Nat.le_refl _) (by simp; omega)))
    ⟨⟨by simp, (bR.alloc _).cell, (bR.alloc _).frozen⟩, hB0⟩
    (fun x => { tmps := #[.slice a len cap, undef, .pointer (some ⟨w.heap.size, 0, none⟩), .int .i64 (x.1.1 : Int), .int .u8 x.1.2, .slice a len cap, .func (.func 37) #[] #[.pointer (some ⟨w.heap.size + 1, 0, none⟩)], .int .i64 (x.1.1 : Int), .int .u8 x.1.2, undef, undef, undef], defers := [] }) ?assign ?body ?done ?stop
  case assign =>
    intro l x W K hK
    gi_wp2
    exact hK
  case body =>
    rintro l0 pre x W ⟨hI, hB⟩ _
    have hx := x.2.1
    obtain ⟨_, hcr, hfr⟩ := id hI
    cases hz : (x.1.2 == 0)
    · have hne : (x.1.2 != 0) = true := by simp [bne, hz]
      have hz2 : x.1.2 ≠ 0 := by simpa using hz
      gi_wp2
      exact ⟨(KeepsOthers.setCell _ _ _).from _, hI.left x hz2, hB.setCell (p := ⟨w.heap.size, 0, none⟩) (Nat.le_refl _) _⟩
    · have hne : (x.1.2 != 0) = false := by simp [bne, hz]
      have hz2 : x.1.2 = 0 := by simpa using hz
      gi_wp2
      exact ⟨KeepsFrom.refl _ _, ⟨fun e => e, fun e => e⟩, hI.more x hz2, hB⟩
  case done =>
    rintro D ys W hD hys ⟨⟨hne, hcr, hfr⟩, hB⟩ hK
    gi_wp2
    have hK' := (KeepsOthers.setCell W ⟨w.heap.size, 0, none⟩ (.int .i64 (-1))).same D _ hK rfl
    refine ⟨by simp, .inl ⟨_, _, rfl, run_takeDeferred hK', ?_⟩⟩
    have hc5 := cell_kept (World.cell?_setCell_same' W ⟨w.heap.size, 0, none⟩ (.int .i64 (-1)) (by rw [hcr]; rfl)) (grownBy_putObj' _ D (.deferred none)) (fun r e => by cases e; exact ⟨_, hK', rfl⟩)
    have hd : dn l = 0 := by
      unfold dn
      rw [hlen, cutK_zeros l 0 len (by omega) (fun j _ hj => ?_)]
      · rfl
      · have hm := mem_down (k := len) hj (by omega)
        rw [← hys] at hm
        obtain ⟨p, hp, rfl⟩ := List.mem_map.1 hm
        rw [← p.2.2]; exact hne p hp
    refine ⟨.int .i64 (-1), ?_, by rw [hd]; rfl, (hB.setCell (p := ⟨w.heap.size, 0, none⟩) (Nat.le_refl _) _).trans (belowK_b (w := w) (Nat.le_refl _) _ D _ _ (by simp at hD; omega) hK' rfl rfl)⟩
    simp [results, Try.f19, go_sem, hc5]
  case stop =>
    rintro D c pre W hD ⟨k, hk, hpl⟩ ⟨⟨rfl, ini, last, e1, e2, e3, hcr⟩, hB⟩ hK
    gi_wp2
    refine ⟨by simp, .inl ⟨_, _, rfl, run_takeDeferred hK, ?_⟩⟩
    have hc5 := cell_kept hcr (grownBy_putObj' _ D (.deferred none)) (fun r e => by cases e; exact ⟨_, hK, rfl⟩)
    have hd : dn l = last.1.1 + 1 := by
      obtain ⟨k', rfl⟩ : ∃ k', k = k' + 1 := by
        cases k with
        | zero => rw [e1, placesOf_snoc] at hpl; simp [down] at hpl
        | succ k' => exact ⟨k', rfl⟩
      rw [e1, placesOf_snoc, down_succ] at hpl
      obtain ⟨e4, e5⟩ := List.append_inj' hpl rfl
      have e6 : last.1.1 = len - 1 - k' := by simpa using e5
      unfold dn
      rw [hlen, cutK_zeros l (last.1.1 + 1) len (by omega) (fun j h1 h2 => ?_), cutK_top l _ (by rw [← last.2.2]; exact e3)]
      have hm := mem_down (k := k') h2 (by omega)
      rw [← e4] at hm
      obtain ⟨p, hp, rfl⟩ := List.mem_map.1 hm
      rw [← p.2.2]; exact e2 p hp
    refine ⟨.int .i64 (last.1.1 : Int), ?_, by rw [hd]; congr 2; omega, hB.trans (belowK_b (w := w) (Nat.le_refl _) W D _ _ (by simp at hD; omega) hK rfl rfl)⟩
    simp [results, Try.f19, go_sem, hc5]
theorem degree_any (a : Option Addr) (len cap : Nat) (l : List Int) (w : World) (hl : Bytes w a len l) :
    Calls Try.prog 19 #[.slice a len cap] w fun e w' => e = .returned (.int .i64 ((dn l : Int) - 1)) ∧ Below w.heap.size w w' :=
  callsIn_wide.1 (degree_in Fence.wide 3 trivial trivial trivial rfl (Nat.le_refl _) a len cap l w hl)
end Go.Proofs.Ytbiaenkhhbgbcaa
