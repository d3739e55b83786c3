/-
  Own text: Scale, walked.
  lists whose first places take sums (Mix), and rows of the call's own that are stored into. Plain lists.
-/
import Derived.Test.YtjcbcdjfhcnhcaaGfA
import Derived.Test.YtjcbcdjfhcnhcaaByteB
namespace Go.Proofs.Ytjcbcdjfhcnhcaa
open Go.RowKit

/-- Bytes, each by an element. -/
def sc (a : Nat) (l : List Int) : List Int := l.map (fun z => ((gm a z.toNat : Nat) : Int))
/-- Behind so many rounds. -/
def scK (a : Nat) (l : List Int) (k : Nat) : List Int := sc a (l.take k) ++ List.replicate (l.length - k) 0
theorem sc_length (a : Nat) (l : List Int) : (sc a l).length = l.length := by simp [sc]
theorem scK_length (a : Nat) (l : List Int) (k : Nat) (h : k ≤ l.length) : (scK a l k).length = l.length := by simp [scK, sc]; omega
theorem scK_zero (a : Nat) (l : List Int) : scK a l 0 = List.replicate l.length 0 := by simp [scK, sc]
theorem scK_all (a : Nat) (l : List Int) : scK a l l.length = sc a l := by simp [scK]
theorem scK_step (a : Nat) (l : List Int) (k : Nat) (h : k < l.length) : (scK a l k).set k ((gm a (l.getD k 0).toNat : Nat) : Int) = scK a l (k + 1) := by
  unfold scK sc
  have e : (List.map (fun z => ((gm a z.toNat : Nat) : Int)) (List.take k l)).length = k := by simp; omega
  rw [List.set_append_right _ _ (by omega), e, Nat.sub_self, List.take_succ_eq_append_getElem h, List.map_append, List.append_assoc]
  congr 1
  rw [show l.length - k = (l.length - (k + 1)) + 1 by omega, List.replicate_succ, List.set_cons_zero, List.getD_eq_getElem?_getD, List.getElem?_eq_getElem h]
  rfl
theorem sc_range (a : Nat) (ha : a < 256) (l : List Int) (hl : ∀ z ∈ l, 0 ≤ z ∧ z ≤ 255) : ∀ z ∈ sc a l, 0 ≤ z ∧ z ≤ 255 := by
  intro z hz
  obtain ⟨y, hy, rfl⟩ := List.mem_map.1 hz
  have h := hl y hy
  have := gm_lt ha (show y.toNat < 256 by omega)
  omega
/-- What Scale leaves: a new block. -/
def Scaled (a n : Nat) (l : List Int) (w : World) (e : Ending) (w' : World) : Prop :=
  ∃ g, e = .returned (.slice (some ⟨g, 0, none⟩) n n) ∧ w.heap.size ≤ g ∧ Row8 w' g 5 (sc a l) ∧ Below w.heap.size w w'
set_option maxRecDepth 100000 in
theorem scale_any (t a : Nat) (x : Option Addr) (n cap : Nat) (l : List Int) (w : World) (ha : a < 256) (ht : IsTab w t) (hl : Bytes w x n l) (hn : n ≤ 100000) :
    Calls Try.prog 127 #[.pointer (some ⟨t, 0, none⟩), .int .u8 a, .slice x n cap] w (Scaled a n l w) := by
  have hmk : ∀ w : World, (Instr.makeSlice 42 (.int .i64 (n : Int)) (.int .i64 (n : Int))).run Try.prog w = .ok (.slice (some ⟨w.heap.size, 0, none⟩) n n) (w.alloc (.cells (madeCells #[.int .u8 0] n) 5)) := fun w =>
    run_make_row' (P := Try.prog) 42 5 (.int .u8 0) 1 Try.underlying42 (by kernel_rfl) rfl .i64 .i64 n (by omega) (by omega) w
  have HM := Lib.hid (fun w => made_row w n 5)
  have hsz := hl.size
  have HSZ := Lib.hid hsz
  have hlt := ht.lt
  have HL := Lib.hid hl
  have HT := Lib.hid ht
  clear hl ht hsz
  generalize madeCells #[Value.int .u8 0] n = M at *
  have H0 : Hid (Row8 (w.alloc (.cells M 5)) w.heap.size 5 (scK a l 0)) := Lib.hid (by rw [scK_zero, HSZ.out]; exact HM.out w)
  have HB0 : Hid (Below w.heap.size w (w.alloc (.cells M 5))) := Lib.hid ((Below.refl _ _).alloc (Nat.le_refl _) _)
  clear HM
  have HLT := Lib.hid hlt
  clear hlt
  go_enter Try.func127, Try.ntmps127
  go_wp2
  generalize w.alloc (.cells M 5) = W at *
  go_loopw [8, 9, 15] (fun _ _ i wr => ∃ k : Nat, k ≤ n ∧ i = .int .i64 k ∧ Hid (Row8 wr w.heap.size 5 (scK a l k)) ∧ Hid (Below w.heap.size w wr)) (fun _ _ i _ => n - (intOf i).toNat)
  case atStart => exact ⟨0, by omega, rfl, H0, HB0⟩
  case round =>
    obtain ⟨k, hk, rfl, HR, HB⟩ := hrel
    obtain ⟨wo, ho⟩ : ∃ wo, wo = wr := ⟨_, rfl⟩
    subst ho
    by_cases hlt : k < n
    · have h1 := HL.out.below HB.out (Nat.le_refl _)
      obtain ⟨b, off, rfl, c⟩ : ∃ b off, x = some ⟨b, off, none⟩ ∧ wo.cell? ⟨b, off + k, none⟩ = some (.int .u8 (l.getD k 0)) := by
        rcases h1.cell with h | ⟨_, b, off, e, _, h⟩
        · omega
        · exact ⟨b, off, e, h k hlt⟩
      obtain ⟨z0, z1⟩ := HL.out.byte k hlt
      have c2 := HR.out.cell k (by rw [scK_length _ _ _ (by rw [HSZ.out]; omega), HSZ.out]; exact hlt)
      have f2 := HR.out.frozen k
      have HS := Lib.hid (scK_step a l k (by rw [HSZ.out]; exact hlt))
      clear h1
      generalize l.getD k 0 = z at *
      obtain ⟨y, rfl⟩ : ∃ y : Nat, z = y := ⟨z.toNat, by omega⟩
      have CM := Lib.hid (fun (w : World) (ht : IsTab w t) => gmul_any t a y ha (by omega) w ht)
      have HT2 := Lib.hid (HT.out.below HB.out HLT.out)
      go_wp2_with (go_at_call 131; refine (CM.out _ HT2.out).mono ?_; rintro e w3 ⟨rfl, q, rfl⟩)
      go_roundw
      case rel =>
        refine ⟨k + 1, by omega, by go_num, ?_, ?_⟩
        · have h : Row8 (wo.drewN q) w.heap.size 5 (scK a l k) := HR.out
          have h2 := h.set k ((gm a y : Nat) : Int)
          have e := HS.out
          rw [Int.toNat_natCast] at e
          rw [e] at h2
          exact Lib.hid h2
        · exact Lib.hid ((below_drewN HB.out q).setCell (p := ⟨w.heap.size, k, none⟩) (Nat.le_refl _) _)
      case measure => simp [intOf]; omega
    · obtain rfl : k = n := by omega
      go_wp2
      go_ret
      refine ⟨w.heap.size, rfl, Nat.le_refl _, ?_, HB.out⟩
      have h := HR.out
      rw [← HSZ.out, scK_all] at h
      exact h
end Go.Proofs.Ytjcbcdjfhcnhcaa
namespace Go.Proofs.Ytjcbcdjfhcnhcaa
open Go.RowKit

/-- The first k places, each with what the other list has there. -/
def mixL (l s : List Int) (k : Nat) : List Int := l.mapIdx (fun i z => if i < k then ((z.toNat ^^^ (s.getD i 0).toNat : Nat) : Int) else z)
theorem mixL_length (l s : List Int) (k : Nat) : (mixL l s k).length = l.length := by simp [mixL]
theorem mixL_get (l s : List Int) (k i : Nat) (h : i < l.length) : (mixL l s k).getD i 0 = if i < k then (((l.getD i 0).toNat ^^^ (s.getD i 0).toNat : Nat) : Int) else l.getD i 0 := by
  unfold mixL
  simp [List.getD_eq_getElem?_getD, List.getElem?_eq_getElem h]
theorem mixL_zero (l s : List Int) : mixL l s 0 = l := by
  refine same_getD (mixL_length _ _ _) (fun i hi => ?_)
  rw [mixL_get _ _ _ _ (by rwa [mixL_length] at hi), if_neg (by omega)]
theorem set_get (l : List Int) (k i : Nat) (z : Int) (h : i < l.length) : (l.set k z).getD i 0 = if i = k then z else l.getD i 0 := by
  rw [List.getD_eq_getElem?_getD, List.getElem?_set, List.getD_eq_getElem?_getD]
  by_cases e : i = k
  · subst e; simp [h]
  · rw [if_neg (fun h => e h.symm), if_neg e]
theorem mixL_step (l s : List Int) (k : Nat) (h : k < l.length) : (mixL l s k).set k (((l.getD k 0).toNat ^^^ (s.getD k 0).toNat : Nat) : Int) = mixL l s (k + 1) := by
  refine same_getD (by rw [List.length_set, mixL_length, mixL_length]) (fun i hi => ?_)
  rw [List.length_set, mixL_length] at hi
  rw [set_get _ _ _ _ (by rw [mixL_length]; exact hi), mixL_get _ _ _ _ hi, mixL_get _ _ _ _ hi]
  by_cases e : i = k
  · subst e; rw [if_pos rfl, if_pos (by omega)]
  · rw [if_neg e]
    by_cases g : i < k
    · rw [if_pos g, if_pos (by omega)]
    · rw [if_neg g, if_neg (by omega)]
theorem mixL_beyond (l s : List Int) (k : Nat) (h : l.length ≤ k) : mixL l s (k + 1) = mixL l s k := by
  refine same_getD (by rw [mixL_length, mixL_length]) (fun i hi => ?_)
  rw [mixL_length] at hi
  rw [mixL_get _ _ _ _ hi, mixL_get _ _ _ _ hi, if_pos (by omega), if_pos (by omega)]
theorem sc_get (a : Nat) (l : List Int) (i : Nat) (h : i < l.length) : (sc a l).getD i 0 = ((gm a (l.getD i 0).toNat : Nat) : Int) := by
  unfold sc
  simp [List.getD_eq_getElem?_getD, List.getElem?_eq_getElem h]
theorem mix_same (a : Nat) (l x : List Int) (K : Nat) (hK : K = min l.length x.length) : mixL l (sc a (x.take K)) K = mixL l (sc a x) x.length := by
  refine same_getD (by rw [mixL_length, mixL_length]) (fun i hi => ?_)
  rw [mixL_length] at hi
  rw [mixL_get _ _ _ _ hi, mixL_get _ _ _ _ hi]
  by_cases g : i < K
  · rw [if_pos g, if_pos (by omega), sc_get _ _ _ (by rw [List.length_take]; omega), sc_get _ _ _ (by omega)]
    simp [List.getD_eq_getElem?_getD, g]
  · rw [if_neg g, if_neg (by omega)]
theorem mixL_range (l s : List Int) (k : Nat) (hl : ∀ z ∈ l, 0 ≤ z ∧ z ≤ 255) (hs : ∀ z ∈ s, 0 ≤ z ∧ z ≤ 255) : ∀ z ∈ mixL l s k, 0 ≤ z ∧ z ≤ 255 := by
  intro z hz
  obtain ⟨i, hi, rfl⟩ := List.mem_iff_getElem.1 hz
  have hi' : i < l.length := by rwa [mixL_length] at hi
  have e := mixL_get l s k i hi'
  rw [List.getD_eq_getElem?_getD, List.getElem?_eq_getElem hi] at e
  have e' : (mixL l s k)[i] = if i < k then (((l.getD i 0).toNat ^^^ (s.getD i 0).toNat : Nat) : Int) else l.getD i 0 := e
  have h1 : 0 ≤ l.getD i 0 ∧ l.getD i 0 ≤ 255 := by
    rw [List.getD_eq_getElem?_getD, List.getElem?_eq_getElem hi']; exact hl _ (List.getElem_mem _)
  have h2 : 0 ≤ s.getD i 0 ∧ s.getD i 0 ≤ 255 := by
    by_cases g : i < s.length
    · rw [List.getD_eq_getElem?_getD, List.getElem?_eq_getElem g]; exact hs _ (List.getElem_mem _)
    · rw [List.getD_eq_getElem?_getD, List.getElem?_eq_none (by omega)]; simp
  rw [e']
  split
  · have := Nat.xor_lt_two_pow (n := 8) (show (l.getD i 0).toNat < 2 ^ 8 by omega) (show (s.getD i 0).toNat < 2 ^ 8 by omega)
    omega
  · exact h1
/-- Where a row of the call's own has an element: its block, and the element there. -/
theorem Own8.at_ {w : World} {base : Nat} {A : Option Addr} {n C : Nat} {l : List Int} (h : Own8 w base (.slice A n C) n l) (hn : 0 < n) :
    ∃ g, A = some ⟨g, 0, none⟩ ∧ base ≤ g ∧ g < w.heap.size ∧ (∀ i, i < n → w.cell? ⟨g, i, none⟩ = some (.int .u8 (l.getD i 0))) ∧ (∀ i, w.frozen? ⟨g, i, none⟩ = false) ∧
      ∀ i z, Own8 (w.setCell ⟨g, i, none⟩ (.int .u8 z)) base (.slice A n C) n (l.set i z) := by
  have hl := h.length
  rcases h.2 with ⟨e, rfl⟩ | ⟨g, cap, cur, e, h1, hg, _⟩
  · omega
  · simp only [Value.slice.injEq, true_and] at e
    obtain ⟨rfl, rfl⟩ := e
    obtain ⟨h2, _⟩ := Array.getElem?_eq_some_iff.1 hg
    refine ⟨g, rfl, h1, h2, fun i hi => ?_, fun i => World.ownsRow.frozenAt h i, fun i z => ?_⟩
    · rw [World.ownsRow.cellAt h i (by omega), List.getElem?_map, List.getD_eq_getElem?_getD, List.getElem?_eq_getElem (by omega)]; rfl
    · have := (World.ownsRow.stored h i (.int .u8 z)).1
      unfold Own8
      rw [List.map_set]
      exact this
theorem Own8.drewN {w : World} {base : Nat} {v : Value} {n : Nat} {l : List Int} (h : Own8 w base v n l) (k : Nat) : Own8 (w.drewN k) base v n l := h
end Go.Proofs.Ytjcbcdjfhcnhcaa
