/-
  Own text: lists of bytes by their elements. Plain lists.
  the small ones of package matrix, walked: fits, Right, has, New.
  rows of a list of bytes, cut: each a slice of its own; walked.
  lists of numbers, those of the call's own.
  a block of bytes of the call's own, of which one knows the front part; what is copied and mixed into it.
  Mix into a part of a block of the call's own, walked: all other blocks are as they were.
-/
import Derived.Test.YtjcbcdjfhcnhcaaPolM
import Derived.Test.YtjcbcdjfhcnhcaaGfR3
import Derived.Lib.Hide
import Derived.Handy
import Derived.Deep.RegionLaw
namespace Go.Proofs.Ytjcbcdjfhcnhcaa
open Go.RowKit

/-- A coefficient. -/
def co (l : List Int) (i : Nat) : Nat := (l.getD i 0).toNat
/-- Bytes. -/
def By (l : List Int) : Prop := ∀ z ∈ l, 0 ≤ z ∧ z ≤ 255
theorem By.at_ {l : List Int} (h : By l) (i : Nat) : 0 ≤ l.getD i 0 ∧ l.getD i 0 ≤ 255 := by
  by_cases g : i < l.length
  · rw [List.getD_eq_getElem?_getD, List.getElem?_eq_getElem g]; exact h _ (List.getElem_mem _)
  · rw [List.getD_eq_getElem?_getD, List.getElem?_eq_none (by omega)]; simp
theorem By.get {l : List Int} (h : By l) (i : Nat) : l.getD i 0 = (co l i : Int) := by have := h.at_ i; unfold co; omega
theorem By.lt {l : List Int} (h : By l) (i : Nat) : co l i < 256 := by have := h.at_ i; unfold co; omega
theorem By.zero {l : List Int} (h : By l) (i : Nat) : l.getD i 0 = 0 ↔ co l i = 0 := by have := h.at_ i; unfold co; omega
theorem By.take {l : List Int} (h : By l) (k : Nat) : By (l.take k) := fun z hz => h z (List.mem_of_mem_take hz)
theorem By.nil : By [] := fun _ h => by simp at h
theorem co_nil (i : Nat) : co [] i = 0 := by simp [co]
theorem co_out {l : List Int} {i : Nat} (h : l.length ≤ i) : co l i = 0 := by unfold co; rw [List.getD_eq_getElem?_getD, List.getElem?_eq_none h]; rfl
theorem co_sup (l : List Int) : Sup (co l) l.length := fun _ h => co_out h
theorem co_take (l : List Int) (k i : Nat) (h : i < k) : co (l.take k) i = co l i := by
  unfold co; simp [List.getD_eq_getElem?_getD, h]
theorem list_co {x y : List Int} (hx : By x) (hy : By y) (hn : x.length = y.length) (h : ∀ i, i < x.length → co x i = co y i) : x = y :=
  same_getD hn (fun i hi => by rw [hx.get, hy.get, h i hi])
/-- A list by its coefficients. -/
def ofF (f : Nat → Nat) (n : Nat) : List Int := (List.range n).map (fun i => (f i : Int))
theorem ofF_length (f : Nat → Nat) (n : Nat) : (ofF f n).length = n := by simp [ofF]
theorem ofF_get (f : Nat → Nat) (n i : Nat) (h : i < n) : (ofF f n).getD i 0 = (f i : Int) := by simp [ofF, List.getD_eq_getElem?_getD, h]
theorem ofF_co (f : Nat → Nat) (n i : Nat) (h : i < n) : co (ofF f n) i = f i := by unfold co; rw [ofF_get f n i h]; simp
theorem ofF_by {f : Nat → Nat} (h : ∀ i, f i < 256) (n : Nat) : By (ofF f n) := fun z hz => by
  obtain ⟨i, _, rfl⟩ := List.mem_map.1 hz
  have := h i
  show (0 : Int) ≤ (f i : Int) ∧ (f i : Int) ≤ 255
  omega
theorem ofF_all {f : Nat → Nat} {n : Nat} (h : Sup f n) (i : Nat) : co (ofF f n) i = f i := by
  by_cases g : i < n
  · exact ofF_co f n i g
  · rw [co_out (by rw [ofF_length]; omega), h i (by omega)]
theorem ofF_succ (f : Nat → Nat) (n : Nat) : ofF f (n + 1) = ofF f n ++ [(f n : Int)] := by simp [ofF, List.range_succ]
theorem ofF_zero (f : Nat → Nat) : ofF f 0 = [] := rfl
theorem of_list {l : List Int} (h : By l) : ofF (co l) l.length = l :=
  list_co (ofF_by h.lt _) h (ofF_length _ _) (fun i hi => by rw [ofF_co _ _ _ (by rwa [ofF_length] at hi)])
end Go.Proofs.Ytjcbcdjfhcnhcaa
namespace Go.Proofs.Ytjcbcdjfhcnhcaa
open Go.RowKit

theorem fits_yes (n : Nat) (hn : n ≤ 255) (w : World) : Calls Try.prog 102 #[.int .i64 n] w fun e w' => e = .returned (.bool true) ∧ w = w' := by
  go_enter Try.func102, Try.ntmps102
  go_wp2
  go_ret
  exact ⟨ret_bool (decide_eq_true (by omega)), rfl⟩
theorem fits_no (n : Int) (hn : ¬ (0 ≤ n ∧ n ≤ 255)) (w : World) : Calls Try.prog 102 #[.int .i64 n] w fun e w' => e = .returned (.bool false) ∧ w = w' := by
  rcases Int.lt_or_le n 0 with h | h
  · go_enter Try.func102, Try.ntmps102
    go_wp2
    go_ret
    exact ⟨rfl, rfl⟩
  · have h2 : 255 < n := by omega
    clear hn
    go_enter Try.func102, Try.ntmps102
    go_wp2
    go_ret
    exact ⟨ret_bool (decide_eq_false (by omega)), rfl⟩
theorem fits_any (n : Int) (w : World) : Calls Try.prog 102 #[.int .i64 n] w fun e w' => e = .returned (.bool (decide (0 ≤ n ∧ n ≤ 255))) ∧ w = w' := by
  by_cases h : 0 ≤ n ∧ n ≤ 255
  · obtain ⟨m, rfl⟩ : ∃ m : Nat, n = m := ⟨n.toNat, by omega⟩
    rw [decide_eq_true h]
    exact fits_yes m (by omega) w
  · rw [decide_eq_false h]
    exact fits_no n h w
/-- Is it right? -/
def RightM (r c : Int) (n : Nat) : Prop := (0 ≤ r ∧ r ≤ 255) ∧ (0 ≤ c ∧ c ≤ 255) ∧ (n : Int) = r * c
instance (r c : Int) (n : Nat) : Decidable (RightM r c n) := by unfold RightM; infer_instance
theorem right_yes (r c n : Nat) (hr : r ≤ 255) (hc : c ≤ 255) (hn : n = r * c) (a : Option Addr) (cap : Nat) (w : World) :
    Calls Try.prog 101 #[.agg #[.int .i64 r, .int .i64 c, .slice a n cap]] w fun e w' => e = .returned (.bool true) ∧ Below w.heap.size w w' := by
  have hm : r * c ≤ 65025 := Nat.mul_le_mul hr hc
  obtain ⟨m, hmm⟩ : ∃ m : Nat, r * c = m := ⟨_, rfl⟩
  have hmi : (r : Int) * c = m := by rw [← hmm]; omega
  rw [hmm] at hm hn
  subst hn
  have F1 := Lib.hid (fits_yes r hr)
  have F2 := Lib.hid (fits_yes c hc)
  clear hmm
  go_enter Try.func101, Try.ntmps101
  go_wp2_with first
    | ((with_reducible refine (F1.out _).mono ?_); rintro e w1 ⟨rfl, rfl⟩)
    | ((with_reducible refine (F2.out _).mono ?_); rintro e w1 ⟨rfl, rfl⟩)
  go_ret
  exact ⟨rfl, (Below.refl _ _).alloc (Nat.le_refl _) _⟩
theorem right_len (r c n : Nat) (hr : r ≤ 255) (hc : c ≤ 255) (hn : n ≠ r * c) (a : Option Addr) (cap : Nat) (w : World) :
    Calls Try.prog 101 #[.agg #[.int .i64 r, .int .i64 c, .slice a n cap]] w fun e w' => e = .returned (.bool false) ∧ Below w.heap.size w w' := by
  have hm : r * c ≤ 65025 := Nat.mul_le_mul hr hc
  obtain ⟨m, hmm⟩ : ∃ m : Nat, r * c = m := ⟨_, rfl⟩
  have hmi : (r : Int) * c = m := by rw [← hmm]; omega
  rw [hmm] at hm hn
  have hni : ¬ (n : Int) = m := by omega
  have hnb : ((n : Int) == m) = false := by simpa using hni
  have F1 := Lib.hid (fits_yes r hr)
  have F2 := Lib.hid (fits_yes c hc)
  clear hmm
  go_enter Try.func101, Try.ntmps101
  go_wp2_with first
    | ((with_reducible refine (F1.out _).mono ?_); rintro e w1 ⟨rfl, rfl⟩)
    | ((with_reducible refine (F2.out _).mono ?_); rintro e w1 ⟨rfl, rfl⟩)
  go_ret
  exact ⟨rfl, (Below.refl _ _).alloc (Nat.le_refl _) _⟩
theorem right_rows (r c : Int) (n : Nat) (hr : ¬ (0 ≤ r ∧ r ≤ 255)) (a : Option Addr) (cap : Nat) (w : World) :
    Calls Try.prog 101 #[.agg #[.int .i64 r, .int .i64 c, .slice a n cap]] w fun e w' => e = .returned (.bool false) ∧ Below w.heap.size w w' := by
  have F1 := Lib.hid (fits_no r hr)
  clear hr
  go_enter Try.func101, Try.ntmps101
  go_wp2_with ((with_reducible refine (F1.out _).mono ?_); rintro e w1 ⟨rfl, rfl⟩)
  go_ret
  exact ⟨rfl, (Below.refl _ _).alloc (Nat.le_refl _) _⟩
theorem right_cols (r : Nat) (c : Int) (n : Nat) (hr : r ≤ 255) (hc : ¬ (0 ≤ c ∧ c ≤ 255)) (a : Option Addr) (cap : Nat) (w : World) :
    Calls Try.prog 101 #[.agg #[.int .i64 r, .int .i64 c, .slice a n cap]] w fun e w' => e = .returned (.bool false) ∧ Below w.heap.size w w' := by
  have F1 := Lib.hid (fits_yes r hr)
  have F2 := Lib.hid (fits_no c hc)
  clear hr hc
  go_enter Try.func101, Try.ntmps101
  go_wp2_with first
    | ((with_reducible refine (F1.out _).mono ?_); rintro e w1 ⟨rfl, rfl⟩)
    | ((with_reducible refine (F2.out _).mono ?_); rintro e w1 ⟨rfl, rfl⟩)
  go_ret
  exact ⟨rfl, (Below.refl _ _).alloc (Nat.le_refl _) _⟩
theorem right_any (r c : Int) (n : Nat) (a : Option Addr) (cap : Nat) (w : World) :
    Calls Try.prog 101 #[.agg #[.int .i64 r, .int .i64 c, .slice a n cap]] w fun e w' => e = .returned (.bool (decide (RightM r c n))) ∧ Below w.heap.size w w' := by
  by_cases hr : 0 ≤ r ∧ r ≤ 255
  · obtain ⟨R, rfl⟩ : ∃ m : Nat, r = m := ⟨r.toNat, by omega⟩
    by_cases hc : 0 ≤ c ∧ c ≤ 255
    · obtain ⟨C, rfl⟩ : ∃ m : Nat, c = m := ⟨c.toNat, by omega⟩
      by_cases hn : n = R * C
      · rw [decide_eq_true (show RightM R C n from ⟨hr, hc, by rw [hn]; omega⟩)]
        exact right_yes R C n (by omega) (by omega) hn a cap w
      · rw [decide_eq_false (show ¬ RightM R C n from fun h => hn (by have := h.2.2; rw [← Int.natCast_mul] at this; omega))]
        exact right_len R C n (by omega) (by omega) hn a cap w
    · rw [decide_eq_false (show ¬ RightM R c n from fun h => hc h.2.1)]
      exact right_cols R c n (by omega) hc a cap w
  · rw [decide_eq_false (show ¬ RightM r c n from fun h => hr h.1)]
    exact right_rows r c n hr a cap w
theorem has_any (r c i : Int) (n : Nat) (a : Option Addr) (cap : Nat) (w : World) :
    Calls Try.prog 103 #[.agg #[.int .i64 r, .int .i64 c, .slice a n cap], .int .i64 i] w fun e w' => e = .returned (.bool (decide (0 ≤ i ∧ i < r))) ∧ Below w.heap.size w w' := by
  rcases Int.lt_or_le i 0 with h | h
  · go_enter Try.func103, Try.ntmps103
    go_wp2
    go_ret
    refine ⟨ret_bool ?_, (Below.refl _ _).alloc (Nat.le_refl _) _⟩
    show false = _
    symm
    simp
    omega
  · go_enter Try.func103, Try.ntmps103
    go_wp2
    go_ret
    refine ⟨ret_bool ?_, (Below.refl _ _).alloc (Nat.le_refl _) _⟩
    show decide (i < r) = _
    congr 1
    simp [h]
/-- New's answer: a matrix of noughts in a block of its own. -/
def Newed (r c : Nat) (w : World) (e : Ending) (w' : World) : Prop :=
  ∃ g, e = .returned (.tuple #[.agg #[.int .i64 r, .int .i64 c, .slice (some ⟨g, 0, none⟩) (r * c) (r * c)], .int .i64 0]) ∧ w.heap.size ≤ g ∧ Row8 w' g 5 (List.replicate (r * c) 0) ∧ Below w.heap.size w w'
/-- Nothing, and why. -/
def Refused (k : Int) (w : World) (e : Ending) (w' : World) : Prop :=
  e = .returned (.tuple #[.agg #[.int .i64 0, .int .i64 0, .slice none 0 0], .int .i64 k]) ∧ Below w.heap.size w w'
theorem new_none (r c : Int) (h : ¬ ((0 ≤ r ∧ r ≤ 255) ∧ 0 ≤ c ∧ c ≤ 255)) (w : World) : Calls Try.prog 98 #[.int .i64 r, .int .i64 c] w (Refused 50 w) := by
  by_cases hr : 0 ≤ r ∧ r ≤ 255
  · obtain ⟨R, rfl⟩ : ∃ m : Nat, r = m := ⟨r.toNat, by omega⟩
    have F1 := Lib.hid (fits_yes R (by omega))
    have F2 := Lib.hid (fits_no c (fun g => h ⟨hr, g⟩))
    clear h hr
    go_enter Try.func98, Try.ntmps98
    go_wp2_with first
      | ((with_reducible refine (F1.out _).mono ?_); rintro e w1 ⟨rfl, rfl⟩)
      | ((with_reducible refine (F2.out _).mono ?_); rintro e w1 ⟨rfl, rfl⟩)
    go_returns
    exact ⟨rfl, (Below.refl _ _).alloc (Nat.le_refl _) _⟩
  · have F1 := Lib.hid (fits_no r hr)
    clear h hr
    go_enter Try.func98, Try.ntmps98
    go_wp2_with ((with_reducible refine (F1.out _).mono ?_); rintro e w1 ⟨rfl, rfl⟩)
    go_returns
    exact ⟨rfl, (Below.refl _ _).alloc (Nat.le_refl _) _⟩
theorem made_row' (W : World) (n : Nat) (t : TypeId) (b : Nat) (hb : b = W.heap.size) : Row8 (W.alloc (.cells (madeCells #[.int .u8 0] n) t)) b t (List.replicate n 0) := by rw [hb]; exact made_row W n t
theorem new_some (r c : Nat) (hr : r ≤ 255) (hc : c ≤ 255) (w : World) : Calls Try.prog 98 #[.int .i64 r, .int .i64 c] w (Newed r c w) := by
  have hm : r * c ≤ 65025 := Nat.mul_le_mul hr hc
  unfold Newed
  obtain ⟨m, hmm⟩ : ∃ m : Nat, r * c = m := ⟨_, rfl⟩
  have hmi : (r : Int) * c = m := by rw [← hmm]; omega
  rw [hmm] at hm ⊢
  clear hmm
  have F1 := Lib.hid (fits_yes r hr)
  have F2 := Lib.hid (fits_yes c hc)
  have hmk := fun w => run_make_row' (P := Try.prog) 42 5 (.int .u8 0) 1 Try.underlying42 info_u8 rfl .i64 .i64 m (by omega) (by omega) w
  go_enter Try.func98, Try.ntmps98
  go_wp2_with first
    | ((with_reducible refine (F1.out _).mono ?_); rintro e w1 ⟨rfl, rfl⟩)
    | ((with_reducible refine (F2.out _).mono ?_); rintro e w1 ⟨rfl, rfl⟩)
  go_returns
  refine ⟨_, rfl, by omega, made_row' _ _ _ _ (by simp), by go_grown⟩
end Go.Proofs.Ytjcbcdjfhcnhcaa
namespace Go.Proofs.Ytjcbcdjfhcnhcaa
open Go.RowKit

/-- An address, so many places on. -/
def onA (a : Option Addr) (o : Nat) : Option Addr := a.map fun x => x.add o
theorem onto_any (b off k : Nat) : (⟨b, off, none⟩ : Addr).add k = ⟨b, off + k, none⟩ := by unfold Addr.add; split <;> simp_all
theorem add_none (x : Addr) : x.add 0 = x := by unfold Addr.add; split <;> simp_all
theorem onA_at (b off k : Nat) : onA (some ⟨b, off, none⟩) k = some ⟨b, off + k, none⟩ := by unfold onA; rw [Option.map_some, onto_any]
/-- A list of slices, in a block: slice i lies at A i. -/
def Lst (w : World) (h cnt len : Nat) (A : Nat → Option Addr) : Prop := w.rowIs h 42 cnt (fun i => .slice (A i) len len)
theorem info_row : (Try.prog.info? 42).map (fun i => (i.zero, i.size, i.bytes)) = some (some (.slice none 0 0), 1, 24) := by kernel_rfl
/-- What cut answers. -/
def CutTo (cnt len : Nat) (a : Option Addr) (w : World) (e : Ending) (w' : World) : Prop :=
  ∃ h, e = .returned (.slice (some ⟨h, 0, none⟩) cnt cnt) ∧ w.heap.size ≤ h ∧ Lst w' h cnt len (fun i => onA a (i * len)) ∧ Below w.heap.size w w'
/-- So far as it has come. -/
def cutV (_cnt len k : Nat) (a : Option Addr) (j : Nat) : Value := if j < k then .slice (onA a (j * len)) len len else .slice none 0 0
theorem cut_zero (w : World) (cnt len : Nat) (a : Option Addr) : (w.alloc (.cells (madeCells #[.slice none 0 0] cnt) 42)).rowIs w.heap.size 42 cnt (cutV cnt len 0 a) :=
  (World.rowIs_made w (.slice none 0 0) cnt 42).congr (fun i _ => by unfold cutV; rw [if_neg (by omega)])
theorem cut_step {w : World} {h cnt len k : Nat} {a : Option Addr} (H : w.rowIs h 42 cnt (cutV cnt len k a)) : (w.setCell ⟨h, k, none⟩ (.slice (onA a (k * len)) len len)).rowIs h 42 cnt (cutV cnt len (k + 1) a) :=
  (H.set k _).congr (fun i _ => by
    unfold cutV
    by_cases e : i = k
    · rw [if_pos e, if_pos (by omega), e]
    · rw [if_neg e]
      by_cases g : i < k
      · rw [if_pos g, if_pos (by omega)]
      · rw [if_neg g, if_neg (by omega)])
theorem cut_end {w : World} {h cnt len : Nat} {a : Option Addr} (H : w.rowIs h 42 cnt (cutV cnt len cnt a)) : Lst w h cnt len (fun i => onA a (i * len)) :=
  H.congr (fun i hi => by unfold cutV; rw [if_pos hi])
set_option maxRecDepth 100000 in
theorem cut_none (cnt len : Nat) (hc : cnt ≤ 1000) (h0 : cnt * len = 0) (w : World) :
    Calls Try.prog 110 #[.slice none 0 0, .int .i64 cnt, .int .i64 len] w (CutTo cnt len none w) := by
  have hmk := fun w => run_make_row' (P := Try.prog) 26 42 (.slice none 0 0) 24 Try.underlying26 info_row rfl .i64 .i64 cnt (by omega) (by omega) w
  have HC0 := Lib.hid (cut_zero w cnt len none)
  have HB0 : Hid (Below w.heap.size w (w.alloc (.cells (madeCells #[.slice none 0 0] cnt) 42))) := Lib.hid (by go_grown)
  have hL : cnt = 0 ∨ len = 0 := by rcases Nat.eq_zero_or_pos cnt with h | h; exact .inl h; exact .inr (by rcases Nat.eq_zero_or_pos len with g | g; exact g; have := Nat.mul_pos h g; omega)
  clear h0
  go_enter Try.func110, Try.ntmps110
  go_wp2
  clear hmk
  generalize w.alloc (.cells (madeCells #[.slice none 0 0] cnt) 42) = w1 at *
  have HH : Hid (w.heap.size ≤ w.heap.size) := Lib.hid (Nat.le_refl _)
  generalize hh : w.heap.size = h at HC0 ⊢
  rw [hh] at HB0 HH
  go_loopw [8, 9, 10, 15] (fun _ _ _ i wr => ∃ k : Nat, k ≤ cnt ∧ i = .int .i64 k ∧ Hid (wr.rowIs h 42 cnt (cutV cnt len k none)) ∧ Hid (Below h w wr)) (fun _ _ _ i _ => cnt - (intOf i).toNat)
  case atStart => exact ⟨0, by omega, rfl, HC0, HB0⟩
  case round =>
    obtain ⟨k, hk, rfl, HO, HB⟩ := hrel
    obtain ⟨wo, ho⟩ : ∃ wo, wo = wr := ⟨_, rfl⟩
    subst ho
    by_cases hlt : k < cnt
    · obtain rfl : len = 0 := by omega
      have c0 := HO.out.cell hlt
      have f0 := HO.out.frozen k
      unfold cutV at c0
      rw [if_neg (by omega)] at c0
      go_wp2
      go_roundw
      case rel => exact ⟨k + 1, by omega, by go_num, Lib.hid (cut_step (a := none) HO.out), Lib.hid (HB.out.setCell (p := ⟨h, k, none⟩) (Nat.le_refl _) _)⟩
      case measure => simp [intOf]; omega
    · obtain rfl : k = cnt := by omega
      go_wp2
      go_ret
      exact ⟨h, rfl, by omega, cut_end HO.out, by rw [hh]; exact HB.out⟩
set_option maxRecDepth 100000 in
theorem cut_some (x : Addr) (n c cnt len : Nat) (hc : cnt ≤ 1000) (hnc : n ≤ c) (h0 : cnt * len ≤ n) (hcap : n ≤ 1000000) (w : World) :
    Calls Try.prog 110 #[.slice (some x) n c, .int .i64 cnt, .int .i64 len] w (CutTo cnt len (some x) w) := by
  have hmk := fun w => run_make_row' (P := Try.prog) 26 42 (.slice none 0 0) 24 Try.underlying26 info_row rfl .i64 .i64 cnt (by omega) (by omega) w
  have HC0 := Lib.hid (cut_zero w cnt len (some x))
  have HB0 : Hid (Below w.heap.size w (w.alloc (.cells (madeCells #[.slice none 0 0] cnt) 42))) := Lib.hid (by go_grown)
  have HM : Hid (∀ k, k < cnt → (k + 1) * len ≤ n) := Lib.hid (fun k hk => Nat.le_trans (Nat.mul_le_mul_right len (show k + 1 ≤ cnt from hk)) h0)
  clear h0
  go_enter Try.func110, Try.ntmps110
  go_wp2
  clear hmk
  generalize w.alloc (.cells (madeCells #[.slice none 0 0] cnt) 42) = w1 at *
  have HH : Hid (w.heap.size ≤ w.heap.size) := Lib.hid (Nat.le_refl _)
  generalize hh : w.heap.size = h at HC0 ⊢
  rw [hh] at HB0 HH
  go_loopw [8, 9, 10, 15] (fun _ _ _ i wr => ∃ k : Nat, k ≤ cnt ∧ i = .int .i64 k ∧ Hid (wr.rowIs h 42 cnt (cutV cnt len k (some x))) ∧ Hid (Below h w wr)) (fun _ _ _ i _ => cnt - (intOf i).toNat)
  case atStart => exact ⟨0, by omega, rfl, HC0, HB0⟩
  case round =>
    obtain ⟨k, hk, rfl, HO, HB⟩ := hrel
    obtain ⟨wo, ho⟩ : ∃ wo, wo = wr := ⟨_, rfl⟩
    subst ho
    by_cases hlt : k < cnt
    · have c0 := HO.out.cell hlt
      have f0 := HO.out.frozen k
      unfold cutV at c0
      rw [if_neg (by omega)] at c0
      have hq1 := HM.out k hlt
      have HS := Lib.hid (cut_step HO.out)
      have e1 : (k + 1) * len = k * len + len := Nat.succ_mul k len
      obtain ⟨q, hq⟩ : ∃ q, k * len = q := ⟨_, rfl⟩
      rw [e1] at hq1
      rw [hq] at hq1 e1 HS
      have i1 : (k : Int) * len = q := by rw [← hq]; omega
      have i2 : ((k : Int) + 1) * len = ((q + len : Nat) : Int) := by rw [← e1, Int.natCast_mul, Int.natCast_add]; rfl
      have HE : Hid ((if len = 0 then some x else some (x.add q)) = onA (some x) q) := Lib.hid (by
        by_cases e : len = 0
        · rw [if_pos e]
          have : q = 0 := by rw [← hq, e]; exact Nat.mul_zero k
          rw [this]
          exact congrArg some (add_none x).symm
        · rw [if_neg e]; rfl)
      clear hq e1
      go_wp2
      go_roundw
      case rel => 
        rw [HE.out]
        exact ⟨k + 1, by omega, by go_num, HS, Lib.hid (HB.out.setCell (p := ⟨h, k, none⟩) (Nat.le_refl _) _)⟩
      case measure => simp [intOf]; omega
    · obtain rfl : k = cnt := by omega
      go_wp2
      go_ret
      exact ⟨h, rfl, by omega, cut_end HO.out, by rw [hh]; exact HB.out⟩
theorem cut_any' (a : Option Addr) (n c cnt len : Nat) (hc : cnt ≤ 1000) (hn : n ≤ c) (h0 : cnt * len ≤ n) (hcap : n ≤ 1000000) (h1 : a = none → c = 0) (w : World) :
    Calls Try.prog 110 #[.slice a n c, .int .i64 cnt, .int .i64 len] w (CutTo cnt len a w) := by
  cases a with
  | none =>
    obtain rfl : c = 0 := h1 rfl
    obtain rfl : n = 0 := by omega
    exact cut_none cnt len hc (by omega) w
  | some x => exact cut_some x n c cnt len hc hn h0 hcap w
theorem parts_any (a : Option Addr) (n c cnt len : Nat) (hc : cnt ≤ 1000) (hn : n ≤ c) (h0 : cnt * len ≤ n) (hcap : n ≤ 1000000) (h1 : a = none → c = 0) (w : World) :
    Calls Try.prog 99 #[.agg #[.int .i64 cnt, .int .i64 len, .slice a n c]] w (CutTo cnt len a w) := by
  have HC := Lib.hid (cut_any' a n c cnt len hc hn h0 hcap h1)
  clear hc hn h0 hcap h1
  go_enter Try.func99, Try.ntmps99
  go_wp2_with ((with_reducible refine (HC.out _).mono ?_); rintro e w1 ⟨h, rfl, hh, hl, hb⟩; have HH := Lib.hid hh; have HL := Lib.hid hl; have HB := Lib.hid hb; clear hh hl hb)
  go_ret
  refine ⟨h, rfl, ?_, HL.out, ?_⟩
  · have := HH.out; simp at this; omega
  · exact (show Below w.heap.size w (w.alloc _) by go_grown).trans (HB.out.mono (by simp))
end Go.Proofs.Ytjcbcdjfhcnhcaa
namespace Go.Proofs.Ytjcbcdjfhcnhcaa
open Go.RowKit

/-- A slice that reads as so many numbers. -/
def Nums (w : World) (a : Option Addr) (n : Nat) (P : Nat → Nat) : Prop := n = 0 ∨ ∃ b off, a = some ⟨b, off, none⟩ ∧ b < w.heap.size ∧ ∀ i, i < n → w.cell? ⟨b, off + i, none⟩ = some (.int .i64 ((P i : Nat) : Int))
theorem Nums.below {w w' : World} {a : Option Addr} {n B : Nat} {P : Nat → Nat} (h : Nums w a n P) (hb : Below B w w') (hB : w.heap.size ≤ B) : Nums w' a n P :=
  h.imp id fun ⟨b, off, e, hl, hc⟩ => ⟨b, off, e, Nat.lt_of_lt_of_le hl hb.size, fun i hi => (hb.cell (p := ⟨b, off + i, none⟩) (by show b < B; omega)).trans (hc i hi)⟩
theorem info_i64 : (Try.prog.info? 3).map (fun i => (i.zero, i.size, i.bytes)) = some (some (.int .i64 0), 1, 8) := by kernel_rfl
/-- Numbers in a slice of the call's own. -/
def OwnI (w : World) (base : Nat) (v : Value) (n : Nat) (l : List Int) : Prop := w.ownsRow base 3 1 v n (l.map (Value.int .i64))
theorem OwnI.none (w : World) (base : Nat) : OwnI w base (.slice none 0 0) 0 [] := ⟨rfl, .inl ⟨rfl, rfl⟩⟩
theorem OwnI.below {w w' : World} {base B : Nat} {v : Value} {n : Nat} {l : List Int} (h : OwnI w base v n l) (hb : Below B w w') (hB : w.heap.size ≤ B) : OwnI w' base v n l := by
  refine ⟨h.1, h.2.imp id ?_⟩
  rintro ⟨g, cap, cur, e, h1, hg, h2⟩
  refine ⟨g, cap, cur, e, h1, ?_, h2⟩
  obtain ⟨h3, _⟩ := Array.getElem?_eq_some_iff.1 hg
  rw [hb.block g (by omega)]
  exact hg
theorem OwnI.nums {w : World} {base n C : Nat} {A : Option Addr} {P : Nat → Nat} (h : OwnI w base (.slice A n C) n (ofF P n)) : Nums w A n P := by
  rcases h.2 with ⟨e, h0⟩ | ⟨g, cap, cur, e, _, hg, _, _, _, _⟩
  · exact .inl h0
  · simp only [Value.slice.injEq, true_and] at e
    obtain ⟨rfl, rfl⟩ := e
    refine .inr ⟨g, 0, rfl, (Array.getElem?_eq_some_iff.1 hg).1, fun i hi => ?_⟩
    have := World.ownsRow.cellAt h i (by omega)
    rw [Nat.zero_add, this, List.getElem?_map]
    have e := ofF_get P n i hi
    rw [List.getD_eq_getElem?_getD, List.getElem?_eq_getElem (by rw [ofF_length]; exact hi)] at e
    rw [List.getElem?_eq_getElem (by rw [ofF_length]; exact hi)]
    simp at e
    simp [e]
theorem wpList_append_int {w : World} {ops : Array Oper} {rest : List Oper} {o : Oper} {a : Act} {Q : Exit → Act → World → Prop} (hgd : o.guard = none) (s x : Operand)
    (ho : o.op = .call { callee := .builtin .append, args := #[s, x], argTypes := #[63, 63] })
    (base : Nat) (dp : Option Addr) (n dC : Nat) (hs : a.eval s = .slice dp n dC) (l : List Int) (hown : OwnI w base (.slice dp n dC) n l)
    (g : Nat) (hx : a.eval x = .slice (some ⟨g, 0, none⟩) 1 1) (z : Int) (hy : w.cell? ⟨g, 0, none⟩ = some (.int .i64 z)) (hb : n + 1 ≤ 100000) (hbase : base ≤ w.heap.size)
    (h : ∀ A C w', OwnI w' base (.slice A (n + 1) C) (n + 1) (l ++ [z]) → Below base w w' → wpList Try.prog ops Q rest (a.put o.dst (.slice A (n + 1) C)) w') :
    wpList Try.prog ops Q (o :: rest) a w := by
  refine wpList_plain hgd fun K hK => ?_
  obtain ⟨i, hi, hzz⟩ := Option.map_eq_some_iff.1 info_i64
  simp only [Prod.mk.injEq] at hzz
  obtain ⟨hz, hsz, hby⟩ := hzz
  refine wp_append_own w s x 63 ho base 3 i (.int .i64 0) 1 8 Try.underlying63 hi hz hsz hby rfl (by omega) _ n _ hs hown ⟨g, 0, none⟩ 1 1 [.int .i64 z] hx rfl ?_ ?_ (by unfold maxLen; omega) (by omega) hbase ?_
  · intro j u hu
    cases j with
    | zero => simp at hu; subst hu; rw [onto_any]; exact hy
    | succ j => simp at hu
  · intro u hu
    simp at hu
    subst hu
    rfl
  · intro v' w' h1 h2 _
    have h3 : OwnI w' base v' (n + 1) (l ++ [z]) := by unfold OwnI; rw [List.map_append]; exact h1
    have h4 : ∃ A C, v' = .slice A (n + 1) C := by
      rcases h3.2 with ⟨rfl, h0⟩ | ⟨g, cap, cur, rfl, _⟩
      · omega
      · exact ⟨_, _, rfl⟩
    obtain ⟨A, C, rfl⟩ := h4
    refine hK _ _ (h A C w' h3 (below_grown (Below.refl base w) h2 hbase (fun k hk => ?_)))
    rcases hown.2 with ⟨e, _⟩ | ⟨g, cap, cur, e, h5, _⟩
    · rw [e] at hk; simp [Value.ownBlock] at hk
    · rw [e] at hk; simp [Value.ownBlock] at hk; omega
end Go.Proofs.Ytjcbcdjfhcnhcaa
namespace Go.Proofs.Ytjcbcdjfhcnhcaa
open Go.RowKit

theorem grown_refl (w : World) (row : Option Nat) : w.grownBy w row := ⟨rfl, rfl, rfl, Nat.le_refl _, fun _ _ _ => rfl⟩
theorem grown_trans {A B C : World} {row : Option Nat} (h : A.grownBy B row) (k : B.grownBy C row) : A.grownBy C row :=
  ⟨k.os.trans h.os, k.tape.trans h.tape, k.output.trans h.output, Nat.le_trans h.size k.size, fun i hi hr => (k.block i (Nat.lt_of_lt_of_le hi h.size) hr).trans (h.block i hi hr)⟩
theorem grown_below {A B : World} (h : Below A.heap.size A B) (row : Option Nat) : A.grownBy B row := ⟨h.os, h.tape, h.output, h.size, fun i hi _ => h.block i hi⟩
theorem grown_set (W : World) (b o : Nat) (v : Value) : W.grownBy (W.setCell ⟨b, o, none⟩ v) (some b) :=
  ⟨rfl, rfl, rfl, by simp, fun k _ hk => Below.heap_setCell _ _ _ k (fun e => hk (by rw [e]))⟩
theorem grown_drew {A B : World} {row : Option Nat} (h : A.grownBy B row) (n : Nat) : A.grownBy (B.drewN n) row := ⟨h.os, h.tape, h.output, h.size, h.block⟩
theorem grown_from_drew {A B : World} {row : Option Nat} (h : A.drew.grownBy B row) : A.grownBy B row := ⟨h.os, h.tape, h.output, h.size, h.block⟩
theorem below_grows {A B : World} {g base : Nat} (h : A.grownBy B (some g)) (h1 : base ≤ g) (h2 : base ≤ A.heap.size) : Below base A B :=
  below_grown (Below.refl base A) h h2 (fun k e => by cases e; exact h1)
/-- A part of a list. -/
def seg (l : List Int) (o m : Nat) : List Int := (l.drop o).take m
theorem seg_length (l : List Int) (o m : Nat) (h : o + m ≤ l.length) : (seg l o m).length = m := by unfold seg; rw [List.length_take, List.length_drop]; omega
theorem seg_by {l : List Int} (h : By l) (o m : Nat) : By (seg l o m) := fun z hz => h z (List.mem_of_mem_drop (List.mem_of_mem_take hz))
theorem seg_get (l : List Int) (o m i : Nat) (h : i < m) : (seg l o m).getD i 0 = l.getD (o + i) 0 := by
  unfold seg; simp [List.getD_eq_getElem?_getD, h, List.getElem?_drop]
theorem seg_co (l : List Int) (o m i : Nat) (h : i < m) : co (seg l o m) i = co l (o + i) := by unfold co; rw [seg_get l o m i h]
/-- A block whose first n places read as a list of bytes. -/
structure Dat (w : World) (g n : Nat) (l : List Int) : Prop where
  by_ : By l
  size : l.length = n
  mem : ∃ cur : List Value, w.heap[g]? = some (.cells cur.toArray 5 (0, 0)) ∧ n ≤ cur.length ∧ cur.take n = l.map (Value.int .u8)
theorem Row8.dat {w : World} {g : Nat} {l : List Int} (h : Row8 w g 5 l) (hl : By l) : Dat w g l.length l :=
  ⟨hl, rfl, _, h, by simp, List.take_of_length_le (by simp)⟩
theorem Dat.lt {w : World} {g n : Nat} {l : List Int} (h : Dat w g n l) : g < w.heap.size := by
  obtain ⟨cur, hg, _⟩ := h.mem
  exact (Array.getElem?_eq_some_iff.1 hg).1
theorem Dat.keep {w w' : World} {g n : Nat} {l : List Int} (h : Dat w g n l) (e : w'.heap[g]? = w.heap[g]?) : Dat w' g n l := by
  obtain ⟨cur, hg, h1⟩ := h.mem
  exact ⟨h.by_, h.size, cur, e.trans hg, h1⟩
theorem Dat.below {w w' : World} {g n B : Nat} {l : List Int} (h : Dat w g n l) (hb : Below B w w') (hB : g < B) : Dat w' g n l := h.keep (hb.block g hB)
theorem Dat.grown {w w' : World} {g n : Nat} {row : Option Nat} {l : List Int} (h : Dat w g n l) (hb : w.grownBy w' row) (hr : some g ≠ row) : Dat w' g n l := h.keep (hb.block g h.lt hr)
theorem Dat.cell {w : World} {g n : Nat} {l : List Int} (h : Dat w g n l) (i : Nat) (hi : i < n) : w.cell? ⟨g, i, none⟩ = some (.int .u8 (co l i : Int)) := by
  obtain ⟨cur, hg, hn, hc⟩ := h.mem
  have hs := h.size
  have e : cur[i]? = some (.int .u8 (l.getD i 0)) := by
    have : (cur.take n)[i]? = cur[i]? := by rw [List.getElem?_take, if_pos hi]
    rw [← this, hc, List.getElem?_map, List.getD_eq_getElem?_getD, List.getElem?_eq_getElem (by omega)]
    rfl
  simp only [World.cell?, hg]
  rw [h.by_.get] at e
  simpa using e
theorem Dat.frozen {w : World} {g n : Nat} {l : List Int} (h : Dat w g n l) (i : Nat) : w.frozen? ⟨g, i, none⟩ = false := by
  obtain ⟨cur, hg, _⟩ := h.mem
  simp [World.frozen?, hg]
theorem Dat.bytes {w : World} {g n : Nat} {l : List Int} (h : Dat w g n l) (o m : Nat) (ho : o + m ≤ n) (hm : m ≤ 9223372036854775807) : Bytes w (some ⟨g, o, none⟩) m (seg l o m) := by
  have hs := h.size
  refine ⟨seg_length l o m (by omega), hm, fun i _ => (seg_by h.by_ o m).at_ i, ?_⟩
  by_cases h0 : m = 0
  · exact .inl h0
  · exact .inr ⟨by omega, g, o, rfl, h.lt, fun i hi => by rw [seg_get l o m i hi, h.by_.get]; exact h.cell _ (by omega)⟩
theorem Dat.set {w : World} {g n : Nat} {l : List Int} (h : Dat w g n l) (i v : Nat) (hv : v < 256) : Dat (w.setCell ⟨g, i, none⟩ (.int .u8 (v : Int))) g n (l.set i (v : Int)) := by
  obtain ⟨cur, hg, hn, hc⟩ := h.mem
  refine ⟨fun z hz => ?_, by rw [List.length_set]; exact h.size, cur.set i (.int .u8 (v : Int)), ?_, by simpa using hn, ?_⟩
  · rcases List.mem_or_eq_of_mem_set hz with g | g
    · exact h.by_ z g
    · rw [g]; omega
  · simp [World.setCell, Array.getElem?_modify, hg]
  · rw [List.map_set, ← hc, List.take_set]
theorem co_set (l : List Int) (i v j : Nat) (h : i < l.length) : co (l.set i (v : Int)) j = if j = i then v else co l j := by
  unfold co
  by_cases g : j < l.length
  · rw [set_get l i j _ g]; split <;> simp
  · rw [if_neg (by omega), List.getD_eq_getElem?_getD, List.getD_eq_getElem?_getD, List.getElem?_eq_none (by simp; omega), List.getElem?_eq_none (by omega)]
theorem map_splice (l : List Int) (o : Nat) (x : List Int) : (splice l o x).map (Value.int .u8) = splice (l.map (Value.int .u8)) o (x.map (Value.int .u8)) := splice_map.symm
theorem splice_take {α : Type} (L : List α) (o : Nat) (x : List α) (n : Nat) (h : o + x.length ≤ n) : (splice L o x).take n = splice (L.take n) o x := by
  unfold splice
  have e1 : (L.take n).take o = L.take o := by rw [List.take_take]; congr 1; omega
  rw [e1]
  by_cases hL : n ≤ L.length
  · rw [List.take_append, List.take_append, List.take_of_length_le (show (L.take o).length ≤ n by rw [List.length_take]; omega), List.take_of_length_le (show x.length ≤ n - (L.take o).length by rw [List.length_take]; omega), List.drop_take]
    congr 3
    rw [List.length_take]; omega
  · rw [List.take_of_length_le (show L.length ≤ n by omega), List.take_of_length_le]
    simp only [List.length_append, List.length_take, List.length_drop]
    omega
theorem splice_co (l : List Int) (o : Nat) (x : List Int) (i : Nat) (h : o + x.length ≤ l.length) : co (splice l o x) i = if o ≤ i ∧ i < o + x.length then co x (i - o) else co l i := by
  unfold co splice
  simp only [List.getD_eq_getElem?_getD]
  have ht : (l.take o).length = o := by rw [List.length_take]; omega
  by_cases h1 : i < o
  · rw [if_neg (by omega), List.getElem?_append_left (by omega), List.getElem?_take, if_pos h1]
  · rw [List.getElem?_append_right (by omega), ht]
    by_cases h2 : i < o + x.length
    · rw [if_pos (by omega), List.getElem?_append_left (by omega)]
    · rw [if_neg (by omega), List.getElem?_append_right (by omega), List.getElem?_drop]
      congr 3
      omega
/-- A copy of bytes into such a block. -/
theorem wpList_copy_dat {w : World} {ops : Array Oper} {rest : List Oper} {o : Oper} {a : Act} {Q : Exit → Act → World → Prop} (hgd : o.guard = none) (d s : Operand)
    (ho : o.op = .call { callee := .builtin .copy, args := #[d, s], argTypes := #[42, 42] })
    (dp sp : Option Addr) (dLen dCap sLen sCap : Nat) (hd : a.eval d = .slice dp dLen dCap) (hs : a.eval s = .slice sp sLen sCap)
    (g off n : Nat) (Z : List Int) (hg : Dat w g n Z) (l : List Int) (hl : Bytes w sp sLen l) (hk : sLen = dLen) (hpos : 0 < sLen → dp = some ⟨g, off, none⟩) (hfit : off + sLen ≤ n)
    (h : ∀ w', Dat w' g n (splice Z off l) → w.grownBy w' (some g) → wpList Try.prog ops Q rest (a.put o.dst (goInt sLen)) w') :
    wpList Try.prog ops Q (o :: rest) a w := by
  have sl := hl.size
  have hZ := hg.size
  subst hk
  have hby : By (splice Z off l) := fun z hz => by
    unfold splice at hz
    rcases List.mem_append.1 hz with g1 | g1
    · exact hg.by_ z (List.mem_of_mem_take g1)
    · rcases List.mem_append.1 g1 with g2 | g2
      · exact hl.range z g2
      · exact hg.by_ z (List.mem_of_mem_drop g2)
  by_cases h0 : sLen = 0
  · obtain rfl : l = [] := List.eq_nil_of_length_eq_zero (by omega)
    refine wpList_copy_nothing hgd d s _ _ ho 5 Try.underlying42 (by kernel_rfl) dp sp sLen dCap sLen sCap hd hs (by rw [h0]; rfl) ?_
    have := h w (by simpa [splice] using hg) (grown_refl w _)
    rw [h0] at this
    exact this
  · obtain ⟨cur, hc, hn, ht⟩ := hg.mem
    obtain rfl := hpos (by omega)
    rcases hl.cell with h1 | ⟨_, b, p, rfl, _, hcs⟩
    · exact absurd h1 h0
    have ecs : (l.map (Value.int .u8)).length = sLen := by rw [List.length_map, sl]
    refine wpList_copy_own hgd d s _ _ ho 5 Try.underlying42 (by kernel_rfl) g off sLen dCap ⟨b, p, none⟩ sLen sCap hd hs cur.toArray 5 hc (l.map (Value.int .u8)) (by rw [ecs]; exact (Nat.min_self _).symm) (fun j v hv => ?_) (by rw [ecs]; simp; omega) (fun v hv => ?_) ?_
    · have hj : j < sLen := by
        rcases Nat.lt_or_ge j sLen with g | g
        · exact g
        · rw [List.getElem?_eq_none (by rw [ecs]; exact g)] at hv; simp at hv
      rw [onto_any, hcs j hj, ← hv, List.getElem?_map, List.getD_eq_getElem?_getD, List.getElem?_eq_getElem (by omega)]
      rfl
    · obtain ⟨z, _, rfl⟩ := List.mem_map.1 hv
      rfl
    · rw [ecs]
      refine h _ ⟨hby, by rw [length_splice _ _ _ (by omega)]; exact hZ, splice cur off (l.map (Value.int .u8)), ?_, ?_, ?_⟩ ⟨rfl, rfl, rfl, by simp [World.setRow], fun k _ hk => setRow_other w g k _ (fun e => hk (by rw [e]))⟩
      · rw [setRow_heap w g _ _ 5 (0, 0) hc]
        unfold splice
        rw [ecs]
      · rw [length_splice _ _ _ (by rw [ecs]; omega)]; exact hn
      · rw [splice_take _ _ _ _ (by rw [ecs]; omega), ht, map_splice]
end Go.Proofs.Ytjcbcdjfhcnhcaa
namespace Go.Proofs.Ytjcbcdjfhcnhcaa
open Go.RowKit

/-- From a place on, so many places take what another list has. -/
def mixO (l : List Int) (off : Nat) (s : List Int) (k : Nat) : List Int := l.mapIdx (fun i z => if off ≤ i ∧ i < off + k then ((z.toNat ^^^ (s.getD (i - off) 0).toNat : Nat) : Int) else z)
theorem mixO_length (l : List Int) (off : Nat) (s : List Int) (k : Nat) : (mixO l off s k).length = l.length := by simp [mixO]
theorem mixO_get (l : List Int) (off : Nat) (s : List Int) (k i : Nat) (h : i < l.length) : (mixO l off s k).getD i 0 = if off ≤ i ∧ i < off + k then (((l.getD i 0).toNat ^^^ (s.getD (i - off) 0).toNat : Nat) : Int) else l.getD i 0 := by
  unfold mixO
  simp [List.getD_eq_getElem?_getD, List.getElem?_eq_getElem h]
theorem mixO_zero (l : List Int) (off : Nat) (s : List Int) : mixO l off s 0 = l := by
  refine same_getD (mixO_length _ _ _ _) (fun i hi => ?_)
  rw [mixO_get _ _ _ _ _ (by rwa [mixO_length] at hi), if_neg (by omega)]
theorem mixO_step (l : List Int) (off : Nat) (s : List Int) (k : Nat) (_h : off + k < l.length) : (mixO l off s k).set (off + k) (((l.getD (off + k) 0).toNat ^^^ (s.getD k 0).toNat : Nat) : Int) = mixO l off s (k + 1) := by
  refine same_getD (by rw [List.length_set, mixO_length, mixO_length]) (fun i hi => ?_)
  rw [List.length_set, mixO_length] at hi
  rw [set_get _ _ _ _ (by rw [mixO_length]; exact hi), mixO_get _ _ _ _ _ hi, mixO_get _ _ _ _ _ hi]
  by_cases e : i = off + k
  · subst e; rw [if_pos rfl, if_pos (by omega), show off + k - off = k by omega]
  · rw [if_neg e]
    by_cases g : off ≤ i ∧ i < off + k
    · rw [if_pos g, if_pos (by omega)]
    · rw [if_neg g, if_neg (by omega)]
theorem mixO_same (a off : Nat) (l x : List Int) (K : Nat) (hK : K = min (l.length - off) x.length) : mixO l off (sc a (x.take K)) K = mixO l off (sc a x) x.length := by
  refine same_getD (by rw [mixO_length, mixO_length]) (fun i hi => ?_)
  rw [mixO_length] at hi
  rw [mixO_get _ _ _ _ _ hi, mixO_get _ _ _ _ _ hi]
  by_cases g : off ≤ i ∧ i < off + K
  · rw [if_pos g, if_pos (by omega), sc_get _ _ _ (by rw [List.length_take]; omega), sc_get _ _ _ (by omega)]
    have : i - off < K := by omega
    simp [List.getD_eq_getElem?_getD, this]
  · rw [if_neg g, if_neg (by omega)]
theorem mixO_by {l s : List Int} (off k : Nat) (hl : By l) (hs : By s) : By (mixO l off s k) := by
  intro z hz
  obtain ⟨i, hi, rfl⟩ := List.mem_iff_getElem.1 hz
  have hi' : i < l.length := by rwa [mixO_length] at hi
  have e := mixO_get l off s k i hi'
  rw [List.getD_eq_getElem?_getD, List.getElem?_eq_getElem hi] at e
  have e' : (mixO l off s k)[i] = if off ≤ i ∧ i < off + k then (((l.getD i 0).toNat ^^^ (s.getD (i - off) 0).toNat : Nat) : Int) else l.getD i 0 := e
  have h1 := hl.at_ i
  have h2 := hs.at_ (i - off)
  rw [e']
  split
  · have := Nat.xor_lt_two_pow (n := 8) (show (l.getD i 0).toNat < 2 ^ 8 by omega) (show (s.getD (i - off) 0).toNat < 2 ^ 8 by omega)
    omega
  · exact h1
theorem mixO_co (l : List Int) (off : Nat) (s : List Int) (k i : Nat) (h : i < l.length) : co (mixO l off s k) i = if off ≤ i ∧ i < off + k then co l i ^^^ co s (i - off) else co l i := by
  unfold co
  rw [mixO_get _ _ _ _ _ h]
  split
  · rw [Int.toNat_natCast]
  · rfl
theorem row8_far {w : World} {b : Nat} {t : TypeId} {Z : List Int} (h : Row8 w b t Z) {p : Addr} (hp : b ≠ p.block) (u : Value) : Row8 (w.setCell p u) b t Z := (Below.heap_setCell w p u b hp).trans h
/-- What Mix leaves. -/
def MixedD (g n : Nat) (L : List Int) (w : World) (e : Ending) (w' : World) : Prop :=
  e = .returned (.tuple #[]) ∧ Dat w' g n L ∧ w.grownBy w' (some g)
set_option maxRecDepth 100000 in
set_option maxHeartbeats 1000000 in
theorem mixd_any (t a g off n m C' : Nat) (A : Option Addr) (l : List Int) (x : Option Addr) (cap : Nat) (X : List Int) (w : World) (ha : a < 256) (ht : IsTab w t) (ho : Dat w g n l)
    (hx : Bytes w x m X) (hmc : m ≤ cap) (hn : n ≤ 1000000) (hm5 : m ≤ 100000) (hoff : off + m ≤ n) (hA : 0 < m → A = some ⟨g, off, none⟩) :
    Calls Try.prog 118 #[.pointer (some ⟨t, 0, none⟩), .slice A m C', .int .u8 a, .slice x m cap] w (MixedD g n (mixO l off (sc a X) m) w) := by
  have HF := Lib.hid hx
  have HT := Lib.hid ht
  have HG := Lib.hid ho.lt
  have HO0 := Lib.hid ho
  have HSZ := Lib.hid ho.size
  have HFZ := Lib.hid hx.size
  have HR := Lib.hid (show By (sc a X) from sc_range a ha X hx.range)
  have HL := Lib.hid ho.by_
  have HZ := Lib.hid (sc_length a X)
  have HKK := Lib.hid hm5
  have HAA := Lib.hid hA
  clear hx ht ho hA
  go_enter Try.func118, Try.ntmps118
  go_wp2_with (go_at_call 127; refine (scale_any t a x _ _ _ _ ha HT.out HF.out HKK.out).mono ?_; rintro e w1 ⟨g0, rfl, hg0, hr0, hb1⟩; have HG0 := Lib.hid hg0; have HR0 := Lib.hid hr0; have HB1 := Lib.hid hb1; clear hg0 hr0 hb1)
  have HS0 : Hid (Dat w1 g n (mixO l off (sc a X) 0)) := Lib.hid (by rw [mixO_zero]; exact HO0.out.below HB1.out HG.out)
  have HW1 : Hid (w.grownBy w1 (some g)) := Lib.hid (grown_below HB1.out _)
  have HZ2 : Hid ((sc a X).length = m) := Lib.hid (HZ.out.trans HFZ.out)
  clear HB1
  generalize sc a X = s at *
  go_loopw [8, 9, 21] (fun _ _ i wr => ∃ k : Nat, k ≤ m ∧ i = .int .i64 k ∧ Hid (Dat wr g n (mixO l off s k)) ∧ Hid (Row8 wr g0 5 s) ∧ Hid (w.grownBy wr (some g))) (fun _ _ i _ => m - (intOf i).toNat)
  case atStart => exact ⟨0, by omega, rfl, HS0, HR0, HW1⟩
  case round =>
    obtain ⟨k, hk, rfl, HO, HR1, HB⟩ := hrel
    obtain ⟨wo, ho⟩ : ∃ wo, wo = wr := ⟨_, rfl⟩
    subst ho
    by_cases hlt : k < m
    · obtain rfl := HAA.out (by omega)
      have hne : g0 ≠ g := by have := HG0.out; have := HG.out; omega
      have c0 := HO.out.cell (off + k) (by omega)
      have f0 := HO.out.frozen (off + k)
      rw [mixO_co _ _ _ _ _ (by rw [HSZ.out]; omega), if_neg (by omega)] at c0
      have c1 := HR1.out.cell k (by rw [HZ2.out]; exact hlt)
      have HSS := Lib.hid (mixO_step l off s k (by rw [HSZ.out]; omega))
      rw [HR.out.get k] at c1
      rw [HL.out.get (off + k), HR.out.get k] at HSS
      have l1 := HL.out.lt (off + k)
      have l2 := HR.out.lt k
      have HNE := Lib.hid hne
      clear hne
      generalize co l (off + k) = u at *
      generalize co s k = v at *
      have bx := bits_u8 u v (by omega) (by omega)
      have HXL := Lib.hid (xor_lt l1 l2)
      have k0 : (0 : Int) ≤ k := by omega
      have k1 : (k : Int) < m := by omega
      go_wp2
      go_roundw
      case rel =>
        refine ⟨k + 1, by omega, by go_num, ?_, Lib.hid (row8_far HR1.out (p := ⟨g, off + k, none⟩) HNE.out _), Lib.hid (grown_trans HB.out (grown_set _ _ _ _))⟩
        have h := HO.out.set (off + k) (u ^^^ v) HXL.out
        have e := HSS.out
        rw [Int.toNat_natCast, Int.toNat_natCast] at e
        rw [e] at h
        exact Lib.hid h
      case measure => simp [intOf] <;> omega
    · obtain rfl : k = m := by omega
      go_wp2
      go_end0
      exact ⟨rfl, HO.out, HB.out⟩
end Go.Proofs.Ytjcbcdjfhcnhcaa
