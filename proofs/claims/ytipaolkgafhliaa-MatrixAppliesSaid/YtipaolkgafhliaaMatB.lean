/-
  Own text: rows of a list of bytes, cut: each a slice of its own; walked.
-/
import Derived.Test.YtipaolkgafhliaaMatA
namespace Go.Proofs.Ytipaolkgafhliaa
open Go.RowKit

/-- An address, so many places on. -/
def onA (a : Option Addr) (o : Nat) : Option Addr := a.map fun x => x.add o
theorem add_any (b off k : Nat) : (⟨b, off, none⟩ : Addr).add k = ⟨b, off + k, none⟩ := by unfold Addr.add; split <;> simp_all
theorem add_none (x : Addr) : x.add 0 = x := by unfold Addr.add; split <;> simp_all
theorem onA_at (b off k : Nat) : onA (some ⟨b, off, none⟩) k = some ⟨b, off + k, none⟩ := by unfold onA; rw [Option.map_some, add_any]
/-- A list of slices, in a block: slice i lies at A i. -/
def Lst (w : World) (h cnt len : Nat) (A : Nat → Option Addr) : Prop := w.rowIs h 22 cnt (fun i => .slice (A i) len len)
theorem info_row : (Try.prog.info? 22).map (fun i => (i.zero, i.size, i.bytes)) = some (some (.slice none 0 0), 1, 24) := by kernel_rfl
/-- What cut answers. -/
def CutTo (cnt len : Nat) (a : Option Addr) (w : World) (e : Ending) (w' : World) : Prop :=
  ∃ h, e = .returned (.slice (some ⟨h, 0, none⟩) cnt cnt) ∧ w.heap.size ≤ h ∧ Lst w' h cnt len (fun i => onA a (i * len)) ∧ Below w.heap.size w w'
/-- So far as it has come. -/
def cutV (cnt len k : Nat) (a : Option Addr) (j : Nat) : Value := if j < k then .slice (onA a (j * len)) len len else .slice none 0 0
theorem cut_zero (w : World) (cnt len : Nat) (a : Option Addr) : (w.alloc (.cells (madeCells #[.slice none 0 0] cnt) 22)).rowIs w.heap.size 22 cnt (cutV cnt len 0 a) :=
  (World.rowIs_made w (.slice none 0 0) cnt 22).congr (fun i _ => by unfold cutV; rw [if_neg (by omega)])
theorem cut_step {w : World} {h cnt len k : Nat} {a : Option Addr} (H : w.rowIs h 22 cnt (cutV cnt len k a)) : (w.setCell ⟨h, k, none⟩ (.slice (onA a (k * len)) len len)).rowIs h 22 cnt (cutV cnt len (k + 1) a) :=
  (H.set k _).congr (fun i _ => by
    unfold cutV
    by_cases e : i = k
    · rw [if_pos e, if_pos (by omega), e]
    · rw [if_neg e]
      by_cases g : i < k
      · rw [if_pos g, if_pos (by omega)]
      · rw [if_neg g, if_neg (by omega)])
theorem cut_end {w : World} {h cnt len : Nat} {a : Option Addr} (H : w.rowIs h 22 cnt (cutV cnt len cnt a)) : Lst w h cnt len (fun i => onA a (i * len)) :=
  H.congr (fun i hi => by unfold cutV; rw [if_pos hi])
set_option maxRecDepth 100000 in
theorem cut_none (cnt len : Nat) (hc : cnt ≤ 1000) (h0 : cnt * len = 0) (w : World) :
    Calls Try.prog 50 #[.slice none 0 0, .int .i64 cnt, .int .i64 len] w (CutTo cnt len none w) := by
  have hmk := fun w => run_make_row' (P := Try.prog) 55 22 (.slice none 0 0) 24 Try.underlying55 info_row rfl .i64 .i64 cnt (by omega) (by omega) w
  have HC0 := Lib.hid (cut_zero w cnt len none)
  have HB0 : Hid (Below w.heap.size w (w.alloc (.cells (madeCells #[.slice none 0 0] cnt) 22))) := Lib.hid (by go_grown)
  have hL : cnt = 0 ∨ len = 0 := by rcases Nat.eq_zero_or_pos cnt with h | h; exact .inl h; exact .inr (by rcases Nat.eq_zero_or_pos len with g | g; exact g; have := Nat.mul_pos h g; omega)
  clear h0
  go_enter Try.func50, Try.ntmps50
  go_wp2
  clear hmk
  generalize w.alloc (.cells (madeCells #[.slice none 0 0] cnt) 22) = w1 at *
  have HH : Hid (w.heap.size ≤ w.heap.size) := Lib.hid (Nat.le_refl _)
  generalize hh : w.heap.size = h at HC0 ⊢
  rw [hh] at HB0 HH
  go_loopw [8, 9, 10, 15] (fun _ _ _ i wr => ∃ k : Nat, k ≤ cnt ∧ i = .int .i64 k ∧ Hid (wr.rowIs h 22 cnt (cutV cnt len k none)) ∧ Hid (Below h w wr)) (fun _ _ _ i _ => cnt - (intOf i).toNat)
  case atStart => exact ⟨0, by omega, rfl, HC0, HB0⟩
  case round =>
    obtain ⟨k, hk, rfl, HO, HB⟩ := hrel
    obtain ⟨wo, ho⟩ : ∃ wo, wo = wr := ⟨_, rfl⟩
    subst ho
    by_cases hlt : k < cnt
    · obtain rfl : len = 0 := by omega
      have c0 := HO.out.cell hlt
      have f0 := HO.out.frozen k
      unfold cutV at c0
      rw [if_neg (by omega)] at c0
      go_wp2
      go_roundw
      case rel => exact ⟨k + 1, by omega, by go_num, Lib.hid (cut_step (a := none) HO.out), Lib.hid (HB.out.setCell (p := ⟨h, k, none⟩) (Nat.le_refl _) _)⟩
      case measure => simp [intOf]; omega
    · obtain rfl : k = cnt := by omega
      go_wp2
      go_ret
      exact ⟨h, rfl, by omega, cut_end HO.out, by rw [hh]; exact HB.out⟩
set_option maxRecDepth 100000 in
theorem cut_some (x : Addr) (n c cnt len : Nat) (hc : cnt ≤ 1000) (hnc : n ≤ c) (h0 : cnt * len ≤ n) (hcap : n ≤ 1000000) (w : World) :
    Calls Try.prog 50 #[.slice (some x) n c, .int .i64 cnt, .int .i64 len] w (CutTo cnt len (some x) w) := by
  have hmk := fun w => run_make_row' (P := Try.prog) 55 22 (.slice none 0 0) 24 Try.underlying55 info_row rfl .i64 .i64 cnt (by omega) (by omega) w
  have HC0 := Lib.hid (cut_zero w cnt len (some x))
  have HB0 : Hid (Below w.heap.size w (w.alloc (.cells (madeCells #[.slice none 0 0] cnt) 22))) := Lib.hid (by go_grown)
  have HM : Hid (∀ k, k < cnt → (k + 1) * len ≤ n) := Lib.hid (fun k hk => Nat.le_trans (Nat.mul_le_mul_right len (show k + 1 ≤ cnt from hk)) h0)
  clear h0
  go_enter Try.func50, Try.ntmps50
  go_wp2
  clear hmk
  generalize w.alloc (.cells (madeCells #[.slice none 0 0] cnt) 22) = w1 at *
  have HH : Hid (w.heap.size ≤ w.heap.size) := Lib.hid (Nat.le_refl _)
  generalize hh : w.heap.size = h at HC0 ⊢
  rw [hh] at HB0 HH
  go_loopw [8, 9, 10, 15] (fun _ _ _ i wr => ∃ k : Nat, k ≤ cnt ∧ i = .int .i64 k ∧ Hid (wr.rowIs h 22 cnt (cutV cnt len k (some x))) ∧ Hid (Below h w wr)) (fun _ _ _ i _ => cnt - (intOf i).toNat)
  case atStart => exact ⟨0, by omega, rfl, HC0, HB0⟩
  case round =>
    obtain ⟨k, hk, rfl, HO, HB⟩ := hrel
    obtain ⟨wo, ho⟩ : ∃ wo, wo = wr := ⟨_, rfl⟩
    subst ho
    by_cases hlt : k < cnt
    · have c0 := HO.out.cell hlt
      have f0 := HO.out.frozen k
      unfold cutV at c0
      rw [if_neg (by omega)] at c0
      have hq1 := HM.out k hlt
      have HS := Lib.hid (cut_step HO.out)
      have e1 : (k + 1) * len = k * len + len := Nat.succ_mul k len
      obtain ⟨q, hq⟩ : ∃ q, k * len = q := ⟨_, rfl⟩
      rw [e1] at hq1
      rw [hq] at hq1 e1 HS
      have i1 : (k : Int) * len = q := by rw [← hq]; omega
      have i2 : ((k : Int) + 1) * len = ((q + len : Nat) : Int) := by rw [← e1, Int.natCast_mul, Int.natCast_add]; rfl
      have HE : Hid ((if len = 0 then some x else some (x.add q)) = onA (some x) q) := Lib.hid (by
        by_cases e : len = 0
        · rw [if_pos e]
          have : q = 0 := by rw [← hq, e]; exact Nat.mul_zero k
          rw [this]
          exact congrArg some (add_none x).symm
        · rw [if_neg e]; rfl)
      clear hq e1
      go_wp2
      go_roundw
      case rel => 
        rw [HE.out]
        exact ⟨k + 1, by omega, by go_num, HS, Lib.hid (HB.out.setCell (p := ⟨h, k, none⟩) (Nat.le_refl _) _)⟩
      case measure => simp [intOf]; omega
    · obtain rfl : k = cnt := by omega
      go_wp2
      go_ret
      exact ⟨h, rfl, by omega, cut_end HO.out, by rw [hh]; exact HB.out⟩
theorem cut_any' (a : Option Addr) (n c cnt len : Nat) (hc : cnt ≤ 1000) (hn : n ≤ c) (h0 : cnt * len ≤ n) (hcap : n ≤ 1000000) (h1 : a = none → c = 0) (w : World) :
    Calls Try.prog 50 #[.slice a n c, .int .i64 cnt, .int .i64 len] w (CutTo cnt len a w) := by
  cases a with
  | none =>
    obtain rfl : c = 0 := h1 rfl
    obtain rfl : n = 0 := by omega
    exact cut_none cnt len hc (by omega) w
  | some x => exact cut_some x n c cnt len hc hn h0 hcap w
theorem parts_any (a : Option Addr) (n c cnt len : Nat) (hc : cnt ≤ 1000) (hn : n ≤ c) (h0 : cnt * len ≤ n) (hcap : n ≤ 1000000) (h1 : a = none → c = 0) (w : World) :
    Calls Try.prog 39 #[.agg #[.int .i64 cnt, .int .i64 len, .slice a n c]] w (CutTo cnt len a w) := by
  have HC := Lib.hid (cut_any' a n c cnt len hc hn h0 hcap h1)
  clear hc hn h0 hcap h1
  go_enter Try.func39, Try.ntmps39
  go_wp2_with ((with_reducible refine (HC.out _).mono ?_); rintro e w1 ⟨h, rfl, hh, hl, hb⟩; have HH := Lib.hid hh; have HL := Lib.hid hl; have HB := Lib.hid hb; clear hh hl hb)
  go_ret
  refine ⟨h, rfl, ?_, HL.out, ?_⟩
  · have := HH.out; simp at this; omega
  · exact (show Below w.heap.size w (w.alloc _) by go_grown).trans (HB.out.mono (by simp))
end Go.Proofs.Ytipaolkgafhliaa
