/-
  Own text: total, Share, walked.
-/
import Derived.Test.YtbbdkkjbcpkplaaPcS
import Derived.Test.YtbbdkkjbcpkplaaPcE
import Derived.Test.YtbbdkkjbcpkplaaOwnN
namespace Go.Proofs.Ytbbdkkjbcpkplaa
open Go.RowKit

/-- Numbers that came in. -/
def Nums (w : World) (a : Option Addr) (n : Nat) (z : Nat → Int) : Prop :=
  n = 0 ∨ ∃ g off, a = some ⟨g, off, none⟩ ∧ g < w.heap.size ∧ ∀ i, i < n → w.cell? ⟨g, off + i, none⟩ = some (.int .i64 (z i))
theorem Nums.below {w w' : World} {a : Option Addr} {n : Nat} {z : Nat → Int} (h : Nums w a n z) {B : Nat} (hb : Below B w w') (hB : w.heap.size ≤ B) : Nums w' a n z :=
  h.imp id fun ⟨g, off, e, hl, hc⟩ => ⟨g, off, e, Nat.lt_of_lt_of_le hl hb.size, fun i hi => (hb.cell (p := ⟨g, off + i, none⟩) (by show g < B; omega)).trans (hc i hi)⟩
theorem Nums.at_ {w : World} {a : Option Addr} {n : Nat} {z : Nat → Int} (h : Nums w a n z) {j : Nat} (hj : j < n) : ∃ g off, a = some ⟨g, off, none⟩ ∧ g < w.heap.size ∧ w.cell? ⟨g, off + j, none⟩ = some (.int .i64 (z j)) := by
  rcases h with h | ⟨g, off, e, hg, h⟩
  · omega
  · exact ⟨g, off, e, hg, h j hj⟩
/-- What total answers. -/
def Tot (z : Nat → Int) (n : Nat) (e : Ending) : Prop := (OkW z n ∧ e = .returned (.tuple #[.int .i64 (sumZ z n), .bool (decide (0 < sumZ z n))])) ∨ (¬ OkW z n ∧ e = .returned (.tuple #[.int .i64 0, .bool false]))
set_option maxRecDepth 100000 in
theorem total_any (a : Option Addr) (n c : Nat) (z : Nat → Int) (w : World) (h : Nums w a n z) :
    Calls Try.prog 23 #[.slice a n c] w fun e w' => Tot z n e ∧ w = w' := by
  by_cases hn : 256 < n
  · have hn2 : (256 : Int) < (n : Int) := by omega
    have HT : ∀ e, e = .returned (.tuple #[.int .i64 0, .bool false]) → Tot z n e := fun e he => .inr ⟨fun h => by have := h.1; omega, he⟩
    have HTH := Lib.hid HT
    clear HT h hn
    go_enter Try.func23, Try.ntmps23
    go_wp2
    go_ret2
    exact ⟨HTH.out _ rfl, rfl⟩
  · have HN : Hid (n ≤ 256) := Lib.hid (by omega)
    have hn2 : ¬ (256 : Int) < (n : Int) := by omega
    have HO := Lib.hid h
    clear h hn
    go_enter Try.func23, Try.ntmps23
    go_wp2
    clear hn2
    go_loopw [4, 6, 12] (fun s _ i wr => ∃ j : Nat, j ≤ n ∧ i = .int .i64 (j : Int) ∧ s = .int .i64 (sumZ z j) ∧ Hid (∀ i, i < j → 0 ≤ z i ∧ z i ≤ 65536) ∧ Hid (wr = w)) (fun _ _ i _ => n - (intOf i).toNat)
    case atStart => exact ⟨0, Nat.zero_le _, rfl, rfl, Lib.hid (fun i hi => by omega), Lib.hid rfl⟩
    case round =>
      obtain ⟨j, hj, rfl, rfl, HG, HW⟩ := hrel
      have hnn := HN.out
      have hw := HW.out
      subst hw
      by_cases hlt : j < n
      · obtain ⟨g, off, rfl, hg, c0⟩ := HO.out.at_ hlt
        have k1 : (j : Int) < n := by omega
        have k2 : (0 : Int) ≤ (j : Int) := by omega
        have k3 : (j : Int) ≤ 256 := by omega
        have hs := sumZ_lo z j HG.out
        have HJK : Hid (j + 1 ≤ n) := Lib.hid (by omega)
        have HS1 : Hid (sumZ z (j + 1) = sumZ z j + z j) := Lib.hid rfl
        have HBAD : Hid (¬ (0 ≤ z j ∧ z j ≤ 65536) → ¬ OkW z n) := Lib.hid (fun h1 h2 => h1 (h2.2 j hlt))
        have HGD : Hid ((0 ≤ z j ∧ z j ≤ 65536) → ∀ i, i < j + 1 → 0 ≤ z i ∧ z i ≤ 65536) := Lib.hid (fun h1 i hi => by
          by_cases e : i = j
          · subst e; exact h1
          · exact HG.out i (by omega))
        clear hg hlt hj HG
        generalize hz : z j = y at *
        generalize hsz : sumZ z j = s at *
        clear hz hsz
        by_cases h1 : y < 0
        · have HB := Lib.hid (HBAD.out (by omega))
          clear HBAD HGD HS1 hnn
          go_wp2
          go_ret2
          exact ⟨.inr ⟨HB.out, rfl⟩, rfl⟩
        · by_cases h2 : 65536 < y
          · have HB := Lib.hid (HBAD.out (by omega))
            clear HBAD HGD HS1 hnn
            go_wp2
            go_ret2
            exact ⟨.inr ⟨HB.out, rfl⟩, rfl⟩
          · have HG2 := Lib.hid (HGD.out (by omega))
            have wr1 : IntKind.i64.wrap (s + y) = s + y := by rw [IntKind.wrap_i64]; omega
            clear HBAD HGD hnn hs
            go_wp2
            go_roundw
            case rel => exact ⟨j + 1, HJK.out, by go_num, by rw [HS1.out], HG2, by first | exact Lib.hid trivial | exact HW⟩
            case measure => simp [intOf] <;> (have := HJK.out; omega)
      · obtain rfl : j = n := by omega
        have HK : Hid (OkW z j) := Lib.hid ⟨hnn, HG.out⟩
        have hs := sumZ_lo z j HG.out
        obtain ⟨s, hse⟩ : ∃ s, s = sumZ z j := ⟨_, rfl⟩
        have HSE := Lib.hid hse
        rw [← hse]
        clear hse hs hlt hj HG hnn
        go_wp2
        go_ret2
        refine ⟨.inl ⟨HK.out, ?_⟩, rfl⟩
        rw [← HSE.out]
        rfl
end Go.Proofs.Ytbbdkkjbcpkplaa
