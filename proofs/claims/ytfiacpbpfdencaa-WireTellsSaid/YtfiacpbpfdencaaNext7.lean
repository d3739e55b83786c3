/-
  Own text: read's next, walked.
-/
import Derived.Test.YtfiacpbpfdencaaPut7
import Derived.Test.YtfiacpbpfdencaaForm7
namespace Go.Proofs.Ytfiacpbpfdencaa
open Go.RowKit

theorem Bytes.behind {w : World} {b off n k : Nat} {l : List Int} (h : Bytes w (some ⟨b, off, none⟩) n l) (hk : k ≤ n) : Bytes w (some ⟨b, off + k, none⟩) (n - k) (l.drop k) := by
  have e : ∀ i, (l.drop k).getD i 0 = l.getD (k + i) 0 := fun i => by simp [List.getD_eq_getElem?_getD, List.getElem?_drop]
  refine ⟨by rw [List.length_drop, h.size], by have := h.max; omega, fun i hi => by rw [e]; exact h.byte _ (by omega), ?_⟩
  by_cases h0 : n - k = 0
  · exact .inl h0
  · rcases h.cell with g | ⟨_, b', off', e', h1, hc⟩
    · omega
    · simp only [Option.some.injEq, Addr.mk.injEq, and_true] at e'
      obtain ⟨rfl, rfl⟩ := e'
      exact .inr ⟨by omega, _, _, rfl, h1, fun i hi => by rw [e, Nat.add_assoc]; exact hc (k + i) (by omega)⟩
theorem Bytes.none_left {w : World} {a : Option Addr} : Bytes w a 0 [] := ⟨rfl, by omega, fun i hi => by omega, .inl rfl⟩
set_option maxRecDepth 100000 in
theorem next_any (p b off n cap k : Nat) (l : List Int) (w : World) (hc : w.cell? ⟨p, 0, none⟩ = some (.slice (some ⟨b, off, none⟩) n cap)) (hf : w.frozen? ⟨p, 0, none⟩ = false) (hl : Bytes w (some ⟨b, off, none⟩) n l) (hk : k ≤ n) (hn : n ≤ cap) (hm : cap ≤ 100000) (hk8 : k ≤ 8) (hk0 : 0 < k) :
    Calls Try.prog 45 #[.int .i64 k, .pointer (some ⟨p, 0, none⟩)] w fun e w' => e = .returned (.int .u64 (wordOf (l.take k))) ∧ ∃ A, w' = w.setCell ⟨p, 0, none⟩ (.slice A (n - k) (cap - k)) ∧ ∀ w'', Bytes w'' (some ⟨b, off, none⟩) n l → Bytes w'' A (n - k) (l.drop k) := by
  have HG := Lib.hid (get7_any (some ⟨b, off, none⟩) k cap (l.take k) w (hl.front hk) hk0 hk8 (by omega) (by omega))
  have HL := Lib.hid hl.size
  clear hl
  have n0 : (0 : Int) ≤ k := by omega
  have n1 : (k : Int) ≤ cap := by omega
  have n2 : (k : Int) ≤ n := by omega
  have n3 : (cap : Int) ≤ 9223372036854775807 := by omega
  have n4 : (n : Int) ≤ cap := by omega
  have n5 : (n : Int) ≤ 9223372036854775807 := by omega
  by_cases hkc : cap = k
  · obtain rfl : n = k := by omega
    subst hkc
    clear n1 n2 n4 n5 hk hn
    go_enter Try.func45, Try.ntmps45
    go_wp2_with first
      | (go_at_call 36; refine HG.out.mono ?_; rintro e w1 ⟨rfl, rfl⟩; clear HG)
    go_ret
    refine ⟨rfl, some ⟨b, off, none⟩, ?_, fun w'' h => ?_⟩
    · rw [Nat.sub_self]
    · rw [Nat.sub_self, List.drop_of_length_le (by rw [HL.out]; exact Nat.le_refl _)]
      exact Bytes.none_left
  · go_enter Try.func45, Try.ntmps45
    go_wp2_with first
      | (go_at_call 36; refine HG.out.mono ?_; rintro e w1 ⟨rfl, rfl⟩; clear HG)
    go_ret
    exact ⟨rfl, some ⟨b, off + k, none⟩, rfl, fun w'' h => h.behind hk⟩
end Go.Proofs.Ytfiacpbpfdencaa
