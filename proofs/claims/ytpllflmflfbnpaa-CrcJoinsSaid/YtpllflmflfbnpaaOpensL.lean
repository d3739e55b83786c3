/-
  Own text: the law CrcOpens, walked.
-/
import Derived.Test.YtpllflmflfbnpaaROpen
import Derived.Test.YtpllflmflfbnpaaSumsL
namespace Go.Proofs.Ytpllflmflfbnpaa
open Go.RowKit

theorem Bytes.nil (w : World) : Bytes w none 0 [] := ⟨rfl, by omega, fun i hi => by omega, .inl rfl⟩
theorem same_true (a b : Option Addr) (n m c d : Nat) (x : List Int) (w : World) (hx : Bytes w a n x) (hy : Bytes w b m x) :
    Calls Try.prog 18 #[.slice a n c, .slice b m d] w fun e w' => e = .returned (.bool true) ∧ Below w.heap.size w w' := by
  have h := same_any a b n m c d x x w hx hy
  rwa [show sameB x x = true by simp [sameB]] at h
set_option maxRecDepth 100000 in
theorem opens_short (a : Option Addr) (len cap : Nat) (w : World) (h4 : len < 4) :
    Calls Try.prog 5 #[.slice a len cap] w fun e w' => e = .returned (.bool true) ∧ Below w.heap.size w w' := by
  go_enter Try.func5, Try.ntmps5
  go_wp2_with (first
    | (go_at_call 9; refine (awake_any _).mono ?_; rintro e w1 ⟨rfl, hb1⟩; have HB1 := Lib.hid hb1; clear hb1)
    | (go_at_call 10; refine (new_any _).mono ?_; rintro e w2 ⟨rfl, ht, hb2⟩; have HT := Lib.hid ht; have HB2 := Lib.hid hb2; clear ht hb2)
    | (go_at_call 17; refine (open_short _ _ _ _ _ h4).mono ?_; rintro e w' ⟨rfl, rfl⟩)
    | (go_at_call 20; refine (ropen_short _ _ _ _ h4).mono ?_; rintro e w' ⟨rfl, rfl⟩)
    | (go_at_call 18; refine (same_true none none 0 0 0 0 [] _ (Bytes.nil _) (Bytes.nil _)).mono ?_; rintro e w3 ⟨rfl, hb3⟩; have HB3 := Lib.hid hb3; clear hb3))
  go_ret
  exact ⟨rfl, HB1.out.trans ((HB2.out.trans (HB3.out.mono HB2.out.size)).mono HB1.out.size)⟩
set_option maxRecDepth 100000 in
theorem opens_bad (a : Option Addr) (n cap : Nat) (l : List Int) (w : World) (hl : Bytes w a (n + 4) l) (hn : n + 4 ≤ 2000) (hcap : n + 4 ≤ cap) (ho : opensB n l = false) :
    Calls Try.prog 5 #[.slice a (n + 4) cap] w fun e w' => e = .returned (.bool true) ∧ Below w.heap.size w w' := by
  have HL := Lib.hid hl
  clear hl
  have HO : Hid (opensB n l = false) := Lib.hid ho
  clear ho
  have cr := fun w (h : Bytes w a (n + 4) l) => ropen_any a n cap l w h (by omega) hcap
  rw [HO.out] at cr
  have CR := Lib.hid cr
  clear cr
  go_enter Try.func5, Try.ntmps5
  go_wp2_with (first
    | (go_at_call 9; refine (awake_any _).mono ?_; rintro e w1 ⟨rfl, hb1⟩; have HB1 := Lib.hid hb1; clear hb1)
    | (go_at_call 10; refine (new_any _).mono ?_; rintro e w2 ⟨rfl, ht, hb2⟩; have HT := Lib.hid ht; have HB2 := Lib.hid hb2; clear ht hb2; have HL2 := Lib.hid (HL.out.below (HB1.out.trans (HB2.out.mono HB1.out.size)) (Nat.le_refl _)))
    | (go_at_call 17; refine (open_bad _ _ _ _ _ _ HT.out HL2.out (by omega) hcap HO.out).mono ?_; rintro e w3 ⟨rfl, hb3⟩; have HB3 := Lib.hid hb3; clear hb3)
    | (go_at_call 20; refine (CR.out _ (HL2.out.below HB3.out (Nat.le_refl _))).mono ?_; simp only [Bool.false_eq_true, if_false]; rintro e w4 ⟨rfl, hb4⟩; have HB4 := Lib.hid hb4; clear hb4)
    | (go_at_call 18; refine (same_true none none 0 0 0 0 [] _ (Bytes.nil _) (Bytes.nil _)).mono ?_; rintro e w5 ⟨rfl, hb5⟩; have HB5 := Lib.hid hb5; clear hb5))
  go_ret
  have h3 := HB3.out.trans (HB4.out.mono HB3.out.size)
  have h4 := h3.trans (HB5.out.mono h3.size)
  exact ⟨rfl, HB1.out.trans ((HB2.out.trans (h4.mono HB2.out.size)).mono HB1.out.size)⟩
set_option maxRecDepth 100000 in
theorem opens_good (a : Option Addr) (n cap : Nat) (l : List Int) (w : World) (hl : Bytes w a (n + 4) l) (hn : n + 4 ≤ 2000) (hcap : n + 4 ≤ cap) (ho : opensB n l = true) :
    Calls Try.prog 5 #[.slice a (n + 4) cap] w fun e w' => e = .returned (.bool true) ∧ Below w.heap.size w w' := by
  have HL := Lib.hid hl
  have HZ := Lib.hid (hl.front (n := n) (by omega)).range
  have HS := Lib.hid hl.size
  clear hl
  have HO : Hid (opensB n l = true) := Lib.hid ho
  clear ho
  have cr := fun w (h : Bytes w a (n + 4) l) => ropen_any a n cap l w h (by omega) hcap
  rw [HO.out] at cr
  have CR := Lib.hid cr
  clear cr
  go_enter Try.func5, Try.ntmps5
  go_wp2_with (first
    | (go_at_call 9; refine (awake_any _).mono ?_; rintro e w1 ⟨rfl, hb1⟩; have HB1 := Lib.hid hb1; clear hb1)
    | (go_at_call 10; refine (new_any _).mono ?_; rintro e w2 ⟨rfl, ht, hb2⟩; have HT := Lib.hid ht; have HB2 := Lib.hid hb2; clear ht hb2; have HL2 := Lib.hid (HL.out.below (HB1.out.trans (HB2.out.mono HB1.out.size)) (Nat.le_refl _)))
    | (go_at_call 17; refine (open_good _ _ _ _ _ _ HT.out HL2.out (by omega) hcap HO.out).mono ?_; rintro e w3 ⟨g, rfl, hg, hr, hb3⟩; have HB3 := Lib.hid hb3; have HR := Lib.hid hr; clear hb3 hr hg; have HL3 := Lib.hid (HL2.out.below HB3.out (Nat.le_refl _)))
    | (go_at_call 20; refine (CR.out _ HL3.out).mono ?_; simp only [if_true]; rintro e w4 ⟨rfl, hb4⟩; have HB4 := Lib.hid hb4; clear hb4)
    | (go_at_call 18; refine (same_true _ _ _ _ _ _ (l.take n) _ ((HR.out.below HB4.out HR.out.lt).whole HZ.out n (by rw [List.length_take, HS.out]; omega) (by omega)) ((HL3.out.below HB4.out (Nat.le_refl _)).front (by omega))).mono ?_; rintro e w5 ⟨rfl, hb5⟩; have HB5 := Lib.hid hb5; clear hb5))
  go_ret
  have h3 := HB3.out.trans (HB4.out.mono HB3.out.size)
  have h4 := h3.trans (HB5.out.mono h3.size)
  exact ⟨rfl, HB1.out.trans ((HB2.out.trans (h4.mono HB2.out.size)).mono HB1.out.size)⟩
theorem opens_big (a : Option Addr) (len cap : Nat) (w : World) (hbig : 2000 < len) (hm : len ≤ 9223372036854775807) :
    Calls Try.prog 5 #[.slice a len cap] w fun e w' => e = .returned (.bool true) ∧ Below w.heap.size w w' := by
  go_enter Try.func5, Try.ntmps5
  go_wp2_with (go_at_call 9; refine (awake_any _).mono ?_; rintro e w' ⟨rfl, hb⟩)
  go_ret
  exact ⟨rfl, hb⟩
theorem opens_walk (a : Option Addr) (len cap : Nat) (zs : List Int) (w : World) (h : IsRow .u8 w a len cap zs) :
    Calls Try.prog 5 #[.slice a len cap] w fun e w' => e = .returned (.bool true) ∧ Below w.heap.size w w' := by
  have hb := h.bytes
  have hc := h.bound
  by_cases h1 : 2000 < len
  · exact opens_big a len cap w h1 hb.max
  · by_cases h4 : len < 4
    · exact opens_short a len cap w h4
    · obtain ⟨n, rfl⟩ : ∃ n, len = n + 4 := ⟨len - 4, by omega⟩
      cases ho : opensB n (zs.take (n + 4))
      · exact opens_bad a n cap _ w hb (by omega) hc.1 ho
      · exact opens_good a n cap _ w hb (by omega) hc.1 ho
end Go.Proofs.Ytpllflmflfbnpaa
