/-
  Own text: sums of many; that it is a field, walked.
-/
import Derived.Test.YtcdikbnbkaahjaaGfE
import Derived.Test.YtcdikbnbkaahjaaByteA
import Derived.Deep.Cut
namespace Go.Proofs.Ytcdikbnbkaahjaa
open Go.RowKit

/-- The sum of many. -/
def xorL (l : List Int) : Nat := l.foldl (fun s z => s ^^^ z.toNat) 0
theorem xorL_snoc (l : List Int) (k : Nat) (h : k < l.length) : xorL (l.take (k + 1)) = xorL (l.take k) ^^^ (l.getD k 0).toNat := by
  unfold xorL
  rw [List.take_succ_eq_append_getElem h, List.foldl_append, List.getD_eq_getElem?_getD, List.getElem?_eq_getElem h]
  rfl
theorem xorL_lt (l : List Int) (h : ∀ z ∈ l, 0 ≤ z ∧ z ≤ 255) : xorL l < 256 := by
  have aux : ∀ (l : List Int) (s : Nat), s < 2 ^ 8 → (∀ z ∈ l, 0 ≤ z ∧ z ≤ 255) → l.foldl (fun s z => s ^^^ z.toNat) s < 2 ^ 8 := by
    intro l
    induction l with
    | nil => intro s hs _; exact hs
    | cons z l ih =>
      intro s hs hl
      have hz := hl z (by simp)
      exact ih _ (Nat.xor_lt_two_pow hs (by omega)) (fun y hy => hl y (by simp [hy]))
  exact aux l 0 (by omega) h
set_option maxRecDepth 100000 in
theorem add_any (a : Option Addr) (len cap : Nat) (l : List Int) (w : World) (hl : Bytes w a len l) :
    Calls Try.prog 20 #[.slice a len cap] w fun e w' => e = .returned (.int .u8 (xorL l)) ∧ w = w' := by
  have hm := hl.max
  go_enter Try.func20, Try.ntmps20
  go_wp2
  go_loop [3, 5, 8] (fun s _ i => ∃ k : Nat, k ≤ len ∧ i = .int .i64 k ∧ s = .int .u8 (xorL (l.take k))) (fun _ _ i => len - (intOf i).toNat)
  case atStart => exact ⟨0, by omega, rfl, rfl⟩
  case round =>
    obtain ⟨k, hk, rfl, rfl⟩ := hrel
    by_cases hlt : k < len
    · obtain ⟨b, off, rfl, c⟩ : ∃ b off, a = some ⟨b, off, none⟩ ∧ w.cell? ⟨b, off + k, none⟩ = some (.int .u8 (l.getD k 0)) := by
        rcases hl.cell with h | ⟨_, b, off, e, _, h⟩
        · omega
        · exact ⟨b, off, e, h k hlt⟩
      have HS := Lib.hid (xorL_snoc l k (by have := hl.size; omega))
      have hr := xorL_lt (l.take k) (fun z hz => hl.range z (List.mem_of_mem_take hz))
      obtain ⟨z0, z1⟩ := hl.byte k hlt
      have HL := Lib.hid hl
      clear hl
      generalize xorL (l.take k) = r at *
      generalize l.getD k 0 = z at *
      obtain ⟨y, rfl⟩ : ∃ y : Nat, z = y := ⟨z.toNat, by omega⟩
      have hb := bits_u8 r y hr (by omega)
      go_wp2
      go_round
      case rel => exact ⟨k + 1, by omega, by go_num, by rw [HS.out]; rfl⟩
      case measure => simp [intOf]; omega
    · obtain rfl : k = len := by omega
      have e : l.take k = l := List.take_of_length_le (by have := hl.size; omega)
      rw [e]
      go_wp2
      go_ret
      exact ⟨rfl, rfl⟩
/-- The tables are there, and what was there is as it was. -/
def Kept (t : Nat) (w0 w : World) : Prop := IsTab w t ∧ Below w0.heap.size w0 w
theorem Kept.drewN {t : Nat} {w0 w : World} (h : Kept t w0 w) (n : Nat) : Kept t w0 (w.drewN n) := ⟨h.1, below_drewN h.2 n⟩
theorem Kept.alloc {t : Nat} {w0 w : World} (h : Kept t w0 w) (o : Obj) : Kept t w0 (w.alloc o) :=
  ⟨h.1.below ((Below.refl w.heap.size w).alloc (Nat.le_refl _) _) h.1.lt, h.2.alloc h.2.size _⟩
theorem kmul_any (t a b : Nat) (ha : a < 256) (hb : b < 256) (w0 w : World) (hk : Kept t w0 w) :
    Calls Try.prog 11 #[.pointer (some ⟨t, 0, none⟩), .int .u8 a, .int .u8 b] w fun e w' => e = .returned (.int .u8 (gm a b)) ∧ Kept t w0 w' :=
  (mul_any t a b ha hb w hk.1).mono fun _ _ ⟨h, n, e⟩ => ⟨h, by rw [e]; exact hk.drewN n⟩
theorem add_block (l : List Int) (C : Array Value) (hC : C.toList = l.map (Value.int .u8)) (hz : ∀ z ∈ l, 0 ≤ z ∧ z ≤ 255) (n : Nat) (hn : n = l.length) (hm : n ≤ 9223372036854775807) (r : Nat) (hr : xorL l = r) (w : World) (cap : Nat) :
    Calls Try.prog 20 #[.slice (some ⟨w.heap.size, 0, none⟩) n cap] (w.alloc (.cells C 5)) fun e w' => e = .returned (.int .u8 r) ∧ w.alloc (.cells C 5) = w' := by
  have h := add_any _ n cap l _ (new_block w C 5 (0, 0) _ rfl l hC (by omega) hz n hn)
  rwa [hr] at h
set_option maxRecDepth 100000 in
set_option maxHeartbeats 1000000 in
theorem field_walk (x y z : Int) (w : World) (hx : (Lit.int .u8 x).wf = true) (hy : (Lit.int .u8 y).wf = true) (hz : (Lit.int .u8 z).wf = true) :
    Calls Try.prog 7 #[.int .u8 x, .int .u8 y, .int .u8 z] w fun e w' => e = .returned (.bool true) ∧ Below w.heap.size w w' := by
  obtain ⟨a, rfl, ha⟩ := u8_of hx
  obtain ⟨b, rfl, hb⟩ := u8_of hy
  obtain ⟨c, rfl, hc⟩ := u8_of hz
  clear hx hy hz
  have hs : b ^^^ c < 256 := Nat.xor_lt_two_pow (n := 8) (by omega) (by omega)
  have hp := gm_lt ha hb
  have hq := gm_lt hb hc
  have hu := gm_lt ha hc
  have K1 := Lib.hid (fun t w0 w => kmul_any t a b ha hb w0 w)
  have k2 := fun t w0 w => kmul_any t b a hb ha w0 w
  rw [← gm_comm ha hb] at k2
  have K2 := Lib.hid k2
  have K3 := Lib.hid (fun t w0 w => kmul_any t b c hb hc w0 w)
  have K4 := Lib.hid (fun t w0 w => kmul_any t a (gm b c) ha hq w0 w)
  have k5 := fun t w0 w => kmul_any t (gm a b) c hp hc w0 w
  rw [← gm_assoc ha hb hc] at k5
  have K5 := Lib.hid k5
  have k6 : ∀ t w0 w, Kept t w0 w → Calls Try.prog 11 #[.pointer (some ⟨t, 0, none⟩), .int .u8 a, .int .u8 1] w fun e w' => e = .returned (.int .u8 (gm a 1)) ∧ Kept t w0 w' := fun t w0 w => kmul_any t a 1 ha (by omega) w0 w
  rw [gm_one a ha] at k6
  have K6 := Lib.hid k6
  have k7 := fun t w0 w => kmul_any t a (b ^^^ c) ha hs w0 w
  rw [gm_right] at k7
  have K7 := Lib.hid k7
  have K8 := Lib.hid (fun t w0 w => kmul_any t a c ha hc w0 w)
  have A1 := Lib.hid (add_block [(a : Int), b, b] #[.int .u8 a, .int .u8 b, .int .u8 b] rfl (by simp; omega) 3 rfl (by omega) a (by simp [xorL, Nat.xor_assoc]))
  have A2 := Lib.hid (add_block [(b : Int), c] #[.int .u8 b, .int .u8 c] rfl (by simp; omega) 2 rfl (by omega) (b ^^^ c) (by simp [xorL]))
  have A3 := Lib.hid (add_block [((gm a b : Nat) : Int), (gm a c : Nat)] #[.int .u8 (gm a b : Nat), .int .u8 (gm a c : Nat)] rfl (by simp; omega) 2 rfl (by omega) (gm a b ^^^ gm a c) (by simp [xorL]))
  have A0 : Hid (∀ w, Calls Try.prog 20 #[.slice none 0 0] w fun e w' => e = .returned (.int .u8 0) ∧ w = w') := Lib.hid (fun w => add_any none 0 0 [] w (Bytes.nil _))
  have F : ((gm a b : Nat) : Int) != 0 ∨ (((gm a b : Nat) : Int) != 0) = false ∧ ((a : Int) == 0) = true ∨ (((gm a b : Nat) : Int) != 0) = false ∧ ((a : Int) == 0) = false ∧ ((b : Int) == 0) = true := by
    by_cases h0 : a = 0
    · subst h0; rw [zero_gm]; exact .inr (.inl ⟨rfl, rfl⟩)
    · by_cases h1 : b = 0
      · subst h1; rw [gm_zero]; exact .inr (.inr ⟨rfl, by simp; omega, rfl⟩)
      · refine .inl ?_
        have := gm_ne ha hb h0 h1
        simp; omega
  clear k2 k5 k6 k7
  generalize gm a (gm b c) = r at *
  generalize gm b c = q at *
  generalize gm a b = p at *
  generalize gm a c = u at *
  generalize p ^^^ u = m at *
  generalize b ^^^ c = s at *
  rcases F with g1 | ⟨g1, g2⟩ | ⟨g1, g2, g3⟩
  all_goals
    go_enter Try.func7, Try.ntmps7
    go_upto_region 8 with (first
      | (go_at_call 9; refine (awake_any _).mono ?_; rintro e w1 ⟨rfl, hb1⟩; have HB1 := Lib.hid hb1; clear hb1)
      | (go_at_call 10; refine (new_any _).mono ?_; rintro e w2 ⟨rfl, ht, hb2⟩; have HK : Hid (Kept w1.heap.size w w2) := Lib.hid ⟨ht, HB1.out.trans (hb2.mono HB1.out.size)⟩; clear ht hb2)
      | (go_at_call 11; (first
          | (with_reducible refine (K1.out _ _ _ HK.out).mono ?_)
          | (with_reducible refine (K2.out _ _ _ HK.out).mono ?_)
          | (with_reducible refine (K3.out _ _ _ HK.out).mono ?_)
          | (with_reducible refine (K4.out _ _ _ HK.out).mono ?_)
          | (with_reducible refine (K5.out _ _ _ HK.out).mono ?_)
          | (with_reducible refine (K6.out _ _ _ HK.out).mono ?_)
          | (with_reducible refine (K7.out _ _ _ HK.out).mono ?_)
          | (with_reducible refine (K8.out _ _ _ HK.out).mono ?_)); clear HK; rintro e w3 ⟨rfl, hk⟩; have HK := Lib.hid hk; clear hk)
      | (go_at_call 20; (with_reducible refine (A1.out _ _).mono ?_); rintro e w4 ⟨rfl, rfl⟩; have HK' := Lib.hid (HK.out.alloc (.cells #[.int .u8 a, .int .u8 b, .int .u8 b] 5)); clear HK; have HK := HK'; clear HK')
      | (go_at_call 20; (with_reducible refine (A2.out _ _).mono ?_); rintro e w4 ⟨rfl, rfl⟩; have HK' := Lib.hid (HK.out.alloc (.cells #[.int .u8 b, .int .u8 c] 5)); clear HK; have HK := HK'; clear HK')
      | (go_at_call 20; (with_reducible refine (A3.out _ _).mono ?_); rintro e w4 ⟨rfl, rfl⟩; have HK' := Lib.hid (HK.out.alloc (.cells #[.int .u8 p, .int .u8 u] 5)); clear HK; have HK := HK'; clear HK')
      | (go_at_call 20; (with_reducible refine (A0.out _).mono ?_); rintro e w4 ⟨rfl, rfl⟩))
    generalize w3.alloc (.cells #[.int .u8 a, .int .u8 b, .int .u8 b] 5) = w5 at *
    go_wp2_with (first
      | (go_at_call 9; refine (awake_any _).mono ?_; rintro e w1 ⟨rfl, hb1⟩; have HB1 := Lib.hid hb1; clear hb1)
      | (go_at_call 10; refine (new_any _).mono ?_; rintro e w2 ⟨rfl, ht, hb2⟩; have HK : Hid (Kept w1.heap.size w w2) := Lib.hid ⟨ht, HB1.out.trans (hb2.mono HB1.out.size)⟩; clear ht hb2)
      | (go_at_call 11; (first
          | (with_reducible refine (K1.out _ _ _ HK.out).mono ?_)
          | (with_reducible refine (K2.out _ _ _ HK.out).mono ?_)
          | (with_reducible refine (K3.out _ _ _ HK.out).mono ?_)
          | (with_reducible refine (K4.out _ _ _ HK.out).mono ?_)
          | (with_reducible refine (K5.out _ _ _ HK.out).mono ?_)
          | (with_reducible refine (K6.out _ _ _ HK.out).mono ?_)
          | (with_reducible refine (K7.out _ _ _ HK.out).mono ?_)
          | (with_reducible refine (K8.out _ _ _ HK.out).mono ?_)); clear HK; rintro e w3 ⟨rfl, hk⟩; have HK := Lib.hid hk; clear hk)
      | (go_at_call 20; (with_reducible refine (A1.out _ _).mono ?_); rintro e w4 ⟨rfl, rfl⟩; have HK' := Lib.hid (HK.out.alloc (.cells #[.int .u8 a, .int .u8 b, .int .u8 b] 5)); clear HK; have HK := HK'; clear HK')
      | (go_at_call 20; (with_reducible refine (A2.out _ _).mono ?_); rintro e w4 ⟨rfl, rfl⟩; have HK' := Lib.hid (HK.out.alloc (.cells #[.int .u8 b, .int .u8 c] 5)); clear HK; have HK := HK'; clear HK')
      | (go_at_call 20; (with_reducible refine (A3.out _ _).mono ?_); rintro e w4 ⟨rfl, rfl⟩; have HK' := Lib.hid (HK.out.alloc (.cells #[.int .u8 p, .int .u8 u] 5)); clear HK; have HK := HK'; clear HK')
      | (go_at_call 20; (with_reducible refine (A0.out _).mono ?_); rintro e w4 ⟨rfl, rfl⟩))
    go_ret
    exact ⟨rfl, HK.out.2⟩
end Go.Proofs.Ytcdikbnbkaahjaa
