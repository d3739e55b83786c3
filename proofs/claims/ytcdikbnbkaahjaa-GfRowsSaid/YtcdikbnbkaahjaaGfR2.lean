/-
  Own text: Dot, the tables' and the document's, walked.
-/
import Derived.Test.YtcdikbnbkaahjaaGfG
namespace Go.Proofs.Ytcdikbnbkaahjaa
open Go.RowKit

/-- The sum of the products at the first places. -/
def dotK (x y : List Int) : Nat → Nat
  | 0 => 0
  | k + 1 => dotK x y k ^^^ gm (x.getD k 0).toNat (y.getD k 0).toNat
theorem dotK_lt (x y : List Int) (n : Nat) (hx : ∀ i, i < n → 0 ≤ x.getD i 0 ∧ x.getD i 0 ≤ 255) (hy : ∀ i, i < n → 0 ≤ y.getD i 0 ∧ y.getD i 0 ≤ 255) : ∀ k, k ≤ n → dotK x y k < 256
  | 0, _ => by unfold dotK; omega
  | k + 1, hk => by
    unfold dotK
    have h1 := hx k (by omega)
    have h2 := hy k (by omega)
    exact Nat.xor_lt_two_pow (n := 8) (dotK_lt x y n hx hy k (by omega)) (gm_lt (by omega) (by omega))
set_option maxRecDepth 100000 in
theorem dot_le (t : Nat) (p q : Option Addr) (n m c d : Nat) (x y : List Int) (w : World) (ht : IsTab w t) (hx : Bytes w p n x) (hy : Bytes w q m y) (g : n ≤ m) :
    Calls Try.prog 23 #[.pointer (some ⟨t, 0, none⟩), .slice p n c, .slice q m d] w fun e w' => e = .returned (.int .u8 (dotK x y n)) ∧ Below w.heap.size w w' := by
  have hnm := hx.max
  have hmm := hy.max
  have HX := Lib.hid hx
  have HY := Lib.hid hy
  have HT := Lib.hid ht
  have HLT := Lib.hid ht.lt
  have HD := Lib.hid (fun k hk => dotK_lt x y n (fun i hi => hx.byte i (by omega)) (fun i hi => hy.byte i (by omega)) k hk)
  have H0 := Lib.hid (Below.refl w.heap.size w)
  clear hx hy ht
  go_enter Try.func23, Try.ntmps23
  go_wp2
  go_loopw [7, 8, 14] (fun s _ i wr => ∃ k : Nat, k ≤ n ∧ i = .int .i64 k ∧ s = .int .u8 (dotK x y k) ∧ Hid (Below w.heap.size w wr)) (fun _ _ i _ => n - (intOf i).toNat)
  case atStart => exact ⟨0, by omega, rfl, rfl, H0⟩
  case round =>
    obtain ⟨k, hk, rfl, rfl, HB⟩ := hrel
    obtain ⟨wo, ho⟩ : ∃ wo, wo = wr := ⟨_, rfl⟩
    subst ho
    by_cases hlt : k < n
    · have kn : k < n := by omega
      have km : k < m := by omega
      have h1 := HX.out.below HB.out (Nat.le_refl _)
      have h2 := HY.out.below HB.out (Nat.le_refl _)
      obtain ⟨b, off, rfl, c1⟩ : ∃ b off, p = some ⟨b, off, none⟩ ∧ wo.cell? ⟨b, off + k, none⟩ = some (.int .u8 (x.getD k 0)) := by
        rcases h1.cell with h | ⟨_, b, off, e, _, h⟩
        · omega
        · exact ⟨b, off, e, h k kn⟩
      obtain ⟨b', off', rfl, c2⟩ : ∃ b off, q = some ⟨b, off, none⟩ ∧ wo.cell? ⟨b, off + k, none⟩ = some (.int .u8 (y.getD k 0)) := by
        rcases h2.cell with h | ⟨_, b, off, e, _, h⟩
        · omega
        · exact ⟨b, off, e, h k km⟩
      obtain ⟨x0, x1⟩ := HX.out.byte k kn
      obtain ⟨y0, y1⟩ := HY.out.byte k km
      have hd := HD.out k (by omega)
      have HS := Lib.hid (show dotK x y (k + 1) = dotK x y k ^^^ gm (x.getD k 0).toNat (y.getD k 0).toNat from rfl)
      clear h1 h2
      generalize x.getD k 0 = u0 at *
      generalize y.getD k 0 = v0 at *
      generalize dotK x y k = s at *
      obtain ⟨u, rfl⟩ : ∃ u : Nat, u0 = u := ⟨u0.toNat, by omega⟩
      obtain ⟨v, rfl⟩ : ∃ u : Nat, v0 = u := ⟨v0.toNat, by omega⟩
      have CM := Lib.hid (fun (w : World) (ht : IsTab w t) => mul_any t u v (by omega) (by omega) w ht)
      have hg := gm_lt (a := u) (b := v) (by omega) (by omega)
      have HT2 : Hid (∀ n, IsTab (wo.drewN n) t) := Lib.hid (fun n => (HT.out.below (below_drewN HB.out n) HLT.out))
      have bx := bits_u8 s (gm u v) hd hg
      have k0 : (0 : Int) ≤ k := by omega
      have k1 : (k : Int) < n := by omega
      have k2 : (k : Int) < m := by omega
      go_wp2
      go_quiet ((go_at_call 11; exact Calls.quiet_of (CM.out _ (HT2.out _))))
      go_wp2
      go_roundw
      case rel => exact ⟨k + 1, by omega, by go_num, by rw [HS.out]; simp, Lib.hid (below_drewN HB.out _)⟩
      case measure => simp [intOf]; omega
    · obtain rfl : k = n := by omega
      go_wp2
      go_ret
      exact ⟨rfl, HB.out⟩
set_option maxRecDepth 100000 in
theorem dot_gt (t : Nat) (p q : Option Addr) (n m c d : Nat) (x y : List Int) (w : World) (ht : IsTab w t) (hx : Bytes w p n x) (hy : Bytes w q m y) (g : ¬ n ≤ m) :
    Calls Try.prog 23 #[.pointer (some ⟨t, 0, none⟩), .slice p n c, .slice q m d] w fun e w' => e = .returned (.int .u8 (dotK x y m)) ∧ Below w.heap.size w w' := by
  have hnm := hx.max
  have hmm := hy.max
  have HX := Lib.hid hx
  have HY := Lib.hid hy
  have HT := Lib.hid ht
  have HLT := Lib.hid ht.lt
  have HD := Lib.hid (fun k hk => dotK_lt x y m (fun i hi => hx.byte i (by omega)) (fun i hi => hy.byte i (by omega)) k hk)
  have H0 := Lib.hid (Below.refl w.heap.size w)
  clear hx hy ht
  go_enter Try.func23, Try.ntmps23
  go_wp2
  go_loopw [7, 8, 14] (fun s _ i wr => ∃ k : Nat, k ≤ m ∧ i = .int .i64 k ∧ s = .int .u8 (dotK x y k) ∧ Hid (Below w.heap.size w wr)) (fun _ _ i _ => m - (intOf i).toNat)
  case atStart => exact ⟨0, by omega, rfl, rfl, H0⟩
  case round =>
    obtain ⟨k, hk, rfl, rfl, HB⟩ := hrel
    obtain ⟨wo, ho⟩ : ∃ wo, wo = wr := ⟨_, rfl⟩
    subst ho
    by_cases hlt : k < m
    · have kn : k < n := by omega
      have km : k < m := by omega
      have h1 := HX.out.below HB.out (Nat.le_refl _)
      have h2 := HY.out.below HB.out (Nat.le_refl _)
      obtain ⟨b, off, rfl, c1⟩ : ∃ b off, p = some ⟨b, off, none⟩ ∧ wo.cell? ⟨b, off + k, none⟩ = some (.int .u8 (x.getD k 0)) := by
        rcases h1.cell with h | ⟨_, b, off, e, _, h⟩
        · omega
        · exact ⟨b, off, e, h k kn⟩
      obtain ⟨b', off', rfl, c2⟩ : ∃ b off, q = some ⟨b, off, none⟩ ∧ wo.cell? ⟨b, off + k, none⟩ = some (.int .u8 (y.getD k 0)) := by
        rcases h2.cell with h | ⟨_, b, off, e, _, h⟩
        · omega
        · exact ⟨b, off, e, h k km⟩
      obtain ⟨x0, x1⟩ := HX.out.byte k kn
      obtain ⟨y0, y1⟩ := HY.out.byte k km
      have hd := HD.out k (by omega)
      have HS := Lib.hid (show dotK x y (k + 1) = dotK x y k ^^^ gm (x.getD k 0).toNat (y.getD k 0).toNat from rfl)
      clear h1 h2
      generalize x.getD k 0 = u0 at *
      generalize y.getD k 0 = v0 at *
      generalize dotK x y k = s at *
      obtain ⟨u, rfl⟩ : ∃ u : Nat, u0 = u := ⟨u0.toNat, by omega⟩
      obtain ⟨v, rfl⟩ : ∃ u : Nat, v0 = u := ⟨v0.toNat, by omega⟩
      have CM := Lib.hid (fun (w : World) (ht : IsTab w t) => mul_any t u v (by omega) (by omega) w ht)
      have hg := gm_lt (a := u) (b := v) (by omega) (by omega)
      have HT2 : Hid (∀ n, IsTab (wo.drewN n) t) := Lib.hid (fun n => (HT.out.below (below_drewN HB.out n) HLT.out))
      have bx := bits_u8 s (gm u v) hd hg
      have k0 : (0 : Int) ≤ k := by omega
      have k1 : (k : Int) < n := by omega
      have k2 : (k : Int) < m := by omega
      go_wp2
      go_quiet ((go_at_call 11; exact Calls.quiet_of (CM.out _ (HT2.out _))))
      go_wp2
      go_roundw
      case rel => exact ⟨k + 1, by omega, by go_num, by rw [HS.out]; simp, Lib.hid (below_drewN HB.out _)⟩
      case measure => simp [intOf]; omega
    · obtain rfl : k = m := by omega
      go_wp2
      go_ret
      exact ⟨rfl, HB.out⟩
theorem dot_any (t : Nat) (p q : Option Addr) (n m c d : Nat) (x y : List Int) (w : World) (ht : IsTab w t) (hx : Bytes w p n x) (hy : Bytes w q m y) :
    Calls Try.prog 23 #[.pointer (some ⟨t, 0, none⟩), .slice p n c, .slice q m d] w fun e w' => e = .returned (.int .u8 (dotK x y (min n m))) ∧ Below w.heap.size w w' := by
  by_cases g : n ≤ m
  · rw [Nat.min_eq_left g]; exact dot_le t p q n m c d x y w ht hx hy g
  · rw [Nat.min_eq_right (by omega)]; exact dot_gt t p q n m c d x y w ht hx hy g
set_option maxRecDepth 100000 in
theorem rdot_le (p q : Option Addr) (n m c d : Nat) (x y : List Int) (w : World) (hx : Bytes w p n x) (hy : Bytes w q m y) (g : n ≤ m) :
    Calls Try.prog 24 #[.slice p n c, .slice q m d] w fun e w' => e = .returned (.int .u8 (dotK x y n)) ∧ Below w.heap.size w w' := by
  have hnm := hx.max
  have hmm := hy.max
  have HX := Lib.hid hx
  have HY := Lib.hid hy
  have HD := Lib.hid (fun k hk => dotK_lt x y n (fun i hi => hx.byte i (by omega)) (fun i hi => hy.byte i (by omega)) k hk)
  have H0 := Lib.hid (Below.refl w.heap.size w)
  clear hx hy
  go_enter Try.func24, Try.ntmps24
  go_wp2
  go_loopw [5, 6] (fun s i wr => ∃ k : Nat, k ≤ n ∧ i = .int .i64 k ∧ s = .int .u8 (dotK x y k) ∧ Hid (Below w.heap.size w wr)) (fun _ i _ => n - (intOf i).toNat)
  case atStart => exact ⟨0, by omega, rfl, rfl, H0⟩
  case round =>
    obtain ⟨k, hk, rfl, rfl, HB⟩ := hrel
    obtain ⟨wo, ho⟩ : ∃ wo, wo = wr := ⟨_, rfl⟩
    subst ho
    by_cases hlt : k < n
    · have kn : k < n := by omega
      have km : k < m := by omega
      have h1 := HX.out.below HB.out (Nat.le_refl _)
      have h2 := HY.out.below HB.out (Nat.le_refl _)
      obtain ⟨b, off, rfl, c1⟩ : ∃ b off, p = some ⟨b, off, none⟩ ∧ wo.cell? ⟨b, off + k, none⟩ = some (.int .u8 (x.getD k 0)) := by
        rcases h1.cell with h | ⟨_, b, off, e, _, h⟩
        · omega
        · exact ⟨b, off, e, h k kn⟩
      obtain ⟨b', off', rfl, c2⟩ : ∃ b off, q = some ⟨b, off, none⟩ ∧ wo.cell? ⟨b, off + k, none⟩ = some (.int .u8 (y.getD k 0)) := by
        rcases h2.cell with h | ⟨_, b, off, e, _, h⟩
        · omega
        · exact ⟨b, off, e, h k km⟩
      obtain ⟨x0, x1⟩ := HX.out.byte k kn
      obtain ⟨y0, y1⟩ := HY.out.byte k km
      have hd := HD.out k (by omega)
      have HS := Lib.hid (show dotK x y (k + 1) = dotK x y k ^^^ gm (x.getD k 0).toNat (y.getD k 0).toNat from rfl)
      clear h1 h2
      generalize x.getD k 0 = u0 at *
      generalize y.getD k 0 = v0 at *
      generalize dotK x y k = s at *
      obtain ⟨u, rfl⟩ : ∃ u : Nat, u0 = u := ⟨u0.toNat, by omega⟩
      obtain ⟨v, rfl⟩ : ∃ u : Nat, v0 = u := ⟨v0.toNat, by omega⟩
      have CM := Lib.hid (fun (w : World) => rmul_any u v (by omega) (by omega) w)
      have hg := gm_lt (a := u) (b := v) (by omega) (by omega)
      have bx := bits_u8 s (gm u v) hd hg
      have k0 : (0 : Int) ≤ k := by omega
      have k1 : (k : Int) < n := by omega
      have k2 : (k : Int) < m := by omega
      go_wp2
      go_quiet ((go_at_call 12; exact (CM.out _).mono fun _ _ h => ⟨h.1, _, h.2.symm⟩))
      go_wp2
      go_roundw
      case rel => exact ⟨k + 1, by omega, by go_num, by rw [HS.out]; simp, Lib.hid (below_drewN HB.out _)⟩
      case measure => simp [intOf]; omega
    · obtain rfl : k = n := by omega
      go_wp2
      go_ret
      exact ⟨rfl, HB.out⟩
set_option maxRecDepth 100000 in
theorem rdot_gt (p q : Option Addr) (n m c d : Nat) (x y : List Int) (w : World) (hx : Bytes w p n x) (hy : Bytes w q m y) (g : ¬ n ≤ m) :
    Calls Try.prog 24 #[.slice p n c, .slice q m d] w fun e w' => e = .returned (.int .u8 (dotK x y m)) ∧ Below w.heap.size w w' := by
  have hnm := hx.max
  have hmm := hy.max
  have HX := Lib.hid hx
  have HY := Lib.hid hy
  have HD := Lib.hid (fun k hk => dotK_lt x y m (fun i hi => hx.byte i (by omega)) (fun i hi => hy.byte i (by omega)) k hk)
  have H0 := Lib.hid (Below.refl w.heap.size w)
  clear hx hy
  go_enter Try.func24, Try.ntmps24
  go_wp2
  go_loopw [5, 6] (fun s i wr => ∃ k : Nat, k ≤ m ∧ i = .int .i64 k ∧ s = .int .u8 (dotK x y k) ∧ Hid (Below w.heap.size w wr)) (fun _ i _ => m - (intOf i).toNat)
  case atStart => exact ⟨0, by omega, rfl, rfl, H0⟩
  case round =>
    obtain ⟨k, hk, rfl, rfl, HB⟩ := hrel
    obtain ⟨wo, ho⟩ : ∃ wo, wo = wr := ⟨_, rfl⟩
    subst ho
    by_cases hlt : k < m
    · have kn : k < n := by omega
      have km : k < m := by omega
      have h1 := HX.out.below HB.out (Nat.le_refl _)
      have h2 := HY.out.below HB.out (Nat.le_refl _)
      obtain ⟨b, off, rfl, c1⟩ : ∃ b off, p = some ⟨b, off, none⟩ ∧ wo.cell? ⟨b, off + k, none⟩ = some (.int .u8 (x.getD k 0)) := by
        rcases h1.cell with h | ⟨_, b, off, e, _, h⟩
        · omega
        · exact ⟨b, off, e, h k kn⟩
      obtain ⟨b', off', rfl, c2⟩ : ∃ b off, q = some ⟨b, off, none⟩ ∧ wo.cell? ⟨b, off + k, none⟩ = some (.int .u8 (y.getD k 0)) := by
        rcases h2.cell with h | ⟨_, b, off, e, _, h⟩
        · omega
        · exact ⟨b, off, e, h k km⟩
      obtain ⟨x0, x1⟩ := HX.out.byte k kn
      obtain ⟨y0, y1⟩ := HY.out.byte k km
      have hd := HD.out k (by omega)
      have HS := Lib.hid (show dotK x y (k + 1) = dotK x y k ^^^ gm (x.getD k 0).toNat (y.getD k 0).toNat from rfl)
      clear h1 h2
      generalize x.getD k 0 = u0 at *
      generalize y.getD k 0 = v0 at *
      generalize dotK x y k = s at *
      obtain ⟨u, rfl⟩ : ∃ u : Nat, u0 = u := ⟨u0.toNat, by omega⟩
      obtain ⟨v, rfl⟩ : ∃ u : Nat, v0 = u := ⟨v0.toNat, by omega⟩
      have CM := Lib.hid (fun (w : World) => rmul_any u v (by omega) (by omega) w)
      have hg := gm_lt (a := u) (b := v) (by omega) (by omega)
      have bx := bits_u8 s (gm u v) hd hg
      have k0 : (0 : Int) ≤ k := by omega
      have k1 : (k : Int) < n := by omega
      have k2 : (k : Int) < m := by omega
      go_wp2
      go_quiet ((go_at_call 12; exact (CM.out _).mono fun _ _ h => ⟨h.1, _, h.2.symm⟩))
      go_wp2
      go_roundw
      case rel => exact ⟨k + 1, by omega, by go_num, by rw [HS.out]; simp, Lib.hid (below_drewN HB.out _)⟩
      case measure => simp [intOf]; omega
    · obtain rfl : k = m := by omega
      go_wp2
      go_ret
      exact ⟨rfl, HB.out⟩
theorem rdot_any (p q : Option Addr) (n m c d : Nat) (x y : List Int) (w : World) (hx : Bytes w p n x) (hy : Bytes w q m y) :
    Calls Try.prog 24 #[.slice p n c, .slice q m d] w fun e w' => e = .returned (.int .u8 (dotK x y (min n m))) ∧ Below w.heap.size w w' := by
  by_cases g : n ≤ m
  · rw [Nat.min_eq_left g]; exact rdot_le p q n m c d x y w hx hy g
  · rw [Nat.min_eq_right (by omega)]; exact rdot_gt p q n m c d x y w hx hy g
end Go.Proofs.Ytcdikbnbkaahjaa
