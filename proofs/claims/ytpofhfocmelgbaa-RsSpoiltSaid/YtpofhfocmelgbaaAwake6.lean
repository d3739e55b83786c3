/-
  Own text: the page's examples of layer 6, walked.
-/
import Derived.Test.YtpofhfocmelgbaaREncode
import Derived.Test.YtpofhfocmelgbaaFits
namespace Go.Proofs.Ytpofhfocmelgbaa
open Go.RowKit

/-- One byte in a block. -/
theorem byte_block (W : World) (z : Nat) (hz : z < 256) : Sl (W.alloc (.cells #[.int .u8 (z : Int)] 5)) (some ⟨W.heap.size, 0, none⟩) 1 1 [(z : Int)] :=
  ⟨new_block W _ _ _ _ rfl [(z : Int)] rfl (by simp) (fun x hx => by simp at hx; omega) 1 rfl, Nat.le_refl _, by omega, fun h => nomatch h⟩
/-- Two such in a list. -/
theorem cols_two (W : World) (x y : Nat) (hx : x < 256) (hy : y < 256) :
    ColsIn (((W.alloc (.cells #[.int .u8 (x : Int)] 5)).alloc (.cells #[.int .u8 (y : Int)] 5)).alloc (.cells #[.slice (some ⟨W.heap.size, 0, none⟩) 1 1, .slice (some ⟨W.heap.size + 1, 0, none⟩) 1 1] 31)) (some ⟨W.heap.size + 1 + 1, 0, none⟩) 2 2
      (fun r => some ⟨W.heap.size + r, 0, none⟩) (fun _ => 1) (fun _ => 1) (fun r => if r = 0 then [(x : Int)] else [(y : Int)]) := by
  have hs : (W.alloc (.cells #[.int .u8 (x : Int)] 5)).heap.size = W.heap.size + 1 := by simp
  have hs2 : ((W.alloc (.cells #[.int .u8 (x : Int)] 5)).alloc (.cells #[.int .u8 (y : Int)] 5)).heap.size = W.heap.size + 1 + 1 := by simp
  have s1 := ((byte_block W x hx).below (below_put (W.alloc (.cells #[.int .u8 (x : Int)] 5)) (.cells #[.int .u8 (y : Int)] 5)) (Nat.le_refl _)).below (below_put _ (.cells #[.slice (some ⟨W.heap.size, 0, none⟩) 1 1, .slice (some ⟨W.heap.size + 1, 0, none⟩) 1 1] 31)) (Nat.le_refl _)
  have s2 := (byte_block (W.alloc (.cells #[.int .u8 (x : Int)] 5)) y hy).below (below_put _ (.cells #[.slice (some ⟨W.heap.size, 0, none⟩) 1 1, .slice (some ⟨W.heap.size + 1, 0, none⟩) 1 1] 31)) (Nat.le_refl _)
  rw [hs] at s2
  have hX := Go.Deep.blk_alloc_new ((W.alloc (.cells #[.int .u8 (x : Int)] 5)).alloc (.cells #[.int .u8 (y : Int)] 5)) (.cells #[.slice (some ⟨W.heap.size, 0, none⟩) 1 1, .slice (some ⟨W.heap.size + 1, 0, none⟩) 1 1] 31)
  rw [hs2] at hX
  refine ⟨Nat.le_refl _, by omega, (fun h => nomatch h), fun r hr => ?_⟩
  have h2 : r = 0 ∨ r = 1 := by omega
  rcases h2 with rfl | rfl
  · exact ⟨⟨_, _, rfl, (Array.getElem?_eq_some_iff.1 hX).1, by simp only [World.cell?, hX]; rfl⟩, s1⟩
  · exact ⟨⟨_, _, rfl, (Array.getElem?_eq_some_iff.1 hX).1, by simp only [World.cell?, hX]; rfl⟩, s2⟩
/-- One such in a list. -/
theorem cols_one (W : World) (x : Nat) (hx : x < 256) :
    ColsIn ((W.alloc (.cells #[.int .u8 (x : Int)] 5)).alloc (.cells #[.slice (some ⟨W.heap.size, 0, none⟩) 1 1] 31)) (some ⟨W.heap.size + 1, 0, none⟩) 1 1
      (fun _ => some ⟨W.heap.size, 0, none⟩) (fun _ => 1) (fun _ => 1) (fun _ => [(x : Int)]) := by
  have hs : (W.alloc (.cells #[.int .u8 (x : Int)] 5)).heap.size = W.heap.size + 1 := by simp
  have s1 := (byte_block W x hx).below (below_put _ (.cells #[.slice (some ⟨W.heap.size, 0, none⟩) 1 1] 31)) (Nat.le_refl _)
  have hX := Go.Deep.blk_alloc_new (W.alloc (.cells #[.int .u8 (x : Int)] 5)) (.cells #[.slice (some ⟨W.heap.size, 0, none⟩) 1 1] 31)
  rw [hs] at hX
  refine ⟨Nat.le_refl _, by omega, (fun h => nomatch h), fun r hr => ?_⟩
  obtain rfl : r = 0 := by omega
  exact ⟨⟨_, _, rfl, (Array.getElem?_eq_some_iff.1 hX).1, by simp only [World.cell?, hX]; rfl⟩, s1⟩
theorem two_vals : (∀ i, i < 2 → co (if i = 0 then [((5 : Nat) : Int)] else [((5 : Nat) : Int)]) 0 = 5) := fun i _ => by split <;> rfl
theorem five : xs (fun j => mu (lagw nid 2 j (2 + 0)) (co (if j = 0 then [((5 : Nat) : Int)] else [((5 : Nat) : Int)]) 0)) 2 = 5 := by decide +kernel
theorem seven : xs (fun j => mu (lagw nid 2 j (2 + 0)) (co (if j = 0 then [((1 : Nat) : Int)] else [((2 : Nat) : Int)]) 0)) 2 = 7 := by decide +kernel
/-- What Encode hands back there. -/
def OneByte (z : Nat) (w : World) (e : Ending) (w' : World) : Prop :=
  ∃ h A, e = .returned (.tuple #[.slice (some ⟨h, 0, none⟩) 1 1, .int .i64 0]) ∧ ColsIn w' (some ⟨h, 0, none⟩) 1 1 A (fun _ => 1) (fun _ => 1) (fun _ => [(z : Int)]) ∧ Below w.heap.size w w'
theorem enc_one (b t x y z : Nat) (hx : x < 256) (hy : y < 256) (hz : z < 256) (W : World) (h : IsCode W b t 2 1) (hv : xs (fun j => mu (lagw nid 2 j (2 + 0)) (co (if j = 0 then [(x : Int)] else [(y : Int)]) 0)) 2 = z) :
    Calls Try.prog 17 #[.pointer (some ⟨b, 0, none⟩), .slice (some ⟨W.heap.size + 1 + 1, 0, none⟩) 2 2]
      (((W.alloc (.cells #[.int .u8 (x : Int)] 5)).alloc (.cells #[.int .u8 (y : Int)] 5)).alloc (.cells #[.slice (some ⟨W.heap.size, 0, none⟩) 1 1, .slice (some ⟨W.heap.size + 1, 0, none⟩) 1 1] 31))
      (OneByte z (((W.alloc (.cells #[.int .u8 (x : Int)] 5)).alloc (.cells #[.int .u8 (y : Int)] 5)).alloc (.cells #[.slice (some ⟨W.heap.size, 0, none⟩) 1 1, .slice (some ⟨W.heap.size + 1, 0, none⟩) 1 1] 31))) := by
  refine (code_encode b t 2 1 2 _ _ _ _ _ _ ((((h.below (below_put _ _)).below (below_put _ _)).below (below_put _ _))) (cols_two W x y hx hy) (fun j _ => ⟨rfl, by show 1 ≤ 1200; omega⟩)).mono ?_
  rintro e w' ⟨h', g, l, he, _, _, hl, hd, hc, hb⟩
  refine ⟨h', fun i => some ⟨g, i * 1, none⟩, he, ?_, hb⟩
  have hcols := cols_applied hl hd (by omega) (by omega)
  have e1 : seg l (0 * 1) 1 = [(z : Int)] := by
    refine list_co (seg_by hd.by_ _ _) (fun q hq => by simp at hq; omega) (seg_length _ _ _ (by rw [hd.size]; decide)) (fun i hi => ?_)
    rw [seg_length _ _ _ (by rw [hd.size]; decide)] at hi
    obtain rfl : i = 0 := by omega
    rw [seg_co _ _ _ _ (by omega)]
    refine (hc 0 0 (by omega) (by omega)).trans (hv.trans ?_)
    show z = (z : Int).toNat
    omega
  refine ⟨hcols.1, hcols.2.1, hcols.2.2.1, fun r hr => ?_⟩
  have := hcols.2.2.2 r hr
  obtain rfl : r = 0 := by omega
  dsimp only at this
  rw [e1] at this
  exact this
set_option maxRecDepth 100000 in
set_option maxHeartbeats 1000000 in
theorem awake6_any (w : World) : Calls Try.prog 8 #[] w fun e w' => e = .returned (.bool true) ∧ Below w.heap.size w w' := by
  have HN := Lib.hid (fun w => new_any w)
  have HC := Lib.hid (fun t w ht => code_some t 2 1 (by omega) (by omega) w ht)
  have HE5 := Lib.hid (fun b t W h => enc_one b t 5 5 5 (by omega) (by omega) (by omega) W h five)
  have HE7 := Lib.hid (fun b t W h => enc_one b t 1 2 7 (by omega) (by omega) (by omega) W h seven)
  have HS : Hid (∀ W (z : Nat) h A, z < 256 → ColsIn W (some ⟨h, 0, none⟩) 1 1 A (fun _ => 1) (fun _ => 1) (fun _ => [(z : Int)]) → Calls Try.prog 19 #[.slice (some ⟨h, 0, none⟩) 1 1, .slice (some ⟨W.heap.size + 1, 0, none⟩) 1 1] ((W.alloc (.cells #[.int .u8 (z : Int)] 5)).alloc (.cells #[.slice (some ⟨W.heap.size, 0, none⟩) 1 1] 31)) fun e w' => e = .returned (.bool true) ∧ ∃ k, w' = ((W.alloc (.cells #[.int .u8 (z : Int)] 5)).alloc (.cells #[.slice (some ⟨W.heap.size, 0, none⟩) 1 1] 31)).drewN k) :=
    Lib.hid (fun W z h A hz hc => rsame_lists _ _ 1 1 1 1 _ _ _ _ _ _ _ _ _ ((hc.below (below_put _ _) (Nat.le_refl _)).below (below_put _ _) (Nat.le_refl _)) (cols_one W z hz) (by omega) (by omega) true (fun _ => ⟨rfl, fun _ _ => rfl⟩) (fun h => nomatch h))
  unfold Coded at HC
  unfold OneByte at HE5 HE7
  have n5 : ((5 : Nat) : Int) = 5 := rfl
  have n1 : ((1 : Nat) : Int) = 1 := rfl
  have n2 : ((2 : Nat) : Int) = 2 := rfl
  have n7 : ((7 : Nat) : Int) = 7 := rfl
  rw [n5] at HE5
  rw [n1, n2, n7] at HE7
  have HS5 := Lib.hid (fun W h A hc => HS.out W 5 h A (by omega) hc)
  have HS7 := Lib.hid (fun W h A hc => HS.out W 7 h A (by omega) hc)
  rw [n5] at HS5
  rw [n7] at HS7
  clear n5 n1 n2 n7 HS
  go_enter Try.func8, Try.ntmps8
  go_wp2_with first
    | (go_at_call 10; refine (HN.out _).mono ?_; rintro e w1 ⟨rfl, ht, hb⟩; have HT1 := Lib.hid ht; have HB1 := Lib.hid hb; clear ht hb)
    | (go_at_call 9; refine (HC.out _ _ HT1.out).mono ?_; rintro e w2 ⟨b, rfl, hg, hc, hb⟩; have HC2 := Lib.hid hc; have HB2 := Lib.hid (b_on HB1.out hb); clear hg hc hb)
    | (go_at_call 17; (with_reducible refine (HE5.out b _ w2 HC2.out).mono ?_); rintro e w3 ⟨h3, A3, rfl, hc, hb⟩; have HX3 := Lib.hid hc; have HC3 := Lib.hid ((((HC2.out.below (below_put _ _)).below (below_put _ _)).below (below_put _ _)).below hb); have HB3 := Lib.hid (b_on (b_put (b_put (b_put HB2.out _) _) _) hb); clear hc hb)
    | (go_at_call 17; (with_reducible refine (HE7.out b _ w3 HC3.out).mono ?_); rintro e w4 ⟨h4, A4, rfl, hc, hb⟩; have HX4 := Lib.hid hc; have HX34 := Lib.hid (((((HX3.out.below (below_put _ _) (Nat.le_refl _)).below (below_put _ _) (Nat.le_refl _)).below (below_put _ _) (Nat.le_refl _)).below hb (Nat.le_refl _))); have HB4 := Lib.hid (b_on (b_put (b_put (b_put HB3.out _) _) _) hb); clear hc hb)
    | (go_at_call 19; (with_reducible refine (HS5.out w4 h3 _ HX34.out).mono ?_); rintro e w5 ⟨rfl, nq, hw⟩; have HB5 : Hid (Below w4.heap.size w4 w5) := Lib.hid (by rw [hw]; exact below_drewN (b_put (below_put _ _) _) _); clear hw)
    | (go_at_call 19; (with_reducible refine (HS7.out w5 h4 _ (HX4.out.below HB5.out (Nat.le_refl _))).mono ?_); rintro e w6 ⟨rfl, nq2, hw⟩; have HB6 : Hid (Below w5.heap.size w5 w6) := Lib.hid (by rw [hw]; exact below_drewN (b_put (below_put _ _) _) _); clear hw)
  go_ret
  exact ⟨rfl, b_on HB4.out (b_on HB5.out HB6.out)⟩
end Go.Proofs.Ytpofhfocmelgbaa
