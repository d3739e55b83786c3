/-
  Own text: Mul, walked.
-/
import Derived.Test.YtbiaenkhhbgbcaaMixO
namespace Go.Proofs.Ytbiaenkhhbgbcaa
open Go.RowKit

/-- A slice of so many is handed back. -/
def SlicedN (n : Nat) (L : List Int) (w : World) (e : Ending) (w' : World) : Prop := ∃ A C, e = .returned (.slice A n C) ∧ Sl w' A n C L ∧ Below w.heap.size w w'
theorem slicedN {f : FuncId} {args : Array Value} {w : World} {L : List Int} (h : Calls Try.prog f args w (Sliced L w)) (n : Nat) (hn : L.length = n) : Calls Try.prog f args w (SlicedN n L w) :=
  h.mono fun e w' ⟨A, m, C, h1, h2, h3⟩ => by
    obtain rfl : m = n := by rw [← hn, h2.bytes.size]
    exact ⟨A, C, h1, h2, h3⟩
/-- The product behind so many rounds. -/
def prodK (X Y : List Int) (k i : Nat) : Nat := xs (fun j => if j ≤ i then mu (co X j) (co Y (i - j)) else 0) k
theorem prodK_lt (X Y : List Int) (k i : Nat) : prodK X Y k i < 256 := xs_lt _ (fun j => by show (if j ≤ i then _ else _) < 256; split; · exact mu_lt _ _
                                                                                            · omega) _
theorem prodK_all (X Y : List Int) (i : Nat) : prodK X Y X.length i = conv (co X) (co Y) i := by
  have h1 := Nat.le_max_left X.length (i + 1)
  have h2 := Nat.le_max_right X.length (i + 1)
  unfold prodK
  rw [← xs_stop h1 (fun j hj => by show (if j ≤ i then mu (co X j) _ else 0) = 0; rw [co_out hj, zero_mu]; split <;> rfl),
    xs_stop h2 (fun j hj => by show (if j ≤ i then _ else 0) = 0; rw [if_neg (by omega)])]
  exact xs_congr _ (fun j hj => by show (if j ≤ i then _ else 0) = _; rw [if_pos (by omega)])
theorem prodK_step {X Y : List Int} (hX : By X) (hY : By Y) (N k : Nat) (_ : k + Y.length ≤ N) : mixO (ofF (prodK X Y k) N) k (sc (co X k) Y) Y.length = ofF (prodK X Y (k + 1)) N := by
  have b1 : By (ofF (prodK X Y k) N) := ofF_by (prodK_lt X Y k) _
  refine list_co (mixO_by _ _ b1 (sc_range _ (hX.lt k) Y hY)) (ofF_by (prodK_lt X Y (k + 1)) _) (by rw [mixO_length, ofF_length, ofF_length]) (fun i hi => ?_)
  rw [mixO_length, ofF_length] at hi
  rw [mixO_co _ _ _ _ _ (by rw [ofF_length]; exact hi), ofF_co _ _ _ hi, ofF_co _ _ _ hi]
  show _ = prodK X Y k i ^^^ (if k ≤ i then mu (co X k) (co Y (i - k)) else 0)
  by_cases g : k ≤ i ∧ i < k + Y.length
  · rw [if_pos g, if_pos g.1]
    congr 1
    unfold co
    rw [sc_get _ _ _ (by omega), Int.toNat_natCast]
    show gm (co X k) (co Y (i - k)) = _
    rw [← mu_eq (hX.lt k) (hY.lt (i - k))]; rfl
  · rw [if_neg g]
    by_cases g2 : k ≤ i
    · rw [if_pos g2, co_out (l := Y) (by omega), mu_zero, Nat.xor_zero]
    · rw [if_neg g2, Nat.xor_zero]
theorem prodK_none (X Y : List Int) (N : Nat) : ofF (prodK X Y 0) N = List.replicate N 0 := by
  apply List.ext_getElem
  · simp [ofF]
  · intro i h1 h2; simp [ofF, prodK, xs]
/-- The product of two lists. -/
def mulL (x y : List Int) : List Int := tr (ofF (mulF x y) (x.length + y.length))
theorem mulF_sup (x y : List Int) : Sup (mulF x y) (x.length + y.length) := fun i hi => by
  unfold mulF conv
  refine xs_none _ (fun j hj => ?_)
  by_cases e : x.length ≤ j
  · rw [co_out e, zero_mu]
  · rw [co_out (l := y) (by omega), mu_zero]
theorem mulF_lt (x y : List Int) (i : Nat) : mulF x y i < 256 := conv_lt _ _ _
theorem mulL_by (x y : List Int) : By (mulL x y) := tr_by (ofF_by (mulF_lt x y) _)
theorem mulL_neat (x y : List Int) : Neat (mulL x y) := tr_neat (ofF_by (mulF_lt x y) _)
theorem mulL_co (x y : List Int) (i : Nat) : co (mulL x y) i = conv (co x) (co y) i := by unfold mulL; rw [co_tr, ofF_all (mulF_sup x y)]; rfl
theorem mulL_comm (x y : List Int) : mulL x y = mulL y x :=
  ((mulL_neat x y).ext (mulL_by x y) (mulL_by y x) (fun i => by rw [mulL_co, mulL_co, conv_comm])).trans (mulL_neat y x).tr_self
theorem mulL_nil {x y : List Int} (h : dn x = 0) : mulL x y = [] := by
  have : [] = tr (mulL x y) := neat_nil.ext By.nil (mulL_by x y) (fun i => by
    rw [co_nil, mulL_co]; exact (conv_null (fun i => co_dn x i (by omega)) i).symm)
  rw [(mulL_neat x y).tr_self] at this
  exact this.symm
theorem mulL_top {x y : List Int} (hx : By x) (hy : By y) (h1 : dn x ≠ 0) (h2 : dn y ≠ 0) : mulL x y = ofF (mulF (tr x) (tr y)) (dn x + dn y - 1) := by
  have e : mulF (tr x) (tr y) = conv (co x) (co y) := by
    have e1 : co (tr x) = co x := funext (co_tr x)
    have e2 : co (tr y) = co y := funext (co_tr y)
    funext i; show conv (co (tr x)) (co (tr y)) i = _; rw [e1, e2]
  obtain ⟨p, hp⟩ : ∃ p, dn x = p + 1 := ⟨dn x - 1, by omega⟩
  obtain ⟨q, hq⟩ : ∃ q, dn y = q + 1 := ⟨dn y - 1, by omega⟩
  have s1 : Sup (co x) (p + 1) := by rw [← hp]; exact co_dn x
  have s2 : Sup (co y) (q + 1) := by rw [← hq]; exact co_dn y
  rw [hp, hq, show p + 1 + (q + 1) - 1 = p + q + 1 by omega, e]
  have b : By (ofF (conv (co x) (co y)) (p + q + 1)) := ofF_by (conv_lt _ _) _
  have nt : Neat (ofF (conv (co x) (co y)) (p + q + 1)) := neat_of b (fun _ => by
    rw [ofF_length, ofF_co _ _ _ (by omega), show p + q + 1 - 1 = p + q by omega, conv_top s1 s2]
    have l1 := co_last hx h1
    have l2 := co_last hy h2
    rw [hp, show p + 1 - 1 = p by omega] at l1
    rw [hq, show q + 1 - 1 = q by omega] at l2
    exact mu_ne (hx.lt _) (hy.lt _) l1 l2)
  rw [← nt.tr_self]
  exact tr_eq (ofF_by (mulF_lt x y) _) b (fun i => by rw [ofF_all (mulF_sup x y), ofF_all (conv_sup s1 s2)]; rfl) 
end Go.Proofs.Ytbiaenkhhbgbcaa
