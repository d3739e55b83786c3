/-
  Own text: division with rest. Plain lists.
-/
import Derived.Test.YtbiaenkhhbgbcaaThrM
namespace Go.Proofs.Ytbiaenkhhbgbcaa
open Go.RowKit

/-- One step down at a place: what is left, and the quotient. -/
def dstep (Y : List Int) (top inv : Nat) (s : List Int × List Int) (i : Nat) : List Int × List Int :=
  (mixO s.1 i (sc (gm (co s.1 (i + top)) inv) (Y.take top)) top, s.2.set i ((gm (co s.1 (i + top)) inv : Nat) : Int))
/-- Behind so many places. -/
def dfold (Y : List Int) (top inv : Nat) (s : List Int × List Int) (ps : List Nat) : List Int × List Int := ps.foldl (dstep Y top inv) s
theorem dfold_snoc (Y : List Int) (top inv : Nat) (s : List Int × List Int) (ps : List Nat) (i : Nat) : dfold Y top inv s (ps ++ [i]) = dstep Y top inv (dfold Y top inv s ps) i := by simp [dfold]
theorem dstep_len (Y : List Int) (top inv : Nat) (s : List Int × List Int) (i : Nat) : (dstep Y top inv s i).1.length = s.1.length ∧ (dstep Y top inv s i).2.length = s.2.length := by
  unfold dstep; exact ⟨mixO_length _ _ _ _, by simp⟩
theorem set_by {l : List Int} (h : By l) (i : Nat) {z : Nat} (hz : z < 256) : By (l.set i (z : Int)) := fun y hy => by
  rcases List.mem_or_eq_of_mem_set hy with g | g
  · exact h y g
  · rw [g]; omega
theorem dstep_by {Y : List Int} (hY : By Y) (top : Nat) {inv : Nat} (hi : inv < 256) {s : List Int × List Int} (h1 : By s.1) (h2 : By s.2) (i : Nat) : By (dstep Y top inv s i).1 ∧ By (dstep Y top inv s i).2 := by
  have lc := gm_lt (h1.lt (i + top)) hi
  exact ⟨mixO_by _ _ h1 (sc_by lc (hY.take _)), set_by h2 i lc⟩
theorem dfold_inv {Y : List Int} (hY : By Y) (top : Nat) {inv : Nat} (hi : inv < 256) {s : List Int × List Int} (h1 : By s.1) (h2 : By s.2) (ps : List Nat) :
    By (dfold Y top inv s ps).1 ∧ By (dfold Y top inv s ps).2 ∧ (dfold Y top inv s ps).1.length = s.1.length ∧ (dfold Y top inv s ps).2.length = s.2.length := by
  induction ps generalizing s with
  | nil => exact ⟨h1, h2, rfl, rfl⟩
  | cons i ps ih =>
    have hb := dstep_by hY top hi h1 h2 i
    have hl := dstep_len Y top inv s i
    obtain ⟨a, b, c, d⟩ := ih hb.1 hb.2
    exact ⟨a, b, c.trans hl.1, d.trans hl.2⟩
theorem co_set (l : List Int) (i j z : Nat) (h : j < l.length) : co (l.set i (z : Int)) j = if j = i then z else co l j := by
  unfold co
  rw [set_get _ _ _ _ h]
  split
  · rw [Int.toNat_natCast]
  · rfl
/-- Between two steps: what was divided is the product of what stands of the quotient, and what is left below a place. -/
structure DivS (x Y : List Int) (top L k : Nat) (s : List Int × List Int) : Prop where
  low : ∀ j, j < L - k → co s.2 j = 0
  all : ∀ n, co x n = conv (co s.2) (co Y) n ^^^ (if n < (L - k) + top then co s.1 n else 0)
  high : 0 < k → co s.2 (L - 1) ≠ 0
theorem conv_mono (c i : Nat) (g : Nat → Nat) (n : Nat) : conv (fun j => if j = i then c else 0) g n = if i ≤ n then mu c (g (n - i)) else 0 := by
  unfold conv
  by_cases h : i ≤ n
  · rw [if_pos h, xs_one i (n + 1) (by omega) (fun j _ hj => by show mu (if j = i then c else 0) _ = 0; rw [if_neg hj, zero_mu])]; show mu (if i = i then c else 0) _ = _; rw [if_pos rfl]
  · rw [if_neg h]
    exact xs_none _ (fun j hj => by show mu (if j = i then c else 0) _ = 0; rw [if_neg (by omega), zero_mu])
theorem divs_step {x Y : List Int} {top L k inv : Nat} {s : List Int × List Int} (hY : By Y) (hYl : Y.length = top + 1) (hinv : inv < 256) (hone : mu inv (co Y top) = 1) (h1 : By s.1) (h2 : By s.2) (hl1 : s.1.length = x.length) (hl2 : s.2.length = L) (hL : L + top = x.length) (hk : k < L)
    (hx : By x) (hnx : Neat x) (h : DivS x Y top L k s) (hfirst : k = 0 → s.1 = x) : DivS x Y top L (k + 1) (dstep Y top inv s (L - 1 - k)) := by
  obtain ⟨i, hi⟩ : ∃ i, L - 1 - k = i := ⟨_, rfl⟩
  have hLk : L - k = i + 1 := by omega
  have hLk1 : L - (k + 1) = i := by omega
  rw [hi]
  have lr := h1.lt (i + top)
  have lc := gm_lt lr hinv
  obtain ⟨c, hc⟩ : ∃ c, gm (co s.1 (i + top)) inv = c := ⟨_, rfl⟩
  have hcm : mu c (co Y top) = co s.1 (i + top) := by rw [← hc, ← mu_eq lr hinv, ← mu_assoc, hone, mu_one lr]
  have e1 : (dstep Y top inv s i).1 = mixO s.1 i (sc c (Y.take top)) top := by unfold dstep; rw [hc]
  have e2 : (dstep Y top inv s i).2 = s.2.set i (c : Int) := by unfold dstep; rw [hc]
  rw [hc] at lc
  have cq : ∀ j, co (dstep Y top inv s i).2 j = co s.2 j ^^^ (if j = i then c else 0) := fun j => by
    rw [e2]
    by_cases g : j < s.2.length
    · rw [co_set _ _ _ _ g]
      by_cases g2 : j = i
      · rw [if_pos g2, if_pos g2, h.low j (by omega), Nat.zero_xor]
      · rw [if_neg g2, if_neg g2, Nat.xor_zero]
    · rw [co_out (by simp; omega), co_out (l := s.2) (by omega), if_neg (by omega)]; rfl
  refine ⟨fun j hj => ?_, fun n => ?_, fun _ => ?_⟩
  · rw [cq, h.low j (by omega), if_neg (by omega)]; rfl
  · have ha := h.all n
    rw [hLk] at ha
    have ec : conv (co (dstep Y top inv s i).2) (co Y) n = conv (co s.2) (co Y) n ^^^ (if i ≤ n then mu c (co Y (n - i)) else 0) := by
      rw [conv_congr cq (fun _ => rfl), conv_left, conv_mono]
    rw [ha, ec, hLk1, e1, Nat.xor_assoc]
    congr 1
    by_cases g1 : n < i + top
    · rw [if_pos (by omega), if_pos g1]
      rw [mixO_co _ _ _ _ _ (by omega)]
      by_cases g2 : i ≤ n
      · rw [if_pos g2, if_pos ⟨g2, g1⟩, sc_co lc (hY.take _), co_take _ _ _ (by omega), Nat.xor_comm (co s.1 n), ← Nat.xor_assoc, Nat.xor_self, Nat.zero_xor]
      · rw [if_neg g2, if_neg (fun e => g2 e.1), Nat.zero_xor]
    · rw [if_neg g1, Nat.xor_zero]
      by_cases g2 : n = i + top
      · subst g2
        rw [if_pos (by omega), if_pos (by omega), show i + top - i = top by omega, hcm]
      · rw [if_neg (by omega), if_pos (by omega), co_out (l := Y) (by omega), mu_zero]
  · rw [cq]
    by_cases g : k = 0
    · have hi2 : L - 1 = i := by omega
      rw [hi2, if_pos rfl, h.low i (by omega), Nat.zero_xor, ← hc, hfirst g]
      have e : i + top = x.length - 1 := by omega
      rw [e]
      have hlast := hnx.last hx (by omega)
      have hn0 : inv ≠ 0 := fun e => by rw [e, zero_mu] at hone; simp at hone
      exact gm_ne (hx.lt _) hinv hlast hn0
    · rw [if_neg (by omega), Nat.xor_zero]; exact h.high (by omega)
theorem divs_zero (x Y : List Int) (top L : Nat) (h : x.length ≤ L + top) : DivS x Y top L 0 (x, List.replicate L 0) := by
  have z : ∀ j, co (List.replicate L 0) j = 0 := fun j => by
    unfold co; simp [List.getD_eq_getElem?_getD, List.getElem?_replicate]; split <;> simp
  refine ⟨fun j _ => z j, fun n => ?_, fun h => by omega⟩
  rw [conv_null z, Nat.zero_xor]
  split
  · rfl
  · exact co_out (by omega)
theorem divs_all {x Y : List Int} {top L inv : Nat} (hx : By x) (hnx : Neat x) (hY : By Y) (hYl : Y.length = top + 1) (hinv : inv < 256) (hone : mu inv (co Y top) = 1) (hL : 0 < L → L + top = x.length) (hL2 : x.length ≤ L + top) :
    ∀ k, k ≤ L → DivS x Y top L k (dfold Y top inv (x, List.replicate L 0) (down L k))
  | 0, _ => divs_zero x Y top L hL2
  | k + 1, hk => by
    have ih := divs_all hx hnx hY hYl hinv hone hL hL2 k (by omega)
    have bz : By (List.replicate L (0 : Int)) := fun z hz => by rw [(List.mem_replicate.1 hz).2]; omega
    obtain ⟨a, b, c, d⟩ := dfold_inv hY top hinv (s := (x, List.replicate L 0)) hx bz (down L k)
    rw [down_succ, dfold_snoc]
    exact divs_step hY hYl hinv hone a b c (by rw [d]; simp) (hL (by omega)) (by omega) hx hnx ih (fun h => by subst h; rfl)
/-- What a division comes to. -/
structure DivOK (x y q r : List Int) : Prop where
  qby : By q
  rby : By r
  qneat : Neat q
  rneat : Neat r
  rlen : r.length < dn y
  qlen : q.length ≤ x.length
  all : ∀ n, co x n = conv (co q) (co y) n ^^^ co r n
theorem div_ok {x y : List Int} (hx : By x) (hy : By y) {top : Nat} (ht : dn y = top + 1) {inv L : Nat} (hinv : inv < 256) (hone : mu inv (co (tr y) top) = 1) (hL : L = dn x - top) :
    DivOK x y (dfold (tr y) top inv (tr x, List.replicate L 0) (down L L)).2 (tr ((dfold (tr y) top inv (tr x, List.replicate L 0) (down L L)).1.take (min (dn x) top))) := by
  have bX := tr_by hx
  have bY := tr_by hy
  have lX := tr_length x
  have bz : By (List.replicate L (0 : Int)) := fun z hz => by rw [(List.mem_replicate.1 hz).2]; omega
  obtain ⟨a, b, c, d⟩ := dfold_inv bY top hinv (s := (tr x, List.replicate L 0)) bX bz (down L L)
  have hd := divs_all bX (tr_neat hx) bY (by rw [tr_length, ht]) hinv hone (L := L) (fun h => by rw [lX]; omega) (by rw [lX]; omega) L (Nat.le_refl _)
  generalize dfold (tr y) top inv (tr x, List.replicate L 0) (down L L) = s at *
  have d' : s.2.length = L := by rw [d]; simp
  have c' : s.1.length = dn x := by rw [c]; exact lX
  refine ⟨b, tr_by (a.take _), neat_of b (fun h => by rw [d'] at h ⊢; exact hd.high (by omega)), tr_neat (a.take _), ?_, ?_, fun n => ?_⟩
  · rw [tr_length]
    refine Nat.lt_of_le_of_lt (dn_le _) ?_
    rw [List.length_take, ht]
    have := Nat.min_le_right (dn x) top
    have := Nat.min_le_left (min (dn x) top) s.1.length
    omega
  · rw [d', hL]; have := dn_le x; omega
  · have h1 := hd.all n
    rw [co_tr] at h1
    rw [h1, conv_congr (f := co s.2) (fun _ => rfl) (co_tr y), co_tr]
    congr 1
    rw [Nat.sub_self, Nat.zero_add]
    by_cases g : n < min (dn x) top
    · rw [co_take _ _ _ g, if_pos (by have := Nat.min_le_right (dn x) top; omega)]
    · have e1 : co (s.1.take (min (dn x) top)) n = 0 := co_out (by rw [List.length_take]; have := Nat.min_le_left (min (dn x) top) s.1.length; omega)
      rw [e1]
      split
      · exact co_out (by rw [c']; omega)
      · rfl
end Go.Proofs.Ytbiaenkhhbgbcaa
