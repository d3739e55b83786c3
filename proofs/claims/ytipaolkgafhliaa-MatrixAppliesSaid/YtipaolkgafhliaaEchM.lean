/-
  Own text: rows are added to one another until each of the first ones has a place where those behind it have nothing: plain.
-/
import Derived.Test.YtipaolkgafhliaaLinM
namespace Go.Proofs.Ytipaolkgafhliaa
open Go.RowKit

/-- Of two rows. -/
theorem InSpan.two {V : Nat → Nat → Nat} {m C i j : Nat} (a b : Nat) (hi : i < m) (hj : j < m) (v : Nat → Nat) (h : ∀ k, k < C → v k = mu a (V i k) ^^^ mu b (V j k)) : InSpan V m C v := by
  refine ⟨fun l => (if l = i then a else 0) ^^^ (if l = j then b else 0), fun k hk => ?_⟩
  have one : ∀ (x p : Nat), p < m → dots (fun l => if l = p then x else 0) (fun l => V l k) m = mu x (V p k) := fun x p hp => by
    show xs _ m = _
    rw [xs_one p m hp (fun l _ hl => by show mu (if l = p then x else 0) _ = 0; rw [if_neg hl, zero_mu])]
    show mu (if p = p then x else 0) _ = _
    rw [if_pos rfl]
  rw [dots_xor, one a i hi, one b j hj]
  exact h k hk
/-- Each of the rows is made of the other ones, and back. -/
def Mates (M N : Nat → Nat → Nat) (R C : Nat) : Prop := (∀ i, i < R → InSpan M R C (N i)) ∧ ∀ i, i < R → InSpan N R C (M i)
theorem Mates.refl {M : Nat → Nat → Nat} (hM : ∀ i k, M i k < 256) (R C : Nat) : Mates M M R C := ⟨fun _ hi => InSpan.own M hM hi, fun _ hi => InSpan.own M hM hi⟩
theorem Mates.trans {M N O : Nat → Nat → Nat} {R C : Nat} (h : Mates M N R C) (k : Mates N O R C) : Mates M O R C :=
  ⟨fun i hi => (k.1 i hi).trans h.1, fun i hi => (h.2 i hi).trans k.2⟩
theorem InSpan.less {V : Nat → Nat → Nat} {m C C' : Nat} {v : Nat → Nat} (h : InSpan V m C v) (hC : C' ≤ C) : InSpan V m C' v := by
  obtain ⟨c, hc⟩ := h
  exact ⟨c, fun k hk => hc k (by omega)⟩
theorem Mates.congr {M N N' : Nat → Nat → Nat} {R C : Nat} (h : Mates M N R C) (e : ∀ i c, i < R → c < C → N i c = N' i c) : Mates M N' R C :=
  ⟨fun i hi => by
    obtain ⟨c, hc⟩ := h.1 i hi
    exact ⟨c, fun k hk => by rw [← e i k hi hk]; exact hc k hk⟩,
   fun i hi => by
    obtain ⟨c, hc⟩ := h.2 i hi
    exact ⟨c, fun k hk => by rw [hc k hk]; exact dots_congr _ (fun _ _ => rfl) (fun j hj => e j k hj hk)⟩⟩
/-- Each row by something, and one of them by something. -/
theorem Mates.rows {N N' : Nat → Nat → Nat} {R C at_ : Nat} (hN : ∀ i c, N i c < 256) (h0 : at_ < R) (a b : Nat → Nat) (ha : ∀ i, i < R → a i < 256 ∧ a i ≠ 0) (hb0 : b at_ = 0)
    (h : ∀ i c, i < R → c < C → N' i c = mu (a i) (N i c) ^^^ mu (b i) (N at_ c)) : Mates N N' R C := by
  refine ⟨fun i hi => InSpan.two (a i) (b i) hi h0 _ (fun c hc => h i c hi hc), fun i hi => ?_⟩
  have inv : ∀ j, j < R → mu (gi (a j)) (a j) = 1 := fun j hj => by rw [mu_comm]; exact mu_gi (ha j hj).1 (ha j hj).2
  have hat : ∀ c, c < C → N at_ c = mu (gi (a at_)) (N' at_ c) := fun c hc => by
    rw [h at_ c h0 hc, hb0, zero_mu, Nat.xor_zero, mu_assoc, inv at_ h0, one_mu (hN _ _)]
  by_cases e : i = at_
  · subst e
    refine InSpan.two (gi (a i)) 0 hi hi _ (fun c hc => ?_)
    rw [zero_mu, Nat.xor_zero]; exact hat c hc
  · refine InSpan.two (gi (a i)) (mu (gi (a i)) (mu (b i) (gi (a at_)))) hi h0 _ (fun c hc => ?_)
    rw [← mu_assoc (gi (a i)), ← mu_assoc (b i), ← hat c hc, h i c hi hc, mu_right, mu_assoc, inv i hi, one_mu (hN _ _), Nat.xor_assoc, Nat.xor_self, Nat.xor_zero]
/-- Two rows change places. -/
def sw (i j k : Nat) : Nat := if k = i then j else if k = j then i else k
theorem sw_lt {i j k R : Nat} (hi : i < R) (hj : j < R) (hk : k < R) : sw i j k < R := by
  unfold sw
  split
  · exact hj
  · split <;> assumption
theorem sw_sw (i j k : Nat) : sw i j (sw i j k) = k := by unfold sw; repeat' split <;> try omega
theorem Mates.swap {N : Nat → Nat → Nat} {R C i j : Nat} (hN : ∀ i c, N i c < 256) (hi : i < R) (hj : j < R) : Mates N (fun k => N (sw i j k)) R C := by
  refine ⟨fun k hk => InSpan.own N hN (sw_lt hi hj hk), fun k hk => ?_⟩
  have := InSpan.own (fun k => N (sw i j k)) (fun _ _ => hN _ _) (C := C) (sw_lt hi hj hk)
  simp only [sw_sw] at this
  exact this
/-- How far it has come: k columns, d rows. -/
structure Ech (M N : Nat → Nat → Nat) (R C k d : Nat) (p : Nat → Nat) : Prop where
  mates : Mates M N R C
  dR : d ≤ R
  piv : ∀ i, i < d → p i < k ∧ N i (p i) ≠ 0
  low : ∀ i j, i < d → i < j → j < R → N j (p i) = 0
  rest : ∀ i c, d ≤ i → i < R → c < k → N i c = 0
theorem Ech.start {M : Nat → Nat → Nat} (hM : ∀ i k, M i k < 256) (R C : Nat) (p : Nat → Nat) : Ech M M R C 0 0 p :=
  ⟨Mates.refl hM R C, Nat.zero_le _, fun _ h => by omega, fun _ _ h => by omega, fun _ _ _ _ h => by omega⟩
theorem Ech.skip {M N : Nat → Nat → Nat} {R C k d : Nat} {p : Nat → Nat} (h : Ech M N R C k d p) (hz : ∀ i, d ≤ i → i < R → N i k = 0) : Ech M N R C (k + 1) d p :=
  ⟨h.mates, h.dR, fun i hi => ⟨by have := (h.piv i hi).1; omega, (h.piv i hi).2⟩, h.low, fun i c h1 h2 h3 => by
    by_cases e : c = k
    · rw [e]; exact hz i h1 h2
    · exact h.rest i c h1 h2 (by omega)⟩
theorem Ech.swap {M N : Nat → Nat → Nat} {R C k d j : Nat} {p : Nat → Nat} (h : Ech M N R C k d p) (hN : ∀ i c, N i c < 256) (h1 : d ≤ j) (h2 : j < R) : Ech M (fun i => N (sw d j i)) R C k d p := by
  have far : ∀ i, i < d → sw d j i = i := fun i hi => by unfold sw; rw [if_neg (by omega), if_neg (by omega)]
  have near : ∀ i, d ≤ i → i < R → d ≤ sw d j i ∧ sw d j i < R := fun i hi hr => by
    refine ⟨?_, sw_lt (by omega) h2 hr⟩
    unfold sw
    split
    · exact h1
    · split <;> omega
  refine ⟨h.mates.trans (Mates.swap hN (by omega) h2), h.dR, fun i hi => ?_, fun i l hi hl hr => ?_, fun i c hi hr hc => ?_⟩
  · show p i < k ∧ N (sw d j i) (p i) ≠ 0
    rw [far i hi]; exact h.piv i hi
  · show N (sw d j l) (p i) = 0
    by_cases g : l < d
    · rw [far l g]; exact h.low i l hi hl hr
    · have := near l (by omega) hr
      exact h.low i _ hi (by omega) this.2
  · have := near i hi hr
    exact h.rest _ c this.1 this.2 hc
theorem Ech.step {M N N' : Nat → Nat → Nat} {R C k d : Nat} {p : Nat → Nat} (h : Ech M N R C k d p) (hN : ∀ i c, N i c < 256) (hd : d < R) (hk : k < C) (a b : Nat → Nat) (ha : ∀ i, i < R → a i < 256 ∧ a i ≠ 0) (hb0 : b d = 0)
    (hr : ∀ i c, i < R → c < C → N' i c = mu (a i) (N i c) ^^^ mu (b i) (N d c)) (hp : N d k ≠ 0) (hz : ∀ j, d < j → j < R → N' j k = 0) : Ech M N' R C (k + 1) (d + 1) (fun i => if i = d then k else p i) := by
  refine ⟨h.mates.trans (Mates.rows hN hd a b ha hb0 hr), hd, fun i hi => ?_, fun i j hi hj hjr => ?_, fun i c hi hir hc => ?_⟩
  · show (if i = d then k else p i) < k + 1 ∧ N' i (if i = d then k else p i) ≠ 0
    by_cases e : i = d
    · subst e
      rw [if_pos rfl]
      refine ⟨by omega, ?_⟩
      rw [hr i k hd hk, hb0, zero_mu, Nat.xor_zero]
      exact mu_ne (ha i hd).1 (hN _ _) (ha i hd).2 hp
    · rw [if_neg e]
      have hi' : i < d := by omega
      have := h.piv i hi'
      refine ⟨by omega, ?_⟩
      rw [hr i _ (by omega) (by omega), h.low i d hi' hi' hd, mu_zero, Nat.xor_zero]
      exact mu_ne (ha i (by omega)).1 (hN _ _) (ha i (by omega)).2 this.2
  · show N' j (if i = d then k else p i) = 0
    by_cases e : i = d
    · rw [if_pos e]; exact hz j (by omega) hjr
    · rw [if_neg e]
      have hi' : i < d := by omega
      have := h.piv i hi'
      rw [hr j _ hjr (by omega), h.low i d hi' hi' hd, h.low i j hi' hj hjr, mu_zero, mu_zero, Nat.xor_zero]
  · by_cases e : c = k
    · rw [e]; exact hz i (by omega) hir
    · rw [hr i c hir (by omega), h.rest i c (by omega) hir (by omega), h.rest d c (Nat.le_refl _) hd (by omega), mu_zero, mu_zero, Nat.xor_zero]
/-- Then the number of these rows is the rank. -/
theorem Ech.rank {M N : Nat → Nat → Nat} {R C k d : Nat} {p : Nat → Nat} (h : Ech M N R C k d p) (hN : ∀ i c, N i c < 256) (hk : k ≤ C) : RankIs M R k d := by
  refine ⟨N, indep_steps hN p h.piv (fun i j hij hj => h.low i j (by omega) hij (by have := h.dR; omega)), fun i hi => (h.mates.1 i (by have := h.dR; omega)).less hk, fun i hi => ?_⟩
  obtain ⟨c, hc⟩ := h.mates.2 i hi
  refine ⟨c, fun l hl => ?_⟩
  rw [hc l (by omega)]
  have key : ∀ m, d + m ≤ R → dots c (fun i => N i l) (d + m) = dots c (fun i => N i l) d := by
    intro m
    induction m with
    | zero => intro _; rfl
    | succ m ih =>
      intro hm
      rw [← ih (by omega)]
      show dots c (fun i => N i l) (d + m) ^^^ mu (c (d + m)) (N (d + m) l) = _
      rw [h.rest (d + m) l (by omega) (by omega) hl, mu_zero, Nat.xor_zero]
  have := key (R - d) (by have := h.dR; omega)
  rwa [show d + (R - d) = R by have := h.dR; omega] at this
/-- The code's way: the places go up, and each is 1, and alone in its column. -/
structure Red (M N : Nat → Nat → Nat) (R C k d : Nat) (p : Nat → Nat) : Prop where
  ech : Ech M N R C k d p
  up : ∀ i, i < d → i ≤ p i ∧ p i + d ≤ k + i
  one : ∀ i, i < d → N i (p i) = 1
  alone : ∀ i j, i < d → j < R → j ≠ i → N j (p i) = 0
  dk : d ≤ k
theorem Red.start {M : Nat → Nat → Nat} (hM : ∀ i k, M i k < 256) (R C : Nat) (p : Nat → Nat) : Red M M R C 0 0 p :=
  ⟨Ech.start hM R C p, fun _ h => by omega, fun _ h => by omega, fun _ _ h => by omega, Nat.le_refl _⟩
theorem Red.skip {M N : Nat → Nat → Nat} {R C k d : Nat} {p : Nat → Nat} (h : Red M N R C k d p) (hz : ∀ i, d ≤ i → i < R → N i k = 0) : Red M N R C (k + 1) d p :=
  ⟨h.ech.skip hz, fun i hi => by have := h.up i hi; omega, h.one, h.alone, by have := h.dk; omega⟩
/-- What settling a row and a column does. -/
def settled (N : Nat → Nat → Nat) (d k : Nat) (i c : Nat) : Nat := if i = d then mu (gi (N d k)) (N d c) else N i c ^^^ mu (N i k) (mu (gi (N d k)) (N d c))
theorem settled_lt {N : Nat → Nat → Nat} (hN : ∀ i c, N i c < 256) (d k i c : Nat) : settled N d k i c < 256 := by
  unfold settled; split
  · exact mu_lt _ _
  · exact xor_lt (hN _ _) (mu_lt _ _)
theorem Red.step {M N N' : Nat → Nat → Nat} {R C k d j : Nat} {p : Nat → Nat} (h : Red M N R C k d p) (hN : ∀ i c, N i c < 256) (h1 : d ≤ j) (h2 : j < R) (hk : k < C) (hp : N j k ≠ 0)
    (hr : ∀ i c, i < R → c < C → N' i c = settled (fun i => N (sw d j i)) d k i c) : Red M N' R C (k + 1) (d + 1) (fun i => if i = d then k else p i) := by
  have hs := h.ech.swap hN h1 h2
  have hsd : sw d j d = j := by unfold sw; rw [if_pos rfl]
  have far : ∀ i, i < d → sw d j i = i := fun i hi => by unfold sw; rw [if_neg (by omega), if_neg (by omega)]
  obtain ⟨P, hP⟩ : ∃ P : Nat → Nat → Nat, P = fun i => N (sw d j i) := ⟨_, rfl⟩
  have hPl : ∀ i c, P i c < 256 := fun i c => by rw [hP]; exact hN _ _
  have hPp : P d k ≠ 0 := by rw [hP]; show N (sw d j d) k ≠ 0; rw [hsd]; exact hp
  rw [← hP] at hs hr
  have inv : mu (gi (P d k)) (P d k) = 1 := by rw [mu_comm]; exact mu_gi (hPl _ _) hPp
  have hcol : ∀ i, i < R → N' i k = if i = d then 1 else 0 := fun i hi => by
    rw [hr i k hi hk]
    unfold settled
    by_cases e : i = d
    · rw [if_pos e, if_pos e, inv]
    · rw [if_neg e, if_neg e, inv, mu_one (hPl _ _), Nat.xor_self]
  have hp0 : ∀ i l, i < d → l < R → l ≠ i → P l (p i) = 0 := fun i l hi hl hne => by
    rw [hP]
    show N (sw d j l) (p i) = 0
    refine h.alone i _ hi (sw_lt (by omega) h2 hl) ?_
    unfold sw
    split
    · omega
    · split <;> omega
  refine ⟨hs.step hPl (by omega) hk (fun i => if i = d then gi (P d k) else 1) (fun i => if i = d then 0 else mu (P i k) (gi (P d k))) (fun i _ => ?_) (if_pos rfl) (fun i c hi hc => ?_) hPp (fun l hl hlr => ?_), fun i hi => ?_, fun i hi => ?_, fun i l hi hl hne => ?_, by have := h.dk; omega⟩
  · show (if i = d then gi (P d k) else 1) < 256 ∧ (if i = d then gi (P d k) else 1) ≠ 0
    split
    · exact ⟨gi_lt _, gi_ne _⟩
    · omega
  · rw [hr i c hi hc]
    unfold settled
    show _ = mu (if i = d then gi (P d k) else 1) (P i c) ^^^ mu (if i = d then 0 else mu (P i k) (gi (P d k))) (P d c)
    by_cases e : i = d
    · rw [if_pos e, if_pos e, if_pos e, zero_mu, Nat.xor_zero, e]
    · rw [if_neg e, if_neg e, if_neg e, one_mu (hPl _ _), mu_assoc]
  · rw [hcol l hlr, if_neg (by omega)]
  · show i ≤ (if i = d then k else p i) ∧ (if i = d then k else p i) + (d + 1) ≤ k + 1 + i
    have := h.dk
    by_cases e : i = d
    · rw [if_pos e]; omega
    · rw [if_neg e]; have := h.up i (by omega); omega
  · show N' i (if i = d then k else p i) = 1
    by_cases e : i = d
    · rw [if_pos e, hcol i (by omega), if_pos e]
    · rw [if_neg e]
      have hi' : i < d := by omega
      have hpk := (h.ech.piv i hi').1
      rw [hr i _ (by omega) (by omega)]
      unfold settled
      rw [if_neg e, hp0 i d hi' (by omega) (by omega), mu_zero, mu_zero, Nat.xor_zero, hP]
      show N (sw d j i) (p i) = 1
      rw [far i hi']
      exact h.one i hi'
  · show N' l (if i = d then k else p i) = 0
    by_cases e : i = d
    · rw [if_pos e, hcol l hl, if_neg (by omega)]
    · rw [if_neg e]
      have hi' : i < d := by omega
      have hpk := (h.ech.piv i hi').1
      rw [hr l _ hl (by omega)]
      unfold settled
      rw [hp0 i l hi' hl hne, hp0 i d hi' (by omega) (by omega), mu_zero, mu_zero]
      split <;> simp
/-- Full: the matrix, beside which the identity stood, is inverted. -/
theorem Red.inverse {A N : Nat → Nat → Nat} {n : Nat} {p : Nat → Nat} (h : Red (fun i c => if c < n then A i c else if c = n + i then 1 else 0) N n (2 * n) n n p) (hN : ∀ i c, N i c < 256) :
    ∀ i k, i < n → k < n → dots (fun j => N i (n + j)) (fun j => A j k) n = if i = k then 1 else 0 := by
  intro i k hi hk
  have hp : ∀ i, i < n → p i = i := fun i hi => by have := h.up i hi; omega
  have hik : N i k = if i = k then 1 else 0 := by
    by_cases e : i = k
    · rw [if_pos e, ← e]; have := h.one i hi; rwa [hp i hi] at this
    · rw [if_neg e]; have := h.alone k i hk hi e; rwa [hp k hk] at this
  obtain ⟨c, hc⟩ := h.ech.mates.1 i hi
  rw [← hik, hc k (by omega)]
  have e1 : ∀ j, j < n → N i (n + j) = c j % 256 := fun j hj => by
    rw [hc (n + j) (by omega)]
    show xs _ n = _
    rw [xs_one j n hj (fun l hl hne => by show mu (c l) (if n + j < n then A l (n + j) else if n + j = n + l then 1 else 0) = 0; rw [if_neg (by omega), if_neg (by omega), mu_zero])]
    show mu (c j) (if n + j < n then A j (n + j) else if n + j = n + j then 1 else 0) = _
    rw [if_neg (by omega), if_pos rfl]
    have := mu_one (a := c j % 256) (m256 _)
    unfold mu at *
    rwa [Nat.mod_mod] at this
  unfold dots
  refine xs_congr n (fun j hj => ?_)
  show mu (N i (n + j)) (A j k) = mu (c j) (if k < n then A j k else _)
  rw [if_pos hk, e1 j hj]
  unfold mu
  rw [Nat.mod_mod]
end Go.Proofs.Ytipaolkgafhliaa
