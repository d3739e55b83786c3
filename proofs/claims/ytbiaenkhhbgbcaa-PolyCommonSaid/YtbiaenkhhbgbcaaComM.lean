/-
  Own text: what divides two lists: Euclid's rule. Plain lists.
-/
import Derived.Test.YtbiaenkhhbgbcaaDivM
namespace Go.Proofs.Ytbiaenkhhbgbcaa
open Go.RowKit

/-- One polynomial is another one, times something. -/
def Mult (f g : Nat → Nat) : Prop := ∃ (u : Nat → Nat), (∀ i, u i < 256) ∧ (∃ N, Sup u N) ∧ ∀ i, f i = conv u g i
theorem conv_id {f : Nat → Nat} (hf : ∀ i, f i < 256) (i : Nat) : conv (fun j => if j = 0 then 1 else 0) f i = f i := by
  rw [conv_mono, if_pos (Nat.zero_le _), one_mu (hf _)]; rfl
theorem conv_bound (u g : Nat → Nat) (i : Nat) : conv u g i < 256 := conv_lt u g i
theorem Mult.refl {f : Nat → Nat} (hf : ∀ i, f i < 256) : Mult f f :=
  ⟨fun j => if j = 0 then 1 else 0, fun i => by show (if i = 0 then 1 else 0) < 256; split <;> omega, ⟨1, fun i hi => if_neg (by omega)⟩, fun i => (conv_id hf i).symm⟩
theorem Mult.zero {f g : Nat → Nat} (hf : ∀ i, f i = 0) : Mult f g :=
  ⟨fun _ => 0, fun _ => by show 0 < 256; omega, ⟨0, fun _ _ => rfl⟩, fun i => by rw [hf]; exact (conv_null (fun _ => rfl) i).symm⟩
theorem Mult.add {f f' g h : Nat → Nat} (a : Mult f g) (b : Mult f' g) (e : ∀ i, h i = f i ^^^ f' i) : Mult h g := by
  obtain ⟨u, hu, ⟨N, hN⟩, h1⟩ := a
  obtain ⟨v, hv, ⟨M, hM⟩, h2⟩ := b
  refine ⟨fun i => u i ^^^ v i, fun i => xor_lt (hu i) (hv i), ⟨max N M, fun i hi => ?_⟩, fun i => by rw [e, h1, h2, conv_left]⟩
  have := Nat.le_max_left N M
  have := Nat.le_max_right N M
  show u i ^^^ v i = 0
  rw [hN i (by omega), hM i (by omega)]; rfl
theorem conv_supp {f g : Nat → Nat} {N M : Nat} (hf : Sup f N) (hg : Sup g M) : Sup (conv f g) (N + M) := fun i hi => by
  unfold conv
  refine xs_none _ (fun j hj => ?_)
  by_cases e : N ≤ j
  · rw [hf j e, zero_mu]
  · rw [hg (i - j) (by omega), mu_zero]
theorem Mult.times {f g h : Nat → Nat} (v : Nat → Nat) (hv : ∃ M, Sup v M) (a : Mult f g) (e : ∀ i, h i = conv v f i) : Mult h g := by
  obtain ⟨u, hu, ⟨N, hN⟩, h1⟩ := a
  obtain ⟨M, hM⟩ := hv
  refine ⟨conv v u, conv_lt v u, ⟨M + N, conv_supp hM hN⟩, fun i => ?_⟩
  rw [e, conv_assoc]
  exact conv_congr (fun _ => rfl) h1 i
theorem Mult.trans {f g h : Nat → Nat} (a : Mult f g) (b : Mult g h) : Mult f h := by
  obtain ⟨u, _, hu, h1⟩ := a
  exact b.times u hu h1
theorem Mult.congr {f f' g g' : Nat → Nat} (a : Mult f g) (hf : ∀ i, f i = f' i) (hg : ∀ i, g i = g' i) : Mult f' g' := by
  obtain rfl : f = f' := funext hf
  obtain rfl : g = g' := funext hg
  exact a
/-- A length that fits, and a last coefficient that isn't nothing. -/
theorem sup_top {u : Nat → Nat} : ∀ N, Sup u N → (∀ i, u i = 0) ∨ ∃ k, Sup u (k + 1) ∧ u k ≠ 0
  | 0, h => .inl (fun i => h i (Nat.zero_le _))
  | N + 1, h => by
    by_cases e : u N = 0
    · exact sup_top N (fun i hi => by
        by_cases g : i = N
        · rw [g]; exact e
        · exact h i (by omega))
    · exact .inr ⟨N, h, e⟩
/-- What is a multiple, and shorter, is nothing. -/
theorem mult_short {f g : Nat → Nat} {k : Nat} (h : Mult f g) (hg : Sup g (k + 1)) (hk : g k ≠ 0) (hgl : ∀ i, g i < 256) (hf : Sup f k) (i : Nat) : f i = 0 := by
  obtain ⟨u, hu, ⟨N, hN⟩, h1⟩ := h
  rcases sup_top N hN with h0 | ⟨n, hn, hne⟩
  · rw [h1]; exact conv_null h0 i
  · have ht := conv_top hn hg
    rw [← h1, hf (n + k) (by omega)] at ht
    exact absurd ht.symm (mu_ne (hu n) (hgl k) hne hk)
/-- A division leaves nothing just of what is a multiple. -/
theorem rest_none {x y q r : List Int} (hy : By y) (h : DivOK x y q r) (hy0 : dn y ≠ 0) (hm : Mult (co x) (co y)) : r = [] := by
  have h1 : Mult (co r) (co y) := hm.add (f' := conv (co q) (co y)) ⟨co q, h.qby.lt, ⟨_, co_sup q⟩, fun _ => rfl⟩ (fun i => by
    rw [h.all i, Nat.xor_comm, ← Nat.xor_assoc, Nat.xor_self, Nat.zero_xor])
  have hz : ∀ i, co r i = 0 := mult_short (k := dn y - 1) h1 (by rw [show dn y - 1 + 1 = dn y by omega]; exact co_dn y) (co_last hy hy0) hy.lt (fun i hi => co_out (by have := h.rlen; omega))
  have := Neat.ext h.rneat h.rby By.nil (fun i => by rw [hz, co_nil])
  rw [this]; rfl
theorem div_mult {x y q r : List Int} (h : DivOK x y q r) (hr : r = []) : Mult (co x) (co y) :=
  ⟨co q, h.qby.lt, ⟨_, co_sup q⟩, fun i => by rw [h.all i, hr, co_nil, Nat.xor_zero]⟩
/-- Between two rounds of Euclid's rule: what goes into both goes into the first two, and what both are made of. -/
structure Eu (x y a b : List Int) : Prop where
  aby : By a
  bby : By b
  aneat : Neat a
  bneat : Neat b
  made1 : ∃ u v : Nat → Nat, (∃ N, Sup u N) ∧ (∃ N, Sup v N) ∧ (∀ i, u i < 256) ∧ (∀ i, v i < 256) ∧ ∀ i, co x i = conv u (co a) i ^^^ conv v (co b) i
  made2 : ∃ u v : Nat → Nat, (∃ N, Sup u N) ∧ (∃ N, Sup v N) ∧ (∀ i, u i < 256) ∧ (∀ i, v i < 256) ∧ ∀ i, co y i = conv u (co a) i ^^^ conv v (co b) i
  goes : ∀ c : Nat → Nat, Mult (co x) c → Mult (co y) c → Mult (co a) c ∧ Mult (co b) c
theorem eu_zero {x y : List Int} (hx : By x) (hy : By y) : Eu x y (tr x) (tr y) :=
  have one : ∀ i, (fun j => if j = 0 then 1 else 0) i < 256 := fun i => by show (if i = 0 then 1 else 0) < 256; split <;> omega
  have s1 : Sup (fun j => if j = 0 then 1 else 0) 1 := fun i hi => if_neg (by omega)
  have nul : ∀ i, (fun _ : Nat => 0) i < 256 := fun _ => by show 0 < 256; omega
  have s0 : Sup (fun _ : Nat => 0) 0 := fun _ _ => rfl
  ⟨tr_by hx, tr_by hy, tr_neat hx, tr_neat hy,
    ⟨_, _, ⟨1, s1⟩, ⟨0, s0⟩, one, nul, fun i => by rw [conv_id (tr_by hx).lt, conv_null (fun _ => rfl), co_tr, Nat.xor_zero]⟩,
    ⟨_, _, ⟨0, s0⟩, ⟨1, s1⟩, nul, one, fun i => by rw [conv_id (tr_by hy).lt, conv_null (fun _ => rfl), co_tr, Nat.zero_xor]⟩,
    fun c h1 h2 => ⟨h1.congr (fun i => (co_tr x i).symm) (fun _ => rfl), h2.congr (fun i => (co_tr y i).symm) (fun _ => rfl)⟩⟩
theorem made_step {f a b q r : Nat → Nat} (hab : ∀ i, a i = conv q b i ^^^ r i) (hq : ∀ i, q i < 256) (sq : ∃ N, Sup q N)
    (h : ∃ u v : Nat → Nat, (∃ N, Sup u N) ∧ (∃ N, Sup v N) ∧ (∀ i, u i < 256) ∧ (∀ i, v i < 256) ∧ ∀ i, f i = conv u a i ^^^ conv v b i) :
    ∃ u v : Nat → Nat, (∃ N, Sup u N) ∧ (∃ N, Sup v N) ∧ (∀ i, u i < 256) ∧ (∀ i, v i < 256) ∧ ∀ i, f i = conv u b i ^^^ conv v r i := by
  obtain ⟨u, v, ⟨N, hN⟩, ⟨M, hM⟩, hu, hv, e⟩ := h
  obtain ⟨K, hK⟩ := sq
  refine ⟨fun i => conv u q i ^^^ v i, u, ⟨max (N + K) M, fun i hi => ?_⟩, ⟨N, hN⟩, fun i => xor_lt (conv_lt _ _ _) (hv i), hu, fun i => ?_⟩
  · have := Nat.le_max_left (N + K) M
    have := Nat.le_max_right (N + K) M
    show conv u q i ^^^ v i = 0
    rw [conv_supp hN hK i (by omega), hM i (by omega)]; rfl
  · rw [e, conv_congr (f := u) (fun _ => rfl) hab, conv_right, conv_left, conv_assoc]
    simp only [Nat.xor_assoc]
    congr 1
    exact Nat.xor_comm _ _
theorem Eu.step {x y a b q r : List Int} (h : Eu x y a b) (d : DivOK a b q r) : Eu x y b r :=
  ⟨h.bby, d.rby, h.bneat, d.rneat, made_step d.all d.qby.lt ⟨_, co_sup q⟩ h.made1, made_step d.all d.qby.lt ⟨_, co_sup q⟩ h.made2, fun c h1 h2 => by
    obtain ⟨ha, hb⟩ := h.goes c h1 h2
    exact ⟨hb, ha.add (hb.times (co q) ⟨_, co_sup q⟩ (fun i => rfl)) (fun i => by
      rw [d.all i, Nat.xor_comm, ← Nat.xor_assoc, Nat.xor_self, Nat.zero_xor])⟩⟩
theorem made_end {f a b : Nat → Nat} (hb : ∀ i, b i = 0) (h : ∃ u v : Nat → Nat, (∃ N, Sup u N) ∧ (∃ N, Sup v N) ∧ (∀ i, u i < 256) ∧ (∀ i, v i < 256) ∧ ∀ i, f i = conv u a i ^^^ conv v b i) : Mult f a := by
  obtain ⟨u, v, hN, _, hu, _, e⟩ := h
  exact ⟨u, hu, hN, fun i => by rw [e, conv_comm v b, conv_null hb, Nat.xor_zero]⟩
/-- What Common comes to. -/
structure ComOK (x y d : List Int) : Prop where
  dby : By d
  neat : Neat d
  one : d.length ≠ 0 → d.getD (d.length - 1) 0 = 1
  null : d.length = 0 → (∀ i, co x i = 0) ∧ ∀ i, co y i = 0
  some : d.length ≠ 0 → ¬ ((∀ i, co x i = 0) ∧ ∀ i, co y i = 0)
  first : Mult (co x) (co d)
  second : Mult (co y) (co d)
  goes : ∀ c : Nat → Nat, Mult (co x) c → Mult (co y) c → Mult (co d) c
theorem eu_null {x y : List Int} (h : Eu x y [] []) : ComOK x y [] := by
  have h1 := made_end (fun i => co_nil i) h.made1
  have h2 := made_end (fun i => co_nil i) h.made2
  have z : ∀ {f : Nat → Nat}, Mult f (co []) → ∀ i, f i = 0 := fun h i => by
    obtain ⟨u, _, _, e⟩ := h
    rw [e, conv_comm, conv_null (fun i => co_nil i)]
  exact ⟨By.nil, neat_nil, fun h => absurd rfl h, fun _ => ⟨z h1, z h2⟩, fun h => absurd rfl h, h1, h2, fun c _ _ => Mult.zero (fun i => co_nil i)⟩
theorem eu_end {x y a : List Int} (h : Eu x y a []) (h0 : a.length ≠ 0) : ComOK x y (sc (gi (co a (a.length - 1))) a) := by
  have hl := h.aneat.last h.aby h0
  have hb := h.aby.lt (a.length - 1)
  obtain ⟨t, ht⟩ : ∃ t, co a (a.length - 1) = t := ⟨_, rfl⟩
  rw [ht] at hl hb ⊢
  have lg := gi_lt t
  have bs := sc_by lg h.aby
  have e1 : mu (gi t) t = 1 := by rw [mu_comm]; exact mu_gi hb hl
  have toD : Mult (co a) (co (sc (gi t) a)) := ⟨fun j => if j = 0 then t else 0, fun i => by show (if i = 0 then t else 0) < 256; split <;> omega, ⟨1, fun i hi => if_neg (by omega)⟩, fun i => by
    rw [conv_mono, if_pos (Nat.zero_le _), sc_co lg h.aby, mu_assoc, mu_comm t, e1, one_mu (h.aby.lt _)]; rfl⟩
  have ofD : ∀ c, Mult (co a) c → Mult (co (sc (gi t) a)) c := fun c hc => hc.times (fun j => if j = 0 then gi t else 0) ⟨1, fun i hi => if_neg (by omega)⟩ (fun i => by
    rw [conv_mono, if_pos (Nat.zero_le _), sc_co lg h.aby]; rfl)
  have last : co (sc (gi t) a) ((sc (gi t) a).length - 1) = 1 := by rw [sc_length, sc_co lg h.aby, ht, e1]
  refine ⟨bs, neat_of bs (fun _ => by rw [last]; omega), fun _ => by rw [bs.get, last]; rfl, fun e => absurd (by rw [sc_length] at e; exact e) h0, fun _ hz => ?_, ?_, ?_, fun c h1 h2 => ofD c (h.goes c h1 h2).1⟩
  · obtain ⟨u, _, _, e⟩ := (h.goes (fun _ => 0) (Mult.zero hz.1) (Mult.zero hz.2)).1
    refine hl ?_
    rw [← ht, e, conv_comm, conv_null (fun _ => rfl)]
  · exact (made_end (fun i => co_nil i) h.made1).trans toD
  · exact (made_end (fun i => co_nil i) h.made2).trans toD
end Go.Proofs.Ytbiaenkhhbgbcaa
