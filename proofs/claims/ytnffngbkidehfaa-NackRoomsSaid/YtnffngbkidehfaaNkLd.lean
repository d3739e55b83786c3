/-
  Own text: what a tick makes of a group that is waited for, in plain numbers.
-/
import Derived.Test.YtnffngbkidehfaaNkLb
namespace Go.Proofs.Ytnffngbkidehfaa.Nk

theorem apart_key {l : List It} (h : l.Pairwise (fun a b => a.key ≠ b.key)) {u v : It} (hu : u ∈ l) (hv : v ∈ l) (e : u.key = v.key) : u = v := by
  obtain ⟨iu, hiu, eu⟩ := List.getElem_of_mem hu
  obtain ⟨iv, hiv, ev⟩ := List.getElem_of_mem hv
  have hp := List.pairwise_iff_getElem.1 h
  rcases Nat.lt_trichotomy iu iv with h | h | h
  · exact absurd (by rw [eu, ev]; exact e) (hp iu iv hiu hiv h)
  · subst h; rw [← eu, ← ev]
  · exact absurd (by rw [eu, ev]; exact e.symm) (hp iv iu hiv hiu h)
/-- Those that come are those that are waited for. -/
theorem Nl.came_has {N : Nl} {j : Nat} (hf : N.fit j) (hj : j ≤ 1000000) {z : Int} (h : z ∈ N.q.came 1) : N.has z = true := by
  rw [(Nl.ticked hf hj).2] at h
  obtain ⟨x, hx, e⟩ := List.mem_map.1 h
  exact (hasK_iff _ _).2 ⟨x, (List.mem_filter.1 hx).1, e⟩
theorem Nl.came_not {N : Nl} {j : Nat} (hf : N.fit j) (hj : j ≤ 1000000) {z : Int} (h : N.has z = false) : z ∉ N.q.came 1 := fun hz => by
  rw [Nl.came_has hf hj hz] at h
  cases h
/-- A tick leaves who is waited for. -/
theorem Nl.tick_has {N : Nl} {j : Nat} (t : Int) (hf : N.fit j) (hj : j ≤ 1000000) (z : Int) : (N.tick t).has z = N.has z := by
  obtain ⟨h1, h2⟩ := hd_in t
  obtain ⟨a, _⟩ := Mid.run h1 h2 _ _ _ (Nl.mid hf hj)
  have hk := a.keys z
  rw [List.nil_append] at hk
  have e : (N.tick t).has z = (Nl.again (hd t) ⟨N.q.tick 1, N.t, N.asked, N.full⟩ (N.q.came 1)).has z := rfl
  rw [e]
  obtain ⟨p1, p2⟩ := Nl.ticked hf hj
  refine Bool.eq_iff_iff.2 (hk.trans ⟨fun h => ?_, fun h => ?_⟩)
  · rcases h with h | h
    · obtain ⟨x, hx, ex⟩ := (hasK_iff _ _).1 (show hasK z (N.q.tick 1).l = true from h)
      rw [p1] at hx
      exact (hasK_iff _ _).2 ⟨x, (List.mem_filter.1 hx).1, ex⟩
    · exact Nl.came_has hf hj h
  · obtain ⟨x, hx, ex⟩ := (hasK_iff _ _).1 (show hasK z N.q.l = true from h)
    by_cases hd : x.due ≤ N.q.now + 1
    · right
      rw [p2]
      exact List.mem_map.2 ⟨x, List.mem_filter.2 ⟨hx, by simpa using hd⟩, ex⟩
    · left
      show hasK z (N.q.tick 1).l = true
      rw [p1]
      exact (hasK_iff _ _).2 ⟨x, List.mem_filter.2 ⟨hx, by simpa using hd⟩, ex⟩
/-- One that isn't told stays as it is. -/
theorem Mid.stays {N0 : Nl} {h : Int} {j : Nat} (h1 : 1 ≤ h) (h2 : h ≤ 4096) : ∀ (todo done : List Int) (M : Nl), Mid N0 done todo M j → ∀ x : It, x ∈ M.q.l → x ∈ (Nl.again h M todo).q.l ∧ (Nl.again h M todo).t x.key = M.t x.key
  | [], done, M, H, x, hx => ⟨hx, rfl⟩
  | k :: todo, done, M, H, x, hx => by
    obtain ⟨a, _, _⟩ := H.next h1 h2
    have hk := H.out k (List.mem_cons_self ..)
    have hlen := H.len
    rw [List.length_cons] at hlen
    obtain ⟨p, q, _⟩ := agn_in (n := min (M.t k + 1) 5) h1 h2 (by omega)
    have e := (start_new (Q := M.q) (k := k) (t := agn h (min (M.t k + 1) 5)) hk (by omega) p q).2
    have hx2 : x ∈ (Nl.one h M k).q.l := by
      show x ∈ (M.q.start k _).l
      rw [e]
      exact mem_ins _ (.inr hx)
    obtain ⟨c, d⟩ := Mid.stays h1 h2 todo (done ++ [k]) (Nl.one h M k) a x hx2
    refine ⟨c, d.trans ?_⟩
    show put M.t k _ x.key = _
    exact put_other _ _ (no_has hk x hx)
/-- One that is told is waited for again. -/
theorem Mid.told {N0 : Nl} {h : Int} {j : Nat} (h1 : 1 ≤ h) (h2 : h ≤ 4096) : ∀ (todo done : List Int) (M : Nl), Mid N0 done todo M j → ∀ z : Int, z ∈ todo →
    (⟨z, N0.q.now + agn h (min (N0.t z + 1) 5)⟩ : It) ∈ (Nl.again h M todo).q.l ∧ (Nl.again h M todo).t z = min (N0.t z + 1) 5
  | [], done, M, H, z, hz => by cases hz
  | k :: todo, done, M, H, z, hz => by
    obtain ⟨a, _, _⟩ := H.next h1 h2
    have hk := H.out k (List.mem_cons_self ..)
    have hlen := H.len
    rw [List.length_cons] at hlen
    obtain ⟨p, q, _⟩ := agn_in (n := min (M.t k + 1) 5) h1 h2 (by omega)
    have e := (start_new (Q := M.q) (k := k) (t := agn h (min (M.t k + 1) 5)) hk (by omega) p q).2
    rcases List.mem_cons.1 hz with rfl | hz
    · have hx2 : (⟨z, M.q.now + agn h (min (M.t z + 1) 5)⟩ : It) ∈ (Nl.one h M z).q.l := by
        show _ ∈ (M.q.start z _).l
        rw [e]
        exact mem_ins _ (.inl rfl)
      obtain ⟨c, d⟩ := Mid.stays h1 h2 todo (done ++ [z]) (Nl.one h M z) a _ hx2
      have hs := H.same z (List.mem_cons_self ..)
      rw [H.now, hs] at c
      refine ⟨c, d.trans ?_⟩
      show put M.t z _ z = _
      rw [put_same, hs]
    · exact Mid.told h1 h2 todo (done ++ [k]) (Nl.one h M k) a z hz
/-- A tick of one group that is waited for. -/
theorem Nl.tick_one {N : Nl} {j : Nat} (t : Int) (hf : N.fit j) (hj : j ≤ 1000000) {z d : Int} (h : (⟨z, d⟩ : It) ∈ N.q.l) :
    (N.tick t).q.now = N.q.now + 1 ∧
    (z ∈ N.q.came 1 ↔ d ≤ N.q.now + 1) ∧
    (d ≤ N.q.now + 1 → (⟨z, N.q.now + 1 + agn (hd t) (min (N.t z + 1) 5)⟩ : It) ∈ (N.tick t).q.l ∧ (N.tick t).t z = min (N.t z + 1) 5) ∧
    (¬ d ≤ N.q.now + 1 → (⟨z, d⟩ : It) ∈ (N.tick t).q.l ∧ (N.tick t).t z = N.t z) := by
  obtain ⟨h1, h2⟩ := hd_in t
  have H := Nl.mid hf hj
  obtain ⟨a, _⟩ := Mid.run h1 h2 _ _ _ H
  obtain ⟨p1, p2⟩ := Nl.ticked hf hj
  have hc : z ∈ N.q.came 1 ↔ d ≤ N.q.now + 1 := by
    rw [p2, List.mem_map]
    constructor
    · rintro ⟨x, hx, e⟩
      obtain ⟨hx1, hx2⟩ := List.mem_filter.1 hx
      have := apart_key hf.q.apart hx1 h e
      subst this
      simpa using hx2
    · intro hd
      exact ⟨_, List.mem_filter.2 ⟨h, by simpa using hd⟩, rfl⟩
  have hnow : (N.q.tick 1).now = N.q.now + 1 := by rw [p1]
  refine ⟨a.now.trans hnow, hc, fun hd => ?_, fun hd => ?_⟩
  · have := Mid.told h1 h2 _ _ _ H z (hc.2 hd)
    dsimp only at this
    rw [hnow] at this
    exact this
  · have hx : (⟨z, d⟩ : It) ∈ (N.q.tick 1).l := by
      rw [p1]
      exact List.mem_filter.2 ⟨h, by simpa using hd⟩
    exact Mid.stays h1 h2 _ _ _ H _ hx
theorem agn_mono {h : Int} {n m : Nat} (h1 : 1 ≤ h) (_hm : m ≤ 5) (hn : n ≤ m) : agn h n ≤ agn h m := by
  have hp : ∀ a b : Nat, a ≤ b → (2 : Int) ^ a ≤ 2 ^ b := fun a b hab => by
    have := Nat.pow_le_pow_right (n := 2) (by omega) hab
    exact_mod_cast this
  have c : h * 2 ^ n ≤ h * 2 ^ m := Int.mul_le_mul_of_nonneg_left (hp n m hn) (by omega)
  unfold agn
  omega
theorem agn_most {h : Int} {n : Nat} (h1 : 1 ≤ h) (hn : n ≤ 5) : agn h n ≤ 32 * h ∧ 1 ≤ agn h n := by
  obtain ⟨a, b⟩ := two_pow_in n hn
  have c : h * 1 ≤ h * 2 ^ n := Int.mul_le_mul_of_nonneg_left a (by omega)
  have d : h * 2 ^ n ≤ h * 32 := Int.mul_le_mul_of_nonneg_left b (by omega)
  unfold agn
  omega
/-- Between two ticks of a group's: when it was told last, and how long it was waited. -/
structure Agn (no h : Int) (N : Nl) (i last gap : Nat) : Prop where
  at_ : (⟨no, N.q.now + agn h (N.t no) - ((i : Int) - 1 - (last : Int))⟩ : It) ∈ N.q.l
  tries : N.t no ≤ 5
  seen : last < i
  wid : (gap : Int) ≤ agn h (N.t no)
  wait : (i : Int) - 1 - (last : Int) < agn h (N.t no)
theorem Agn.next {no h : Int} {N : Nl} {i last gap j : Nat} (H : Agn no h N i last gap) (h1 : 1 ≤ h) (h2 : h ≤ 4) (hf : N.fit j) (hj : j ≤ 1000000) :
    (no ∈ N.q.came 1 → Agn no h (N.tick h) (i + 1) i (i - last) ∧ gap ≤ i - last) ∧
    (no ∉ N.q.came 1 → Agn no h (N.tick h) (i + 1) last gap ∧ ¬ 32 * h < (i : Int) - (last : Int)) := by
  have hh : hd h = h := by unfold hd; rw [if_neg (by omega), if_neg (by omega)]
  obtain ⟨n1, n2, n3, n4⟩ := Nl.tick_one h hf hj H.at_
  have hl := H.seen
  have hw := H.wait
  have hg := H.wid
  have ht := H.tries
  rw [hh] at n3
  refine ⟨fun hc => ?_, fun hc => ?_⟩
  · have hd := n2.1 hc
    obtain ⟨m1, m2⟩ := n3 hd
    have e : (i : Int) - (last : Int) = agn h (N.t no) := by omega
    have hm := agn_mono (h := h) (n := N.t no) (m := min (N.t no + 1) 5) h1 (by omega) (by omega)
    have hq := (agn_most (h := h) (n := min (N.t no + 1) 5) h1 (by omega)).2
    refine ⟨⟨?_, by rw [m2]; omega, by omega, by rw [m2]; omega, by rw [m2]; omega⟩, by omega⟩
    rw [n1, m2]
    have e2 : N.q.now + 1 + agn h (min (N.t no + 1) 5) - (((i + 1 : Nat) : Int) - 1 - (i : Int)) = N.q.now + 1 + agn h (min (N.t no + 1) 5) := by omega
    rw [e2]
    exact m1
  · have hd : ¬ _ := fun hd => hc (n2.2 hd)
    obtain ⟨m1, m2⟩ := n4 hd
    have hq := (agn_most (h := h) (n := N.t no) h1 ht).1
    refine ⟨⟨?_, by rw [m2]; omega, by omega, by rw [m2]; omega, by rw [m2]; omega⟩, by omega⟩
    rw [n1, m2]
    have e2 : N.q.now + 1 + agn h (N.t no) - (((i + 1 : Nat) : Int) - 1 - (last : Int)) = N.q.now + agn h (N.t no) - ((i : Int) - 1 - (last : Int)) := by omega
    rw [e2]
    exact m1
theorem Agn.last_pos {no h : Int} {N : Nl} {last gap : Nat} (H : Agn no h N 401 last gap) (h1 : 1 ≤ h) (h2 : h ≤ 4) : 0 < last := by
  have hw := H.wait
  have hq := (agn_most (h := h) (n := N.t no) h1 H.tries).1
  omega
/-- A group is waited for, anew. -/
theorem Agn.new {no h : Int} {N : Nl} {j : Nat} (_hf : N.fit j) (hn : N.has no = false) (hr : N.q.l.length < N.q.room) (h1 : 1 ≤ h) (h2 : h ≤ 4) : Agn no h (N.wait no h) 1 0 0 := by
  have hh : hd h = h := by unfold hd; rw [if_neg (by omega), if_neg (by omega)]
  have e : N.wait no h = ⟨N.q.start no h, put N.t no 0, N.asked, N.full⟩ := by
    unfold Nl.wait
    rw [if_neg (by rw [hn]; decide), if_neg (by omega), hh]
  have e2 := (start_new (Q := N.q) (k := no) (t := h) hn hr h1 (by omega)).2
  have e3 : agn h 0 = h := by
    unfold agn
    rw [Int.pow_zero]
    omega
  have ht : (N.wait no h).t no = 0 := by rw [e]; exact put_same _ _ _
  refine ⟨?_, by rw [ht]; omega, by omega, by rw [ht, e3]; omega, by rw [ht, e3]; omega⟩
  rw [ht, e3, e]
  show _ ∈ (N.q.start no h).l
  show (⟨no, (N.q.start no h).now + h - _⟩ : It) ∈ _
  rw [e2]
  refine mem_ins _ (.inl ?_)
  dsimp only
  congr 1
  omega
theorem Agn.has {no h : Int} {N : Nl} {i last gap : Nat} (H : Agn no h N i last gap) : N.has no = true := (hasK_iff _ _).2 ⟨_, H.at_, rfl⟩
/-- Of a full list it isn't. -/
theorem Nl.wait_full {N : Nl} {no t : Int} {j : Nat} (hf : N.fit j) (hn : N.has no = false) (hr : N.q.room ≤ N.q.l.length) : (N.wait no t).has no = false := by
  have := hf.q.len
  unfold Nl.wait
  rw [if_neg (by rw [hn]; decide), if_pos (by omega)]
  exact hn
theorem Nl.stop_has {N : Nl} {j : Nat} (hf : N.fit j) (no : Int) : (N.stop no).has no = false := by
  rw [Nl.stop_strike hf, Nl.has_strike]
  simp
end Go.Proofs.Ytnffngbkidehfaa.Nk
