/-
  Own text: layer 18 (reasm): what is told of a list's groups is a beginning of the list.
-/
import Derived.Test.YtjcbcdjfhcnhcaaK23
namespace Go.Proofs.Ytjcbcdjfhcnhcaa
/-- A shard of the groups, as it comes. -/
def El.cd (g : Gs) (e : El) : Cd := ⟨e.kd g, e.i, g.st e.i, (g.kk e.i : Nat), (g.M : Nat), (e.x : Nat), 2, g.by_ e.i e.x 0, g.by_ e.i e.x 1⟩
theorem Gs.st_succ (g : Gs) (i : Nat) : g.st (i + 1) = g.st i + g.kk i := rfl
theorem Gs.st_mono (g : Gs) : ∀ {i j : Nat}, i ≤ j → g.st i ≤ g.st j
  | i, 0, h => by obtain rfl : i = 0 := by omega
                  exact Nat.le_refl _
  | i, j + 1, h => by
    by_cases e : i = j + 1
    · subst e; exact Nat.le_refl _
    · exact Nat.le_trans (g.st_mono (show i ≤ j by omega)) (by rw [g.st_succ]; omega)
theorem Gs.by_le (g : Gs) (i x c : Nat) : g.by_ i x c ≤ 255 :=
  Nat.le_of_lt_succ (xs_lt (fun j => mu (lagw nid (g.kk i) j x) (co (be 2 ((g.inp i).getD j 0)) c)) (fun _ => mu_lt _ _) (g.kk i))
/-- What is told, and what waits. -/
structure Tells (g : Gs) (G : Nat) (S : Wn) (told : List Int) : Prop where
  parts : ∀ p ∈ S.l, p.no < G ∧ p.fst = g.st p.no ∧ p.k = g.kk p.no ∧ p.m = g.M ∧ ∀ s ∈ p.sh, s.b0 = g.by_ p.no s.ix 0 ∧ s.b1 = g.by_ p.no s.ix 1
  base : S.base ≤ G
  frames : S.frames = g.st S.base
  told : told ++ S.ready = g.Z.take S.frames
theorem Tells.zero (g : Gs) (G : Nat) : Tells g G Wn.zero [] := ⟨fun p hp => (by cases hp), Nat.zero_le _, rfl, by simp [Wn.zero]⟩
theorem Gs.inp_len {g : Gs} {i : Nat} (h : g.st i + g.kk i ≤ g.Z.length) : (g.inp i).length = g.kk i := by
  unfold Gs.inp
  rw [List.length_take, List.length_drop]
  omega
theorem Tells.turn {g : Gs} {G n : Nat} {S : Wn} {told : List Int} {p : Pt} (h : Tells g G S told) (hg : g.ok) (hZ : g.st G ≤ g.Z.length) (hS : S.ok n) (hp : S.next = some p) : Tells g G (S.turn p) told := by
  obtain ⟨hi, h1, h2, h3, h4, h5⟩ := Wn.next_some hp
  obtain ⟨q1, q2, q3, q4, q5⟩ := h.parts p h5
  obtain ⟨ok, _, _⟩ := hS.parts p h5
  rw [h4] at q1 q2 q3 q5
  have hz : g.st S.base + g.kk S.base ≤ g.Z.length := Nat.le_trans (by rw [← g.st_succ]; exact g.st_mono q1) hZ
  have hl := Gs.inp_len hz
  have hins : p.ins = g.inp S.base := by
    unfold Pt.ins
    refine ins_word (g.inp S.base) p.k p.m p.sh ok.k1 ok.k2 ok.m2 h2 (by rw [hl, q3]) (fun z hz => ?_) (fun x hx => (ok.ix x hx).1) ok.once (fun x hx => ?_)
    · unfold Gs.inp at hz
      exact hg.vals z (List.mem_of_mem_drop (List.mem_of_mem_take hz))
    · rw [q3]
      exact q5 x hx
  refine ⟨fun r hr => ?_, q1, ?_, ?_⟩
  · obtain ⟨j, _, hj⟩ := mem_erase hr
    exact h.parts r (List.mem_of_getElem? hj)
  · show S.frames + p.k = g.st (S.base + 1)
    rw [g.st_succ, h.frames, q3]
  · show told ++ (S.ready ++ p.ins) = g.Z.take (S.frames + p.k)
    rw [← List.append_assoc, h.told, hins, h.frames, q3, List.take_add]
    rfl
theorem Tells.tell {g : Gs} {G n : Nat} {told : List Int} (hg : g.ok) (hZ : g.st G ≤ g.Z.length) : ∀ (f : Nat) (S : Wn), S.ok n → Tells g G S told → Tells g G (Wn.tell f S) told
  | 0, _, _, h => h
  | f + 1, S, hS, h => by
    unfold Wn.tell
    cases e : S.next with
    | none => exact h
    | some p => exact Tells.tell hg hZ f _ (Wn.turn_ok hS e) (h.turn hg hZ hS e)
theorem Tells.put {g : Gs} {G n : Nat} {S : Wn} {told : List Int} {e : El} (h : Tells g G S told) (hS : S.ok n) (hi : e.i < G) (c : Came S (e.cd g)) : Tells g G (S.put (e.cd g)) told := by
  refine ⟨fun p hp => ?_, h.base, h.frames, h.told⟩
  rcases (c.put_mem hS p).1 hp with rfl | ⟨hp, _⟩
  · cases he : S.of (e.cd g).A with
    | none =>
      have hpp : S.part (e.cd g) = ⟨e.i, g.st e.i, ((g.kk e.i : Nat) : Int).toNat, ((g.M : Nat) : Int).toNat, []⟩ := by
        unfold Wn.part
        unfold Wn.of at he
        rw [he]
        rfl
      rw [hpp]
      refine ⟨hi, rfl, by show ((g.kk e.i : Nat) : Int).toNat = g.kk e.i; omega, by show ((g.M : Nat) : Int).toNat = g.M; omega, fun s hs => ?_⟩
      simp only [Pt.add, List.nil_append, List.mem_singleton] at hs
      subst hs
      exact ⟨by show g.by_ e.i e.x 0 = g.by_ e.i ((e.x : Nat) : Int).toNat 0; rw [Int.toNat_natCast], by show g.by_ e.i e.x 1 = g.by_ e.i ((e.x : Nat) : Int).toNat 1; rw [Int.toNat_natCast]⟩
    | some p =>
      have hpp : S.part (e.cd g) = p := by
        unfold Wn.part
        unfold Wn.of at he
        rw [he]
        rfl
      obtain ⟨hn, hm, _⟩ := Wn.of_some he
      obtain ⟨q1, q2, q3, q4, q5⟩ := h.parts p hm
      rw [hpp]
      refine ⟨q1, q2, q3, q4, fun s hs => ?_⟩
      rcases List.mem_append.1 hs with h1 | h1
      · exact q5 s h1
      · rw [List.mem_singleton] at h1
        subst h1
        have hno : p.no = e.i := hn
        show g.by_ e.i e.x 0 = g.by_ p.no ((e.x : Nat) : Int).toNat 0 ∧ g.by_ e.i e.x 1 = g.by_ p.no ((e.x : Nat) : Int).toNat 1
        rw [hno, Int.toNat_natCast]
        exact ⟨rfl, rfl⟩
  · exact h.parts p hp
theorem El.cd_fit {g : Gs} {e : El} (hi : e.i < 4294967296) (hs : g.st e.i < 4294967296) (hb : ∀ c, g.by_ e.i e.x c ≤ 255) : (e.cd g).fit := ⟨hi, hs, hb 0, hb 1⟩
theorem Tells.take {g : Gs} {G n : Nat} {S : Wn} {told : List Int} {e : El} (h : Tells g G S told) (hg : g.ok) (hZ : g.st G ≤ g.Z.length) (hS : S.ok n) (hi : e.i < G) (hf : (e.cd g).fit) : Tells g G (S.take (e.cd g)) told := by
  unfold Wn.take
  split
  · exact ⟨h.parts, h.base, h.frames, h.told⟩
  · split
    · exact h
    · rename_i h1 h2
      have c := Wn.came (Decidable.not_not.1 h2)
      exact Tells.tell hg hZ _ _ (c.put_ok hS hf) (h.put hS hi c)
theorem Tells.read {g : Gs} {G : Nat} {S : Wn} {told : List Int} (h : Tells g G S told) : Tells g G S.read (told ++ S.ready) := ⟨h.parts, h.base, h.frames, by show told ++ S.ready ++ [] = _; rw [List.append_nil]; exact h.told⟩
theorem Tells.len {g : Gs} {G : Nat} {S : Wn} {told : List Int} (h : Tells g G S told) (hZ : g.st G ≤ g.Z.length) : (told ++ S.ready).length = S.frames ∧ S.frames ≤ g.Z.length := by
  have h1 : S.frames ≤ g.Z.length := by rw [h.frames]; exact Nat.le_trans (g.st_mono h.base) hZ
  exact ⟨by rw [h.told, List.length_take]; omega, h1⟩
end Go.Proofs.Ytjcbcdjfhcnhcaa
