/-
  Own text: layer 18 (reasm): the struct of the laws, opened; the law ReasmPrefix as its frame wants it.
  Own text: layer 18 (reasm): groups come whole, the last one first: what the window is, in plain numbers.
-/
import Derived.Test.YtjcbcdjfhcnhcaaK26
import Derived.Test.YtjcbcdjfhcnhcaaRows
import Derived.Test.YtjcbcdjfhcnhcaaK25
import Derived.WalkKit
import Derived.ProofKit
import Derived.OpenShut
import Derived.ShutString
import Derived.ChangeOld
namespace Go.Proofs.Ytjcbcdjfhcnhcaa
open Go.ChangeShapes Go.WideShapes Go.ChangeAt Go.RowKit Go.Deep
theorem row_ins18 {w : World} {a : Option Addr} {n cap : Nat} {zs : List Int} (h : IsRow .u16 w a n cap zs) : Ins w a n (zs.take n) ∧ ∀ z ∈ zs.take n, 0 ≤ z ∧ z ≤ 65535 := by
  rcases h.at_ with h0 | ⟨h0, b, off, e, g⟩
  · subst h0
    exact ⟨⟨by simp, .inl rfl⟩, by simp⟩
  · have hs := g.size
    have hl := g.le
    have hlen : (zs.take n).length = n := by rw [List.length_take]; omega
    refine ⟨⟨hlen, .inr ⟨b, off, e, World.block_lt_of_cell? w _ (g.cell 0 h0), fun i hi => ?_⟩⟩, fun z hz => ?_⟩
    · rw [g.cell i hi]
      simp only [List.getD_eq_getElem?_getD, List.getElem?_take_of_lt hi]
    · obtain ⟨i, hi⟩ := List.mem_iff_getElem?.1 hz
      have hin : i < n := by have := (List.getElem?_eq_some_iff.1 hi).1; omega
      rw [List.getElem?_take_of_lt hin] at hi
      have hw := g.wf i hin
      rw [List.getD_eq_getElem?_getD, hi] at hw
      simp [Lit.wf, IntKind.min, IntKind.max, IntKind.signed, IntKind.bits] at hw
      omega
theorem isrow_ints18 {w : World} {a : Option Addr} {len cap : Nat} {zs : List Int} (h : IsRow .i64 w a len cap zs) : Ints w a len (fun i => zs.getD i 0) := by
  rcases h.at_ with h0 | ⟨h0, b, off, e, g⟩
  · exact .inl h0
  · exact .inr ⟨b, off, e, World.block_lt_of_cell? w _ (g.cell 0 h0), g.cell⟩
theorem isrow_cap18 {k : IntKind} {w : World} {a : Option Addr} {len cap : Nat} {zs : List Int} (h : IsRow k w a len cap zs) : len ≤ cap ∧ cap ≤ 9223372036854775807 := by
  rcases h with ⟨_, rfl, rfl, _⟩ | ⟨_, _, h1, h2, _⟩
  · omega
  · unfold maxLen at h2
    omega
theorem array4_18 {cs : Array Value} (h : cs.size = 4) : ∃ c0 c1 c2 c3, cs = #[c0, c1, c2, c3] := by
  obtain ⟨l⟩ := cs
  simp at h
  match l, h with
  | [c0, c1, c2, c3], _ => exact ⟨c0, c1, c2, c3, rfl⟩
theorem ints18_of {H : Type} {enc : TypeId × Value → H} {W : World} {fuel : Nat} {v : Value} {x : DataW H × List MemPlace} (h : DataW.trod enc Try.prog W 0 (fun _ => true) true fuel 63 [v] = some x) :
    ∃ a n cap zs, v = .slice a n cap ∧ IsRow .i64 W a n cap zs := by
  rcases open_ints Try.underlying63 Try.underlying3 (by kernel_rfl) h with ⟨hcs, _⟩ | ⟨x, l, c, zs, hcs, _, hl, hm, hz, _, hcell, hwz⟩
  · simp at hcs
    exact ⟨none, 0, 0, [], hcs, .inl ⟨rfl, rfl, rfl, rfl⟩⟩
  · simp at hcs
    exact ⟨some x, l, c, zs, hcs, .inr ⟨_, rfl, hl, hm, by simpa using hz, hcell, hwz⟩⟩
theorem ins18_of {H : Type} {enc : TypeId × Value → H} {W : World} {fuel : Nat} {v : Value} {x : DataW H × List MemPlace} (h : DataW.trod enc Try.prog W 0 (fun _ => true) true fuel 24 [v] = some x) :
    ∃ a n cap zs, v = .slice a n cap ∧ IsRow .u16 W a n cap zs := by
  rcases open_ints Try.underlying24 Try.underlying79 (by kernel_rfl) h with ⟨hcs, _⟩ | ⟨x, l, c, zs, hcs, _, hl, hm, hz, _, hcell, hwz⟩
  · simp at hcs
    exact ⟨none, 0, 0, [], hcs, .inl ⟨rfl, rfl, rfl, rfl⟩⟩
  · simp at hcs
    exact ⟨some x, l, c, zs, hcs, .inr ⟨_, rfl, hl, hm, by simpa using hz, hcell, hwz⟩⟩
set_option maxRecDepth 100000 in
theorem sent18_arg {H : Type} {enc : TypeId × Value → H} {W : World} {base : Nat} {v : Value} {d : DataW H} {ps : List MemPlace} (hval : Value.okWide Try.prog W .any base 65 v) (h : DataW.Trod enc Try.prog W 0 (fun _ => true) true 65 v d ps) :
    ∃ (ai : Option Addr) (ni ci : Nat) (Z : List Int) (az : Option Addr) (ns cs : Nat) (zs : List Int) (M : Int) (ac : Option Addr) (nc cc : Nat) (cz : List Int), v = .agg #[.slice ai ni ci, .slice az ns cs, .int .i64 M, .slice ac nc cc] ∧ IsRow .u16 W ai ni ci Z ∧ IsRow .i64 W az ns cs zs ∧ IsRow .i64 W ac nc cc cz := by
  unfold Value.okWide at hval
  rw [Try.underlying65] at hval
  obtain ⟨cs, rfl, hs, _⟩ := hval
  have ce : Try.prog.cellsOf 65 = 4 := by kernel_rfl
  have ci : Try.prog.cellsOf 3 = 1 := by kernel_rfl
  have ci1 : Try.prog.cellsOf 63 = 1 := by kernel_rfl
  have ci2 : Try.prog.cellsOf 24 = 1 := by kernel_rfl
  rw [ce] at hs
  obtain ⟨c0, c1, c2, c3, rfl⟩ := array4_18 hs
  obtain ⟨fuel, hf⟩ := h
  obtain ⟨xs, k, _, _, _, hxl, hf⟩ := DataW.trod_struct Try.underlying65 hf
  match xs, hxl with
  | [y0, y1, y2, y3], _ =>
    have g0 := hf 0 _ rfl
    have g1 := hf 1 _ rfl
    have g2 := hf 2 _ rfl
    have g3 := hf 3 _ rfl
    simp [ci, ci1, ci2, Value.cells] at g0 g1 g2 g3
    obtain ⟨ai, ni, ci, Z, e0, r0⟩ := ins18_of g0
    obtain ⟨az, ns, cs, zs, e1, r1⟩ := ints18_of g1
    obtain ⟨M, e2, _⟩ := DataW.trod_int Try.underlying3 g2
    obtain ⟨ac, nc, cc, cz, e3, r3⟩ := ints18_of g3
    simp at e2
    subst e0 e1 e2 e3
    exact ⟨ai, ni, ci, Z, az, ns, cs, zs, M, ac, nc, cc, cz, rfl, r0, r1, r3⟩
end Go.Proofs.Ytjcbcdjfhcnhcaa
namespace Go.Proofs.Ytjcbcdjfhcnhcaa
/-- While group i comes: those behind it have come whole, those ahead of it not at all; of it the shards of these numbers have come, not enough. -/
structure Near (g : Gs) (G i n : Nat) (S : Wn) (sh : List Nat) : Prop where
  ok : S.ok n
  stuck : S.next = none
  tells : Tells g G S []
  base : S.base = 0
  ready : S.ready = []
  done : ∀ j, i < j → j < G → ∃ p, S.of j = some p ∧ p.full
  todo : ∀ j, j < i → S.of j = none
  cur : (sh = [] ∧ S.of i = none) ∨ ∃ p, S.of i = some p ∧ p.sh.map Sd.ix = sh
  few : sh.length < g.kk i
  lt : i < G
theorem Near.start {g : Gs} {i : Nat} (hg : g.ok) : Near g (i + 1) i 0 Wn.zero [] :=
  ⟨Wn.zero_ok, rfl, Tells.zero g _, rfl, rfl, fun j h1 h2 => absurd h1 (by omega), fun _ _ => rfl, .inl ⟨rfl, rfl⟩, hg.k1 i, Nat.lt_succ_self i⟩
section
variable {g : Gs} {G i n : Nat} {S : Wn} {sh : List Nat} {e : El}
theorem Near.code (h : Near g G i n S sh) (hg : g.ok) (hG : G ≤ 30) (hi : e.i = i) (hx : e.x < g.kk i + g.M) (hn : e.x ∉ sh) : S.code (e.cd g) = 0 := by
  have k1 := hg.k1 i
  have k8 := hg.k8 i
  have m6 := hg.m6
  have hlt := h.lt
  subst hi
  have hbad : (e.cd g).bad = 0 := by
    unfold Cd.bad El.cd El.kd kd18
    dsimp only
    rw [if_neg (by split <;> omega), if_neg (by omega), if_neg (by omega)]
  have hfar : S.far (e.cd g).A = 0 := by
    unfold Wn.far
    rw [if_pos]
    rw [h.base]
    show 0 ≤ e.i ∧ e.i < 0 + 32
    omega
  unfold Wn.code
  rw [if_neg (fun c => c hbad), if_neg (fun c => c hfar)]
  rcases h.cur with ⟨h1, h2⟩ | ⟨p, h1, h2⟩
  · have h3 : S.l[S.at_ (e.cd g).A]? = none := h2
    rw [h3]
  · have h3 : S.l[S.at_ (e.cd g).A]? = some p := h1
    rw [h3]
    dsimp only
    obtain ⟨a1, a2, _⟩ := Wn.of_some h1
    obtain ⟨b1, b2, b3, b4, b5⟩ := h.tells.parts p a2
    rw [a1] at b2 b3
    have hl : p.sh.length = sh.length := by rw [← h2, List.length_map]
    have hnf : ¬ p.full := fun c => by
      have c2 : p.sh.length = p.k := c
      have := h.few
      omega
    have hix : hasIx p.sh (e.cd g).ix = false := by
      unfold hasIx
      rw [List.any_eq_false]
      intro s hs
      have : s.ix ≠ e.x := fun c => hn (by rw [← h2, ← c]; exact List.mem_map.2 ⟨s, hs, rfl⟩)
      show ¬ decide (((s.ix : Nat) : Int) = ((e.x : Nat) : Int)) = true
      simp only [decide_eq_true_eq]
      omega
    have e1 : ¬ (p.fst ≠ (e.cd g).B ∨ (p.k : Int) ≠ (e.cd g).K ∨ (p.m : Int) ≠ (e.cd g).M) := by
      rintro (c | c | c)
      · exact c b2
      · exact c (by show ((p.k : Nat) : Int) = ((g.kk e.i : Nat) : Int); rw [b3])
      · exact c (by show ((p.m : Nat) : Int) = ((g.M : Nat) : Int); rw [b4])
    rw [if_neg e1, if_neg (by rintro (c | c); exact hnf c; rw [hix] at c; cases c)]
theorem Near.part (h : Near g G i n S sh) (hi : e.i = i) : ((S.part (e.cd g)).add (e.cd g).sd).sh.map Sd.ix = sh ++ [e.x] ∧ ((S.part (e.cd g)).add (e.cd g).sd).k = g.kk i := by
  subst hi
  have hsd : (e.cd g).sd.ix = e.x := by show ((e.x : Nat) : Int).toNat = e.x; rw [Int.toNat_natCast]
  rcases h.cur with ⟨h1, h2⟩ | ⟨p, h1, h2⟩
  · have h3 : S.l[S.at_ (e.cd g).A]? = none := h2
    unfold Wn.part
    rw [h3, h1]
    refine ⟨?_, by show ((g.kk e.i : Nat) : Int).toNat = g.kk e.i; rw [Int.toNat_natCast]⟩
    show [(e.cd g).sd.ix] = [e.x]
    rw [hsd]
  · have h3 : S.l[S.at_ (e.cd g).A]? = some p := h1
    unfold Wn.part
    rw [h3]
    obtain ⟨a1, a2, _⟩ := Wn.of_some h1
    obtain ⟨_, _, b3, _⟩ := h.tells.parts p a2
    rw [a1] at b3
    refine ⟨?_, b3⟩
    show (p.sh ++ [(e.cd g).sd]).map Sd.ix = sh ++ [e.x]
    rw [List.map_append, h2, List.map_singleton, hsd]
theorem Near.fit (h : Near g G i n S sh) (hG : G ≤ 30) (hi : e.i = i) (hs : g.st i < 4294967296) : (e.cd g).fit := by
  subst hi
  exact El.cd_fit (by have := h.lt; omega) hs (fun c => g.by_le _ _ _)
theorem Wn.take_put {d : Cd} (h : S.code d = 0) (hn : (S.put d).next = none) : S.take d = S.put d := by
  unfold Wn.take
  rw [if_neg (by omega), if_neg (by omega), Wn.tell_none hn]
theorem Near.more (h : Near g G i n S sh) (hg : g.ok) (hG : G ≤ 30) (hi : e.i = i) (hs : g.st i < 4294967296) (hx : e.x < g.kk i + g.M) (hn : e.x ∉ sh) (hl : sh.length + 1 < g.kk i) : Near g G i (n + 1) (S.take (e.cd g)) (sh ++ [e.x]) := by
  have hc := h.code hg hG hi hx hn
  have hf := h.fit (e := e) hG hi hs
  have c := Wn.came hc
  obtain ⟨p1, p2⟩ := h.part (e := e) hi
  have hnf : ¬ ((S.part (e.cd g)).add (e.cd g).sd).full := fun c2 => by
    have c3 : ((S.part (e.cd g)).add (e.cd g).sd).sh.length = ((S.part (e.cd g)).add (e.cd g).sd).k := c2
    rw [p2] at c3
    have h4 := congrArg List.length p1
    rw [List.length_map, c3, List.length_append, List.length_singleton] at h4
    omega
  have hnx := c.put_next h.ok hf h.stuck hnf
  rw [Wn.take_put hc hnx]
  have hA : (e.cd g).A = i := hi
  refine ⟨c.put_ok h.ok hf, hnx, h.tells.put h.ok (by rw [hi]; exact h.lt) c, h.base, h.ready, fun j h1 h2 => ?_, fun j h1 => ?_, .inr ⟨_, ?_, p1⟩, by rw [List.length_append, List.length_singleton]; exact hl, h.lt⟩
  · rw [c.put_of h.ok hf, if_neg (by omega)]
    exact h.done j h1 h2
  · rw [c.put_of h.ok hf, if_neg (by omega)]
    exact h.todo j h1
  · rw [c.put_of h.ok hf, if_pos hA.symm]
theorem Near.down {i : Nat} (h : Near g G (i + 1) n S sh) (hg : g.ok) (hG : G ≤ 30) (hi : e.i = i + 1) (hs : g.st (i + 1) < 4294967296) (hx : e.x < g.kk (i + 1) + g.M) (hn : e.x ∉ sh) (hl : sh.length + 1 = g.kk (i + 1)) : Near g G i (n + 1) (S.take (e.cd g)) [] := by
  have hc := h.code hg hG hi hx hn
  have hf := h.fit (e := e) hG hi hs
  have c := Wn.came hc
  obtain ⟨p1, p2⟩ := h.part (e := e) hi
  have hA : (e.cd g).A = i + 1 := hi
  have hnx : (S.put (e.cd g)).next = none := by
    cases e0 : (S.put (e.cd g)).next with
    | none => rfl
    | some p =>
      obtain ⟨_, q1, _⟩ := Wn.next_some e0
      have q2 : (S.put (e.cd g)).of S.base = some p := q1
      rw [c.put_of h.ok hf, h.base, if_neg (by omega), h.todo 0 (by omega)] at q2
      cases q2
  have hfl : ((S.part (e.cd g)).add (e.cd g).sd).full := by
    show ((S.part (e.cd g)).add (e.cd g).sd).sh.length = ((S.part (e.cd g)).add (e.cd g).sd).k
    have h4 := congrArg List.length p1
    rw [List.length_map, List.length_append, List.length_singleton] at h4
    rw [h4, p2, hl]
  rw [Wn.take_put hc hnx]
  refine ⟨c.put_ok h.ok hf, hnx, h.tells.put h.ok (by rw [hi]; exact h.lt) c, h.base, h.ready, fun j h1 h2 => ?_, fun j h1 => ?_, .inl ⟨rfl, ?_⟩, hg.k1 i, by have := h.lt; omega⟩
  · rw [c.put_of h.ok hf]
    by_cases ej : j = (e.cd g).A
    · rw [if_pos ej]
      exact ⟨_, rfl, hfl⟩
    · rw [if_neg ej]
      exact h.done j (by omega) h2
  · rw [c.put_of h.ok hf, if_neg (by omega)]
    exact h.todo j (by omega)
  · rw [c.put_of h.ok hf, if_neg (by omega)]
    exact h.todo i (by omega)
end
/-- Every group was told, or has come whole. -/
def Whole (G : Nat) (S : Wn) : Prop := ∀ j, j < G → j < S.base ∨ ∃ p, S.of j = some p ∧ p.full
theorem Whole.tell {G n : Nat} : ∀ (f : Nat) (S : Wn), S.ok n → Whole G S → Whole G (Wn.tell f S)
  | 0, _, _, h => h
  | f + 1, S, hS, h => by
    unfold Wn.tell
    cases e : S.next with
    | none => exact h
    | some p =>
      refine Whole.tell f _ (Wn.turn_ok hS e) (fun j hj => ?_)
      by_cases ej : j < S.base + 1
      · exact .inl ej
      · refine .inr ?_
        rcases h j hj with h1 | ⟨q, h1, h2⟩
        · omega
        · exact ⟨q, by rw [Wn.turn_of hS e, if_neg (by omega)]; exact h1, h2⟩
theorem Whole.all {g : Gs} {G n : Nat} {S : Wn} {told : List Int} (h : Whole G S) (hS : S.ok n) (ht : Tells g G S told) (hn : S.next = none) : S.base = G := by
  have hb := ht.base
  by_cases e : S.base = G
  · exact e
  · rcases h S.base (by omega) with h1 | ⟨p, h1, h2⟩
    · omega
    · obtain ⟨a1, a2, _⟩ := Wn.of_some h1
      obtain ⟨_, b2, _⟩ := ht.parts p a2
      rw [a1] at b2
      exact absurd ⟨h2, by rw [b2, ht.frames]⟩ (Wn.next_none hn p h1)
theorem Near.fin {g : Gs} {G n : Nat} {S : Wn} {sh : List Nat} {e : El} (h : Near g G 0 n S sh) (hg : g.ok) (hG : G ≤ 30) (hZ : g.st G ≤ g.Z.length) (hi : e.i = 0) (hx : e.x < g.kk 0 + g.M) (hn : e.x ∉ sh) (hl : sh.length + 1 = g.kk 0) :
    (S.take (e.cd g)).ok (n + 1) ∧ (S.take (e.cd g)).base = G ∧ (S.take (e.cd g)).frames = g.st G ∧ (S.take (e.cd g)).ready = g.Z.take (g.st G) := by
  have hs : g.st 0 < 4294967296 := by show 0 < _; omega
  have hc := h.code hg hG hi hx hn
  have hf := h.fit (e := e) hG hi hs
  have c := Wn.came hc
  obtain ⟨p1, p2⟩ := h.part (e := e) hi
  have hA : (e.cd g).A = 0 := hi
  have hfl : ((S.part (e.cd g)).add (e.cd g).sd).full := by
    show ((S.part (e.cd g)).add (e.cd g).sd).sh.length = ((S.part (e.cd g)).add (e.cd g).sd).k
    have h4 := congrArg List.length p1
    rw [List.length_map, List.length_append, List.length_singleton] at h4
    rw [h4, p2, hl]
  have hw : Whole G (S.put (e.cd g)) := fun j hj => by
    refine .inr ?_
    rw [c.put_of h.ok hf]
    by_cases ej : j = (e.cd g).A
    · rw [if_pos ej]
      exact ⟨_, rfl, hfl⟩
    · rw [if_neg ej]
      exact h.done j (by omega) hj
  have hpo := c.put_ok h.ok hf
  have htp := h.tells.put h.ok (by rw [hi]; exact h.lt) c
  have htk : S.take (e.cd g) = (S.put (e.cd g)).tell (S.put (e.cd g)).l.length := by
    unfold Wn.take
    rw [if_neg (by omega), if_neg (by omega)]
  rw [htk]
  have hok := Wn.tell_ok (S.put (e.cd g)).l.length _ hpo
  have hT := Tells.tell hg hZ (S.put (e.cd g)).l.length _ hpo htp
  have hW := Whole.tell (S.put (e.cd g)).l.length _ hpo hw
  have hb := hW.all hok hT (Wn.tell_stuck _ _ (Nat.le_refl _))
  have hfr := hT.frames
  rw [hb] at hfr
  refine ⟨hok, hb, hfr, ?_⟩
  have := hT.told
  rw [hfr] at this
  exact this
end Go.Proofs.Ytjcbcdjfhcnhcaa
