/-
  Own text: law MpathFirst, walked over what a sender's calls promise.
-/
import Derived.Test.YtblnmddphichgaaMpB
namespace Go.Proofs.Ytblnmddphichgaa.Mp
open Go.RowKit

/-- What is promised of a law: it says yes, and what was there is as it was. -/
def Yes15 (w : World) (e : Ending) (w' : World) : Prop := e = .returned (.bool true) ∧ Below w.heap.size w w'
theorem way_q (s : Sd) (i : Nat) : (s.way i).2.q = s.q := by
  unfold Sd.way
  split
  · exact (sends_keep (keepD s.ses) [i] ((s.ticked i).paid 33)).1
  · rfl
theorem tick_q (s : Sd) : s.tick.2.q = s.q := (way_q (s.later.way 0).2 1).trans (way_q s.later 0)
/-- Numbers in a slice. -/
def Nm (w : World) (a : Option Addr) (n : Nat) (z : Nat → Int) : Prop := n = 0 ∨ ∃ b off, a = some ⟨b, off, none⟩ ∧ b < w.heap.size ∧ ∀ i, i < n → w.cell? ⟨b, off + i, none⟩ = some (.int .i64 (z i))
theorem Nm.below {w w' : World} {a : Option Addr} {n : Nat} {z : Nat → Int} (h : Nm w a n z) (hb : Below w.heap.size w w') : Nm w' a n z :=
  h.imp id fun ⟨b, off, e, hl, hc⟩ => ⟨b, off, e, Nat.lt_of_lt_of_le hl hb.size, fun i hi => (hb.cell (p := ⟨b, off + i, none⟩) hl).trans (hc i hi)⟩
/-- An item of the law: its number, and its rank by the list. -/
def Itm (n : Nat) (z : Nat → Int) (x : Mq.It) : Prop := ∃ k : Nat, k < n ∧ x.num = (k : Int) ∧ x.v.A = (k : Int) ∧ x.rank = z k
/-- So many wait. -/
structure Lot (n : Nat) (z : Nat → Int) (s : Sd) (j : Nat) : Prop where
  room : s.q.room = 256
  len : s.q.l.length = j
  pushed : s.q.pushed = j
  it : ∀ x ∈ s.q.l, Itm n z x
theorem Lot.push {n : Nat} {z : Nat → Int} {s : Sd} {j : Nat} (h : Lot n z s j) (hj : j < n) (hn : n ≤ 100) (da : Option Addr) (dc : Nat) : Lot n z (s.push (z j) (s.own (plainD 6 (j : Int)) da dc)) (j + 1) := by
  obtain ⟨h1, h2, h3, h4⟩ := push_list s (z j) (s.own (plainD 6 (j : Int)) da dc) (by rw [h.len, h.room]; omega)
  refine ⟨h3.trans h.room, by rw [h1, h.len], by rw [h2, h.pushed], fun x hx => ?_⟩
  rcases h4 x hx with hx | rfl
  · exact h.it x hx
  · exact ⟨j, hj, by rw [h.pushed], rfl, rfl⟩
/-- What waits are the law's items. -/
def Its (n : Nat) (z : Nat → Int) (s : Sd) : Prop := s.q.l.length ≤ 100 ∧ ∀ x ∈ s.q.l, Itm n z x
/-- What went last. -/
def Last (n : Nat) (z : Nat → Int) (s : Sd) (last : Int) : Prop := last = -1 ∨ ∃ y, Itm n z y ∧ last = y.num ∧ ∀ x ∈ s.q.l, y.ahead x
/-- What a flush tells: numbers of items, each of them not behind the one before it. -/
theorem flush_row {n : Nat} {z : Nat → Int} {s : Sd} {k : Nat} {last : Int} (hf : s.fit k) (hi : Its n z s) (hl : Last n z s last) :
    ∃ f : Nat → Nat, (∀ i o, s.flush.1[i]? = some o → o.d.A = (f i : Int) ∧ f i < n ∧ (i = 0 → last = -1 ∨ ∃ m : Nat, last = (m : Int) ∧ m < n ∧ z m ≤ z (f i) ∧ (z (f i) = z m → ¬ f i < m)) ∧
      (0 < i → f (i - 1) < n ∧ z (f (i - 1)) ≤ z (f i) ∧ (z (f i) = z (f (i - 1)) → ¬ f i < f (i - 1)))) ∧ Its n z s.flush.2 ∧
      (s.flush.1.length = 0 → Last n z s.flush.2 last) ∧ (0 < s.flush.1.length → Last n z s.flush.2 (f (s.flush.1.length - 1) : Int)) := by
  obtain ⟨ys, h1, h2, h3, h4⟩ := flush_first s.q.l s rfl hf.q.sorted
  have hs := flush_left s.q.l s rfl
  have hlen : s.flush.1.length = ys.length := by have := congrArg List.length h1; simp only [List.length_map] at this; exact this
  have hit : ∀ y ∈ ys, Itm n z y := fun y hy => hi.2 y (h3 y hy)
  have hget : ∀ i (y : Mq.It), ys[i]? = some y → y.num = (((ys.map (fun x => x.num.toNat)).getD i 0 : Nat) : Int) := fun i y hy => by
    obtain ⟨k, _, e, _⟩ := hit y (List.mem_of_getElem? hy)
    simp [List.getD_eq_getElem?_getD, hy, e]
  have pair : ∀ y x, Itm n z y → Itm n z x → (y = x ∨ y.ahead x) → ∀ a b : Nat, y.num = (a : Int) → x.num = (b : Int) → z a ≤ z b ∧ (z b = z a → ¬ b < a) := by
    rintro y x ⟨k1, _, e1, _, r1⟩ ⟨k2, _, e2, _, r2⟩ h a b ha hb
    obtain rfl : k1 = a := by omega
    obtain rfl : k2 = b := by omega
    rcases h with rfl | h
    · obtain rfl : k1 = k2 := by omega
      exact ⟨by omega, fun _ => by omega⟩
    · unfold Mq.It.ahead at h
      rw [r1, r2, e1, e2] at h
      exact ⟨by omega, fun e => by omega⟩
  refine ⟨fun i => (ys.map (fun x => x.num.toNat)).getD i 0, fun i o ho => ?_, ?_, fun h0 => ?_, fun h0 => ?_⟩
  · have hi1 : i < ys.length := by rw [← hlen]; exact (List.getElem?_eq_some_iff.1 ho).1
    have hy : ys[i]? = some ys[i] := List.getElem?_eq_getElem hi1
    obtain ⟨k, hk, e1, e2, e3⟩ := hit _ (List.mem_of_getElem? hy)
    have hn := hget i _ hy
    refine ⟨?_, ?_, fun h0 => ?_, fun h0 => ?_⟩
    · have := congrArg (fun l => l[i]?) h1
      simp only [List.getElem?_map] at this
      rw [show (flushL s.q.l s).1[i]? = some o from ho, hy] at this
      simp only [Option.map_some, Option.some.injEq] at this
      rw [this, e2, ← e1, hn]
    · have : (((ys.map (fun x => x.num.toNat)).getD i 0 : Nat) : Int) = (k : Int) := by rw [← hn, e1]
      show (ys.map (fun x => x.num.toNat)).getD i 0 < n
      omega
    · rcases hl with h | ⟨y, hy1, hy2, hy3⟩
      · exact .inl h
      · obtain ⟨m, hm, f1, f2, f3⟩ := hy1
        exact .inr ⟨m, by rw [hy2, f1], hm, pair y _ ⟨m, hm, f1, f2, f3⟩ ⟨k, hk, e1, e2, e3⟩ (.inr (hy3 _ (h3 _ (List.mem_of_getElem? hy)))) m _ f1 hn⟩
    · have hy' : ys[i - 1]? = some ys[i - 1] := List.getElem?_eq_getElem (by omega)
      have hn' := hget (i - 1) _ hy'
      have hi' := hit _ (List.mem_of_getElem? hy')
      have hi2 := hi'
      obtain ⟨k', hk', g1, _⟩ := hi2
      refine ⟨?_, pair _ _ hi' ⟨k, hk, e1, e2, e3⟩ (List.pairwise_iff_getElem.1 h2 (i - 1) i (by omega) hi1 (by omega)) _ _ hn' hn⟩
      have : (((ys.map (fun x => x.num.toNat)).getD (i - 1) 0 : Nat) : Int) = (k' : Int) := by rw [← hn', g1]
      show (ys.map (fun x => x.num.toNat)).getD (i - 1) 0 < n
      omega
  · refine ⟨?_, fun x hx => hi.2 x (hs.subset hx)⟩
    have := hs.length_le
    have := hi.1
    show (flushL s.q.l s).2.q.l.length ≤ 100
    omega
  · rcases hl with h | ⟨y, hy1, hy2, hy3⟩
    · exact .inl h
    · exact .inr ⟨y, hy1, hy2, fun x hx => hy3 x (hs.subset hx)⟩
  · rw [hlen] at h0 ⊢
    have hy : ys[ys.length - 1]? = some ys[ys.length - 1] := List.getElem?_eq_getElem (by omega)
    exact .inr ⟨_, hit _ (List.mem_of_getElem? hy), (hget _ _ hy).symm, fun x hx => h4 _ (List.mem_of_getElem? hy) x hx⟩
end Go.Proofs.Ytblnmddphichgaa.Mp
