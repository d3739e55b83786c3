/-
  Own text: what a sender's calls promise, with the set of blocks that it owns; the weaker promises of MpA out of them.
-/
import Derived.Test.YtblnmddphichgaaMpA
namespace Go.Proofs.Ytblnmddphichgaa.Mp
open Go.RowKit

/-- What a call may turn: the blocks of a set, and what is new. -/
structure Fr (S : Nat → Prop) (w w' : World) : Prop where
  os : w'.os = w.os
  tape : w'.tape = w.tape
  output : w'.output = w.output
  size : w.heap.size ≤ w'.heap.size
  block : ∀ k, k < w.heap.size → ¬ S k → w'.heap[k]? = w.heap[k]?
theorem Fr.below {S : Nat → Prop} {w w' : World} {B : Nat} (h : Fr S w w') (hS : ∀ k, S k → B ≤ k) (hB : B ≤ w.heap.size) : Below B w w' :=
  ⟨h.os, h.tape, h.output, h.size, fun k hk => h.block k (by omega) (fun hs => by have := hS k hs; omega)⟩
/-- A row that was told is new, and what it bears is new, too. -/
def Told2 (w : World) (l : List On) (e : Ending) (w' : World) : Prop :=
  ∃ A C l', e = .returned (.slice A l.length C) ∧ Hid (Mo.OwnT w' w.heap.size (.slice A l.length C) l.length l') ∧ Hid (Likes w w' l l')
/-- Behind a call: the numbers, in a set that grew by new blocks alone. -/
def After (SB : World → (Nat → Prop) → Nat → Sd → Prop) (w : World) (S : Nat → Prop) (p : Nat) (s : Sd) (w' : World) : Prop :=
  (∃ S', SB w' S' p s ∧ ∀ k, S' k → S k ∨ w.heap.size ≤ k) ∧ Fr S w w'
structure Api2 (SB : World → (Nat → Prop) → Nat → Sd → Prop) : Prop where
  keep : ∀ {w w' : World} {S : Nat → Prop} {p : Nat} {s : Sd}, SB w S p s → (∀ k, S k → w'.heap[k]? = w.heap[k]?) → w.heap.size ≤ w'.heap.size → SB w' S p s
  lt : ∀ {w : World} {S : Nat → Prop} {p : Nat} {s : Sd}, SB w S p s → ∀ k, S k → k < w.heap.size
  new_ : ∀ (ses room : Nat) (r b : Int) (w : World), ses < 4294967296 → okB r b = true → 1 ≤ room → room ≤ 256 →
    Calls Try.prog 6 #[.int .u32 (ses : Int), .int .i64 r, .int .i64 b, .int .i64 (room : Int)] w fun e w' => ∃ p, e = .returned (.tuple #[.pointer (some ⟨p, 0, none⟩), .int .i64 0]) ∧ Hid (After SB w (fun _ => False) p (Sd.new ses r b room) w')
  push : ∀ {w : World} {S : Nat → Prop} {p k : Nat} {s : Sd} (r : Int) (d : Dg) (l : List Int), SB w S p s → s.fit k → k ≤ 1000000 → Bytes w d.da d.dl l → d.dl ≤ d.dc → (d.da = none → d.dc = 0) → chk (s.own d d.da d.dc) l = 0 →
    Calls Try.prog 7 #[.pointer (some ⟨p, 0, none⟩), .int .i64 r, d.val] w fun e w' => e = .returned (.int .i64 0) ∧ Hid (∃ da dc, After SB w S p (s.push r (s.own d da dc)) w')
  push_no : ∀ {w : World} {S : Nat → Prop} {p k : Nat} {s : Sd} (r : Int) (d : Dg) (l : List Int), SB w S p s → s.fit k → k ≤ 1000000 → Bytes w d.da d.dl l → d.dl ≤ d.dc → (d.da = none → d.dc = 0) → chk (s.own d d.da d.dc) l ≠ 0 →
    Calls Try.prog 7 #[.pointer (some ⟨p, 0, none⟩), .int .i64 r, d.val] w fun e w' => e = .returned (.int .i64 (chk (s.own d d.da d.dc) l)) ∧ Hid (After SB w S p s w')
  tick : ∀ {w : World} {S : Nat → Prop} {p k : Nat} {s : Sd}, SB w S p s → s.fit k → k ≤ 1000000 →
    Calls Try.prog 8 #[.pointer (some ⟨p, 0, none⟩)] w fun e w' => Told2 w s.tick.1 e w' ∧ Hid (After SB w S p s.tick.2 w')
  flush : ∀ {w : World} {S : Nat → Prop} {p k : Nat} {s : Sd}, SB w S p s → s.fit k → k ≤ 1000000 →
    Calls Try.prog 9 #[.pointer (some ⟨p, 0, none⟩)] w fun e w' => Told2 w s.flush.1 e w' ∧ Hid (After SB w S p s.flush.2 w')
  heard : ∀ {w : World} {S : Nat → Prop} {p k n : Nat} {s : Sd} (i : Int), SB w S p s → s.fit k → k ≤ 1000000 → n < 4294967296 →
    Calls Try.prog 10 #[.pointer (some ⟨p, 0, none⟩), .int .i64 i, .int .u32 (n : Int)] w fun e w' => (∃ c : Int, e = .returned (.int .i64 c)) ∧ Hid (After SB w S p (if 0 ≤ i ∧ i < 2 then s.hear i.toNat n else s) w')
  waiting : ∀ {w : World} {S : Nat → Prop} {p : Nat} {s : Sd}, SB w S p s →
    Calls Try.prog 13 #[.pointer (some ⟨p, 0, none⟩)] w fun e w' => e = .returned (.int .i64 (s.q.l.length : Int)) ∧ w = w'
/-- All that it owns lies from a place on. -/
def SBB (SB : World → (Nat → Prop) → Nat → Sd → Prop) (w : World) (B p : Nat) (s : Sd) : Prop := ∃ S, SB w S p s ∧ (∀ k, S k → B ≤ k) ∧ B ≤ w.heap.size
theorem After.sbb {SB : World → (Nat → Prop) → Nat → Sd → Prop} {w w' : World} {S : Nat → Prop} {p B : Nat} {s : Sd} (h : After SB w S p s w') (hS : ∀ k, S k → B ≤ k) (hB : B ≤ w.heap.size) : SBB SB w' B p s ∧ Below B w w' := by
  obtain ⟨⟨S', h1, h2⟩, h3⟩ := h
  refine ⟨⟨S', h1, fun k hk => ?_, Nat.le_trans hB h3.size⟩, h3.below hS hB⟩
  rcases h2 k hk with h | h
  · exact hS k h
  · omega
theorem own_low {w : World} {B B' n : Nat} {v : Value} {l : List On} (h : Mo.OwnT w B v n l) (hB : B' ≤ B) : Mo.OwnT w B' v n l := Mo.OwnT.low h hB
theorem Told2.told {w w' : World} {l : List On} {e : Ending} {B : Nat} (h : Told2 w l e w') (hB : B ≤ w.heap.size) : Told w B l e w' := by
  obtain ⟨A, C, l', h1, h2, h3⟩ := h
  exact ⟨A, C, l', h1, Lib.hid (own_low h2.out hB), h3⟩
theorem Api2.api {SB : World → (Nat → Prop) → Nat → Sd → Prop} (api : Api2 SB) : Api (SBB SB) where
  keep := fun ⟨S, h1, h2, h3⟩ hb => ⟨S, api.keep h1 (fun k hk => hb.block k (api.lt h1 k hk)) hb.size, h2, Nat.le_trans h3 hb.size⟩
  lo := fun ⟨_, _, _, h⟩ => h
  new_ := fun ses room r b w h1 h2 h3 h4 => (api.new_ ses room r b w h1 h2 h3 h4).mono fun e w' ⟨p, he, ha⟩ => by
    have := ha.out.sbb (B := w.heap.size) (fun k hk => hk.elim) (Nat.le_refl _)
    exact ⟨p, he, Lib.hid this.1, Lib.hid this.2⟩
  push := fun r d l ⟨S, h1, h2, h3⟩ hf hk hl hle hn hc => (api.push r d l h1 hf hk hl hle hn hc).mono fun e w' ⟨he, ha⟩ => by
    obtain ⟨da, dc, ha⟩ := ha.out
    have := ha.sbb h2 h3
    exact ⟨he, Lib.hid ⟨da, dc, this.1⟩, Lib.hid this.2⟩
  push_no := fun r d l ⟨S, h1, h2, h3⟩ hf hk hl hle hn hc => (api.push_no r d l h1 hf hk hl hle hn hc).mono fun e w' ⟨he, ha⟩ => by
    have := ha.out.sbb h2 h3
    exact ⟨he, Lib.hid this.1, Lib.hid this.2⟩
  tick := fun ⟨S, h1, h2, h3⟩ hf hk => (api.tick h1 hf hk).mono fun e w' ⟨ht, ha⟩ => by
    have := ha.out.sbb h2 h3
    exact ⟨ht.told h3, Lib.hid this.1, Lib.hid this.2⟩
  flush := fun ⟨S, h1, h2, h3⟩ hf hk => (api.flush h1 hf hk).mono fun e w' ⟨ht, ha⟩ => by
    have := ha.out.sbb h2 h3
    exact ⟨ht.told h3, Lib.hid this.1, Lib.hid this.2⟩
  waiting := fun ⟨_, h1, _, _⟩ => api.waiting h1
end Go.Proofs.Ytblnmddphichgaa.Mp
