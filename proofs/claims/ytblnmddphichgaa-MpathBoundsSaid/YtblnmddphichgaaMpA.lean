/-
  Own text: what a sender's calls promise, over a predicate on the world (the layout fills it in); the law's awake, walked over it.
  what a sender's calls promise, with the set of blocks that it owns; the weaker promises of MpA out of them.
  apart (a copy of a datagram with bytes of its own), known, walked.
-/
import Derived.Test.YtblnmddphichgaaMoM
import Derived.Test.YtblnmddphichgaaForm7
import Derived.Test.YtblnmddphichgaaClB
import Derived.Test.YtblnmddphichgaaMqE
namespace Go.Proofs.Ytblnmddphichgaa.Mp
open Go.RowKit

def Sd.new (ses : Nat) (r b : Int) (room : Nat) : Sd := ⟨fun _ => Pn.zero, ses, 0, Bk.new r b, ⟨room, 0, []⟩, 0, 0⟩
theorem Sd.new_fit {ses room : Nat} {r b : Int} (hs : ses < 4294967296) (h : okB r b = true) (h1 : 1 ≤ room) (h2 : room ≤ 256) : (Sd.new ses r b room).fit 0 :=
  ⟨fun _ _ => Pn.zero_fit, hs, (by decide : (0 : Nat) < 4294967296), Bk.new_fit h, ⟨h1, h2, Nat.zero_le _, Nat.le_refl _, fun x hx => (by cases hx), List.Pairwise.nil, List.Pairwise.nil⟩, Nat.le_refl _, Nat.le_refl _⟩
/-- It reads as something that may go. -/
def Rd (w : World) (d : Dg) : Prop := (d.dl ≤ 1200 ∧ d.dl ≤ d.dc ∧ (d.da = none → d.dc = 0)) ∧ ∃ l, Bytes w d.da d.dl l ∧ chk d l = 0
/-- The same one, its bytes elsewhere. -/
def Dg.moved (d : Dg) (da : Option Addr) (dc : Nat) : Dg := ⟨d.kind, d.ses, d.seq, d.path, d.tick, d.A, d.B, d.K, d.M, d.ix, da, d.dl, dc⟩
/-- It is that one, with bytes of its own. -/
structure Like (w w' : World) (o o' : On) : Prop where
  i : o'.i = o.i
  d : o'.d = Dg.moved o.d o'.d.da o'.d.dc
  b : ∀ l, Bytes w o.d.da o.d.dl l → Bytes w' o'.d.da o.d.dl l
/-- A row of such ones, one for each. -/
def Likes (w w' : World) (l l' : List On) : Prop := l'.length = l.length ∧ ∀ (i : Nat) (o : On), l[i]? = some o → ∃ o', l'[i]? = some o' ∧ Like w w' o o' ∧ Rd w' o'.d ∧ ∀ g, o'.d.da.map Addr.block = some g → w.heap.size ≤ g
/-- What was told: a row of the call's own. -/
def Told (w : World) (B : Nat) (l : List On) (e : Ending) (w' : World) : Prop := ∃ A C l', e = .returned (.slice A l.length C) ∧ Hid (Mo.OwnT w' B (.slice A l.length C) l.length l') ∧ Hid (Likes w w' l l')
/-- What a sender's calls promise. -/
structure Api (SB : World → Nat → Nat → Sd → Prop) : Prop where
  keep : ∀ {w w' : World} {B p : Nat} {s : Sd}, SB w B p s → Below w.heap.size w w' → SB w' B p s
  lo : ∀ {w : World} {B p : Nat} {s : Sd}, SB w B p s → B ≤ w.heap.size
  new_ : ∀ (ses room : Nat) (r b : Int) (w : World), ses < 4294967296 → okB r b = true → 1 ≤ room → room ≤ 256 →
    Calls Try.prog 6 #[.int .u32 (ses : Int), .int .i64 r, .int .i64 b, .int .i64 (room : Int)] w fun e w' => ∃ p, e = .returned (.tuple #[.pointer (some ⟨p, 0, none⟩), .int .i64 0]) ∧ Hid (SB w' w.heap.size p (Sd.new ses r b room)) ∧ Hid (Below w.heap.size w w')
  push : ∀ {w : World} {B p k : Nat} {s : Sd} (r : Int) (d : Dg) (l : List Int), SB w B p s → s.fit k → k ≤ 1000000 → Bytes w d.da d.dl l → d.dl ≤ d.dc → (d.da = none → d.dc = 0) → chk (s.own d d.da d.dc) l = 0 →
    Calls Try.prog 7 #[.pointer (some ⟨p, 0, none⟩), .int .i64 r, d.val] w fun e w' => e = .returned (.int .i64 0) ∧ Hid (∃ da dc, SB w' B p (s.push r (s.own d da dc))) ∧ Hid (Below B w w')
  push_no : ∀ {w : World} {B p k : Nat} {s : Sd} (r : Int) (d : Dg) (l : List Int), SB w B p s → s.fit k → k ≤ 1000000 → Bytes w d.da d.dl l → d.dl ≤ d.dc → (d.da = none → d.dc = 0) → chk (s.own d d.da d.dc) l ≠ 0 →
    Calls Try.prog 7 #[.pointer (some ⟨p, 0, none⟩), .int .i64 r, d.val] w fun e w' => e = .returned (.int .i64 (chk (s.own d d.da d.dc) l)) ∧ Hid (SB w' B p s) ∧ Hid (Below B w w')
  tick : ∀ {w : World} {B p k : Nat} {s : Sd}, SB w B p s → s.fit k → k ≤ 1000000 →
    Calls Try.prog 8 #[.pointer (some ⟨p, 0, none⟩)] w fun e w' => Told w B s.tick.1 e w' ∧ Hid (SB w' B p s.tick.2) ∧ Hid (Below B w w')
  flush : ∀ {w : World} {B p k : Nat} {s : Sd}, SB w B p s → s.fit k → k ≤ 1000000 →
    Calls Try.prog 9 #[.pointer (some ⟨p, 0, none⟩)] w fun e w' => Told w B s.flush.1 e w' ∧ Hid (SB w' B p s.flush.2) ∧ Hid (Below B w w')
  waiting : ∀ {w : World} {B p : Nat} {s : Sd}, SB w B p s →
    Calls Try.prog 13 #[.pointer (some ⟨p, 0, none⟩)] w fun e w' => e = .returned (.int .i64 (s.q.l.length : Int)) ∧ w = w'
/-- A datagram that bears nothing but a number: a KindCheck (6) or a KindKeep (7). -/
def plainD (kind A : Int) : Dg := ⟨kind, 0, 0, 0, 0, A, 0, 0, 0, 0, none, 0, 0⟩
theorem chk_plain (s : Sd) (kind A : Int) (da : Option Addr) (dc : Nat) (l : List Int) (h : kind = 6 ∨ (kind = 7 ∧ A = 0)) : chk (s.own (plainD kind A) da dc) l = 0 := by
  unfold chk
  have hk : (s.own (plainD kind A) da dc).kind = kind := rfl
  rw [if_neg (by rw [hk]; omega), if_neg]
  refine not_not_intro ⟨Int.le_refl 0, (by decide : (0 : Int) < 2), ?_⟩
  have hb : bareB (s.own (plainD kind A) da dc) = true := decide_eq_true ⟨rfl, rfl, rfl⟩
  rcases h with rfl | ⟨rfl, rfl⟩
  · exact .inr (.inr (.inr (.inr (.inr (.inr ⟨.inr rfl, hb, rfl⟩)))))
  · exact .inr (.inr (.inr (.inr (.inr (.inl ⟨rfl, hb, rfl, rfl, rfl⟩)))))
theorem push_list (s : Sd) (r : Int) (d : Dg) (h : s.q.l.length < s.q.room) : (s.push r d).q.l.length = s.q.l.length + 1 ∧ (s.push r d).q.pushed = s.q.pushed + 1 ∧ (s.push r d).q.room = s.q.room ∧ ∀ x ∈ (s.push r d).q.l, x ∈ s.q.l ∨ x = ⟨r, (s.q.pushed : Int), d⟩ := by
  have e : (s.push r d).q = ⟨s.q.room, s.q.pushed + 1, s.q.ins r d⟩ := by
    show s.q.push r d = _
    unfold Mq.Qn.push
    rw [if_pos h]
  rw [e]
  exact ⟨s.q.ins_length r d, rfl, rfl, s.q.ins_mem r d⟩
end Go.Proofs.Ytblnmddphichgaa.Mp
namespace Go.Proofs.Ytblnmddphichgaa.Mp
open Go.RowKit

/-- What a call may turn: the blocks of a set, and what is new. -/
structure Fr (S : Nat → Prop) (w w' : World) : Prop where
  os : w'.os = w.os
  tape : w'.tape = w.tape
  output : w'.output = w.output
  size : w.heap.size ≤ w'.heap.size
  block : ∀ k, k < w.heap.size → ¬ S k → w'.heap[k]? = w.heap[k]?
theorem Fr.below {S : Nat → Prop} {w w' : World} {B : Nat} (h : Fr S w w') (hS : ∀ k, S k → B ≤ k) (hB : B ≤ w.heap.size) : Below B w w' :=
  ⟨h.os, h.tape, h.output, h.size, fun k hk => h.block k (by omega) (fun hs => by have := hS k hs; omega)⟩
/-- A row that was told is new, and what it bears is new, too. -/
def Told2 (w : World) (l : List On) (e : Ending) (w' : World) : Prop :=
  ∃ A C l', e = .returned (.slice A l.length C) ∧ Hid (Mo.OwnT w' w.heap.size (.slice A l.length C) l.length l') ∧ Hid (Likes w w' l l')
/-- Behind a call: the numbers, in a set that grew by new blocks alone. -/
def After (SB : World → (Nat → Prop) → Nat → Sd → Prop) (w : World) (S : Nat → Prop) (p : Nat) (s : Sd) (w' : World) : Prop :=
  (∃ S', SB w' S' p s ∧ ∀ k, S' k → S k ∨ w.heap.size ≤ k) ∧ Fr S w w'
structure Api2 (SB : World → (Nat → Prop) → Nat → Sd → Prop) : Prop where
  keep : ∀ {w w' : World} {S : Nat → Prop} {p : Nat} {s : Sd}, SB w S p s → (∀ k, S k → w'.heap[k]? = w.heap[k]?) → w.heap.size ≤ w'.heap.size → SB w' S p s
  lt : ∀ {w : World} {S : Nat → Prop} {p : Nat} {s : Sd}, SB w S p s → ∀ k, S k → k < w.heap.size
  new_ : ∀ (ses room : Nat) (r b : Int) (w : World), ses < 4294967296 → okB r b = true → 1 ≤ room → room ≤ 256 →
    Calls Try.prog 6 #[.int .u32 (ses : Int), .int .i64 r, .int .i64 b, .int .i64 (room : Int)] w fun e w' => ∃ p, e = .returned (.tuple #[.pointer (some ⟨p, 0, none⟩), .int .i64 0]) ∧ Hid (After SB w (fun _ => False) p (Sd.new ses r b room) w')
  push : ∀ {w : World} {S : Nat → Prop} {p k : Nat} {s : Sd} (r : Int) (d : Dg) (l : List Int), SB w S p s → s.fit k → k ≤ 1000000 → Bytes w d.da d.dl l → d.dl ≤ d.dc → (d.da = none → d.dc = 0) → chk (s.own d d.da d.dc) l = 0 →
    Calls Try.prog 7 #[.pointer (some ⟨p, 0, none⟩), .int .i64 r, d.val] w fun e w' => e = .returned (.int .i64 0) ∧ Hid (∃ da dc, After SB w S p (s.push r (s.own d da dc)) w')
  push_no : ∀ {w : World} {S : Nat → Prop} {p k : Nat} {s : Sd} (r : Int) (d : Dg) (l : List Int), SB w S p s → s.fit k → k ≤ 1000000 → Bytes w d.da d.dl l → d.dl ≤ d.dc → (d.da = none → d.dc = 0) → chk (s.own d d.da d.dc) l ≠ 0 →
    Calls Try.prog 7 #[.pointer (some ⟨p, 0, none⟩), .int .i64 r, d.val] w fun e w' => e = .returned (.int .i64 (chk (s.own d d.da d.dc) l)) ∧ Hid (After SB w S p s w')
  tick : ∀ {w : World} {S : Nat → Prop} {p k : Nat} {s : Sd}, SB w S p s → s.fit k → k ≤ 1000000 →
    Calls Try.prog 8 #[.pointer (some ⟨p, 0, none⟩)] w fun e w' => Told2 w s.tick.1 e w' ∧ Hid (After SB w S p s.tick.2 w')
  flush : ∀ {w : World} {S : Nat → Prop} {p k : Nat} {s : Sd}, SB w S p s → s.fit k → k ≤ 1000000 →
    Calls Try.prog 9 #[.pointer (some ⟨p, 0, none⟩)] w fun e w' => Told2 w s.flush.1 e w' ∧ Hid (After SB w S p s.flush.2 w')
  heard : ∀ {w : World} {S : Nat → Prop} {p k n : Nat} {s : Sd} (i : Int), SB w S p s → s.fit k → k ≤ 1000000 → n < 4294967296 →
    Calls Try.prog 10 #[.pointer (some ⟨p, 0, none⟩), .int .i64 i, .int .u32 (n : Int)] w fun e w' => (∃ c : Int, e = .returned (.int .i64 c)) ∧ Hid (After SB w S p (if 0 ≤ i ∧ i < 2 then s.hear i.toNat n else s) w')
  waiting : ∀ {w : World} {S : Nat → Prop} {p : Nat} {s : Sd}, SB w S p s →
    Calls Try.prog 13 #[.pointer (some ⟨p, 0, none⟩)] w fun e w' => e = .returned (.int .i64 (s.q.l.length : Int)) ∧ w = w'
/-- All that it owns lies from a place on. -/
def SBB (SB : World → (Nat → Prop) → Nat → Sd → Prop) (w : World) (B p : Nat) (s : Sd) : Prop := ∃ S, SB w S p s ∧ (∀ k, S k → B ≤ k) ∧ B ≤ w.heap.size
theorem After.sbb {SB : World → (Nat → Prop) → Nat → Sd → Prop} {w w' : World} {S : Nat → Prop} {p B : Nat} {s : Sd} (h : After SB w S p s w') (hS : ∀ k, S k → B ≤ k) (hB : B ≤ w.heap.size) : SBB SB w' B p s ∧ Below B w w' := by
  obtain ⟨⟨S', h1, h2⟩, h3⟩ := h
  refine ⟨⟨S', h1, fun k hk => ?_, Nat.le_trans hB h3.size⟩, h3.below hS hB⟩
  rcases h2 k hk with h | h
  · exact hS k h
  · omega
theorem own_low {w : World} {B B' n : Nat} {v : Value} {l : List On} (h : Mo.OwnT w B v n l) (hB : B' ≤ B) : Mo.OwnT w B' v n l := Mo.OwnT.low h hB
theorem Told2.told {w w' : World} {l : List On} {e : Ending} {B : Nat} (h : Told2 w l e w') (hB : B ≤ w.heap.size) : Told w B l e w' := by
  obtain ⟨A, C, l', h1, h2, h3⟩ := h
  exact ⟨A, C, l', h1, Lib.hid (own_low h2.out hB), h3⟩
theorem Api2.api {SB : World → (Nat → Prop) → Nat → Sd → Prop} (api : Api2 SB) : Api (SBB SB) where
  keep := fun ⟨S, h1, h2, h3⟩ hb => ⟨S, api.keep h1 (fun k hk => hb.block k (api.lt h1 k hk)) hb.size, h2, Nat.le_trans h3 hb.size⟩
  lo := fun ⟨_, _, _, h⟩ => h
  new_ := fun ses room r b w h1 h2 h3 h4 => (api.new_ ses room r b w h1 h2 h3 h4).mono fun e w' ⟨p, he, ha⟩ => by
    have := ha.out.sbb (B := w.heap.size) (fun k hk => hk.elim) (Nat.le_refl _)
    exact ⟨p, he, Lib.hid this.1, Lib.hid this.2⟩
  push := fun r d l ⟨S, h1, h2, h3⟩ hf hk hl hle hn hc => (api.push r d l h1 hf hk hl hle hn hc).mono fun e w' ⟨he, ha⟩ => by
    obtain ⟨da, dc, ha⟩ := ha.out
    have := ha.sbb h2 h3
    exact ⟨he, Lib.hid ⟨da, dc, this.1⟩, Lib.hid this.2⟩
  push_no := fun r d l ⟨S, h1, h2, h3⟩ hf hk hl hle hn hc => (api.push_no r d l h1 hf hk hl hle hn hc).mono fun e w' ⟨he, ha⟩ => by
    have := ha.out.sbb h2 h3
    exact ⟨he, Lib.hid this.1, Lib.hid this.2⟩
  tick := fun ⟨S, h1, h2, h3⟩ hf hk => (api.tick h1 hf hk).mono fun e w' ⟨ht, ha⟩ => by
    have := ha.out.sbb h2 h3
    exact ⟨ht.told h3, Lib.hid this.1, Lib.hid this.2⟩
  flush := fun ⟨S, h1, h2, h3⟩ hf hk => (api.flush h1 hf hk).mono fun e w' ⟨ht, ha⟩ => by
    have := ha.out.sbb h2 h3
    exact ⟨ht.told h3, Lib.hid this.1, Lib.hid this.2⟩
  waiting := fun ⟨_, h1, _, _⟩ => api.waiting h1
end Go.Proofs.Ytblnmddphichgaa.Mp
namespace Go.Proofs.Ytblnmddphichgaa.Mp
open Go.RowKit

theorem own8_block {w : World} {base n C : Nat} {A : Option Addr} {l : List Int} (h : Own8 w base (.slice A n C) n l) : ∀ g, A.map Addr.block = some g → base ≤ g ∧ g < w.heap.size := by
  intro g hg
  exact World.ownsRow.lt h g (by cases A with | none => simp at hg | some a => simpa [Value.ownBlock] using hg)
theorem own8_keep {w w' : World} {base n C : Nat} {A : Option Addr} {l : List Int} (h : Own8 w base (.slice A n C) n l) (hk : ∀ g, A.map Addr.block = some g → w'.heap[g]? = w.heap[g]?) : Own8 w' base (.slice A n C) n l := by
  refine ⟨h.1, h.2.imp id ?_⟩
  rintro ⟨g, cap, cur, e, h1, hg, h2⟩
  refine ⟨g, cap, cur, e, h1, (hk g ?_).trans hg, h2⟩
  simp only [Value.slice.injEq] at e
  rw [e.1]
  rfl
theorem own8_low {w : World} {base b n C : Nat} {A : Option Addr} {l : List Int} (h : Own8 w base (.slice A n C) n l) (hb : b ≤ base) : Own8 w b (.slice A n C) n l := by
  refine ⟨h.1, h.2.imp id ?_⟩
  rintro ⟨g, cap, cur, e, h1, h2⟩
  exact ⟨g, cap, cur, e, by omega, h2⟩
theorem own8_nil {w : World} {base n C : Nat} {A : Option Addr} {l : List Int} (h : Own8 w base (.slice A n C) n l) : n ≤ C ∧ (A = none → C = 0) := by
  rcases h.2 with ⟨e, h0⟩ | ⟨g, cap, cur, e, h1, hg, h3, h4, h5⟩
  · simp only [Value.slice.injEq] at e
    exact ⟨by omega, fun _ => e.2.2⟩
  · simp only [Value.slice.injEq] at e
    exact ⟨by omega, fun h => by rw [h] at e; cases e.1⟩
/-- What a copy with bytes of its own is. -/
def Apart (d : Dg) (l : List Int) (w : World) (e : Ending) (w' : World) : Prop := ∃ A C, e = .returned (Dg.moved d A C).val ∧ Hid (Own8 w' w.heap.size (.slice A d.dl C) d.dl l) ∧ Hid (Below w.heap.size w w')
set_option maxRecDepth 100000 in
theorem apart_any (d : Dg) (l : List Int) (w : World) (hl : Bytes w d.da d.dl l) (hle : d.dl ≤ d.dc) (hnil : d.da = none → d.dc = 0) (hsz : d.dl ≤ 100000) :
    Calls Try.prog 17 #[d.val] w (Apart d l w) := by
  obtain ⟨W0, hW0⟩ : ∃ W0, W0 = (w.alloc (.cells (Mq.dcells d) 35)).alloc (.cells (Mq.dcells Mq.nil) 35) := ⟨_, rfl⟩
  have HB0 : Hid (Below w.heap.size w W0) := Lib.hid (by rw [hW0]; exact ((Below.refl _ _).alloc (Nat.le_refl _) _).alloc (by simp) _)
  have HD0 : Hid (Lies W0 w.heap.size 0 (Mq.dcells d)) := Lib.hid (by rw [hW0]; exact Lies.new w (Mq.dcells d) _ ((Below.refl _ _).alloc (Nat.le_refl _) _))
  have HR0 : Hid (Lies W0 (w.heap.size + 1) 0 (Mq.dcells Mq.nil)) := Lib.hid (by
    have := Lies.new (w.alloc (.cells (Mq.dcells d) 35)) (Mq.dcells Mq.nil) 35 (Below.refl _ _)
    rw [hW0]
    simpa using this)
  have HS0 : Hid (W0.heap.size = w.heap.size + 2) := Lib.hid (by rw [hW0]; simp)
  have CL := Lib.hid (clone8_any d.da d.dl d.dc l W0 (hl.below HB0.out (Nat.le_refl _)) hle hnil hsz)
  have HW0 := Lib.hid hW0
  have c10 : W0.cell? ⟨w.heap.size, 10, none⟩ = some (.slice d.da d.dl d.dc) := HD0.out.cell 10 (by decide : 10 < 11)
  clear hW0 hl hle hnil hsz
  go_enter Try.func17, Try.ntmps17
  go_upto_region 1 with fail
  rw [← HW0.out]
  go_upto_region 2 with (first
    | (go_at_call 35; (with_reducible refine (CL.out).mono ?_); rintro e w1 ⟨A, C, rfl, hown, hb⟩; have HO1 := Lib.hid hown; have HB1 := Lib.hid hb; clear hown hb; have HD1 : Hid (Lies w1 w.heap.size 0 (Mq.dcells d)) := Lib.hid (HD0.out.below HB1.out HD0.out.lt); have d10 := HD1.out.cell 10 (by decide : 10 < 11); have df := HD1.out.frozen 10)
    | fail)
  obtain ⟨W2, hW2⟩ : ∃ W2, W2 = w1.setCell ⟨w.heap.size, 10, none⟩ (.slice A d.dl C) := ⟨_, rfl⟩
  have HD2 : Hid (Lies W2 w.heap.size 0 (Mq.dcells (Dg.moved d A C))) := Lib.hid (by rw [hW2]; exact HD1.out.set 10 _)
  have HR2 : Hid (Lies W2 (w.heap.size + 1) 0 (Mq.dcells Mq.nil)) := Lib.hid (by rw [hW2]; exact (HR0.out.below HB1.out HR0.out.lt).other (by show w.heap.size + 1 ≠ w.heap.size; omega) _)
  have HB2 : Hid (Below w.heap.size w W2) := Lib.hid (by rw [hW2]; exact (HB0.out.trans (HB1.out.mono HB0.out.size)).setCell (p := ⟨w.heap.size, 10, none⟩) (Nat.le_refl _) _)
  have HO2 : Hid (Own8 W2 W0.heap.size (.slice A d.dl C) d.dl l) := Lib.hid (by
    rw [hW2]
    exact own8_keep HO1.out (fun g hg => Below.heap_setCell w1 ⟨w.heap.size, 10, none⟩ _ g (by have := (own8_block HO1.out g hg).1; have := HS0.out; show g ≠ w.heap.size; omega)))
  rw [← hW2]
  clear d10 df c10 hW2
  go_wp2_with (first
    | (with_reducible refine wpList_load_lies rfl 35 (.tmp 1) rfl w.heap.size 0 rfl (Mq.dcells (Dg.moved d A C)) HD2.out _ Try.underlying35 rfl (Mq.infoC (Dg.moved d A C)) ?_)
    | ((with_reducible refine wpList_store_lies rfl 35 (.tmp 2) (.tmp 7) rfl (w.heap.size + 1) 0 rfl (Mq.dcells (Dg.moved d A C)) rfl (Mq.dcells Mq.nil) HR2.out rfl (Mq.infoC (Dg.moved d A C)) (Mq.dcells_one (Dg.moved d A C)) ?_); intro w3 N1 N2 N3)
    | fail)
  refine bodyPost_ret (v := (Dg.moved d A C).val) (Mq.results_cell0 (p := 2) rfl _ w3 (w.heap.size + 1) _ rfl (Mq.loadv_dg N1.out)) rfl ?_
  refine ⟨A, C, rfl, Lib.hid ?_, Lib.hid (N2.out.bel HB2.out HB2.out.size (Nat.le_succ _))⟩
  exact own8_low (own8_keep HO2.out (fun g hg => N2.out.block g (own8_block HO2.out g hg).2 (by have := (own8_block HO2.out g hg).1; have := HS0.out; omega))) HB0.out.size
theorem known_yes (i : Nat) (hi : i < 2) (w : World) : Calls Try.prog 26 #[.int .i64 (i : Int)] w fun e w' => e = .returned (.bool true) ∧ w = w' := by
  have h0 : (0 : Int) ≤ (i : Int) := by omega
  have h1 : (i : Int) < 2 := by omega
  go_enter Try.func26, Try.ntmps26
  go_wp2
  go_ret
  exact ⟨rfl, rfl⟩
theorem known_no (i : Int) (hi : ¬ (0 ≤ i ∧ i < 2)) (w : World) : Calls Try.prog 26 #[.int .i64 i] w fun e w' => e = .returned (.bool false) ∧ w = w' := by
  by_cases h0 : 0 ≤ i
  · have h1 : ¬ i < 2 := by omega
    clear hi
    go_enter Try.func26, Try.ntmps26
    go_wp2
    go_ret
    exact ⟨rfl, rfl⟩
  · clear hi
    go_enter Try.func26, Try.ntmps26
    go_wp2
    go_ret
    exact ⟨rfl, rfl⟩
end Go.Proofs.Ytblnmddphichgaa.Mp
