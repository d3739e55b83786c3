/-
  Own text: what a sender's calls promise, over a predicate on the world (the layout fills it in); the law's awake, walked over it.
-/
import Derived.Test.YtblnmddphichgaaMoM
import Derived.Test.YtblnmddphichgaaForm7
import Derived.Test.YtblnmddphichgaaClB
namespace Go.Proofs.Ytblnmddphichgaa.Mp
open Go.RowKit

def Sd.new (ses : Nat) (r b : Int) (room : Nat) : Sd := ⟨fun _ => Pn.zero, ses, 0, Bk.new r b, ⟨room, 0, []⟩, 0, 0⟩
theorem Sd.new_fit {ses room : Nat} {r b : Int} (hs : ses < 4294967296) (h : okB r b = true) (h1 : 1 ≤ room) (h2 : room ≤ 256) : (Sd.new ses r b room).fit 0 :=
  ⟨fun _ _ => Pn.zero_fit, hs, (by decide : (0 : Nat) < 4294967296), Bk.new_fit h, ⟨h1, h2, Nat.zero_le _, Nat.le_refl _, fun x hx => (by cases hx), List.Pairwise.nil, List.Pairwise.nil⟩, Nat.le_refl _, Nat.le_refl _⟩
/-- It reads as something that may go. -/
def Rd (w : World) (d : Dg) : Prop := (d.dl ≤ 1200 ∧ d.dl ≤ d.dc ∧ (d.da = none → d.dc = 0)) ∧ ∃ l, Bytes w d.da d.dl l ∧ chk d l = 0
/-- The same one, its bytes elsewhere. -/
def Dg.moved (d : Dg) (da : Option Addr) (dc : Nat) : Dg := ⟨d.kind, d.ses, d.seq, d.path, d.tick, d.A, d.B, d.K, d.M, d.ix, da, d.dl, dc⟩
/-- It is that one, with bytes of its own. -/
structure Like (w w' : World) (o o' : On) : Prop where
  i : o'.i = o.i
  d : o'.d = Dg.moved o.d o'.d.da o'.d.dc
  b : ∀ l, Bytes w o.d.da o.d.dl l → Bytes w' o'.d.da o.d.dl l
/-- A row of such ones, one for each. -/
def Likes (w w' : World) (l l' : List On) : Prop := l'.length = l.length ∧ ∀ (i : Nat) (o : On), l[i]? = some o → ∃ o', l'[i]? = some o' ∧ Like w w' o o' ∧ Rd w' o'.d ∧ ∀ g, o'.d.da.map Addr.block = some g → w.heap.size ≤ g
/-- What was told: a row of the call's own. -/
def Told (w : World) (B : Nat) (l : List On) (e : Ending) (w' : World) : Prop := ∃ A C l', e = .returned (.slice A l.length C) ∧ Hid (Mo.OwnT w' B (.slice A l.length C) l.length l') ∧ Hid (Likes w w' l l')
/-- What a sender's calls promise. -/
structure Api (SB : World → Nat → Nat → Sd → Prop) : Prop where
  keep : ∀ {w w' : World} {B p : Nat} {s : Sd}, SB w B p s → Below w.heap.size w w' → SB w' B p s
  lo : ∀ {w : World} {B p : Nat} {s : Sd}, SB w B p s → B ≤ w.heap.size
  new_ : ∀ (ses room : Nat) (r b : Int) (w : World), ses < 4294967296 → okB r b = true → 1 ≤ room → room ≤ 256 →
    Calls Try.prog 6 #[.int .u32 (ses : Int), .int .i64 r, .int .i64 b, .int .i64 (room : Int)] w fun e w' => ∃ p, e = .returned (.tuple #[.pointer (some ⟨p, 0, none⟩), .int .i64 0]) ∧ Hid (SB w' w.heap.size p (Sd.new ses r b room)) ∧ Hid (Below w.heap.size w w')
  push : ∀ {w : World} {B p k : Nat} {s : Sd} (r : Int) (d : Dg) (l : List Int), SB w B p s → s.fit k → k ≤ 1000000 → Bytes w d.da d.dl l → d.dl ≤ d.dc → (d.da = none → d.dc = 0) → chk (s.own d d.da d.dc) l = 0 →
    Calls Try.prog 7 #[.pointer (some ⟨p, 0, none⟩), .int .i64 r, d.val] w fun e w' => e = .returned (.int .i64 0) ∧ Hid (∃ da dc, SB w' B p (s.push r (s.own d da dc))) ∧ Hid (Below B w w')
  push_no : ∀ {w : World} {B p k : Nat} {s : Sd} (r : Int) (d : Dg) (l : List Int), SB w B p s → s.fit k → k ≤ 1000000 → Bytes w d.da d.dl l → d.dl ≤ d.dc → (d.da = none → d.dc = 0) → chk (s.own d d.da d.dc) l ≠ 0 →
    Calls Try.prog 7 #[.pointer (some ⟨p, 0, none⟩), .int .i64 r, d.val] w fun e w' => e = .returned (.int .i64 (chk (s.own d d.da d.dc) l)) ∧ Hid (SB w' B p s) ∧ Hid (Below B w w')
  tick : ∀ {w : World} {B p k : Nat} {s : Sd}, SB w B p s → s.fit k → k ≤ 1000000 →
    Calls Try.prog 8 #[.pointer (some ⟨p, 0, none⟩)] w fun e w' => Told w B s.tick.1 e w' ∧ Hid (SB w' B p s.tick.2) ∧ Hid (Below B w w')
  flush : ∀ {w : World} {B p k : Nat} {s : Sd}, SB w B p s → s.fit k → k ≤ 1000000 →
    Calls Try.prog 9 #[.pointer (some ⟨p, 0, none⟩)] w fun e w' => Told w B s.flush.1 e w' ∧ Hid (SB w' B p s.flush.2) ∧ Hid (Below B w w')
  waiting : ∀ {w : World} {B p : Nat} {s : Sd}, SB w B p s →
    Calls Try.prog 13 #[.pointer (some ⟨p, 0, none⟩)] w fun e w' => e = .returned (.int .i64 (s.q.l.length : Int)) ∧ w = w'
/-- A datagram that bears nothing but a number: a KindCheck (6) or a KindKeep (7). -/
def plainD (kind A : Int) : Dg := ⟨kind, 0, 0, 0, 0, A, 0, 0, 0, 0, none, 0, 0⟩
theorem chk_plain (s : Sd) (kind A : Int) (da : Option Addr) (dc : Nat) (l : List Int) (h : kind = 6 ∨ (kind = 7 ∧ A = 0)) : chk (s.own (plainD kind A) da dc) l = 0 := by
  unfold chk
  have hk : (s.own (plainD kind A) da dc).kind = kind := rfl
  rw [if_neg (by rw [hk]; omega), if_neg]
  refine not_not_intro ⟨Int.le_refl 0, (by decide : (0 : Int) < 2), ?_⟩
  have hb : bareB (s.own (plainD kind A) da dc) = true := decide_eq_true ⟨rfl, rfl, rfl⟩
  rcases h with rfl | ⟨rfl, rfl⟩
  · exact .inr (.inr (.inr (.inr (.inr (.inr ⟨.inr rfl, hb, rfl⟩)))))
  · exact .inr (.inr (.inr (.inr (.inr (.inl ⟨rfl, hb, rfl, rfl, rfl⟩)))))
theorem push_list (s : Sd) (r : Int) (d : Dg) (h : s.q.l.length < s.q.room) : (s.push r d).q.l.length = s.q.l.length + 1 ∧ (s.push r d).q.pushed = s.q.pushed + 1 ∧ (s.push r d).q.room = s.q.room ∧ ∀ x ∈ (s.push r d).q.l, x ∈ s.q.l ∨ x = ⟨r, (s.q.pushed : Int), d⟩ := by
  have e : (s.push r d).q = ⟨s.q.room, s.q.pushed + 1, s.q.ins r d⟩ := by
    show s.q.push r d = _
    unfold Mq.Qn.push
    rw [if_pos h]
  rw [e]
  exact ⟨s.q.ins_length r d, rfl, rfl, s.q.ins_mem r d⟩
end Go.Proofs.Ytblnmddphichgaa.Mp
