/-
  Own text: slices of bytes that the call itself made, and what is appended to them.
  Own text: slices.Clone of bytes, walked (cut out of MRank); wire.Size, walked.
  Own text: what a sender's calls promise, over a predicate on the world (the layout fills it in); the law's awake, walked over it.
    what a sender's calls promise, with the set of blocks that it owns; the weaker promises of MpA out of them.
    apart (a copy of a datagram with bytes of its own), known, walked.
  Own text: the law's awake of layer 15, walked over what a sender's calls promise.
  Own text: law MpathFirst, walked over what a sender's calls promise.
  Own text: the law's sizes, three numbers by value, opened.
-/
import Derived.Test.YtldhlknmabpanaaGreatK01
import Derived.Test.YtldhlknmabpanaaGreatK11
import Derived.Test.YtldhlknmabpanaaGreatK10
import Derived.Test.YtldhlknmabpanaaGreatK12
import Derived.Test.YtldhlknmabpanaaGreatK09
import Derived.Laws.AppendOwn
import Derived.Laws.AppendOwnNone
import Derived.Deep.RegionHeld3
import Derived.StillTailTactics
import Derived.Lib.SliceRun
import Derived.Deep.DeepCutAuto
import Derived.ShutString
import Derived.ChangeOld
namespace Go.Proofs.YtldhlknmabpanaaGreat
open Go.RowKit

/-- A slice of bytes of the call's own, in a block from 'base' on. -/
def Own8 (w : World) (base : Nat) (v : Value) (n : Nat) (l : List Int) : Prop := w.ownsRow base 5 1 v n (l.map (Value.int .u8))
theorem Own8.length {w : World} {base : Nat} {v : Value} {n : Nat} {l : List Int} (h : Own8 w base v n l) : l.length = n := by
  have := h.1; simpa using this
theorem Own8.slice {w : World} {base : Nat} {v : Value} {n : Nat} {l : List Int} (h : Own8 w base v n l) : ∃ A C, v = .slice A n C ∧ n ≤ C ∧ C ≤ maxLen := by
  rcases h.2 with ⟨rfl, rfl⟩ | ⟨g, cap, cur, rfl, _, _, h1, h2, _⟩
  · exact ⟨_, _, rfl, Nat.le_refl _, Nat.zero_le _⟩
  · exact ⟨_, _, rfl, h1, h2⟩
theorem Own8.bytes {w : World} {base : Nat} {A : Option Addr} {n C : Nat} {l : List Int} (h : Own8 w base (.slice A n C) n l) (hz : ∀ z ∈ l, 0 ≤ z ∧ z ≤ 255) : Bytes w A n l := by
  have hl := h.length
  have hn : n ≤ 9223372036854775807 := by
    obtain ⟨A', C', e, h1, h2⟩ := h.slice
    unfold maxLen at h2
    simp at e
    omega
  refine ⟨hl, hn, fun i hi => ?_, ?_⟩
  · rw [List.getD_eq_getElem?_getD, List.getElem?_eq_getElem (by omega)]; exact hz _ (List.getElem_mem _)
  · by_cases h0 : n = 0
    · exact .inl h0
    · rcases h.2 with ⟨e, rfl⟩ | ⟨g, cap, cur, e, _, hg, _, _, _, _⟩
      · omega
      · simp only [Value.slice.injEq, true_and] at e
        obtain ⟨rfl, rfl⟩ := e
        refine .inr ⟨by omega, g, 0, rfl, ?_, fun i hi => ?_⟩
        · obtain ⟨h1, _⟩ := Array.getElem?_eq_some_iff.1 hg
          exact h1
        · have := World.ownsRow.cellAt h i (by omega)
          rw [Nat.zero_add, this, List.getElem?_map, List.getD_eq_getElem?_getD, List.getElem?_eq_getElem (by omega)]
          rfl
theorem Own8.lit (w : World) (base : Nat) (h : base ≤ w.heap.size) : Own8 (w.alloc (.cells #[] 5)) base (.slice (some ⟨w.heap.size, 0, none⟩) 0 0) 0 [] :=
  World.ownsRow_lit (base := base) (e := 5) (size := 1) w #[] 0 h (Nat.zero_le _) rfl
theorem Own8.row {w : World} {base b n : Nat} {l : List Int} (h : Row8 w b 5 l) (hb : base ≤ b) (hn : l.length = n) (hm : n ≤ maxLen) : Own8 w base (.slice (some ⟨b, 0, none⟩) n n) n l :=
  ⟨by simp [hn], .inr ⟨b, n, _, rfl, hb, h, Nat.le_refl _, hm, by simp [hn], by rw [List.take_of_length_le (by simp [hn])]⟩⟩
theorem Own8.below {w w' : World} {base B : Nat} {v : Value} {n : Nat} {l : List Int} (h : Own8 w base v n l) (hb : Below B w w') (hB : w.heap.size ≤ B) : Own8 w' base v n l := by
  refine ⟨h.1, h.2.imp id ?_⟩
  rintro ⟨g, cap, cur, e, h1, hg, h2⟩
  refine ⟨g, cap, cur, e, h1, ?_, h2⟩
  obtain ⟨h3, _⟩ := Array.getElem?_eq_some_iff.1 hg
  rw [hb.block g (by omega)]
  exact hg
theorem Own8.ownBlock {w : World} {base : Nat} {v : Value} {n : Nat} {l : List Int} (h : Own8 w base v n l) : ∀ k, v.ownBlock = some k → base ≤ k := by
  intro k hk
  rcases h.2 with ⟨rfl, rfl⟩ | ⟨g, cap, cur, rfl, h1, _⟩
  · simp [Value.ownBlock] at hk
  · simp [Value.ownBlock] at hk; omega
theorem info_u8 : (Tryz.prog.info? 5).map (fun i => (i.zero, i.size, i.bytes)) = some (some (.int .u8 0), 1, 1) := by kernel_rfl
/-- Bytes are appended to a slice of the call's own. -/
theorem wp_append_bytes {w : World} {o : Oper} {a : Act} {K : Act → World → Prop} {Q : Exit → Act → World → Prop} (s x : Operand)
    (ho : o.op = .call { callee := .builtin .append, args := #[s, x], argTypes := #[48, 48] })
    (base : Nat) (dp : Option Addr) (n dC : Nat) (hs : a.eval s = .slice dp n dC) (l : List Int) (hown : Own8 w base (.slice dp n dC) n l)
    (sp : Option Addr) (m c : Nat) (hx : a.eval x = .slice sp m c) (y : List Int) (hy : Bytes w sp m y) (hnil : sp = none → c = 0) (hb : n + m ≤ 1000000) (B : Nat) (w0 : World) (hB : Below B w0 w) (hBb : B ≤ base) (hbase : base ≤ w.heap.size)
    (N : Nat) (hN : N = n + m) (L : List Int) (hL : L = l ++ y) (h : ∀ A C w', Hid (Own8 w' base (.slice A N C) N L) → Below B w0 w' → K (a.put o.dst (.slice A N C)) w') :
    o.wp Tryz.prog a w K Q := by
  subst hN hL
  obtain ⟨i, hi, hzz⟩ := Option.map_eq_some_iff.1 info_u8
  simp only [Prod.mk.injEq] at hzz
  obtain ⟨hz, hsz, hby⟩ := hzz
  cases sp with
  | none =>
    have hm : m = 0 := by
      rcases hy.cell with h | ⟨_, b, off, e, _⟩
      · exact h
      · simp at e
    subst hm
    have hc : c = 0 := hnil rfl
    subst hc
    have hy0 : y = [] := List.eq_nil_of_length_eq_zero hy.size
    subst hy0
    have hrun := run_append_owned_none (P := Tryz.prog) (w := w) base 48 o.type 5 i 1 Tryz.underlying48 hi _ n _ hown
    unfold Oper.wp
    simp [execOp, ho, resolve, invoke, builtin, hs, hx, hrun, Result.andThen]
    have h1 := h dp dC w (Lib.hid (by simpa using hown)) hB
    rw [Nat.add_zero] at h1
    exact h1
  | some ad =>
    have sy := hy.size
    refine wp_append_own w s x 48 ho base 5 i (.int .u8 0) 1 1 Tryz.underlying48 hi hz hsz hby rfl (by omega) _ n _ hs hown ad m c (y.map (Value.int .u8)) hx (by simp [sy]) ?_ ?_ (by unfold maxLen; omega) (by omega) hbase ?_
    · intro j u hu
      have hj : j < m := by
        rcases Nat.lt_or_ge j m with g | g
        · exact g
        · rw [List.getElem?_eq_none (by simp [sy]; exact g)] at hu; simp at hu
      rcases hy.cell with h | ⟨_, b, off, e, _, hc⟩
      · omega
      · simp only [Option.some.injEq] at e
        subst e
        have e : (⟨b, off, none⟩ : Addr).add j = ⟨b, off + j, none⟩ := by unfold Addr.add; split <;> simp_all
        rw [e, hc j hj, ← hu, List.getElem?_map, List.getD_eq_getElem?_getD, List.getElem?_eq_getElem (by omega)]
        rfl
    · intro u hu
      obtain ⟨z, _, rfl⟩ := List.mem_map.1 hu
      rfl
    · intro v' w' h1 h2 _
      have h3 : Own8 w' base v' (n + m) (l ++ y) := by unfold Own8; rw [List.map_append]; exact h1
      obtain ⟨A, C, rfl, _, _⟩ := h3.slice
      exact h A C w' (Lib.hid h3) (below_grown hB h2 (by omega) (fun k hk => Nat.le_trans hBb (hown.ownBlock k hk)))
theorem wpList_append_bytes {w : World} {ops : Array Oper} {rest : List Oper} {o : Oper} {a : Act} {Q : Exit → Act → World → Prop} (hgd : o.guard = none) (s x : Operand)
    (ho : o.op = .call { callee := .builtin .append, args := #[s, x], argTypes := #[48, 48] })
    (base : Nat) (dp : Option Addr) (n dC : Nat) (hs : a.eval s = .slice dp n dC) (l : List Int) (hown : Own8 w base (.slice dp n dC) n l)
    (sp : Option Addr) (m c : Nat) (hx : a.eval x = .slice sp m c) (y : List Int) (hy : Bytes w sp m y) (hnil : sp = none → c = 0) (hb : n + m ≤ 1000000) (B : Nat) (w0 : World) (hB : Below B w0 w) (hBb : B ≤ base) (hbase : base ≤ w.heap.size)
    (N : Nat) (hN : N = n + m) (L : List Int) (hL : L = l ++ y) (h : ∀ A C w', Hid (Own8 w' base (.slice A N C) N L) → Below B w0 w' → wpList Tryz.prog ops Q rest (a.put o.dst (.slice A N C)) w') :
    wpList Tryz.prog ops Q (o :: rest) a w :=
  wpList_plain hgd fun _ hK => wp_append_bytes s x ho base dp n dC hs l hown sp m c hx y hy hnil hb B w0 hB hBb hbase N hN L hL fun A C w' h1 h2 => hK _ _ (h A C w' h1 h2)
end Go.Proofs.YtldhlknmabpanaaGreat
namespace Go.Proofs.YtldhlknmabpanaaGreat.Mp
open Go.RowKit

/-- A slice of the call's own is handed back. -/
def Cloned (n : Nat) (L : List Int) (w : World) (e : Ending) (w' : World) : Prop := ∃ A C, e = .returned (.slice A n C) ∧ Own8 w' w.heap.size (.slice A n C) n L ∧ Below w.heap.size w w'
theorem own8_none (w : World) (base : Nat) : Own8 w base (.slice none 0 0) 0 [] := ⟨rfl, .inl ⟨rfl, rfl⟩⟩
set_option maxRecDepth 100000 in
theorem clone8_any (a : Option Addr) (n c : Nat) (l : List Int) (w : World) (hl : Bytes w a n l) (hc : n ≤ c) (hnil : a = none → c = 0) (hn : n ≤ 100000) :
    Calls Tryz.prog 50 #[.slice a n c] w (Cloned n l w) := by
  have HL := Lib.hid hl
  have HN := Lib.hid hnil
  have hs := hl.size
  have q : ∀ (w : World) (a : Option Addr) (n c n' c' : Nat), (binOp .eql 48 (.slice a n c) (.slice none n' c')).run Tryz.prog w = .ok (.bool a.isNone) w := fun w a n c n' c' => Lib.run_eql_slice_nil w _ _ a n c n' c' Tryz.underlying48
  clear hl hnil
  cases a with
  | none =>
    obtain rfl : c = 0 := HN.out rfl
    obtain rfl : n = 0 := by omega
    obtain rfl : l = [] := List.eq_nil_of_length_eq_zero hs
    go_enter Tryz.func50, Tryz.ntmps50
    go_wp2
    go_ret
    exact ⟨_, _, rfl, own8_none _ _, Below.refl _ _⟩
  | some x =>
    have HW := Lib.hid (Own8.lit w w.heap.size (Nat.le_refl _))
    have HB0 : Hid (Below w.heap.size w (w.alloc (.cells #[] 5))) := Lib.hid ((Below.refl _ w).alloc (Nat.le_refl _) _)
    have HY : Hid (Bytes (w.alloc (.cells #[] 5)) (some x) n l) := Lib.hid (HL.out.below HB0.out (Nat.le_refl _))
    have H6 : Hid (0 + n ≤ 1000000) := Lib.hid (by omega)
    have H7 : Hid (w.heap.size ≤ (w.alloc (.cells #[] 5)).heap.size) := Lib.hid (by simp)
    have H8 : Hid (n = 0 + n) := Lib.hid (by omega)
    clear hs
    go_enter Tryz.func50, Tryz.ntmps50
    go_wp2_with ((with_reducible refine wpList_append_bytes (w := w.alloc _) rfl (.tmp 5) (.tmp 6) rfl w.heap.size _ _ _ rfl [] HW.out _ _ _ rfl l HY.out HN.out H6.out w.heap.size w HB0.out (Nat.le_refl _) H7.out n H8.out l rfl ?_); intro A C w1 hown hb; have HO := hown; have HB := Lib.hid hb; clear hown hb)
    go_ret
    exact ⟨_, _, rfl, HO.out, HB.out⟩
theorem size_any (d : Dg) (hd : d.dl ≤ 100000) (w : World) :
    Calls Tryz.prog 19 #[d.val] w fun e w' => e = .returned (.int .i64 (33 + (d.dl : Int))) ∧ Below w.heap.size w w' := by
  have h : (d.dl : Int) ≤ 100000 := by omega
  clear hd
  go_enter Tryz.func19, Tryz.ntmps19
  go_wp2
  go_ret
  exact ⟨rfl, (Below.refl w.heap.size w).alloc (Nat.le_refl _) _⟩
end Go.Proofs.YtldhlknmabpanaaGreat.Mp
namespace Go.Proofs.YtldhlknmabpanaaGreat.Mp
open Go.RowKit

def Sd.new (ses : Nat) (r b : Int) (room : Nat) : Sd := ⟨fun _ => Pn.zero, ses, 0, Bk.new r b, ⟨room, 0, []⟩, 0, 0⟩
theorem Sd.new_fit {ses room : Nat} {r b : Int} (hs : ses < 4294967296) (h : okB r b = true) (h1 : 1 ≤ room) (h2 : room ≤ 256) : (Sd.new ses r b room).fit 0 :=
  ⟨fun _ _ => Pn.zero_fit, hs, (by decide : (0 : Nat) < 4294967296), Bk.new_fit h, ⟨h1, h2, Nat.zero_le _, Nat.le_refl _, fun x hx => (by cases hx), List.Pairwise.nil, List.Pairwise.nil⟩, Nat.le_refl _, Nat.le_refl _⟩
/-- It reads as something that may go. -/
def Rd (w : World) (d : Dg) : Prop := (d.dl ≤ 1200 ∧ d.dl ≤ d.dc ∧ (d.da = none → d.dc = 0)) ∧ ∃ l, Bytes w d.da d.dl l ∧ chk d l = 0
/-- The same one, its bytes elsewhere. -/
def Dg.moved (d : Dg) (da : Option Addr) (dc : Nat) : Dg := ⟨d.kind, d.ses, d.seq, d.path, d.tick, d.A, d.B, d.K, d.M, d.ix, da, d.dl, dc⟩
/-- It is that one, with bytes of its own. -/
structure Like (w w' : World) (o o' : On) : Prop where
  i : o'.i = o.i
  d : o'.d = Dg.moved o.d o'.d.da o'.d.dc
  b : ∀ l, Bytes w o.d.da o.d.dl l → Bytes w' o'.d.da o.d.dl l
/-- A row of such ones, one for each. -/
def Likes (w w' : World) (l l' : List On) : Prop := l'.length = l.length ∧ ∀ (i : Nat) (o : On), l[i]? = some o → ∃ o', l'[i]? = some o' ∧ Like w w' o o' ∧ Rd w' o'.d ∧ ∀ g, o'.d.da.map Addr.block = some g → w.heap.size ≤ g
/-- What was told: a row of the call's own. -/
def Told (w : World) (B : Nat) (l : List On) (e : Ending) (w' : World) : Prop := ∃ A C l', e = .returned (.slice A l.length C) ∧ Hid (Mo.OwnT w' B (.slice A l.length C) l.length l') ∧ Hid (Likes w w' l l')
/-- What a sender's calls promise. -/
structure Api (SB : World → Nat → Nat → Sd → Prop) : Prop where
  keep : ∀ {w w' : World} {B p : Nat} {s : Sd}, SB w B p s → Below w.heap.size w w' → SB w' B p s
  lo : ∀ {w : World} {B p : Nat} {s : Sd}, SB w B p s → B ≤ w.heap.size
  new_ : ∀ (ses room : Nat) (r b : Int) (w : World), ses < 4294967296 → okB r b = true → 1 ≤ room → room ≤ 256 →
    Calls Tryz.prog 6 #[.int .u32 (ses : Int), .int .i64 r, .int .i64 b, .int .i64 (room : Int)] w fun e w' => ∃ p, e = .returned (.tuple #[.pointer (some ⟨p, 0, none⟩), .int .i64 0]) ∧ Hid (SB w' w.heap.size p (Sd.new ses r b room)) ∧ Hid (Below w.heap.size w w')
  push : ∀ {w : World} {B p k : Nat} {s : Sd} (r : Int) (d : Dg) (l : List Int), SB w B p s → s.fit k → k ≤ 1000000 → Bytes w d.da d.dl l → d.dl ≤ d.dc → (d.da = none → d.dc = 0) → chk (s.own d d.da d.dc) l = 0 →
    Calls Tryz.prog 7 #[.pointer (some ⟨p, 0, none⟩), .int .i64 r, d.val] w fun e w' => e = .returned (.int .i64 0) ∧ Hid (∃ da dc, SB w' B p (s.push r (s.own d da dc))) ∧ Hid (Below B w w')
  push_no : ∀ {w : World} {B p k : Nat} {s : Sd} (r : Int) (d : Dg) (l : List Int), SB w B p s → s.fit k → k ≤ 1000000 → Bytes w d.da d.dl l → d.dl ≤ d.dc → (d.da = none → d.dc = 0) → chk (s.own d d.da d.dc) l ≠ 0 →
    Calls Tryz.prog 7 #[.pointer (some ⟨p, 0, none⟩), .int .i64 r, d.val] w fun e w' => e = .returned (.int .i64 (chk (s.own d d.da d.dc) l)) ∧ Hid (SB w' B p s) ∧ Hid (Below B w w')
  tick : ∀ {w : World} {B p k : Nat} {s : Sd}, SB w B p s → s.fit k → k ≤ 1000000 →
    Calls Tryz.prog 35 #[.pointer (some ⟨p, 0, none⟩)] w fun e w' => Told w B s.tick.1 e w' ∧ Hid (SB w' B p s.tick.2) ∧ Hid (Below B w w')
  flush : ∀ {w : World} {B p k : Nat} {s : Sd}, SB w B p s → s.fit k → k ≤ 1000000 →
    Calls Tryz.prog 8 #[.pointer (some ⟨p, 0, none⟩)] w fun e w' => Told w B s.flush.1 e w' ∧ Hid (SB w' B p s.flush.2) ∧ Hid (Below B w w')
  waiting : ∀ {w : World} {B p : Nat} {s : Sd}, SB w B p s →
    Calls Tryz.prog 9 #[.pointer (some ⟨p, 0, none⟩)] w fun e w' => e = .returned (.int .i64 (s.q.l.length : Int)) ∧ w = w'
/-- A datagram that bears nothing but a number: a KindCheck (6) or a KindKeep (7). -/
def plainD (kind A : Int) : Dg := ⟨kind, 0, 0, 0, 0, A, 0, 0, 0, 0, none, 0, 0⟩
theorem chk_plain (s : Sd) (kind A : Int) (da : Option Addr) (dc : Nat) (l : List Int) (h : kind = 6 ∨ (kind = 7 ∧ A = 0)) : chk (s.own (plainD kind A) da dc) l = 0 := by
  unfold chk
  have hk : (s.own (plainD kind A) da dc).kind = kind := rfl
  rw [if_neg (by rw [hk]; omega), if_neg]
  refine not_not_intro ⟨Int.le_refl 0, (by decide : (0 : Int) < 2), ?_⟩
  have hb : bareB (s.own (plainD kind A) da dc) = true := decide_eq_true ⟨rfl, rfl, rfl⟩
  rcases h with rfl | ⟨rfl, rfl⟩
  · exact .inr (.inr (.inr (.inr (.inr (.inr ⟨.inr rfl, hb, rfl⟩)))))
  · exact .inr (.inr (.inr (.inr (.inr (.inl ⟨rfl, hb, rfl, rfl, rfl⟩)))))
theorem push_list (s : Sd) (r : Int) (d : Dg) (h : s.q.l.length < s.q.room) : (s.push r d).q.l.length = s.q.l.length + 1 ∧ (s.push r d).q.pushed = s.q.pushed + 1 ∧ (s.push r d).q.room = s.q.room ∧ ∀ x ∈ (s.push r d).q.l, x ∈ s.q.l ∨ x = ⟨r, (s.q.pushed : Int), d⟩ := by
  have e : (s.push r d).q = ⟨s.q.room, s.q.pushed + 1, s.q.ins r d⟩ := by
    show s.q.push r d = _
    unfold Mq.Qn.push
    rw [if_pos h]
  rw [e]
  exact ⟨s.q.ins_length r d, rfl, rfl, s.q.ins_mem r d⟩
end Go.Proofs.YtldhlknmabpanaaGreat.Mp
namespace Go.Proofs.YtldhlknmabpanaaGreat.Mp
open Go.RowKit

/-- What a call may turn: the blocks of a set, and what is new. -/
structure Fr (S : Nat → Prop) (w w' : World) : Prop where
  os : w'.os = w.os
  tape : w'.tape = w.tape
  output : w'.output = w.output
  size : w.heap.size ≤ w'.heap.size
  block : ∀ k, k < w.heap.size → ¬ S k → w'.heap[k]? = w.heap[k]?
theorem Fr.below {S : Nat → Prop} {w w' : World} {B : Nat} (h : Fr S w w') (hS : ∀ k, S k → B ≤ k) (hB : B ≤ w.heap.size) : Below B w w' :=
  ⟨h.os, h.tape, h.output, h.size, fun k hk => h.block k (by omega) (fun hs => by have := hS k hs; omega)⟩
/-- A row that was told is new, and what it bears is new, too. -/
def Told2 (w : World) (l : List On) (e : Ending) (w' : World) : Prop :=
  ∃ A C l', e = .returned (.slice A l.length C) ∧ Hid (Mo.OwnT w' w.heap.size (.slice A l.length C) l.length l') ∧ Hid (Likes w w' l l')
/-- Behind a call: the numbers, in a set that grew by new blocks alone. -/
def After (SB : World → (Nat → Prop) → Nat → Sd → Prop) (w : World) (S : Nat → Prop) (p : Nat) (s : Sd) (w' : World) : Prop :=
  (∃ S', SB w' S' p s ∧ ∀ k, S' k → S k ∨ w.heap.size ≤ k) ∧ Fr S w w'
structure Api2 (SB : World → (Nat → Prop) → Nat → Sd → Prop) : Prop where
  keep : ∀ {w w' : World} {S : Nat → Prop} {p : Nat} {s : Sd}, SB w S p s → (∀ k, S k → w'.heap[k]? = w.heap[k]?) → w.heap.size ≤ w'.heap.size → SB w' S p s
  lt : ∀ {w : World} {S : Nat → Prop} {p : Nat} {s : Sd}, SB w S p s → ∀ k, S k → k < w.heap.size
  new_ : ∀ (ses room : Nat) (r b : Int) (w : World), ses < 4294967296 → okB r b = true → 1 ≤ room → room ≤ 256 →
    Calls Tryz.prog 6 #[.int .u32 (ses : Int), .int .i64 r, .int .i64 b, .int .i64 (room : Int)] w fun e w' => ∃ p, e = .returned (.tuple #[.pointer (some ⟨p, 0, none⟩), .int .i64 0]) ∧ Hid (After SB w (fun _ => False) p (Sd.new ses r b room) w')
  push : ∀ {w : World} {S : Nat → Prop} {p k : Nat} {s : Sd} (r : Int) (d : Dg) (l : List Int), SB w S p s → s.fit k → k ≤ 1000000 → Bytes w d.da d.dl l → d.dl ≤ d.dc → (d.da = none → d.dc = 0) → chk (s.own d d.da d.dc) l = 0 →
    Calls Tryz.prog 7 #[.pointer (some ⟨p, 0, none⟩), .int .i64 r, d.val] w fun e w' => e = .returned (.int .i64 0) ∧ Hid (∃ da dc, After SB w S p (s.push r (s.own d da dc)) w')
  push_no : ∀ {w : World} {S : Nat → Prop} {p k : Nat} {s : Sd} (r : Int) (d : Dg) (l : List Int), SB w S p s → s.fit k → k ≤ 1000000 → Bytes w d.da d.dl l → d.dl ≤ d.dc → (d.da = none → d.dc = 0) → chk (s.own d d.da d.dc) l ≠ 0 →
    Calls Tryz.prog 7 #[.pointer (some ⟨p, 0, none⟩), .int .i64 r, d.val] w fun e w' => e = .returned (.int .i64 (chk (s.own d d.da d.dc) l)) ∧ Hid (After SB w S p s w')
  tick : ∀ {w : World} {S : Nat → Prop} {p k : Nat} {s : Sd}, SB w S p s → s.fit k → k ≤ 1000000 →
    Calls Tryz.prog 35 #[.pointer (some ⟨p, 0, none⟩)] w fun e w' => Told2 w s.tick.1 e w' ∧ Hid (After SB w S p s.tick.2 w')
  flush : ∀ {w : World} {S : Nat → Prop} {p k : Nat} {s : Sd}, SB w S p s → s.fit k → k ≤ 1000000 →
    Calls Tryz.prog 8 #[.pointer (some ⟨p, 0, none⟩)] w fun e w' => Told2 w s.flush.1 e w' ∧ Hid (After SB w S p s.flush.2 w')
  heard : ∀ {w : World} {S : Nat → Prop} {p k n : Nat} {s : Sd} (i : Int), SB w S p s → s.fit k → k ≤ 1000000 → n < 4294967296 →
    Calls Tryz.prog 37 #[.pointer (some ⟨p, 0, none⟩), .int .i64 i, .int .u32 (n : Int)] w fun e w' => (∃ c : Int, e = .returned (.int .i64 c)) ∧ Hid (After SB w S p (if 0 ≤ i ∧ i < 2 then s.hear i.toNat n else s) w')
  waiting : ∀ {w : World} {S : Nat → Prop} {p : Nat} {s : Sd}, SB w S p s →
    Calls Tryz.prog 9 #[.pointer (some ⟨p, 0, none⟩)] w fun e w' => e = .returned (.int .i64 (s.q.l.length : Int)) ∧ w = w'
/-- All that it owns lies from a place on. -/
def SBB (SB : World → (Nat → Prop) → Nat → Sd → Prop) (w : World) (B p : Nat) (s : Sd) : Prop := ∃ S, SB w S p s ∧ (∀ k, S k → B ≤ k) ∧ B ≤ w.heap.size
theorem After.sbb {SB : World → (Nat → Prop) → Nat → Sd → Prop} {w w' : World} {S : Nat → Prop} {p B : Nat} {s : Sd} (h : After SB w S p s w') (hS : ∀ k, S k → B ≤ k) (hB : B ≤ w.heap.size) : SBB SB w' B p s ∧ Below B w w' := by
  obtain ⟨⟨S', h1, h2⟩, h3⟩ := h
  refine ⟨⟨S', h1, fun k hk => ?_, Nat.le_trans hB h3.size⟩, h3.below hS hB⟩
  rcases h2 k hk with h | h
  · exact hS k h
  · omega
theorem own_low {w : World} {B B' n : Nat} {v : Value} {l : List On} (h : Mo.OwnT w B v n l) (hB : B' ≤ B) : Mo.OwnT w B' v n l := Mo.OwnT.low h hB
theorem Told2.told {w w' : World} {l : List On} {e : Ending} {B : Nat} (h : Told2 w l e w') (hB : B ≤ w.heap.size) : Told w B l e w' := by
  obtain ⟨A, C, l', h1, h2, h3⟩ := h
  exact ⟨A, C, l', h1, Lib.hid (own_low h2.out hB), h3⟩
theorem Api2.api {SB : World → (Nat → Prop) → Nat → Sd → Prop} (api : Api2 SB) : Api (SBB SB) where
  keep := fun ⟨S, h1, h2, h3⟩ hb => ⟨S, api.keep h1 (fun k hk => hb.block k (api.lt h1 k hk)) hb.size, h2, Nat.le_trans h3 hb.size⟩
  lo := fun ⟨_, _, _, h⟩ => h
  new_ := fun ses room r b w h1 h2 h3 h4 => (api.new_ ses room r b w h1 h2 h3 h4).mono fun e w' ⟨p, he, ha⟩ => by
    have := ha.out.sbb (B := w.heap.size) (fun k hk => hk.elim) (Nat.le_refl _)
    exact ⟨p, he, Lib.hid this.1, Lib.hid this.2⟩
  push := fun r d l ⟨S, h1, h2, h3⟩ hf hk hl hle hn hc => (api.push r d l h1 hf hk hl hle hn hc).mono fun e w' ⟨he, ha⟩ => by
    obtain ⟨da, dc, ha⟩ := ha.out
    have := ha.sbb h2 h3
    exact ⟨he, Lib.hid ⟨da, dc, this.1⟩, Lib.hid this.2⟩
  push_no := fun r d l ⟨S, h1, h2, h3⟩ hf hk hl hle hn hc => (api.push_no r d l h1 hf hk hl hle hn hc).mono fun e w' ⟨he, ha⟩ => by
    have := ha.out.sbb h2 h3
    exact ⟨he, Lib.hid this.1, Lib.hid this.2⟩
  tick := fun ⟨S, h1, h2, h3⟩ hf hk => (api.tick h1 hf hk).mono fun e w' ⟨ht, ha⟩ => by
    have := ha.out.sbb h2 h3
    exact ⟨ht.told h3, Lib.hid this.1, Lib.hid this.2⟩
  flush := fun ⟨S, h1, h2, h3⟩ hf hk => (api.flush h1 hf hk).mono fun e w' ⟨ht, ha⟩ => by
    have := ha.out.sbb h2 h3
    exact ⟨ht.told h3, Lib.hid this.1, Lib.hid this.2⟩
  waiting := fun ⟨_, h1, _, _⟩ => api.waiting h1
end Go.Proofs.YtldhlknmabpanaaGreat.Mp
namespace Go.Proofs.YtldhlknmabpanaaGreat.Mp
open Go.RowKit

theorem own8_block {w : World} {base n C : Nat} {A : Option Addr} {l : List Int} (h : Own8 w base (.slice A n C) n l) : ∀ g, A.map Addr.block = some g → base ≤ g ∧ g < w.heap.size := by
  intro g hg
  exact World.ownsRow.lt h g (by cases A with | none => simp at hg | some a => simpa [Value.ownBlock] using hg)
theorem own8_keep {w w' : World} {base n C : Nat} {A : Option Addr} {l : List Int} (h : Own8 w base (.slice A n C) n l) (hk : ∀ g, A.map Addr.block = some g → w'.heap[g]? = w.heap[g]?) : Own8 w' base (.slice A n C) n l := by
  refine ⟨h.1, h.2.imp id ?_⟩
  rintro ⟨g, cap, cur, e, h1, hg, h2⟩
  refine ⟨g, cap, cur, e, h1, (hk g ?_).trans hg, h2⟩
  simp only [Value.slice.injEq] at e
  rw [e.1]
  rfl
theorem own8_low {w : World} {base b n C : Nat} {A : Option Addr} {l : List Int} (h : Own8 w base (.slice A n C) n l) (hb : b ≤ base) : Own8 w b (.slice A n C) n l := by
  refine ⟨h.1, h.2.imp id ?_⟩
  rintro ⟨g, cap, cur, e, h1, h2⟩
  exact ⟨g, cap, cur, e, by omega, h2⟩
theorem own8_nil {w : World} {base n C : Nat} {A : Option Addr} {l : List Int} (h : Own8 w base (.slice A n C) n l) : n ≤ C ∧ (A = none → C = 0) := by
  rcases h.2 with ⟨e, h0⟩ | ⟨g, cap, cur, e, h1, hg, h3, h4, h5⟩
  · simp only [Value.slice.injEq] at e
    exact ⟨by omega, fun _ => e.2.2⟩
  · simp only [Value.slice.injEq] at e
    exact ⟨by omega, fun h => by rw [h] at e; cases e.1⟩
/-- What a copy with bytes of its own is. -/
def Apart (d : Dg) (l : List Int) (w : World) (e : Ending) (w' : World) : Prop := ∃ A C, e = .returned (Dg.moved d A C).val ∧ Hid (Own8 w' w.heap.size (.slice A d.dl C) d.dl l) ∧ Hid (Below w.heap.size w w')
set_option maxRecDepth 100000 in
theorem apart_any (d : Dg) (l : List Int) (w : World) (hl : Bytes w d.da d.dl l) (hle : d.dl ≤ d.dc) (hnil : d.da = none → d.dc = 0) (hsz : d.dl ≤ 100000) :
    Calls Tryz.prog 17 #[d.val] w (Apart d l w) := by
  obtain ⟨W0, hW0⟩ : ∃ W0, W0 = (w.alloc (.cells (Mq.dcells d) 50)).alloc (.cells (Mq.dcells Mq.nil) 50) := ⟨_, rfl⟩
  have HB0 : Hid (Below w.heap.size w W0) := Lib.hid (by rw [hW0]; exact ((Below.refl _ _).alloc (Nat.le_refl _) _).alloc (by simp) _)
  have HD0 : Hid (Lies W0 w.heap.size 0 (Mq.dcells d)) := Lib.hid (by rw [hW0]; exact Lies.new w (Mq.dcells d) _ ((Below.refl _ _).alloc (Nat.le_refl _) _))
  have HR0 : Hid (Lies W0 (w.heap.size + 1) 0 (Mq.dcells Mq.nil)) := Lib.hid (by
    have := Lies.new (w.alloc (.cells (Mq.dcells d) 50)) (Mq.dcells Mq.nil) 50 (Below.refl _ _)
    rw [hW0]
    simpa using this)
  have HS0 : Hid (W0.heap.size = w.heap.size + 2) := Lib.hid (by rw [hW0]; simp)
  have CL := Lib.hid (clone8_any d.da d.dl d.dc l W0 (hl.below HB0.out (Nat.le_refl _)) hle hnil hsz)
  have HW0 := Lib.hid hW0
  have c10 : W0.cell? ⟨w.heap.size, 10, none⟩ = some (.slice d.da d.dl d.dc) := HD0.out.cell 10 (by decide : 10 < 11)
  clear hW0 hl hle hnil hsz
  go_enter Tryz.func17, Tryz.ntmps17
  go_upto_region 1 with fail
  rw [← HW0.out]
  go_upto_region 2 with (first
    | (go_at_call 50; (with_reducible refine (CL.out).mono ?_); rintro e w1 ⟨A, C, rfl, hown, hb⟩; have HO1 := Lib.hid hown; have HB1 := Lib.hid hb; clear hown hb; have HD1 : Hid (Lies w1 w.heap.size 0 (Mq.dcells d)) := Lib.hid (HD0.out.below HB1.out HD0.out.lt); have d10 := HD1.out.cell 10 (by decide : 10 < 11); have df := HD1.out.frozen 10)
    | fail)
  obtain ⟨W2, hW2⟩ : ∃ W2, W2 = w1.setCell ⟨w.heap.size, 10, none⟩ (.slice A d.dl C) := ⟨_, rfl⟩
  have HD2 : Hid (Lies W2 w.heap.size 0 (Mq.dcells (Dg.moved d A C))) := Lib.hid (by rw [hW2]; exact HD1.out.set 10 _)
  have HR2 : Hid (Lies W2 (w.heap.size + 1) 0 (Mq.dcells Mq.nil)) := Lib.hid (by rw [hW2]; exact (HR0.out.below HB1.out HR0.out.lt).other (by show w.heap.size + 1 ≠ w.heap.size; omega) _)
  have HB2 : Hid (Below w.heap.size w W2) := Lib.hid (by rw [hW2]; exact (HB0.out.trans (HB1.out.mono HB0.out.size)).setCell (p := ⟨w.heap.size, 10, none⟩) (Nat.le_refl _) _)
  have HO2 : Hid (Own8 W2 W0.heap.size (.slice A d.dl C) d.dl l) := Lib.hid (by
    rw [hW2]
    exact own8_keep HO1.out (fun g hg => Below.heap_setCell w1 ⟨w.heap.size, 10, none⟩ _ g (by have := (own8_block HO1.out g hg).1; have := HS0.out; show g ≠ w.heap.size; omega)))
  rw [← hW2]
  clear d10 df c10 hW2
  go_wp2_with (first
    | (with_reducible refine wpList_load_lies rfl 50 (.tmp 1) rfl w.heap.size 0 rfl (Mq.dcells (Dg.moved d A C)) HD2.out _ Tryz.underlying50 rfl (Mq.infoC (Dg.moved d A C)) ?_)
    | ((with_reducible refine wpList_store_lies rfl 50 (.tmp 2) (.tmp 7) rfl (w.heap.size + 1) 0 rfl (Mq.dcells (Dg.moved d A C)) rfl (Mq.dcells Mq.nil) HR2.out rfl (Mq.infoC (Dg.moved d A C)) (Mq.dcells_one (Dg.moved d A C)) ?_); intro w3 N1 N2 N3)
    | fail)
  refine bodyPost_ret (v := (Dg.moved d A C).val) (Mq.results_cell0 (p := 2) rfl _ w3 (w.heap.size + 1) _ rfl (Mq.loadv_dg N1.out)) rfl ?_
  refine ⟨A, C, rfl, Lib.hid ?_, Lib.hid (N2.out.bel HB2.out HB2.out.size (Nat.le_succ _))⟩
  exact own8_low (own8_keep HO2.out (fun g hg => N2.out.block g (own8_block HO2.out g hg).2 (by have := (own8_block HO2.out g hg).1; have := HS0.out; omega))) HB0.out.size
theorem known_yes (i : Nat) (hi : i < 2) (w : World) : Calls Tryz.prog 71 #[.int .i64 (i : Int)] w fun e w' => e = .returned (.bool true) ∧ w = w' := by
  have h0 : (0 : Int) ≤ (i : Int) := by omega
  have h1 : (i : Int) < 2 := by omega
  go_enter Tryz.func71, Tryz.ntmps71
  go_wp2
  go_ret
  exact ⟨rfl, rfl⟩
theorem known_no (i : Int) (hi : ¬ (0 ≤ i ∧ i < 2)) (w : World) : Calls Tryz.prog 71 #[.int .i64 i] w fun e w' => e = .returned (.bool false) ∧ w = w' := by
  by_cases h0 : 0 ≤ i
  · have h1 : ¬ i < 2 := by omega
    clear hi
    go_enter Tryz.func71, Tryz.ntmps71
    go_wp2
    go_ret
    exact ⟨rfl, rfl⟩
  · clear hi
    go_enter Tryz.func71, Tryz.ntmps71
    go_wp2
    go_ret
    exact ⟨rfl, rfl⟩
end Go.Proofs.YtldhlknmabpanaaGreat.Mp
namespace Go.Proofs.YtldhlknmabpanaaGreat.Mp
open Go.RowKit

/-- Three signs of life of rank 2 wait. -/
structure Three (s : Sd) (j : Nat) : Prop where
  bk : s.bk = Bk.new 10 66
  room : s.q.room = 9
  len : s.q.l.length = j
  it : ∀ x ∈ s.q.l, x.rank = 2 ∧ x.v.dl = 0
theorem Three.push {s : Sd} {j : Nat} (h : Three s j) (hj : j < 3) (da : Option Addr) (dc : Nat) : Three (s.push 2 (s.own (plainD 7 0) da dc)) (j + 1) := by
  obtain ⟨h1, _, h3, h4⟩ := push_list s 2 (s.own (plainD 7 0) da dc) (by rw [h.len, h.room]; omega)
  refine ⟨h.bk, h3.trans h.room, by rw [h1, h.len], fun x hx => ?_⟩
  rcases h4 x hx with hx | rfl
  · exact h.it x hx
  · exact ⟨rfl, rfl⟩
theorem both_two (s : Sd) : ¬ s.both 2 := by
  intro h
  rcases h.1 with h | h
  · omega
  · omega
theorem need_two (s : Sd) (x : Mq.It) (h : x.rank = 2 ∧ x.v.dl = 0) : s.need x = 33 ∧ (s.goers x).length = 1 := by
  have hm : s.many x.rank (33 + x.v.dl) = 1 := by
    unfold Sd.many
    rw [h.1, if_neg (fun hb => both_two s hb.1)]
  refine ⟨?_, by rw [s.goers_length, hm]⟩
  unfold Sd.need
  rw [hm, h.2]
  rfl
theorem three_flush {s : Sd} (h : Three s 3) : s.flush.1.length = 2 ∧ s.flush.2.q.l.length = 1 := by
  have hb := h.bk
  have hl := h.len
  have hi := h.it
  unfold Sd.flush
  match hq : s.q.l with
  | [] => rw [hq] at hl; simp at hl
  | [_] => rw [hq] at hl; simp at hl
  | [_, _] => rw [hq] at hl; simp at hl
  | _ :: _ :: _ :: _ :: _ => rw [hq] at hl; simp at hl
  | [x, y, z] =>
    rw [hq] at hi
    have hx := need_two s x (hi x (by simp))
    have e1 := first_keep s x [y, z]
    rw [hx.1, hb] at e1
    have hy := need_two (s.first x [y, z]).2 y (hi y (by simp))
    have e2 := first_keep (s.first x [y, z]).2 y [z]
    rw [hy.1, e1.2.1] at e2
    have hz := need_two ((s.first x [y, z]).2.first y [z]).2 z (hi z (by simp))
    have l1 : (s.first x [y, z]).1.length = 1 := by unfold Sd.first; rw [sends_length, hx.2]
    have l2 : ((s.first x [y, z]).2.first y [z]).1.length = 1 := by unfold Sd.first; rw [sends_length]; exact hy.2
    have m1 : (Bk.new 10 66).may 33 = true := by decide
    have m2 : ((Bk.new 10 66).take 33).may 33 = true := by decide
    have m3 : ¬ (((Bk.new 10 66).take 33).take 33).may 33 = true := by decide
    rw [flushL, hx.1, hb, if_pos m1, flushL, hy.1, e1.2.1, if_pos m2, flushL, hz.1, e2.2.1, if_neg m3]
    constructor
    · simp only [List.length_append, l1, l2, List.length_nil]
    · show ((s.first x [y, z]).2.first y [z]).2.q.l.length = 1
      rw [e2.1]
      rfl
set_option maxRecDepth 100000 in
theorem awake15_any {SB : World → Nat → Nat → Sd → Prop} (api : Api SB) (w : World) :
    Calls Tryz.prog 4 #[] w fun e w' => e = .returned (.bool true) ∧ Below w.heap.size w w' := by
  have CN : Hid (∀ w, Calls Tryz.prog 6 #[.int .u32 7, .int .i64 10, .int .i64 66, .int .i64 9] w fun e w' => ∃ p, e = .returned (.tuple #[.pointer (some ⟨p, 0, none⟩), .int .i64 0]) ∧ Hid (SB w' w.heap.size p (Sd.new 7 10 66 9)) ∧ Hid (Below w.heap.size w w')) := Lib.hid (fun w => api.new_ 7 9 10 66 w (by decide) (by decide) (by decide) (by decide))
  have CP : Hid (∀ w' p s j, SB w' w.heap.size p s → s.fit j → j < 3 → Calls Tryz.prog 7 #[.pointer (some ⟨p, 0, none⟩), .int .i64 2, (plainD 7 0).val] w' fun e w'' => e = .returned (.int .i64 0) ∧ Hid (∃ da dc, SB w'' w.heap.size p (s.push 2 (s.own (plainD 7 0) da dc))) ∧ Hid (Below w.heap.size w' w'')) :=
    Lib.hid (fun w' p s j h hf hj => api.push 2 (plainD 7 0) [] h hf (by omega) (Bytes.nil w') (Nat.le_refl _) (fun _ => rfl) (chk_plain s 7 0 _ _ [] (.inr ⟨rfl, rfl⟩)))
  have CF : Hid (∀ w' p s, SB w' w.heap.size p s → s.fit 3 → Calls Tryz.prog 8 #[.pointer (some ⟨p, 0, none⟩)] w' fun e w'' => Told w' w.heap.size s.flush.1 e w'' ∧ Hid (SB w'' w.heap.size p s.flush.2) ∧ Hid (Below w.heap.size w' w'')) := Lib.hid (fun w' p s h hf => api.flush h hf (by decide))
  have CW : Hid (∀ w' p s, SB w' w.heap.size p s → Calls Tryz.prog 9 #[.pointer (some ⟨p, 0, none⟩)] w' fun e w'' => e = .returned (.int .i64 (s.q.l.length : Int)) ∧ w' = w'') := Lib.hid (fun w' p s h => api.waiting h)
  unfold Dg.val plainD at CP
  dsimp only at CP
  go_enter Tryz.func4, Tryz.ntmps4
  go_wp2_with (first
    | (go_at_call 6; (with_reducible refine (CN.out _).mono ?_); rintro e w1 ⟨p, rfl, HS1, HB1⟩)
    | fail)
  go_loopw [3] (fun i wr => ∃ (j : Nat) (s : Sd), j ≤ 3 ∧ i = .int .i64 j ∧ Hid (SB wr w.heap.size p s) ∧ Hid (s.fit j) ∧ Hid (Three s j) ∧ Hid (Below w.heap.size w wr)) (fun i _ => 3 - (intOf i).toNat)
  case atStart => exact ⟨0, Sd.new 7 10 66 9, by decide, rfl, HS1, Lib.hid (Sd.new_fit (by decide) (by decide) (by decide) (by decide)), Lib.hid ⟨rfl, rfl, rfl, fun x hx => (by cases hx)⟩, HB1⟩
  case round =>
    obtain ⟨j, s, hj, rfl, HS, HF, HT, HB⟩ := hrel
    by_cases hlt : j < 3
    · go_wp2_with (first
        | (go_at_call 7; (with_reducible refine (CP.out _ p s j HS.out HF.out hlt).mono ?_); rintro e w2 ⟨rfl, HS2, HB2⟩)
        | fail)
      go_roundw
      case rel =>
        obtain ⟨da, dc, hs2⟩ := HS2.out
        exact ⟨j + 1, _, hlt, by go_num, Lib.hid hs2, Lib.hid (Sd.push_fit HF.out _ _), Lib.hid (HT.out.push hlt da dc), Lib.hid (HB.out.trans HB2.out)⟩
      case measure => simp [intOf]; omega
    · obtain rfl : j = 3 := by omega
      have HL := Lib.hid (three_flush HT.out)
      have CF2 : Hid (Calls Tryz.prog 8 #[.pointer (some ⟨p, 0, none⟩)] wr fun e w'' => (∃ A C, e = .returned (.slice A 2 C)) ∧ Hid (SB w'' w.heap.size p s.flush.2) ∧ Hid (Below w.heap.size wr w'')) :=
        Lib.hid ((CF.out wr p s HS.out HF.out).mono fun e w'' ⟨⟨A, C, _, he, _, _⟩, h2, h3⟩ => ⟨⟨A, C, by rw [he, HL.out.1]⟩, h2, h3⟩)
      have CW2 : Hid (∀ w', SB w' w.heap.size p s.flush.2 → Calls Tryz.prog 9 #[.pointer (some ⟨p, 0, none⟩)] w' fun e w'' => e = .returned (.int .i64 1) ∧ w' = w'') :=
        Lib.hid (fun w' h => (CW.out w' p s.flush.2 h).mono fun e w'' ⟨he, h2⟩ => ⟨by rw [he, HL.out.2]; rfl, h2⟩)
      clear hj hlt CF CW CP CN HL
      go_wp2_with (first
        | (go_at_call 8; (with_reducible refine (CF2.out).mono ?_); rintro e w2 ⟨⟨A, C, rfl⟩, HS2, HB2⟩)
        | (go_at_call 9; (with_reducible refine (CW2.out _ HS2.out).mono ?_); rintro e w3 ⟨rfl, rfl⟩)
        | fail)
      go_ret
      exact ⟨rfl, HB.out.trans HB2.out⟩
end Go.Proofs.YtldhlknmabpanaaGreat.Mp
namespace Go.Proofs.YtldhlknmabpanaaGreat.Mp
open Go.RowKit

/-- What is promised of a law: it says yes, and what was there is as it was. -/
def Yes15 (w : World) (e : Ending) (w' : World) : Prop := e = .returned (.bool true) ∧ Below w.heap.size w w'
theorem way_q (s : Sd) (i : Nat) : (s.way i).2.q = s.q := by
  unfold Sd.way
  split
  · exact (sends_keep (keepD s.ses) [i] ((s.ticked i).paid 33)).1
  · rfl
theorem tick_q (s : Sd) : s.tick.2.q = s.q := (way_q (s.later.way 0).2 1).trans (way_q s.later 0)
/-- Numbers in a slice. -/
def Nm (w : World) (a : Option Addr) (n : Nat) (z : Nat → Int) : Prop := n = 0 ∨ ∃ b off, a = some ⟨b, off, none⟩ ∧ b < w.heap.size ∧ ∀ i, i < n → w.cell? ⟨b, off + i, none⟩ = some (.int .i64 (z i))
theorem Nm.below {w w' : World} {a : Option Addr} {n : Nat} {z : Nat → Int} (h : Nm w a n z) (hb : Below w.heap.size w w') : Nm w' a n z :=
  h.imp id fun ⟨b, off, e, hl, hc⟩ => ⟨b, off, e, Nat.lt_of_lt_of_le hl hb.size, fun i hi => (hb.cell (p := ⟨b, off + i, none⟩) hl).trans (hc i hi)⟩
/-- An item of the law: its number, and its rank by the list. -/
def Itm (n : Nat) (z : Nat → Int) (x : Mq.It) : Prop := ∃ k : Nat, k < n ∧ x.num = (k : Int) ∧ x.v.A = (k : Int) ∧ x.rank = z k
/-- So many wait. -/
structure Lot (n : Nat) (z : Nat → Int) (s : Sd) (j : Nat) : Prop where
  room : s.q.room = 256
  len : s.q.l.length = j
  pushed : s.q.pushed = j
  it : ∀ x ∈ s.q.l, Itm n z x
theorem Lot.push {n : Nat} {z : Nat → Int} {s : Sd} {j : Nat} (h : Lot n z s j) (hj : j < n) (hn : n ≤ 100) (da : Option Addr) (dc : Nat) : Lot n z (s.push (z j) (s.own (plainD 6 (j : Int)) da dc)) (j + 1) := by
  obtain ⟨h1, h2, h3, h4⟩ := push_list s (z j) (s.own (plainD 6 (j : Int)) da dc) (by rw [h.len, h.room]; omega)
  refine ⟨h3.trans h.room, by rw [h1, h.len], by rw [h2, h.pushed], fun x hx => ?_⟩
  rcases h4 x hx with hx | rfl
  · exact h.it x hx
  · exact ⟨j, hj, by rw [h.pushed], rfl, rfl⟩
/-- What waits are the law's items. -/
def Its (n : Nat) (z : Nat → Int) (s : Sd) : Prop := s.q.l.length ≤ 100 ∧ ∀ x ∈ s.q.l, Itm n z x
/-- What went last. -/
def Last (n : Nat) (z : Nat → Int) (s : Sd) (last : Int) : Prop := last = -1 ∨ ∃ y, Itm n z y ∧ last = y.num ∧ ∀ x ∈ s.q.l, y.ahead x
end Go.Proofs.YtldhlknmabpanaaGreat.Mp
namespace Go.Proofs.YtldhlknmabpanaaGreat
open Go.ChangeShapes Go.WideShapes Go.ChangeAt Go.RowKit Go.Deep

theorem array3 {α : Type} {cs : Array α} (h : cs.size = 3) : ∃ c0 c1 c2, cs = #[c0, c1, c2] := by
  obtain ⟨l⟩ := cs
  match l, h with
  | [c0, c1, c2], _ => exact ⟨c0, c1, c2, rfl⟩
set_option maxRecDepth 100000 in
theorem sizes_arg {H : Type} {enc : TypeId × Value → H} {W : World} {base : Nat} {v : Value} {d : DataW H} {ps : List MemPlace} (hval : Value.okWide Tryz.prog W .any base 23 v) (h : DataW.Trod enc Tryz.prog W 0 (fun _ => true) true 23 v d ps) :
    ∃ x y z : Int, v = .agg #[.int .i64 x, .int .i64 y, .int .i64 z] := by
  unfold Value.okWide at hval
  rw [Tryz.underlying23] at hval
  obtain ⟨cs, rfl, hs, _⟩ := hval
  have ce : Tryz.prog.cellsOf 23 = 3 := by kernel_rfl
  have ci : Tryz.prog.cellsOf 3 = 1 := by kernel_rfl
  rw [ce] at hs
  obtain ⟨c0, c1, c2, rfl⟩ := array3 hs
  obtain ⟨fuel, hf⟩ := h
  obtain ⟨xs, k, _, _, _, hxl, hf⟩ := DataW.trod_struct Tryz.underlying23 hf
  match xs, hxl with
  | [y0, y1, y2], _ =>
    have g0 := hf 0 _ rfl
    have g1 := hf 1 _ rfl
    have g2 := hf 2 _ rfl
    simp [ci, Value.cells] at g0 g1 g2
    obtain ⟨z0, e0, _⟩ := DataW.trod_int Tryz.underlying3 g0
    obtain ⟨z1, e1, _⟩ := DataW.trod_int Tryz.underlying3 g1
    obtain ⟨z2, e2, _⟩ := DataW.trod_int Tryz.underlying3 g2
    simp at e0 e1 e2
    subst e0 e1 e2
    exact ⟨z0, z1, z2, rfl⟩
end Go.Proofs.YtldhlknmabpanaaGreat
