/-
  Own text: both senders between two calls, in one: what a call of the code and one of the document make of it.
  Own text: the law's do: its boxes; the kinds that do nothing, and Trip, walked.
  Own text: the law's do: kinds that do nothing, walked. (Written by gen_mrp.py.)
  Own text: the document's Trip, walked.
  Own text: the law's do: Trip, walked. (Written by gen_mrp.py.)
-/
import Derived.Test.YtldhlknmabpanaaGreatK38
import Derived.Test.YtldhlknmabpanaaGreatK34
import Derived.Test.YtldhlknmabpanaaGreatK33
import Derived.Test.YtldhlknmabpanaaGreatK36
import Derived.Test.YtldhlknmabpanaaGreatK37
import Derived.Test.YtldhlknmabpanaaGreatK14
import Derived.Test.YtldhlknmabpanaaGreatK29
import Derived.Test.YtldhlknmabpanaaGreatK35
import Derived.Test.YtldhlknmabpanaaGreatK26
namespace Go.Proofs.YtldhlknmabpanaaGreat.Mp
open Go.RowKit

theorem bytes_one {w : World} {a : Option Addr} {n : Nat} {l l' : List Int} (h : Bytes w a n l) (h' : Bytes w a n l') : l = l' := by
  apply List.ext_getElem?
  intro i
  rcases Nat.lt_or_ge i n with g | g
  · have e : l.getD i 0 = l'.getD i 0 := by
      rcases h.cell with h0 | ⟨_, b, off, e1, _, hc⟩
      · omega
      · rcases h'.cell with h0 | ⟨_, b', off', e2, _, hc'⟩
        · omega
        · rw [e1] at e2
          simp only [Option.some.injEq, Addr.mk.injEq, and_true] at e2
          obtain ⟨rfl, rfl⟩ := e2
          have := (hc i g).symm.trans (hc' i g)
          simpa using this
    have h1 := h.size
    have h2 := h'.size
    rw [List.getElem?_eq_getElem (by omega), List.getElem?_eq_getElem (by omega)]
    simpa [List.getD_eq_getElem?_getD, List.getElem?_eq_getElem (show i < l.length by omega), List.getElem?_eq_getElem (show i < l'.length by omega)] using e
  · rw [List.getElem?_eq_none (by rw [h.size]; exact g), List.getElem?_eq_none (by rw [h'.size]; exact g)]
theorem bytes_low {w w' : World} {a : Option Addr} {n B : Nat} {l : List Int} (h : Bytes w a n l) (hd : n = 0 ∨ ∀ g, a.map Addr.block = some g → g < B) (hb : Below B w w') : Bytes w' a n l := by
  rcases hd with hd | hd
  · exact ⟨h.size, h.max, h.byte, .inl hd⟩
  · exact bytes_keep h (fun g hg _ => hb.block g (hd g hg)) hb.size
theorem goes_path : ∀ {l : List On} {c c' : Nat → Nat}, Goes c l c' → ∀ o ∈ l, o.i < 2 ∧ o.d.path = (o.i : Int)
  | [], _, _, _, o, ho => by cases ho
  | x :: l, c, c', h, o, ho => by
    rcases List.mem_cons.1 ho with rfl | ho
    · exact ⟨h.1, h.2.1⟩
    · exact goes_path h.2.2.2 o ho
/-- Each one that went bears the bytes of one that waited, or none. -/
def From (l : List Mq.It) (o : On) : Prop := o.d.dl = 0 ∨ ∃ x ∈ l, o.d.da = x.v.da ∧ o.d.dl = x.v.dl
theorem sends_from (d : Dg) : ∀ (l : List Nat) (s : Sd), ∀ o ∈ (s.sends d l).1, o.d.da = d.da ∧ o.d.dl = d.dl
  | [], _, o, ho => by cases ho
  | i :: l, s, o, ho => by
    rcases List.mem_cons.1 (show o ∈ s.one i d :: ((s.sent i).sends d l).1 from ho) with rfl | ho
    · exact ⟨rfl, rfl⟩
    · exact sends_from d l _ o ho
theorem way_from (s : Sd) (i : Nat) : ∀ o ∈ (s.way i).1, o.d.dl = 0 := by
  intro o ho
  unfold Sd.way at ho
  split at ho
  · exact (sends_from _ _ _ o ho).2
  · cases ho
theorem tick_from (s : Sd) (l : List Mq.It) : ∀ o ∈ s.tick.1, From l o := by
  intro o ho
  rcases List.mem_append.1 (show o ∈ (s.later.way 0).1 ++ ((s.later.way 0).2.way 1).1 from ho) with ho | ho
  · exact .inl (way_from _ _ o ho)
  · exact .inl (way_from _ _ o ho)
theorem flushL_from : ∀ (l : List Mq.It) (s : Sd), (∀ o ∈ (flushL l s).1, From l o) ∧ ∀ x ∈ (flushL l s).2.q.l, s.q.l = l → x ∈ l
  | [], s => ⟨fun o ho => (by cases ho), fun x hx e => (by rw [← e]; exact hx)⟩
  | x :: l, s => by
    rw [flushL]
    split
    · have ih := flushL_from l (s.first x l).2
      refine ⟨fun o ho => ?_, fun y hy _ => ?_⟩
      · rcases List.mem_append.1 ho with ho | ho
        · exact .inr ⟨x, List.mem_cons_self, sends_from _ _ _ o ho⟩
        · exact (ih.1 o ho).imp id (fun ⟨y, hy, h⟩ => ⟨y, List.mem_cons_of_mem _ hy, h⟩)
      · exact List.mem_cons_of_mem _ (ih.2 y hy (by rw [show (s.first x l).2.q = ((s.paid (s.need x)).rest l).q from (sends_keep x.v (s.goers x) ((s.paid (s.need x)).rest l)).1]; rfl))
    · exact ⟨fun o ho => (by cases ho), fun y hy e => (by rw [← e]; exact hy)⟩
theorem flush_from (s : Sd) : (∀ o ∈ s.flush.1, From s.q.l o) ∧ ∀ x ∈ s.flush.2.q.l, x ∈ s.q.l := ⟨(flushL_from s.q.l s).1, fun x hx => (flushL_from s.q.l s).2 x hx rfl⟩
theorem way_length (s : Sd) (i : Nat) : (s.way i).1.length ≤ 1 := by
  unfold Sd.way
  split
  · rw [sends_length]; exact Nat.le_refl _
  · exact Nat.zero_le _
theorem tick_length (s : Sd) : s.tick.1.length ≤ 2 := by
  show ((s.later.way 0).1 ++ ((s.later.way 0).2.way 1).1).length ≤ 2
  rw [List.length_append]
  have := way_length s.later 0
  have := way_length (s.later.way 0).2 1
  omega
theorem flushL_length : ∀ (l : List Mq.It) (s : Sd), (flushL l s).1.length ≤ 2 * l.length
  | [], s => Nat.le_refl _
  | x :: l, s => by
    rw [flushL]
    split
    · have ih := flushL_length l (s.first x l).2
      have h1 : (s.first x l).1.length ≤ 2 := by
        show (((s.paid (s.need x)).rest l).sends x.v (s.goers x)).1.length ≤ 2
        rw [sends_length, s.goers_length x]
        exact (s.many_lo _ _).2
      rw [List.length_append, List.length_cons]
      omega
    · exact Nat.zero_le _
/-! ### The ghost -/
abbrev tgh : Ghost := ⟨fun _ _ _ => True⟩
/-- What waits, for sure. -/
abbrev SB0 (w : World) (S : Nat → Prop) (p : Nat) (s : Sd) : Prop := @SB tgh w S p s
/-- Bytes of a block that is there are as they are now; those of a new one are these. -/
abbrev gw (w : World) (ln : List Int) : Ghost := ⟨fun a n l => ((∀ g, a.map Addr.block = some g → g < w.heap.size) → Bytes w a n l) ∧ ((∃ g, a.map Addr.block = some g ∧ w.heap.size ≤ g) → l = ln)⟩
theorem sb_plain {G : Ghost} {w : World} {S : Nat → Prop} {p : Nat} {s : Sd} (h : @SB G w S p s) : SB0 w S p s := by
  obtain ⟨kb, qb, A, C, ⟨h1, h2, h3, h4, h5, h6, h7, h8⟩⟩ := h
  exact ⟨kb, qb, A, C, @SBd.mk tgh _ _ _ _ _ _ _ _ h1 h2 h3 h4 h5 h6 h7 (fun x hx => by
    obtain ⟨l, hb, _⟩ := h8 x hx
    exact ⟨l, hb, trivial⟩)⟩
theorem sb_ghost {w : World} {S : Nat → Prop} {p : Nat} {s : Sd} (ln : List Int) (h : SB0 w S p s) : @SB (gw w ln) w S p s := by
  obtain ⟨kb, qb, A, C, ⟨h1, h2, h3, h4, h5, h6, h7, h8⟩⟩ := h
  refine ⟨kb, qb, A, C, @SBd.mk (gw w ln) _ _ _ _ _ _ _ _ h1 h2 h3 h4 h5 h6 h7 (fun x hx => ?_)⟩
  obtain ⟨l, hb, _⟩ := h8 x hx
  refine ⟨l, hb, fun _ => hb, ?_⟩
  rintro ⟨g, hg, hl⟩
  have := h7 g ((h4 x hx).2 g hg).1
  omega
theorem sb_dat {w : World} {S : Nat → Prop} {p : Nat} {s : Sd} (h : SB0 w S p s) : ∀ x ∈ s.q.l, Rd w x.v ∧ ∀ g, x.v.da.map Addr.block = some g → S g := by
  obtain ⟨kb, qb, A, C, ⟨h1, h2, h3, h4, h5, h6, h7, h8⟩⟩ := h
  exact fun x hx => ⟨(h4 x hx).1, fun g hg => ((h4 x hx).2 g hg).1⟩
/-- What a ghost tells of one that waits: its bytes are those from ahead of the call. -/
theorem gd_bytes {w w' : World} {ln : List Int} {d : Dg} (h : @Gd (gw w ln) w' d) (lb : List Int) (hb : Bytes w d.da d.dl lb) : Bytes w' d.da d.dl lb := by
  obtain ⟨l, h1, h2⟩ := h
  rcases hb.cell with h0 | ⟨_, b, off, e, hl, _⟩
  · exact ⟨hb.size, hb.max, hb.byte, .inl h0⟩
  · have h3 : Bytes w d.da d.dl l := h2.1 (fun g hg => by rw [e] at hg; simp at hg; omega)
    rw [bytes_one hb h3]
    exact h1
theorem sb_bytes {w w' : World} {S : Nat → Prop} {p : Nat} {s : Sd} {ln : List Int} (h : @SB (gw w ln) w' S p s) : ∀ x ∈ s.q.l, ∀ lb, Bytes w x.v.da x.v.dl lb → Bytes w' x.v.da x.v.dl lb := by
  obtain ⟨kb, qb, A, C, ⟨h1, h2, h3, h4, h5, h6, h7, h8⟩⟩ := h
  exact fun x hx lb hb => gd_bytes (h8 x hx) lb hb
/-! ### Rel in another world -/
theorem Fa.imp {α β : Type} {R R' : α → β → Prop} {l : List α} {m : List β} (h : Fa R l m) (hi : ∀ a ∈ l, ∀ b ∈ m, R a b → R' a b) : Fa R' l m := by
  induction h with
  | nil => exact .nil
  | @cons a b l m h _ ih => exact .cons (hi a List.mem_cons_self b List.mem_cons_self h) (ih (fun x hx y hy => hi x (List.mem_cons_of_mem _ hx) y (List.mem_cons_of_mem _ hy)))
theorem Rel.step {w w' : World} {s t : Sd} (h : Rel w s t) (hs : ∀ x ∈ s.q.l, ∀ lb, Bytes w x.v.da x.v.dl lb → Bytes w' x.v.da x.v.dl lb) (ht : ∀ y ∈ t.q.l, ∀ lb, Bytes w y.v.da y.v.dl lb → Bytes w' y.v.da y.v.dl lb) : Rel w' s t :=
  ⟨h.wy, h.ses, h.now, h.bk, h.dr, h.he, h.room, h.l.imp (fun x hx y hy hr => ⟨hr.1, hr.2.mv, by
    obtain ⟨lb, h1, h2⟩ := hr.2.by_
    refine ⟨lb, hs x hx lb h1, ?_⟩
    have h3 := ht y hy lb (by rw [hr.2.dl]; exact h2)
    rw [hr.2.dl] at h3
    exact h3⟩)⟩
/-- Both senders between two calls; the script's bytes lie below B. -/
structure Cx (S : Nat → Prop) (w : World) (B p : Nat) (s t : Sd) (A : Option Addr) (C k : Nat) : Prop where
  sb : SB0 w S p s
  low : ∀ k, S k → B ≤ k
  hB : B ≤ w.heap.size
  ls : ∀ g, A.map Addr.block = some g → ¬ S g ∧ g < w.heap.size
  td : ∀ y ∈ t.q.l, y.v.dl = 0 ∨ ∀ g, y.v.da.map Addr.block = some g → g < B
  dl : DL w A t.q.l
  cap : t.q.l.length ≤ C
  rel : Rel w s t
  fs : s.fit k
  ft : t.fit k
section
variable {S : Nat → Prop} {w : World} {B p : Nat} {s t : Sd} {A : Option Addr} {C k : Nat}
theorem Cx.lt (h : Cx S w B p s t A C k) : ∀ j, S j → j < w.heap.size := @sb_lt tgh _ _ _ _ h.sb
theorem Cx.below {w' : World} (h : Cx S w B p s t A C k) (hb : Below w.heap.size w w') : Cx S w' B p s t A C k :=
  ⟨@sb_below tgh _ _ _ _ _ h.sb hb, h.low, Nat.le_trans h.hB hb.size, fun g hg => ⟨(h.ls g hg).1, Nat.lt_of_lt_of_le (h.ls g hg).2 hb.size⟩, h.td, h.dl.below hb (Nat.le_refl _), h.cap,
    h.rel.step (fun _ _ _ hl => hl.below hb (Nat.le_refl _)) (fun _ _ _ hl => hl.below hb (Nat.le_refl _)), h.fs, h.ft⟩
/-- The document's call from w to w1, then the code's to w2. -/
theorem Cx.both {w1 w2 : World} {s' t' : Sd} {A' : Option Addr} {C' k' : Nat} {ln : List Int} (h : Cx S w B p s t A C k) (hb : Below w.heap.size w w1) (ha : After (@SB (gw w1 ln)) w1 S p s' w2)
    (hl : ∀ g, A'.map Addr.block = some g → A.map Addr.block = some g ∨ (w.heap.size ≤ g ∧ g < w1.heap.size)) (hd : DL w1 A' t'.q.l) (hc : t'.q.l.length ≤ C')
    (htd : ∀ y ∈ t'.q.l, y.v.dl = 0 ∨ ∀ g, y.v.da.map Addr.block = some g → g < B) (hr : Rel w s' t') (hfs : s'.fit k') (hft : t'.fit k') :
    (∃ S', Cx S' w2 B p s' t' A' C' k' ∧ ∀ j, S' j → S j ∨ w1.heap.size ≤ j) ∧ Below B w w2 ∧ Fr S w1 w2 := by
  obtain ⟨⟨S', hsb, hS'⟩, hfr⟩ := ha
  have hnot : ∀ g, A'.map Addr.block = some g → ¬ S g ∧ g < w1.heap.size := fun g hg => by
    rcases hl g hg with h1 | ⟨h1, h2⟩
    · exact ⟨(h.ls g h1).1, Nat.lt_of_lt_of_le (h.ls g h1).2 hb.size⟩
    · exact ⟨fun hs => by have := h.lt g hs; omega, h2⟩
  have hB1 : B ≤ w1.heap.size := Nat.le_trans h.hB hb.size
  have hbb : Below B w1 w2 := hfr.below h.low hB1
  refine ⟨⟨S', ⟨sb_plain hsb, fun j hj => ?_, Nat.le_trans hB1 hfr.size, fun g hg => ⟨fun hs => ?_, Nat.lt_of_lt_of_le (hnot g hg).2 hfr.size⟩, htd, hd.keep (fun g hg _ => hfr.block g (hnot g hg).2 (hnot g hg).1) hfr.size, hc, ?_, hfs, hft⟩, hS'⟩, (hb.mono h.hB).trans hbb, hfr⟩
  · rcases hS' j hj with h1 | h1
    · exact h.low j h1
    · omega
  · rcases hS' g hs with h1 | h1
    · exact (hnot g hg).1 h1
    · have := (hnot g hg).2
      omega
  · exact hr.step (fun x hx lb hx2 => sb_bytes hsb x hx lb (hx2.below hb (Nat.le_refl _))) (fun y hy lb hy2 => bytes_low (hy2.below hb (Nat.le_refl _)) (htd y hy) hbb)
/-- A block of the law's own is turned. -/
theorem Cx.prt {w' : World} {b o n : Nat} (h : Cx S w B p s t A C k) (hp : Prt b o n w w') (hS : ¬ S b) (hA : A.map Addr.block ≠ some b) (hBb : B ≤ b) : Cx S w' B p s t A C k := by
  have ne : ∀ g, S g → g ≠ b := fun g hg e => hS (by rw [← e]; exact hg)
  have hbb : Below B w w' := ⟨hp.os, hp.tape, hp.output, hp.size, fun g hg => hp.block g (by have := h.hB; omega) (by omega)⟩
  refine ⟨@sb_keep tgh _ _ _ _ _ h.sb (fun g hg => hp.block g (h.lt g hg) (ne g hg)) hp.size, h.low, Nat.le_trans h.hB hp.size, fun g hg => ⟨(h.ls g hg).1, Nat.lt_of_lt_of_le (h.ls g hg).2 hp.size⟩, h.td, h.dl.keep (fun g hg hl => hp.block g hl (fun e => hA (by rw [← e]; exact hg))) hp.size, h.cap, h.rel.step (fun x hx lb hl => ?_) (fun y hy lb hl => bytes_low hl (h.td y hy) hbb), h.fs, h.ft⟩
  exact bytes_keep hl (fun g hg hlt => hp.block g hlt (ne g ((sb_dat h.sb x hx).2 g hg))) hp.size
theorem Cx.upto {k' : Nat} (h : Cx S w B p s t A C k) (hk : k ≤ k') : Cx S w B p s t A C k' := ⟨h.sb, h.low, h.hB, h.ls, h.td, h.dl, h.cap, h.rel, h.fs.upto hk, h.ft.upto hk⟩
/-- What both told is the same. -/
theorem told_same {w1 w2 : World} {l l' : List On} {m : List On} (hb : Below w.heap.size w w1) (hbb : Below B w1 w2) (hf : Fa (AlikeO w) l m) (hk : Likes w1 w2 l l') (hp : ∀ o ∈ m, o.d.path = (o.i : Int)) (hm : ∀ o ∈ m, o.d.dl = 0 ∨ ∀ g, o.d.da.map Addr.block = some g → g < B) :
    l'.length = (m.map On.d).length ∧ ∀ (i : Nat) (o : On) (d : Dg), l'[i]? = some o → (m.map On.d)[i]? = some d → Eq2 w2 o d := by
  have hlen := hf.len
  refine ⟨by rw [List.length_map, hk.1, hlen], fun i o' d ho' hd => ?_⟩
  rw [List.getElem?_map] at hd
  obtain ⟨y, hy, rfl⟩ : ∃ y, m[i]? = some y ∧ y.d = d := by
    cases hm' : m[i]? with
    | none => rw [hm'] at hd; cases hd
    | some y => rw [hm'] at hd; exact ⟨y, rfl, by simpa using hd⟩
  have hil : i < l.length := by rw [hlen]; exact (List.getElem?_eq_some_iff.1 hy).1
  obtain ⟨x, hx⟩ : ∃ x, l[i]? = some x := ⟨_, List.getElem?_eq_getElem hil⟩
  obtain ⟨o2, ho2, hlk, _⟩ := hk.2 i x hx
  rw [ho'] at ho2
  obtain rfl : o' = o2 := by simpa using ho2
  obtain ⟨a1, a2⟩ := hf.at_ i x y hx hy
  have hym : y ∈ m := List.mem_of_getElem? hy
  obtain ⟨lb, h1, h2⟩ := a2.by_
  refine ⟨by rw [hlk.i, ← a1, hp y hym], ?_, lb, ?_, ?_⟩
  · rw [hlk.d]
    show Dg.moved x.d _ _ = Dg.moved y.d _ _
    rw [a2.mv]
    rfl
  · rw [a2.dl]
    exact hlk.b lb (h1.below hb (Nat.le_refl _))
  · have h3 : Bytes w y.d.da y.d.dl lb := by rw [a2.dl]; exact h2
    exact bytes_low (h3.below hb (Nat.le_refl _)) (hm y hym) hbb
end
end Go.Proofs.YtldhlknmabpanaaGreat.Mp
namespace Go.Proofs.YtldhlknmabpanaaGreat.Mp
open Go.RowKit

/-- Heard, with what it answers. -/
theorem heard2_sb [Ghost] {w : World} {S : Nat → Prop} {p k n : Nat} {s : Sd} (i : Int) (h : SB w S p s) (hf : s.fit k) (hk : k ≤ 1000000) (hn : n < 4294967296) :
    Calls Tryz.prog 37 #[.pointer (some ⟨p, 0, none⟩), .int .i64 i, .int .u32 (n : Int)] w fun e w' => e = .returned (.int .i64 (if 0 ≤ i ∧ i < 2 then ((s.wy i.toNat).sn.take n).2 else 62)) ∧ Hid (After SB w S p (if 0 ≤ i ∧ i < 2 then s.hear i.toNat n else s) w') := by
  obtain ⟨kb, qb, A, C, h⟩ := h
  by_cases hi : 0 ≤ i ∧ i < 2
  · rw [if_pos hi]
    obtain ⟨h0, h1⟩ := hi
    obtain ⟨j, rfl⟩ : ∃ j : Nat, i = (j : Int) := ⟨i.toNat, by omega⟩
    have hj : j < 2 := by omega
    rw [if_pos ⟨h0, h1⟩, Int.toNat_natCast]
    have hw : PLie w p (15 * j) (s.wy j) := by
      rcases (by omega : j = 0 ∨ j = 1) with rfl | rfl
      · exact h.blk.w0
      · exact h.blk.w1
    have CH := Lib.hid (heard_any p (15 * j) k n (s.wy j) (hf.wy j hj) hk hn w hw)
    have HR := Lib.hid (fun (w' : World) h1 h2 => after_own (h.way (w' := w') (q := (s.wy j).heard n) hj h1 h2))
    rw [Nat.mul_comm] at CH
    have n0 : ¬ (j : Int) < 0 := by omega
    have n1 : (j : Int) < 2 := h1
    have CK := Lib.hid (known_yes j hj w)
    clear h hw hf hn hk
    go_enter Tryz.func37, Tryz.ntmps37
    go_wp2_with (first
      | (go_at_call 71; (with_reducible refine (CK.out).mono ?_); rintro e w0 ⟨rfl, rfl⟩)
      | (go_at_call 72; (with_reducible refine (CH.out).mono ?_); rintro e w1 ⟨rfl, HP, HW⟩)
      | fail)
    go_ret
    refine ⟨rfl, Lib.hid ?_⟩
    exact HR.out w1 (Nat.mul_comm j 15 ▸ HP.out) (Nat.mul_comm j 15 ▸ HW.out)
  · rw [if_neg hi, if_neg hi]
    have ha := Lib.hid (after_own ⟨h, Fr.refl S w⟩)
    have CK := Lib.hid (known_no i hi w)
    clear h hf hn hk hi
    go_enter Tryz.func37, Tryz.ntmps37
    go_wp2_with (first
      | (go_at_call 71; (with_reducible refine (CK.out).mono ?_); rintro e w0 ⟨rfl, rfl⟩)
      | fail)
    go_ret
    exact ⟨rfl, ha⟩
theorem infoOp (o : Op15) : (Tryz.prog.info? 58).map (·.size) = some o.cells.size := by kernel_rfl
/-- The law's call: what it promises. -/
def Do15 (w : World) (S : Nat → Prop) (B p : Nat) (A : Option Addr) (k : Nat) (e : Ending) (w' : World) : Prop := ∃ s' t' A' C', e = .returned (.tuple #[.agg (dsa t' A' C'), .bool true]) ∧ Hid (∃ S', Cx S' w' B p s' t' A' C' k ∧ ∀ j, S' j → S j ∨ w.heap.size ≤ j) ∧ Hid (∀ g, A'.map Addr.block = some g → A.map Addr.block = some g ∨ w.heap.size ≤ g) ∧ Hid (Fr S w w')
/-- Its three boxes. -/
structure Bo (w : World) (t : Sd) (A : Option Addr) (C : Nat) (o : Op15) (W : World) : Prop where
  bel : Below w.heap.size w W
  db : DB W w.heap.size t A C
  op : Lies W (w.heap.size + 1) 0 o.cells
  z : Lies W (w.heap.size + 2) 0 (dsa Sdz none 0)
  hs : w.heap.size + 3 ≤ W.heap.size
theorem Bo.start (w : World) (t : Sd) (A : Option Addr) (C : Nat) (o : Op15) {W : World} (hW : W = ((w.alloc (.cells (dsa t A C) 40)).alloc (.cells o.cells 58)).alloc (.cells (dsa Sdz none 0) 40)) : Bo w t A C o W := by
  subst hW
  refine ⟨(((Below.refl _ _).alloc (Nat.le_refl _) _).alloc (by simp) _).alloc (by simp; omega) _, db_new w t A C _ (((Below.refl _ _).alloc (Nat.le_refl _) _).alloc (by simp) _), ?_, ?_, by simp⟩
  · have := Lies.new (w.alloc (.cells (dsa t A C) 40)) o.cells 58 ((Below.refl _ _).alloc (Nat.le_refl _) (.cells (dsa Sdz none 0) 40))
    simpa using this
  · have := Lies.new ((w.alloc (.cells (dsa t A C) 40)).alloc (.cells o.cells 58)) (dsa Sdz none 0) 40 (Below.refl _ _)
    simpa using this
section
variable {w : World} {t : Sd} {A : Option Addr} {C : Nat} {o : Op15} {W W' : World}
theorem Bo.keep (h : Bo w t A C o W) (hb : Below w.heap.size w W') (hs : W.heap.size ≤ W'.heap.size) (e : ∀ g, w.heap.size ≤ g → g < w.heap.size + 3 → W'.heap[g]? = W.heap[g]?) : Bo w t A C o W' :=
  ⟨hb, h.db.keep (e _ (Nat.le_refl _) (by omega)), h.op.keep (e _ (Nat.le_succ _) (by omega)), h.z.keep (e _ (by omega) (by omega)), Nat.le_trans h.hs hs⟩
theorem Bo.below (h : Bo w t A C o W) (hb : Below W.heap.size W W') : Bo w t A C o W' :=
  h.keep (h.bel.trans (hb.mono h.bel.size)) hb.size (fun g _ hg => hb.block g (by have := h.hs; omega))
theorem Bo.cells (h : Bo w t A C o W) : W.cell? ⟨w.heap.size + 1, 0, none⟩ = some (.int .i64 o.kind) ∧ W.cell? ⟨w.heap.size + 1, 1, none⟩ = some (.int .i64 o.rank) ∧ W.cell? ⟨w.heap.size + 1, 13, none⟩ = some (.int .i64 o.n) ∧ W.cell? ⟨w.heap.size + 1, 14, none⟩ = some (.int .i64 o.way) ∧ W.cell? ⟨w.heap.size + 1, 15, none⟩ = some (.int .u32 (o.th : Int)) ∧ W.cell? ⟨w.heap.size + 1, 2, none⟩ = some (.int .i64 o.d.kind) :=
  ⟨h.op.cell 0 (by decide : 0 < 16), h.op.cell 1 (by decide : 1 < 16), h.op.cell 13 (by decide : 13 < 16), h.op.cell 14 (by decide : 14 < 16), h.op.cell 15 (by decide : 15 < 16), h.op.cell 2 (by decide : 2 < 16)⟩
theorem Bo.dg (h : Bo w t A C o W) : Lies W (w.heap.size + 1) 2 (Mq.dcells o.d) := by
  have := h.op.sub 2 (Mq.dcells o.d) (by decide : 2 + 11 ≤ 16) (fun j hj => by
    have hj : j < 11 := hj
    rcases (by omega : j = 0 ∨ j = 1 ∨ j = 2 ∨ j = 3 ∨ j = 4 ∨ j = 5 ∨ j = 6 ∨ j = 7 ∨ j = 8 ∨ j = 9 ∨ j = 10) with rfl | rfl | rfl | rfl | rfl | rfl | rfl | rfl | rfl | rfl | rfl <;> rfl)
  simpa using this
end
end Go.Proofs.YtldhlknmabpanaaGreat.Mp
namespace Go.Proofs.YtldhlknmabpanaaGreat.Mp
open Go.RowKit

section
variable {w : World} {t : Sd} {A : Option Addr} {C : Nat} {o : Op15} {W W' : World}
/-- A call ends: the answer's box is written. -/
theorem do15_end {S S1 : Nat → Prop} {B p k k' n : Nat} {s : Sd} {A' : Option Addr} {C' : Nat} {t' : Sd} (hc : Cx S1 W B p s t' A' C' k) (hk : k ≤ k') (hp : Prt (w.heap.size + 2) 0 n W W') (hS : ¬ S1 (w.heap.size + 2)) (hA : A'.map Addr.block ≠ some (w.heap.size + 2)) (hB : B ≤ w.heap.size) (hg : ∀ j, S1 j → S j ∨ w.heap.size ≤ j) (hf : Fr S w W) : (∃ S', Cx S' W' B p s t' A' C' k' ∧ ∀ j, S' j → S j ∨ w.heap.size ≤ j) ∧ Fr S w W' :=
  ⟨⟨S1, (hc.prt hp hS hA (by omega)).upto hk, hg⟩, hf.prt (by omega) hp⟩
end
set_option maxRecDepth 100000 in
set_option maxHeartbeats 4000000 in
theorem do15_none (o : Op15) (hn : o.kind ≠ 0 ∧ o.kind ≠ 1 ∧ o.kind ≠ 2 ∧ o.kind ≠ 3 ∧ o.kind ≠ 4 ∧ o.kind ≠ 5) {S : Nat → Prop} {w : World} {B p : Nat} {s t : Sd} {A : Option Addr} {C k : Nat} (h : Cx S w B p s t A C k) (hk6 : k ≤ 900000) (ho : o.ok w) (hdl : o.d.dl = 0 ∨ ∀ g, o.d.da.map Addr.block = some g → g < B) :
    Calls Tryz.prog 12 #[.pointer (some ⟨p, 0, none⟩), .agg (dsa t A C), .agg o.cells] w (Do15 w S B p A (k + 800)) := by
  obtain ⟨W, hW⟩ : ∃ W, W = ((w.alloc (.cells (dsa t A C) 40)).alloc (.cells o.cells 58)).alloc (.cells (dsa Sdz none 0) 40) := ⟨_, rfl⟩
  have hbo := Bo.start w t A C o hW
  have HBo := Lib.hid hbo
  have HC := Lib.hid (h.below hbo.bel)
  have HX := Lib.hid h.lt
  have HA := Lib.hid (fun g hg => (h.ls g hg).2)
  have HB0 := Lib.hid h.hB
  have HK6 := Lib.hid hk6
  have HO := Lib.hid ho
  have HDL := Lib.hid hdl
  have HZS : Hid (∀ t A C, (dsa t A C).size = (dsa Sdz none 0).size) := Lib.hid (fun t A C => by rw [dsa_size, dsa_size])
  obtain ⟨c0, c1, c13, c14, c15, c2⟩ := hbo.cells
  have zz := zeroD
  obtain ⟨V, hV⟩ : ∃ V, V = dsa t A C := ⟨_, rfl⟩
  have HV := Lib.hid hV
  obtain ⟨Z, hZ⟩ : ∃ Z, Z = dsa Sdz none 0 := ⟨_, rfl⟩
  have HZ := Lib.hid hZ
  obtain ⟨O, hO⟩ : ∃ O, O = o.cells := ⟨_, rfl⟩
  rw [← hZ] at zz hW HZS
  rw [← hV] at hW ⊢
  rw [← hO] at hW ⊢
  clear hV hZ hO hk6 ho hdl hbo h
  obtain ⟨m0, m1, m2, m3, m4, m5⟩ := hn
  generalize o.kind = kd at *
  have e0 : (kd == 0) = false := by simp [m0]
  have e1 : (kd == 1) = false := by simp [m1]
  have e2 : (kd == 2) = false := by simp [m2]
  have e3 : (kd == 3) = false := by simp [m3]
  have e4 : (kd == 4) = false := by simp [m4]
  have e5 : (kd == 5) = false := by simp [m5]
  go_enter Tryz.func12, Tryz.ntmps12
  go_upto_region 1 with fail
  rw [← hW]
  clear hW zz
  have HLV : Hid (Lies W w.heap.size 0 V) := Lib.hid (by rw [HV.out]; exact HBo.out.db.whole)
  have HLZ : Hid (Lies W (w.heap.size + 1 + 1) 0 Z) := Lib.hid (by rw [HZ.out]; exact HBo.out.z)
  have HVS : Hid (V.size = Z.size) := Lib.hid (by rw [HV.out]; exact HZS.out _ _ _)
  have HVI : Hid ((Tryz.prog.info? 40).map (·.size) = some V.size) := Lib.hid (by rw [HV.out]; exact infoD15 _ _ _)
  have HV1 : Hid (V.all (·.oneCell') = true) := Lib.hid (by rw [HV.out]; exact dsa_one _ _ _)
  go_wp2_with (first
    | (with_reducible refine wpList_load_lies rfl 40 (.tmp 4) rfl w.heap.size 0 rfl V HLV.out _ Tryz.underlying40 rfl HVI.out ?_)
    | ((with_reducible refine wpList_store_lies rfl 40 (.tmp 6) (.tmp 24) rfl (w.heap.size + 1 + 1) 0 rfl V rfl Z HLZ.out HVS.out HVI.out HV1.out ?_); intro w3 N1 N2 N3)
    | fail)
  refine bodyPost_ret (v := .tuple #[.agg V, .bool true]) (Mq.results_cell1 (p := 6) (u := 7) rfl _ w3 (w.heap.size + 1 + 1) _ _ rfl rfl (Lies.loadVar N1.out 40 _ Tryz.underlying40 rfl HVI.out)) rfl ?_
  have hd := do15_end HC.out (show k ≤ k + 800 by omega) N2.out (fun hs => by have := HX.out _ hs; omega) (fun e => by have := HA.out _ e; omega) HB0.out (fun j hj => .inl hj) (Fr.of_below HBo.out.bel)
  exact ⟨s, t, A, C, by rw [HV.out], Lib.hid hd.1, Lib.hid (fun g hg => .inl hg), Lib.hid hd.2⟩
end Go.Proofs.YtldhlknmabpanaaGreat.Mp
namespace Go.Proofs.YtldhlknmabpanaaGreat.Mp
open Go.RowKit

abbrev stc (s : Sk) : Array Value := #[.int .i64 s.lo, .int .i64 s.rt, .int .i64 s.va, .int .i64 s.ma, .int .i64 s.tr]
theorem infoS13 (s : Sk) : (Tryz.prog.info? 28).map (·.size) = some (stc s).size := by kernel_rfl
theorem oneS13 (s : Sk) : (stc s).all (·.oneCell') = true := by simp [Value.oneCell']
theorem way_st {w : World} {b o : Nat} {p : Pn} (h : Lies w b o (rowOf 78 p.dc)) : Lies w b o (stc p.st) := by
  have := h.sub 0 (stc p.st) (by rw [rowOf_size]; exact (by decide : 0 + 5 ≤ 78)) (fun j hj => by
    have hj : j < 5 := hj
    rw [rowOf_get _ _ _ (by omega)]
    rcases (by omega : j = 0 ∨ j = 1 ∨ j = 2 ∨ j = 3 ∨ j = 4) with rfl | rfl | rfl | rfl | rfl <;> rfl)
  exact this
theorem way_putst {w w' : World} {b o : Nat} {p : Pn} (s : Sk) (h : Lies w b o (rowOf 78 p.dc)) (hp : Prt b o 5 w w') (hs : Lies w' b o (stc s)) : Lies w' b o (rowOf 78 (⟨s, p.sn, p.q, p.pr, p.ga, p.nx⟩ : Pn).dc) := by
  refine Lies.patch (k := 0) (m := 5) (ds := stc s) h hp hs rfl (by rw [rowOf_size, rowOf_size]) (fun j hj => ?_)
  rw [rowOf_size] at hj
  rw [rowOf_get _ _ _ hj]
  by_cases h5 : j < 5
  · rw [if_pos ⟨Nat.zero_le _, by omega⟩]
    rcases (by omega : j = 0 ∨ j = 1 ∨ j = 2 ∨ j = 3 ∨ j = 4) with rfl | rfl | rfl | rfl | rfl <;> rfl
  · rw [if_neg (by omega), rowOf_get _ _ _ hj]
    have n0 : ¬ j = 0 := by omega
    have n1 : ¬ j = 1 := by omega
    have n2 : ¬ j = 2 := by omega
    have n3 : ¬ j = 3 := by omega
    have n4 : ¬ j = 4 := by omega
    simp only [Pn.dc, pcl, if_neg n0, if_neg n1, if_neg n2, if_neg n3, if_neg n4]
set_option maxRecDepth 100000 in
set_option maxHeartbeats 1000000 in
theorem rtrip15_any (i : Int) (n : Nat) (t : Sd) (A : Option Addr) (C k : Nat) (hf : t.fit k) (hk : k ≤ 1000000) (hn : n < 4294967296) (w : World) :
    Calls Tryz.prog 40 #[.agg (dsa t A C), .int .i64 i, .int .u32 (n : Int)] w fun e w' => e = .returned (.agg (dsa (t.trip i n) A C)) ∧ Below w.heap.size w w' := by
  obtain ⟨W, hW⟩ : ∃ W, W = (w.alloc (.cells (dsa t A C) 40)).alloc (.cells (dsa Sdz none 0) 40) := ⟨_, rfl⟩
  obtain ⟨hb, hd, hz⟩ := two_d w t A C hW
  have HB := Lib.hid hb
  have HD := Lib.hid hd
  have HZ := Lib.hid hz
  have c164 := hd.cells.2.2.2.2.1
  obtain ⟨tk, htk⟩ : ∃ tk, tk = t.ago n := ⟨_, rfl⟩
  have hwr : IntKind.u32.wrap ((t.now : Int) - (n : Int)) = (tk : Int) := by rw [htk]; exact ago_wrap t.now n hf.now hn
  have zz := zeroD
  obtain ⟨V, hV⟩ : ∃ V, V = dsa t A C := ⟨_, rfl⟩
  have HVV := Lib.hid hV
  obtain ⟨Z, hZ⟩ : ∃ Z, Z = dsa Sdz none 0 := ⟨_, rfl⟩
  have HZZ := Lib.hid hZ
  obtain ⟨R, hR⟩ : ∃ R, R = dsa (t.trip i n) A C := ⟨_, rfl⟩
  have HRR := Lib.hid hR
  have IR : Hid ((Tryz.prog.info? 40).map (·.size) = some R.size) := Lib.hid (by rw [hR]; exact infoD15 _ _ _)
  have SR : Hid (R.size = Z.size) := Lib.hid (by rw [hR, hZ, dsa_size, dsa_size])
  have OR : Hid (R.all (·.oneCell') = true) := Lib.hid (by rw [hR]; exact dsa_one _ _ _)
  have HLZ : Hid (Lies W (w.heap.size + 1) 0 Z) := Lib.hid (by rw [hZ]; exact hz)
  have HF := Lib.hid hf
  have HK := Lib.hid hk
  have HTK := Lib.hid htk
  rw [← hR]
  rw [← hZ] at zz hW
  rw [← hV] at hW ⊢
  by_cases hi : 0 ≤ i ∧ i < 2
  · obtain ⟨j, rfl⟩ : ∃ j : Nat, i = (j : Int) := ⟨i.toNat, by omega⟩
    have hj : j < 2 := by omega
    have j0 : (0 : Int) ≤ (j : Int) := by omega
    have j1 : (j : Int) < 2 := by omega
    have HJ := Lib.hid hj
    by_cases ht : tk ≤ 2000
    · have CT := Lib.hid (fun w' => rtrip_any (tk : Int) (65 * k) (t.wy j).st (hf.wy j hj).st (by omega) w')
      have HE : Hid (t.trip (j : Int) n = { t with wy := upd t.wy j ((t.wy j).trip (tk : Int)) }) := Lib.hid (by
        unfold Sd.trip
        rw [if_pos ⟨hi, by rw [← htk]; exact ht⟩, Int.toNat_natCast, ← htk])
      have t1 : (tk : Int) ≤ 2000 := by omega
      have t0 : (0 : Int) ≤ (tk : Int) := by omega
      have HLS := Lib.hid (way_st (hd.way hj))
      have HWJ := Lib.hid (hd.way hj)
      clear hb hd hz hf hk hn hi hj ht htk hV hZ hR
      unfold SV at CT
      go_enter Tryz.func40, Tryz.ntmps40
      go_upto_region 1 with fail
      rw [← hW]
      clear hW zz
      go_upto_region 5 with (first
        | (with_reducible refine wpList_load_lies rfl 28 (.tmp 27) rfl w.heap.size (j * 78) rfl (stc (t.wy j).st) HLS.out _ Tryz.underlying28 rfl (infoS13 _) ?_)
        | (go_at_call 76; (with_reducible refine (CT.out _).mono ?_); rintro e w1 ⟨rfl, hb1⟩; have HB1 := Lib.hid hb1; clear hb1)
        | ((with_reducible refine wpList_store_lies rfl 28 (.tmp 34) (.tmp 31) rfl w.heap.size (j * 78) rfl (stc ((t.wy j).st.trip (tk : Int))) rfl (stc (t.wy j).st) (HLS.out.below HB1.out HLS.out.lt) rfl (infoS13 _) (oneS13 _) ?_); intro w2 N1 N2 N3)
        | fail)
      have HDE : Hid (DB w2 w.heap.size { t with wy := upd t.wy j ((t.wy j).trip (tk : Int)) } A C) := Lib.hid ((HD.out.below HB1.out HD.out.lt).setWay (q := (t.wy j).trip (tk : Int)) HJ.out (way_putst _ (HWJ.out.below HB1.out HWJ.out.lt) N2.out N1.out) (N2.out.wide (Nat.le_refl _) (by show j * 78 + 5 ≤ j * 78 + 78; omega)))
      have HWE : Hid (Lies w2 w.heap.size 0 R) := Lib.hid (by rw [HRR.out, HE.out]; exact HDE.out.whole)
      have HB2 : Hid (Below w.heap.size w w2) := Lib.hid (N2.out.bel (HB.out.trans (HB1.out.mono HB.out.size)) (HB.out.trans (HB1.out.mono HB.out.size)).size (Nat.le_refl _))
      have HLZ2 : Hid (Lies w2 (w.heap.size + 1) 0 Z) := Lib.hid ((HLZ.out.below HB1.out HLZ.out.lt).apart N2.out (by omega))
      clear N1 N2 N3 HDE HLS HWJ HE CT
      go_wp2_with (first
        | (with_reducible refine wpList_load_lies rfl 40 (.tmp 3) rfl w.heap.size 0 rfl R HWE.out _ Tryz.underlying40 rfl IR.out ?_)
        | ((with_reducible refine wpList_store_lies rfl 40 (.tmp 6) (.tmp 35) rfl (w.heap.size + 1) 0 rfl R rfl Z HLZ2.out SR.out IR.out OR.out ?_); intro w3 M1 M2 M3)
        | fail)
      refine bodyPost_ret (v := .agg R) (Mq.results_cell0 (p := 6) rfl _ w3 (w.heap.size + 1) _ rfl (Lies.loadVar M1.out 40 _ Tryz.underlying40 rfl IR.out)) rfl ?_
      exact ⟨rfl, M2.out.bel HB2.out HB2.out.size (Nat.le_succ _)⟩
    · have HE : t.trip (j : Int) n = t := by unfold Sd.trip; rw [if_neg (fun hh => ht (by rw [htk]; exact hh.2))]
      have HRV : Hid (R = V) := Lib.hid (by rw [HRR.out, HE, HVV.out])
      have HWE : Hid (Lies W w.heap.size 0 R) := Lib.hid (by rw [HRV.out, HVV.out]; exact hd.whole)
      have t1 : ¬ (tk : Int) ≤ 2000 := by omega
      have t2 : (2000 : Int) < (tk : Int) := by omega
      clear hb hd hz hf hk hn hi hj ht htk hV hZ hR HE
      go_enter Tryz.func40, Tryz.ntmps40
      go_upto_region 1 with fail
      rw [← hW]
      clear hW zz
      go_wp2_with (first
        | (with_reducible refine wpList_load_lies rfl 40 (.tmp 3) rfl w.heap.size 0 rfl R HWE.out _ Tryz.underlying40 rfl IR.out ?_)
        | ((with_reducible refine wpList_store_lies rfl 40 (.tmp 6) (.tmp 22) rfl (w.heap.size + 1) 0 rfl R rfl Z HLZ.out SR.out IR.out OR.out ?_); intro w3 M1 M2 M3)
        | fail)
      refine bodyPost_ret (v := .agg R) (Mq.results_cell0 (p := 6) rfl _ w3 (w.heap.size + 1) _ rfl (Lies.loadVar M1.out 40 _ Tryz.underlying40 rfl IR.out)) rfl ?_
      exact ⟨rfl, M2.out.bel HB.out HB.out.size (Nat.le_succ _)⟩
  · have HE : t.trip i n = t := by unfold Sd.trip; rw [if_neg (fun hh => hi hh.1)]
    have HRV : Hid (R = V) := Lib.hid (by rw [HRR.out, HE, HVV.out])
    have HWE : Hid (Lies W w.heap.size 0 R) := Lib.hid (by rw [HRV.out, HVV.out]; exact hd.whole)
    have i2 : i < 0 ∨ 1 < i := by omega
    clear hb hd hz hf hk hn hi htk hV hZ hR HE
    rcases i2 with i2 | i2
    all_goals
      go_enter Tryz.func40, Tryz.ntmps40
      go_upto_region 1 with fail
      rw [← hW]
      clear hW zz
      go_wp2_with (first
        | (with_reducible refine wpList_load_lies rfl 40 (.tmp 3) rfl w.heap.size 0 rfl R HWE.out _ Tryz.underlying40 rfl IR.out ?_)
        | ((with_reducible refine wpList_store_lies rfl 40 (.tmp 6) (.tmp 22) rfl (w.heap.size + 1) 0 rfl R rfl Z HLZ.out SR.out IR.out OR.out ?_); intro w3 M1 M2 M3)
        | fail)
      refine bodyPost_ret (v := .agg R) (Mq.results_cell0 (p := 6) rfl _ w3 (w.heap.size + 1) _ rfl (Lies.loadVar M1.out 40 _ Tryz.underlying40 rfl IR.out)) rfl ?_
      exact ⟨rfl, M2.out.bel HB.out HB.out.size (Nat.le_succ _)⟩
end Go.Proofs.YtldhlknmabpanaaGreat.Mp
namespace Go.Proofs.YtldhlknmabpanaaGreat.Mp
open Go.RowKit

set_option maxRecDepth 100000 in
set_option maxHeartbeats 4000000 in
theorem do15_trip (o : Op15) (hn : o.kind = 4) {S : Nat → Prop} {w : World} {B p : Nat} {s t : Sd} {A : Option Addr} {C k : Nat} (h : Cx S w B p s t A C k) (hk6 : k ≤ 900000) (ho : o.ok w) (hdl : o.d.dl = 0 ∨ ∀ g, o.d.da.map Addr.block = some g → g < B) :
    Calls Tryz.prog 12 #[.pointer (some ⟨p, 0, none⟩), .agg (dsa t A C), .agg o.cells] w (Do15 w S B p A (k + 800)) := by
  obtain ⟨W, hW⟩ : ∃ W, W = ((w.alloc (.cells (dsa t A C) 40)).alloc (.cells o.cells 58)).alloc (.cells (dsa Sdz none 0) 40) := ⟨_, rfl⟩
  have hbo := Bo.start w t A C o hW
  have HBo := Lib.hid hbo
  have HC := Lib.hid (h.below hbo.bel)
  have HX := Lib.hid h.lt
  have HA := Lib.hid (fun g hg => (h.ls g hg).2)
  have HB0 := Lib.hid h.hB
  have HK6 := Lib.hid hk6
  have HO := Lib.hid ho
  have HDL := Lib.hid hdl
  have HZS : Hid (∀ t A C, (dsa t A C).size = (dsa Sdz none 0).size) := Lib.hid (fun t A C => by rw [dsa_size, dsa_size])
  obtain ⟨c0, c1, c13, c14, c15, c2⟩ := hbo.cells
  have zz := zeroD
  obtain ⟨V, hV⟩ : ∃ V, V = dsa t A C := ⟨_, rfl⟩
  have HV := Lib.hid hV
  obtain ⟨Z, hZ⟩ : ∃ Z, Z = dsa Sdz none 0 := ⟨_, rfl⟩
  have HZ := Lib.hid hZ
  obtain ⟨O, hO⟩ : ∃ O, O = o.cells := ⟨_, rfl⟩
  rw [← hZ] at zz hW HZS
  rw [← hV] at hW ⊢
  rw [← hO] at hW ⊢
  have HK := Lib.hid (show k ≤ 1000000 by omega)
  have CT : Hid (Calls Tryz.prog 39 #[.pointer (some ⟨p, 0, none⟩), .int .i64 o.way, .int .u32 (o.th : Int)] W fun e w' => e = .returned (.tuple #[]) ∧ Hid (After (@SB (gw W [])) W S p (s.trip o.way o.th) w')) := Lib.hid (@trip_sb (gw W []) _ _ _ _ _ _ o.way (sb_ghost [] HC.out.sb) HC.out.fs HK.out ho.th)
  have CD := Lib.hid (fun w' => rtrip15_any o.way o.th t A C k HC.out.ft HK.out ho.th w')
  have HN : Hid (∀ w1, After (@SB (gw W [])) W S p (s.trip o.way o.th) w1 → (∃ S', Cx S' w1 B p (s.trip o.way o.th) (t.trip o.way o.th) A C (k + 1) ∧ ∀ j, S' j → S j ∨ W.heap.size ≤ j) ∧ Below B W w1 ∧ Fr S W w1) := Lib.hid (fun w1 ha => by
    have hq : (t.trip o.way o.th).q = t.q := by unfold Sd.trip; split <;> rfl
    exact HC.out.both (Below.refl _ _) ha (fun g hg => .inl hg) (by rw [hq]; exact HC.out.dl) (by rw [hq]; exact HC.out.cap) (by rw [hq]; exact HC.out.td) (HC.out.rel.trip _ _) (Sd.trip_fit HC.out.fs _ _) (Sd.trip_fit HC.out.ft _ _))
  obtain ⟨R, hR⟩ : ∃ R, R = dsa (t.trip o.way o.th) A C := ⟨_, rfl⟩
  have HR := Lib.hid hR
  have HRS : Hid (R.size = Z.size) := Lib.hid (by rw [hR]; exact HZS.out _ _ _)
  have HRI : Hid ((Tryz.prog.info? 40).map (·.size) = some R.size) := Lib.hid (by rw [hR]; exact infoD15 _ _ _)
  have HR1 : Hid (R.all (·.oneCell') = true) := Lib.hid (by rw [hR]; exact dsa_one _ _ _)
  rw [← hR] at CD
  rw [← hV] at CD
  rw [hn] at c0
  clear hV hZ hO hk6 ho hdl hbo h hR hn
  have HC14 := Lib.hid c14
  have HC15 := Lib.hid c15
  generalize o.way = iw at *
  generalize o.th = th at *
  go_enter Tryz.func12, Tryz.ntmps12
  go_upto_region 1 with fail
  rw [← hW]
  clear hW zz
  have HLV : Hid (Lies W w.heap.size 0 V) := Lib.hid (by rw [HV.out]; exact HBo.out.db.whole)
  have HLZ : Hid (Lies W (w.heap.size + 1 + 1) 0 Z) := Lib.hid (by rw [HZ.out]; exact HBo.out.z)
  have HVI : Hid ((Tryz.prog.info? 40).map (·.size) = some V.size) := Lib.hid (by rw [HV.out]; exact infoD15 _ _ _)
  go_upto_region 27 with (first
    | (go_at_call 39; (with_reducible refine (CT.out).mono ?_); rintro e w1 ⟨rfl, HAF⟩)
    | fail)
  obtain ⟨⟨S', hcx, hS'⟩, hbb, hfr⟩ := HN.out w1 HAF.out
  have HCX := Lib.hid hcx
  have HS' := Lib.hid hS'
  have HBB := Lib.hid hbb
  have hk3 : ∀ g, w.heap.size ≤ g → g < w.heap.size + 3 → w1.heap[g]? = W.heap[g]? := fun g h1 h2 => hfr.block g (by have := HBo.out.hs; omega) (fun hs => by have := HX.out g hs; omega)
  have HKB := Lib.hid hk3
  have HSZ := Lib.hid hfr.size
  have HFR := Lib.hid hfr
  have HLV1 : Hid (Lies w1 w.heap.size 0 V) := Lib.hid (HLV.out.keep (hk3 _ (Nat.le_refl _) (by omega)))
  have HLZ1 : Hid (Lies w1 (w.heap.size + 1 + 1) 0 Z) := Lib.hid (HLZ.out.keep (hk3 _ (by omega) (by omega)))
  clear c0 c1 c13 c14 c15 c2
  have c14 : w1.cell? ⟨w.heap.size + 1, 14, none⟩ = some (.int .i64 iw) := (World.cell?_of_block (w := W) (a := ⟨w.heap.size + 1, 14, none⟩) (hk3 (w.heap.size + 1) (by omega) (by omega))).trans HC14.out
  have c15 : w1.cell? ⟨w.heap.size + 1, 15, none⟩ = some (.int .u32 (th : Int)) := (World.cell?_of_block (w := W) (a := ⟨w.heap.size + 1, 15, none⟩) (hk3 (w.heap.size + 1) (by omega) (by omega))).trans HC15.out
  clear hcx hS' hbb hfr hk3 HAF CT HN HLV HLZ
  go_wp2_with (first
    | (with_reducible refine wpList_load_lies rfl 40 (.tmp 4) rfl w.heap.size 0 rfl V HLV1.out _ Tryz.underlying40 rfl HVI.out ?_)
    | (go_at_call 40; (with_reducible refine (CD.out _).mono ?_); rintro e w2 ⟨rfl, hb2⟩; have HB2 := Lib.hid hb2; clear hb2)
    | ((with_reducible refine wpList_store_lies rfl 40 (.tmp 6) (.tmp 134) rfl (w.heap.size + 1 + 1) 0 rfl R rfl Z (HLZ1.out.below HB2.out HLZ1.out.lt) HRS.out HRI.out HR1.out ?_); intro w3 N1 N2 N3)
    | fail)
  refine bodyPost_ret (v := .tuple #[.agg R, .bool true]) (Mq.results_cell1 (p := 6) (u := 7) rfl _ w3 (w.heap.size + 1 + 1) _ _ rfl rfl (Lies.loadVar N1.out 40 _ Tryz.underlying40 rfl HRI.out)) rfl ?_
  have hfw : Fr S w w2 := ((Fr.of_below HBo.out.bel).next HFR.out).next (Fr.of_below HB2.out)
  have hd := do15_end (w := w) (HCX.out.below HB2.out) (show k + 1 ≤ k + 800 by omega) N2.out (fun hs => by
    have h1 := HBo.out.hs
    rcases HS'.out _ hs with h2 | h2
    · have := HX.out _ h2; omega
    · omega) (fun e => by have := HA.out _ e; omega) HB0.out (fun j hj => (HS'.out j hj).imp id (fun h2 => by have := HBo.out.hs; omega)) hfw
  exact ⟨_, _, A, C, by rw [HR.out], Lib.hid hd.1, Lib.hid (fun g hg => .inl hg), Lib.hid hd.2⟩
end Go.Proofs.YtldhlknmabpanaaGreat.Mp
