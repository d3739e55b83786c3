/-
  Own text: what law MpathBounds asks, in plain numbers.
-/
import Derived.Test.YtblnmddphichgaaMpA
import Derived.Test.YtblnmddphichgaaMpF
namespace Go.Proofs.Ytblnmddphichgaa.Mp
open Go.RowKit

/-- What the law asks of a sender behind so many ticks. -/
structure Bnd (r bu : Int) (ro : Nat) (s : Sd) (tk : Nat) : Prop where
  hra : s.bk.ra = r
  hbu : s.bk.bu = bu
  room : s.q.room = ro
  sum : s.bk.he + s.bk.sp ≤ bu + r * (tk : Int)
theorem Bnd.new (ses ro : Nat) (r bu : Int) : Bnd r bu ro (Sd.new ses r bu ro) 0 := ⟨rfl, rfl, rfl, by show bu + 0 ≤ bu + r * ((0 : Nat) : Int); simp⟩
theorem Bnd.ok {r bu : Int} {ro tk k : Nat} {s : Sd} (h : Bnd r bu ro s tk) (hf : s.fit k) : s.bk.sp ≤ bu + r * (tk : Int) ∧ (s.q.l.length : Int) ≤ (ro : Int) := by
  have h1 := h.sum
  have h2 := hf.bk.h1
  have h3 := hf.q.len
  rw [h.room] at h3
  exact ⟨by omega, by omega⟩
theorem Bnd.push {r bu : Int} {ro tk : Nat} {s : Sd} (h : Bnd r bu ro s tk) (x : Int) (d : Dg) : Bnd r bu ro (s.push x d) tk := ⟨h.hra, h.hbu, h.room, h.sum⟩
theorem Bnd.hear {r bu : Int} {ro tk : Nat} {s : Sd} (h : Bnd r bu ro s tk) (i n : Nat) : Bnd r bu ro (s.hear i n) tk := ⟨h.hra, h.hbu, h.room, h.sum⟩
theorem Bnd.tick {r bu : Int} {ro tk k : Nat} {s : Sd} (h : Bnd r bu ro s tk) (hf : s.fit k) : Bnd r bu ro s.tick.2 (tk + 1) := by
  obtain ⟨_, h2, h3, h4⟩ := tick_sum hf
  refine ⟨h3.trans h.hra, h4.trans h.hbu, by rw [tick_q]; exact h.room, ?_⟩
  have h5 := h.sum
  have e : r * ((tk + 1 : Nat) : Int) = r * (tk : Int) + r := by rw [Int.natCast_add, Int.mul_add]; simp
  rw [h.hra] at h2
  omega
theorem flush_room : ∀ (l : List Mq.It) (s : Sd), (flushL l s).2.q.room = s.q.room
  | [], _ => rfl
  | x :: t, s => by
    rw [flushL]
    split
    · dsimp only
      rw [flush_room t (s.first x t).2, (first_keep s x t).1]
    · rfl
theorem Bnd.flush {r bu : Int} {ro tk : Nat} {s : Sd} (h : Bnd r bu ro s tk) : Bnd r bu ro s.flush.2 tk := by
  obtain ⟨_, h2, h3, h4⟩ := flush_sum s.q.l s
  exact ⟨h3.trans h.hra, h4.trans h.hbu, (flush_room _ _).trans h.room, by have := h.sum; show (flushL s.q.l s).2.bk.he + (flushL s.q.l s).2.bk.sp ≤ _; omega⟩
theorem push_nxs (s : Sd) (x : Int) (d : Dg) : (s.push x d).nxs = s.nxs ∧ (s.push x d).bk = s.bk := ⟨rfl, rfl⟩
theorem hear_nxs (s : Sd) (i n : Nat) : (s.hear i n).nxs = s.nxs := by
  funext k
  unfold Sd.nxs Sd.hear upd
  dsimp only
  split
  · rename_i e; subst e; unfold Pn.heard; split <;> rfl
  · rfl
theorem way_zero (s : Sd) (i : Nat) : ∀ o ∈ (s.way i).1, o.d.dl = 0 := by
  intro o ho
  unfold Sd.way at ho
  split at ho
  · obtain ⟨_, n, t, e⟩ := sends_what _ _ _ o ho
    rw [e]
    rfl
  · cases ho
theorem tick_zero (s : Sd) : ∀ o ∈ s.tick.1, o.d.dl = 0 := by
  intro o ho
  rcases List.mem_append.1 ho with h | h
  · exact way_zero _ _ o h
  · exact way_zero _ _ o h
theorem tick_few (s : Sd) : s.tick.1.length ≤ 2 := by
  have h : ∀ (s : Sd) (i : Nat), (s.way i).1.length ≤ 1 := fun s i => by
    unfold Sd.way
    split
    · rw [sends_length]; exact Nat.le_refl _
    · exact Nat.zero_le _
  show ((s.later.way 0).1 ++ ((s.later.way 0).2.way 1).1).length ≤ 2
  rw [List.length_append]
  have := h s.later 0
  have := h (s.later.way 0).2 1
  omega
theorem total_lo : ∀ (l : List On), 0 ≤ total l
  | [] => by show (0 : Int) ≤ 0; omega
  | o :: t => by
    have := total_lo t
    show 0 ≤ (33 + (o.d.dl : Int)) + total t
    omega
theorem total_cons (o : On) (l : List On) : total (o :: l) = (33 + (o.d.dl : Int)) + total l := rfl
/-- What was told, in a row, where the law reads it. -/
structure Got (W : World) (base nb : Nat) (l l' : List On) (A : Option Addr) (C : Nat) : Prop where
  own : Mo.OwnT W base (.slice A l.length C) l.length l'
  el : ∀ (i : Nat) (o : On), l[i]? = some o → ∃ o', l'[i]? = some o' ∧ o'.i = o.i ∧ o'.d = Dg.moved o.d o'.d.da o'.d.dc ∧ Rd W o'.d ∧ ∀ g, o'.d.da.map Addr.block = some g → g ≠ nb
theorem Got.low {W : World} {base base' nb : Nat} {l l' : List On} {A : Option Addr} {C : Nat} (h : Got W base nb l l' A C) (hb : base' ≤ base) : Got W base' nb l l' A C := ⟨h.own.low hb, h.el⟩
theorem bytes_zero {w : World} {A : Option Addr} {l : List Int} (h : Bytes w A 0 l) (w' : World) : Bytes w' A 0 l := ⟨h.size, h.max, h.byte, .inl rfl⟩
theorem rd_zero {w : World} {d : Dg} (h : Rd w d) (h0 : d.dl = 0) (w' : World) : Rd w' d := by
  obtain ⟨h1, l, h2, h3⟩ := h
  exact ⟨h1, l, by rw [h0] at h2 ⊢; exact bytes_zero h2 w', h3⟩
theorem Got.start (W : World) (base nb : Nat) : Got W base nb [] [] none 0 := ⟨Mo.OwnT.none _ _, fun i o h => (by simp at h)⟩
theorem Got.told {w W : World} {base nb : Nat} {l l' : List On} {A : Option Addr} {C : Nat} (h1 : Mo.OwnT W w.heap.size (.slice A l.length C) l.length l') (h2 : Likes w W l l') (hb : base ≤ w.heap.size) (hn : nb < w.heap.size) : Got W base nb l l' A C :=
  ⟨h1.low hb, fun i o ho => by
    obtain ⟨o', e, hl, hr, hg⟩ := h2.2 i o ho
    exact ⟨o', e, hl.i, hl.d, hr, fun g hg' e => by have := hg g hg'; omega⟩⟩
theorem Got.keep {W W' : World} {base nb : Nat} {l l' : List On} {A : Option Addr} {C : Nat} (h : Got W base nb l l' A C) (e : ∀ k, k < W.heap.size → k ≠ nb → W'.heap[k]? = W.heap[k]?) (hs : W.heap.size ≤ W'.heap.size) (hn : nb < base) : Got W' base nb l l' A C :=
  ⟨h.own.keep (fun g hg => e g (h.own.lt g hg).2 (fun e => by have := (h.own.lt g hg).1; omega)), fun i o ho => by
    obtain ⟨o', e', h1, h2, h3, h4⟩ := h.el i o ho
    exact ⟨o', e', h1, h2, ⟨h3.1, h3.2.imp fun _ hl => ⟨(by
      refine ⟨hl.1.size, hl.1.max, hl.1.byte, hl.1.cell.imp id fun ⟨h0, b, off, ea, hlt, hcl⟩ => ⟨h0, b, off, ea, Nat.lt_of_lt_of_le hlt hs, fun i hi => ?_⟩⟩
      exact (World.cell?_of_block (w := W) (a := ⟨b, off + i, none⟩) (e b hlt (h4 b (by rw [ea]; rfl)))).trans (hcl i hi)), hl.2⟩⟩, h4⟩⟩
/-- Rows of what bears no bytes: the own row alone is to be kept. -/
theorem Got.zero {W W' : World} {base nb : Nat} {l l' : List On} {A : Option Addr} {C : Nat} (h : Got W base nb l l' A C) (hz : ∀ o ∈ l, o.d.dl = 0) (e : ∀ g, A.map Addr.block = some g → W'.heap[g]? = W.heap[g]?) : Got W' base nb l l' A C :=
  ⟨h.own.keep (fun g hg => e g (by rw [← Mo.own_block]; exact hg)), fun i o ho => by
    obtain ⟨o', e', h1, h2, h3, h4⟩ := h.el i o ho
    have hd : o'.d.dl = 0 := by rw [h2]; exact hz o (List.mem_of_getElem? ho)
    exact ⟨o', e', h1, h2, rd_zero h3 hd W', h4⟩⟩
theorem Got.append {W W' : World} {base nb : Nat} {l l' m m' : List On} {A A' B : Option Addr} {C C' D : Nat} (h : Got W base nb l l' A C) (g : Got W base nb m m' B D) (hz : ∀ o ∈ l, o.d.dl = 0) (gz : ∀ o ∈ m, o.d.dl = 0) (ho : Mo.OwnT W' base (.slice A' (l.length + m.length) C') (l.length + m.length) (l' ++ m')) : Got W' base nb (l ++ m) (l' ++ m') A' C' := by
  have hl := h.own.length
  refine ⟨by rw [List.length_append]; exact ho, fun i o hi => ?_⟩
  by_cases hlt : i < l.length
  · rw [List.getElem?_append_left hlt] at hi
    obtain ⟨o', e', h1, h2, h3, h4⟩ := h.el i o hi
    have hd : o'.d.dl = 0 := by rw [h2]; exact hz o (List.mem_of_getElem? hi)
    exact ⟨o', by rw [List.getElem?_append_left (by omega)]; exact e', h1, h2, rd_zero h3 hd W', h4⟩
  · rw [List.getElem?_append_right (by omega)] at hi
    obtain ⟨o', e', h1, h2, h3, h4⟩ := g.el (i - l.length) o hi
    have hd : o'.d.dl = 0 := by rw [h2]; exact gz o (List.mem_of_getElem? hi)
    exact ⟨o', by rw [List.getElem?_append_right (by omega), hl]; exact e', h1, h2, rd_zero h3 hd W', h4⟩
/-- A row of the call's own is appended to another one. -/
theorem wpList_append_row {w : World} {ops : Array Oper} {rest : List Oper} {o : Oper} {a : Act} {Q : Exit → Act → World → Prop} (hgd : o.guard = none) (s x : Operand)
    (ho : o.op = .call { callee := .builtin .append, args := #[s, x], argTypes := #[32, 32] })
    (base : Nat) (A : Option Addr) (n C : Nat) (hs : a.eval s = .slice A n C) (l : List On) (hown : Mo.OwnT w base (.slice A n C) n l)
    (b2 : Nat) (A2 : Option Addr) (m C2 : Nat) (hx : a.eval x = .slice A2 m C2) (l2 : List On) (h2 : Mo.OwnT w b2 (.slice A2 m C2) m l2) (hb : n + m ≤ 100000) (hbase : base ≤ w.heap.size)
    (h : ∀ A' C' w', Hid (Mo.OwnT w' base (.slice A' (n + m) C') (n + m) (l ++ l2)) → Hid (Mo.MovedTo w (A.map Addr.block) w' (A'.map Addr.block)) → wpList Try.prog ops Q rest (a.put o.dst (.slice A' (n + m) C')) w') :
    wpList Try.prog ops Q (o :: rest) a w := by
  rcases h2.form with ⟨rfl, rfl, rfl, rfl⟩ | ⟨g, R, rfl, _, _, hg, _, _⟩
  · refine wpList_plain hgd fun K hK => ?_
    obtain ⟨i, hi, hzz⟩ := Option.map_eq_some_iff.1 Mo.info_item
    simp only [Prod.mk.injEq] at hzz
    obtain ⟨_, _, _⟩ := hzz
    have hrun := run_append_owned_none (P := Try.prog) (w := w) base 32 o.type 42 i 12 Try.underlying32 hi _ n _ hown
    unfold Oper.wp
    simp [execOp, ho, resolve, invoke, builtin, hs, hx, hrun, Result.andThen]
    have h1 := h A C w (Lib.hid (by simpa using hown)) (Lib.hid ⟨grown_refl _ _, .inl rfl⟩)
    rw [Nat.add_zero] at h1
    exact hK _ _ h1
  · refine Mo.wpList_append_items hgd s x ho base A n C hs l hown ⟨g, 0, none⟩ m C2 hx l2 h2.length (fun j u hu => ?_) hb hbase h
    rw [add_place, Nat.zero_add, hg.cell]
    rw [List.getElem?_append_left (List.getElem?_eq_some_iff.1 hu).1]
    exact hu
end Go.Proofs.Ytblnmddphichgaa.Mp
