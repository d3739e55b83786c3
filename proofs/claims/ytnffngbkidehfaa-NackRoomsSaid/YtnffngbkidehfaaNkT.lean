/-
  Own text: Tick, walked.
-/
import Derived.Test.YtnffngbkidehfaaNkS
import Derived.Maps.OwnIn
namespace Go.Proofs.Ytnffngbkidehfaa.Nk
open Go.RowKit

/-- A store into the map, in a fence. -/
theorem wpListIn_tput {F : Fence} {nF : Nat} {w : World} {ops : Array Oper} {rest : List Oper} {o : Oper} {a : Act} {Q : Exit → Act → World → Prop} (hg : o.guard = none) (mm x v : Operand) (hop : o.op = Op.mapUpdate 127 mm x v)
    (m c : Nat) (S : Int → Bool) (T : Int → Nat) (hm : a.eval mm = .map (some m)) (h : TMap w m c S T) (hc : c ≤ 1000) (z : Int) (hz : 0 ≤ z ∧ z ≤ 4294967295) (hx : a.eval x = .int .u32 z) (n : Nat) (hn : n ≤ 5) (hv : a.eval v = .int .i64 (n : Int))
    (hK : ∀ w', Hid (TMap w' m (if S z = true then c else c + 1) (fun y => S y || decide (y = z)) (put T z n)) → Hid (w.grownBy w' (some m)) → wpListIn F nF Try.prog ops Q rest (a.put o.dst undef) w') : wpListIn F nF Try.prog ops Q (o :: rest) a w := by
  obtain ⟨w', hrun, h1, h2⟩ := h.update hc hz hn
  refine wpListIn_plain hg fun K' hK' => ?_
  unfold Oper.wpIn
  refine ⟨by simp [Oper.about, hop], ?_⟩
  rw [Oper.semAt_plain F _ _ (by rw [hop]; intro c hc'; cases hc')]
  simp [execOp, hop, hm, hx, hv, hrun, Result.andThen]
  exact hK' _ _ (hK w' (Lib.hid h1) (Lib.hid h2))
/-- What is of another type than the list's is kept by its calls. -/
theorem NFr.typ {w w' : World} {b s m C asked full c : Nat} {A : Option Addr} {q : Qn} {S : Int → Bool} {T : Int → Nat} (h : NB w b s m A C q asked full c S T) (hf : NFr b s m (A.map Addr.block) w w') {k : Nat} {cur : Array Value} {t : TypeId} (hk : w.heap[k]? = some (Obj.cells cur t (0, 0)))
    (h1 : t ≠ 129) (h2 : t ≠ 164) (h3 : t ≠ 167) : w'.heap[k]? = w.heap[k]? := by
  refine hf.block k (Array.getElem?_eq_some_iff.1 hk).1 (fun e => ?_) (fun e => ?_) (fun e => ?_) (fun e => ?_)
  · subst e
    have := h.blk
    unfold NBlk at this
    rw [hk] at this
    simp at this
    exact h1 this.2
  · subst e
    have := h.set.blk
    unfold QBlk at this
    rw [hk] at this
    simp at this
    exact h2 this.2
  · subst e
    obtain ⟨es, clock, hm⟩ := h.map.obj
    rw [hk] at hm
    cases hm
  · rcases h.set.own.form with ⟨e2, _⟩ | ⟨g, R, e2, _, _, hg, _⟩
    · rw [e2] at e; simp at e
    · rw [e2] at e
      simp at e
      subst e
      unfold TBlk at hg
      rw [hk] at hg
      simp at hg
      exact h3 hg.2
theorem OwnW.typ {w w' : World} {base n C : Nat} {A : Option Addr} {l : List Int} (h : OwnW w base (.slice A n C) n l) (hk : ∀ (k : Nat) (cur : Array Value), w.heap[k]? = some (Obj.cells cur 28 (0, 0)) → w'.heap[k]? = w.heap[k]?) : OwnW w' base (.slice A n C) n l :=
  h.keep (fun g hg => by
    rcases h.2 with ⟨e, _⟩ | ⟨g1, cap, cur, e, _, hg1, _⟩
    · rw [e] at hg; simp [Value.ownBlock] at hg
    · rw [e] at hg
      simp [Value.ownBlock] at hg
      subst hg
      exact hk _ _ hg1)
/-- All that are waited for: those that came, and those that did not. -/
theorem Nl.has_parts {N : Nl} {j : Nat} (hf : N.fit j) (hj : j ≤ 1000000) (z : Int) : N.has z = true ↔ hasK z (N.q.tick 1).l = true ∨ z ∈ N.q.came 1 := by
  obtain ⟨a, b⟩ := Nl.ticked hf hj
  rw [a, b]
  unfold Nl.has
  rw [hasK_iff, hasK_iff]
  constructor
  · rintro ⟨x, hx, e⟩
    by_cases hd : x.due ≤ N.q.now + 1
    · exact .inr (List.mem_map.2 ⟨x, List.mem_filter.2 ⟨hx, by simpa using hd⟩, e⟩)
    · exact .inl ⟨x, List.mem_filter.2 ⟨hx, by simpa using hd⟩, e⟩
  · rintro (⟨x, hx, e⟩ | h)
    · exact ⟨x, (List.mem_filter.1 hx).1, e⟩
    · obtain ⟨x, hx, e⟩ := List.mem_map.1 h
      exact ⟨x, (List.mem_filter.1 hx).1, e⟩
/-- What Tick answers. -/
def NTick (w : World) (b s m : Nat) (A : Option Addr) (N : Nl) (L : List Int) (e : Ending) (w' : World) : Prop :=
  ∃ A3 C3, e = .returned (.slice A3 L.length C3) ∧ Hid (OwnW w' w.heap.size (.slice A3 L.length C3) L.length L) ∧ Hid (NTo w b s m A N w')
/-- Between two of those that came. -/
structure Rd (w : World) (b s m : Nat) (A0 : Option Addr) (N : Nl) (t : Int) (j q : Nat) (M : Nl) (A : Option Addr) (C : Nat) (A3 : Option Addr) (C3 : Nat) (wr : World) : Prop where
  mid : Mid ⟨N.q.tick 1, N.t, N.asked, N.full⟩ ((N.q.came 1).take q) ((N.q.came 1).drop q) M (j + 1)
  fin : Nl.again (hd t) M ((N.q.came 1).drop q) = Nl.again (hd t) ⟨N.q.tick 1, N.t, N.asked, N.full⟩ (N.q.came 1)
  nb : NB wr b s m A C M.q N.asked N.full N.q.l.length N.has M.t
  mov : Moved w (A0.map Addr.block) (A.map Addr.block)
  frm : NFr b s m (A0.map Addr.block) w wr
  due : OwnW wr w.heap.size (.slice A3 (N.q.came 1).length C3) (N.q.came 1).length (N.q.came 1)
theorem Rd.below {w : World} {b s m : Nat} {A0 : Option Addr} {N : Nl} {t : Int} {j q : Nat} {M : Nl} {A : Option Addr} {C : Nat} {A3 : Option Addr} {C3 : Nat} {wr w' : World} (h : Rd w b s m A0 N t j q M A C A3 C3 wr) (hb : Below wr.heap.size wr w') : Rd w b s m A0 N t j q M A C A3 C3 w' :=
  ⟨h.mid, h.fin, h.nb.below hb (Nat.le_refl _), h.mov, h.frm.then_ h.mov (NFr.of_below hb), h.due.below hb (Nat.le_refl _)⟩
theorem drop_cons {α : Type} {l : List α} {q : Nat} {x : α} (h : l[q]? = some x) : l.drop q = x :: l.drop (q + 1) := by
  obtain ⟨hlt, e⟩ := List.getElem?_eq_some_iff.1 h
  rw [List.drop_eq_getElem_cons hlt, e]
theorem take_snoc {α : Type} {l : List α} {q : Nat} {x : α} (h : l[q]? = some x) : l.take q ++ [x] = l.take (q + 1) := by
  rw [List.take_add_one, h]; rfl
/-- One of them: first it has been asked for once more. -/
theorem Rd.marked {w : World} {b s m : Nat} {A0 : Option Addr} {N : Nl} {t : Int} {j q : Nat} {M : Nl} {A : Option Addr} {C : Nat} {A3 : Option Addr} {C3 : Nat} {wr w1 w2 : World} (h : Rd w b s m A0 N t j q M A C A3 C3 wr) {k : Int} (hk : (N.q.came 1)[q]? = some k) (hh : N.has k = true) (hb : Below wr.heap.size wr w1)
    (hm : TMap w2 m (if N.has k = true then N.q.l.length else N.q.l.length + 1) (fun y => N.has y || decide (y = k)) (put M.t k (min (M.t k + 1) 5))) (hg : w1.grownBy w2 (some m)) :
    NB w2 b s m A C M.q N.asked N.full N.q.l.length N.has (put M.t k (min (M.t k + 1) 5)) ∧ NFr b s m (A0.map Addr.block) w w2 ∧ OwnW w2 w.heap.size (.slice A3 (N.q.came 1).length C3) (N.q.came 1).length (N.q.came 1) := by
  have h' := h.below hb
  rw [if_pos hh] at hm
  obtain ⟨h1, h2⟩ := h'.nb.map_to hm hg
  refine ⟨⟨h1.blk, h1.set, h1.map.congr rfl (fun z _ => ?_) (fun _ _ _ => rfl)⟩, h'.frm.then_ h.mov h2, h'.due.typ (fun k cur hk => NFr.typ h'.nb h2 hk (by decide) (by decide) (by decide))⟩
  by_cases e : z = k
  · subst e; rw [hh, Bool.true_or]
  · rw [decide_eq_false e, Bool.or_false]
/-- .. then it is waited for again. -/
theorem Rd.started {w : World} {b s m : Nat} {A0 : Option Addr} {N : Nl} {t : Int} {j q : Nat} {M : Nl} {A : Option Addr} {C : Nat} {A3 : Option Addr} {C3 : Nat} {wr w2 w3 w4 : World} (h : Rd w b s m A0 N t j q M A C A3 C3 wr) {k : Int} (hk : (N.q.came 1)[q]? = some k)
    (hn : NB w2 b s m A C M.q N.asked N.full N.q.l.length N.has (put M.t k (min (M.t k + 1) 5))) (hfr : NFr b s m (A0.map Addr.block) w w2) (ho : OwnW w2 w.heap.size (.slice A3 (N.q.came 1).length C3) (N.q.came 1).length (N.q.came 1)) (hb : Below w2.heap.size w2 w3)
    (ht : QTo w3 s A (M.q.start k (agn (hd t) (min (M.t k + 1) 5))) w4) : ∃ A' C', Rd w b s m A0 N t j (q + 1) (Nl.one (hd t) M k) A' C' A3 C3 w4 := by
  obtain ⟨t1, t2⟩ := hd_in t
  have hn3 := hn.below hb (Nat.le_refl _)
  obtain ⟨A', C', h1, h2, h3⟩ := hn3.set_to ht
  have hmid := h.mid
  have hfin := h.fin
  rw [drop_cons hk] at hmid hfin
  obtain ⟨m1, _, _⟩ := hmid.next t1 t2
  rw [take_snoc hk] at m1
  refine ⟨A', C', m1, hfin, h1, h.mov.trans (Nat.le_trans hfr.size hb.size) h2, (hfr.then_ h.mov (NFr.of_below hb)).then_ h.mov h3, (ho.below hb (Nat.le_refl _)).typ (fun k cur hk => NFr.typ hn3 h3 hk (by decide) (by decide) (by decide))⟩
/-- The end. -/
theorem Rd.done {w : World} {b s m : Nat} {A0 : Option Addr} {N : Nl} {t : Int} {j : Nat} (hf : N.fit j) (hj : j ≤ 1000000) {M : Nl} {A : Option Addr} {C : Nat} {A3 : Option Addr} {C3 : Nat} {wr w1 : World} (h : Rd w b s m A0 N t j (N.q.came 1).length M A C A3 C3 wr) (hb : Below wr.heap.size wr w1) :
    w1.cell? ⟨b, 2, none⟩ = some (.int .i64 (N.asked : Int)) ∧ w1.frozen? ⟨b, 2, none⟩ = false ∧ NTick w b s m A0 (N.tick t) (N.q.came 1) (.returned (.slice A3 (N.q.came 1).length C3)) (w1.setCell ⟨b, 2, none⟩ (.int .i64 ((N.asked : Int) + ((N.q.came 1).length : Int)))) := by
  obtain ⟨t1, t2⟩ := hd_in t
  have h' := h.below hb
  have hmid := h.mid
  have hfin := h.fin
  rw [List.take_of_length_le (Nat.le_refl _), List.drop_eq_nil_of_le (Nat.le_refl _)] at hmid
  rw [List.drop_eq_nil_of_le (Nat.le_refl _)] at hfin
  have hfin' : M = Nl.again (hd t) ⟨N.q.tick 1, N.t, N.asked, N.full⟩ (N.q.came 1) := hfin
  obtain ⟨x1, x2⟩ := h'.nb.setAsked (N.asked + (N.q.came 1).length)
  have e0 : ((N.asked + (N.q.came 1).length : Nat) : Int) = (N.asked : Int) + ((N.q.came 1).length : Int) := by omega
  rw [e0] at x1 x2
  obtain ⟨k1, k2, k3, k4⟩ := Nl.tick_asked (t := t) hf hj
  refine ⟨h'.nb.blk.cells.2.2.1, h'.nb.blk.frozen 2, A3, C3, rfl, Lib.hid (h'.due.typ (fun k cur hk => NFr.typ h'.nb x2 hk (by decide) (by decide) (by decide))), Lib.hid ⟨A, C, ⟨?_, ?_, ?_⟩, h.mov, h'.frm.then_ h.mov x2⟩⟩
  · rw [k1, k2]; exact x1.blk
  · show QB _ s (Nl.again (hd t) _ _).q A C
    rw [← hfin']
    exact x1.set
  · refine x1.map.congr k4.symm (fun z _ => ?_) (fun z _ _ => ?_)
    · show (Nl.again (hd t) _ _).has z = N.has z
      rw [← hfin']
      have h8 := hmid.keys z
      have h9 := Nl.has_parts hf hj z
      have h10 : (M.has z = true) ↔ N.has z = true := h8.trans h9.symm
      cases h11 : M.has z <;> cases h12 : N.has z
      · rfl
      · rw [h11, h12] at h10; exact absurd (h10.2 rfl) (by decide)
      · rw [h11, h12] at h10; exact absurd (h10.1 rfl) (by decide)
      · rfl
    · show (Nl.again (hd t) _ _).t z = M.t z
      rw [← hfin']
set_option maxRecDepth 100000 in
set_option maxHeartbeats 1000000 in
/-- Tick, whatever is asked. -/
theorem ntick_any (t : Int) (b s m : Nat) (A : Option Addr) (C j : Nat) (N : Nl) (hf : N.fit j) (hj : j ≤ 1000000) (w : World) (h : NS w b s m A C N) :
    Calls Try.prog 26 #[.pointer (some ⟨b, 0, none⟩), .int .i64 t] w (NTick w b s m A (N.tick t) (N.q.came 1)) := by
  obtain ⟨t1, t2⟩ := hd_in t
  obtain ⟨c0, c1, c2, c3⟩ := h.blk.cells
  have hmid := Nl.mid hf hj
  have hroom := hf.room
  have hln : (N.q.came 1).length ≤ 64 := by
    have := hmid.len
    have e : (N.q.tick 1).room = N.q.room := rfl
    dsimp only at *
    omega
  have hcn : N.q.l.length ≤ 64 := by have := hf.q.len; omega
  have CT := Lib.hid (tick_any 1 s N.q A C hf.q w h.set)
  have HST : Hid (∀ A3 C3 w1, OwnW w1 w.heap.size (.slice A3 (N.q.came 1).length C3) (N.q.came 1).length (N.q.came 1) → QTo w s A (N.q.tick 1) w1 → ∃ A1 C1, Rd w b s m A N t j 0 ⟨N.q.tick 1, N.t, N.asked, N.full⟩ A1 C1 A3 C3 w1) := Lib.hid (fun A3 C3 w1 ho ht => by
    obtain ⟨A', C', h1, h2, h3⟩ := NB.set_to h ht
    exact ⟨A', C', hmid, rfl, h1, h2, h3, ho⟩)
  have HDONE : Hid (∀ {M : Nl} {A' : Option Addr} {C' : Nat} {A3 : Option Addr} {C3 : Nat} {wr w1 : World}, Rd w b s m A N t j (N.q.came 1).length M A' C' A3 C3 wr → Below wr.heap.size wr w1 → w1.cell? ⟨b, 2, none⟩ = some (.int .i64 (N.asked : Int)) ∧ w1.frozen? ⟨b, 2, none⟩ = false ∧ NTick w b s m A (N.tick t) (N.q.came 1) (.returned (.slice A3 (N.q.came 1).length C3)) (w1.setCell ⟨b, 2, none⟩ (.int .i64 ((N.asked : Int) + ((N.q.came 1).length : Int))))) := Lib.hid (fun hr hb => Rd.done hf hj hr hb)
  have HHAS : Hid (∀ q k, (N.q.came 1)[q]? = some k → N.has k = true) := Lib.hid (fun q k hk => (Nl.has_parts hf hj k).2 (.inr (List.mem_of_getElem? hk)))
  have hask := hf.asked
  have n1 : (N.asked : Int) ≤ 64000000 := by omega
  have n0 : (0 : Int) ≤ (N.asked : Int) := by omega
  have HT : Hid (1 ≤ hd t ∧ hd t ≤ 4096) := Lib.hid ⟨t1, t2⟩
  have HCN := Lib.hid hcn
  obtain ⟨n, hn⟩ : ∃ n, n = (N.q.came 1).length := ⟨_, rfl⟩
  have HNN := Lib.hid hn
  have n3 : (n : Int) ≤ 64 := by omega
  rw [← hn] at HST HDONE
  have HRES : Hid (∀ e w', NTick w b s m A (N.tick t) (N.q.came 1) e w' → NTick w b s m A (N.tick t) (N.q.came 1) e w') := Lib.hid (fun _ _ h => h)
  unfold TickTo at CT
  rw [← hn] at CT
  clear h hf hmid hroom hln hcn hask t1 t2 hn
  generalize hR : NTick w b s m A (N.tick t) (N.q.came 1) = R at *
  have HR := Lib.hid hR
  clear hR
  generalize hAS : (N.asked : Int) = ak at *
  clear hAS
  go_enter Try.func26, Try.ntmps26
  go_wp2_with (first
    | (go_at_call 63; (with_reducible refine (CT.out).mono ?_); rintro e w1 ⟨A3, C3, rfl, HO1, HQ1⟩; obtain ⟨A1, C1, hr1⟩ := HST.out A3 C3 w1 HO1.out HQ1.out; have HR1 := Lib.hid hr1; clear c0 c1 c2 c3 hr1)
    | fail)
  go_loopw [15] (fun i wr => ∃ (q : Nat) (M : Nl) (A' : Option Addr) (C' : Nat), q ≤ n ∧ i = .int .i64 (q : Int) ∧ Hid (Rd w b s m A N t j q M A' C' A3 C3 wr)) (fun i _ => n - (intOf i).toNat)
  case atStart => exact ⟨0, _, A1, C1, Nat.zero_le _, rfl, HR1⟩
  case round =>
    obtain ⟨q, M, A', C', hq, rfl, HRD⟩ := hrel
    by_cases hlt : q < n
    · obtain ⟨k, hk⟩ : ∃ k, (N.q.came 1)[q]? = some k := ⟨_, List.getElem?_eq_getElem (by have := HNN.out; omega)⟩
      have hr := HRD.out
      have hmd := hr.mid
      rw [drop_cons hk] at hmd
      obtain ⟨_, _, hcode⟩ := hmd.next HT.out.1 HT.out.2
      have HK : Hid (0 ≤ k ∧ k ≤ 4294967295) := Lib.hid (hmd.key k (List.mem_cons_self ..))
      have HH := Lib.hid (HHAS.out q k hk)
      have htk := hmd.fit.tries k
      obtain ⟨tk, htk2⟩ : ∃ tk, tk = M.t k := ⟨_, rfl⟩
      obtain ⟨nn, hnn⟩ : ∃ nn, nn = min (M.t k + 1) 5 := ⟨_, rfl⟩
      have hnn5 : nn ≤ 5 := by omega
      obtain ⟨g, eA, _, hgl, cd, _⟩ := hr.due.at_ q (by have := HNN.out; omega)
      have ek : (N.q.came 1).getD q 0 = k := by rw [List.getD_eq_getElem?_getD, hk]; rfl
      rw [ek] at cd
      subst eA
      obtain ⟨c0, c1, _, _⟩ := hr.nb.blk.cells
      have HWR : Hid (∀ w', Below wr.heap.size wr w' → w'.cell? ⟨b, 1, none⟩ = some (.map (some m)) ∧ (Instr.lookup 127 (.map (some m)) (.int .u32 k) false).run Try.prog w' = .ok (.int .i64 (tk : Int)) w') := Lib.hid (fun w' hb => by
        have h' := hr.nb.below hb (Nat.le_refl _)
        refine ⟨h'.blk.cells.2.1, ?_⟩
        rw [htk2]
        exact h'.map.look HK.out HH.out)
      have HMAP : Hid (∀ w', Below wr.heap.size wr w' → TMap w' m N.q.l.length N.has M.t) := Lib.hid (fun w' hb => (hr.nb.below hb (Nat.le_refl _)).map)
      have HMK : Hid (∀ w1 w2, Below wr.heap.size wr w1 → TMap w2 m (if N.has k = true then N.q.l.length else N.q.l.length + 1) (fun y => N.has y || decide (y = k)) (put M.t k nn) → w1.grownBy w2 (some m) →
          NB w2 b s m A' C' M.q N.asked N.full N.q.l.length N.has (put M.t k nn) ∧ NFr b s m (A.map Addr.block) w w2 ∧ OwnW w2 w.heap.size (.slice (some ⟨g, 0, none⟩) n C3) n (N.q.came 1)) := Lib.hid (fun w1 w2 hb hm hg => by
        rw [hnn] at hm ⊢
        have hr2 := hr
        exact HNN.out ▸ hr2.marked hk HH.out hb hm hg)
      have HSTT : Hid (∀ w2 w3, NB w2 b s m A' C' M.q N.asked N.full N.q.l.length N.has (put M.t k nn) → NFr b s m (A.map Addr.block) w w2 → OwnW w2 w.heap.size (.slice (some ⟨g, 0, none⟩) n C3) n (N.q.came 1) → Below w2.heap.size w2 w3 →
          Calls Try.prog 61 #[.pointer (some ⟨s, 0, none⟩), .int .u32 k, .int .i64 (agn (hd t) nn)] w3 fun e w4 => e = .returned (.int .i64 0) ∧ Hid (∃ A4 C4, Rd w b s m A N t j (q + 1) (Nl.one (hd t) M k) A4 C4 (some ⟨g, 0, none⟩) C3 w4)) := Lib.hid (fun w2 w3 h1 h2 h3 hb => by
        have hs := (h1.below hb (Nat.le_refl _)).set
        have cs := start_any k (agn (hd t) nn) s M.q A' C' hmd.fit.q w3 hs
        rw [hnn] at cs h1 ⊢
        refine cs.mono ?_
        rintro e w4 ⟨rfl, hqt⟩
        have hNN := HNN.out
        subst hNN
        exact ⟨by rw [hcode], Lib.hid (hr.started hk h1 h2 h3 hb hqt.out)⟩)
      have HAG : Hid (∀ w', Calls Try.prog 64 #[.int .i64 (hd t), .int .i64 (nn : Int)] w' fun e w1 => e = .returned (.int .i64 (agn (hd t) nn)) ∧ w1 = w') := Lib.hid (fun w' => again_any (hd t) nn HT.out.1 HT.out.2 hnn5 w')
      have HHD : Hid (∀ w', Calls Try.prog 62 #[.int .i64 t] w' fun e w1 => e = .returned (.int .i64 (hd t)) ∧ w1 = w') := Lib.hid (held_any t)
      have HPUT : Hid (put M.t k nn k = nn) := Lib.hid (put_same _ _ _)
      have HHK := Lib.hid HH.out
      have HN5 := Lib.hid hnn5
      have HNB := Lib.hid HCN.out
      have HMIN : Hid ((if (5 : Int) < (tk : Int) + 1 then (5 : Int) else (tk : Int) + 1) = (nn : Int)) := Lib.hid (by split <;> omega)
      have HW1 : Hid (IntKind.i64.wrap ((tk : Int) + 1) = (tk : Int) + 1) := Lib.hid (by rw [IntKind.wrap_i64]; omega)
      have k1 : (q : Int) < (n : Int) := by omega
      have tk5 : (tk : Int) ≤ 5 := by omega
      have tk0 : (0 : Int) ≤ (tk : Int) := by omega
      have HLT := Lib.hid hlt
      clear hr hmd hcode htk htk2 hnn hnn5 ek hk hlt hgl
      generalize agn (hd t) nn = zz at *
      generalize hd t = ht at *
      go_upto_region 5 with fail
      refine (wpIn_wide (n := 3)).1 ?_
      refine wpIn_grow_take (fun w' => Below wr.heap.size wr w') (Below.refl _ _).drew 13 rfl (by kernel_rfl) (by kernel_rfl) (by kernel_rfl) ?_
      simp only [List.take_succ_cons, List.take_zero]
      iterate 3 (refine wpQuietIn_step (fun _ _ _ _ => trivial) (fun K hK => ?_); go_simp; refine ⟨_, fun _ _ => rfl, hK _ ?_⟩; clear hK K)
      refine wpQ_readw (.map (some m)) (fun _ _ _ _ => trivial) rfl (fun w' hw => ?_) ?_
      · have d1 := (HWR.out w' hw).1
        unfold Oper.quietAtIn
        go_simp
      simp only [Act.put, List.setIfInBounds_toArray, List.set_cons_zero, List.set_cons_succ]
      iterate 4 (refine wpQuietIn_step (fun _ _ _ _ => trivial) (fun K hK => ?_); go_simp; refine ⟨_, fun _ _ => rfl, hK _ ?_⟩; clear hK K)
      refine wpQ_readw (.map (some m)) (fun _ _ _ _ => trivial) rfl (fun w' hw => ?_) ?_
      · have d1 := (HWR.out w' hw).1
        unfold Oper.quietAtIn
        go_simp
      simp only [Act.put, List.setIfInBounds_toArray, List.set_cons_zero, List.set_cons_succ]
      (refine wpQuietIn_step (fun _ _ _ _ => trivial) (fun K hK => ?_); go_simp; refine ⟨_, fun _ _ => rfl, hK _ ?_⟩; clear hK K)
      refine wpQ_readw (.int .i64 (tk : Int)) (fun _ _ _ _ => trivial) rfl (fun w' hw => ?_) ?_
      · have d2 := (HWR.out w' hw).2
        unfold Oper.quietAtIn
        go_simp
      simp only [Act.put, List.setIfInBounds_toArray, List.set_cons_zero, List.set_cons_succ]
      (refine wpQuietIn_step (fun _ _ _ _ => trivial) (fun K hK => ?_); go_simp; refine ⟨_, fun _ _ => rfl, hK _ ?_⟩; clear hK K)
      refine wpQ_readw (.int .i64 (nn : Int)) (fun _ _ _ _ => trivial) rfl (fun w' hw => ?_) ?_
      · have e1 := HMIN.out
        have e2 := HW1.out
        unfold Oper.quietAtIn
        go_simp
      simp only [Act.put, List.setIfInBounds_toArray, List.set_cons_zero, List.set_cons_succ]
      refine wpQuietIn_nil ?_
      rintro w3 hw3
      have HM3 := Lib.hid (HMAP.out w3 hw3)
      have HMK3 := Lib.hid (fun w2 => HMK.out w3 w2 hw3)
      clear hw3
      refine wpListIn_tput rfl (.tmp 22) (.tmp 23) (.tmp 31) rfl m N.q.l.length N.has M.t rfl HM3.out (by have := HNB.out; omega) k HK.out rfl nn HN5.out rfl ?_
      intro w5 HM5 HG5
      obtain ⟨hb5, hfr5, ho5⟩ := HMK3.out w5 HM5.out HG5.out
      obtain ⟨e0, e1, _, _⟩ := hb5.blk.cells
      have HW5 : Hid (∀ w', Below w5.heap.size w5 w' → w'.cell? ⟨b, 0, none⟩ = some (.pointer (some ⟨s, 0, none⟩)) ∧ w'.cell? ⟨b, 1, none⟩ = some (.map (some m)) ∧ (Instr.lookup 127 (.map (some m)) (.int .u32 k) false).run Try.prog w' = .ok (.int .i64 (nn : Int)) w') := Lib.hid (fun w' hb => by
        have h' := hb5.below hb (Nat.le_refl _)
        refine ⟨h'.blk.cells.1, h'.blk.cells.2.1, ?_⟩
        have := h'.map.look HK.out HHK.out
        rwa [HPUT.out] at this)
      have CST : Hid (∀ w', Below w5.heap.size w5 w' → Calls Try.prog 61 #[.pointer (some ⟨s, 0, none⟩), .int .u32 k, .int .i64 zz] w' fun e w4 => e = .returned (.int .i64 0) ∧ Hid (∃ A4 C4, Rd w b s m A N t j (q + 1) (Nl.one ht M k) A4 C4 (some ⟨g, 0, none⟩) C3 w4)) := Lib.hid (fun w' hb => HSTT.out w5 w' hb5 hfr5 ho5 hb)
      have HAG5 : Hid (∀ w', Below w5.heap.size w5 w' → Calls Try.prog 64 #[.int .i64 ht, .int .i64 (nn : Int)] w' fun e w1 => e = .returned (.int .i64 zz) ∧ Below w5.heap.size w5 w1) := Lib.hid (fun w' hb => (HAG.out w').mono fun _ _ hh => ⟨hh.1, by rw [hh.2]; exact hb⟩)
      have HHD5 : Hid (∀ w', Below w5.heap.size w5 w' → Calls Try.prog 62 #[.int .i64 t] w' fun e w1 => e = .returned (.int .i64 ht) ∧ Below w5.heap.size w5 w1) := Lib.hid (fun w' hb => (HHD.out w').mono fun _ _ hh => ⟨hh.1, by rw [hh.2]; exact hb⟩)
      clear hb5 hfr5 ho5 c0 c1 cd HSTT HMK3 HMK HM3 HM5 HG5 HMIN HW1 HWR HMAP
      gi_wp2
      go_upto_region 6 with fail
      refine (wpIn_wide (n := 3)).1 ?_
      refine wpIn_grow_take (fun w' => Below w5.heap.size w5 w') (Below.refl _ _).drew 14 rfl (by kernel_rfl) (by kernel_rfl) (by kernel_rfl) ?_
      simp only [List.take_succ_cons, List.take_zero]
      iterate 3 (refine wpQuietIn_step (fun _ _ _ _ => trivial) (fun K hK => ?_); go_simp; refine ⟨_, fun _ _ => rfl, hK _ ?_⟩; clear hK K)
      refine wpQ_readw (.pointer (some ⟨s, 0, none⟩)) (fun _ _ _ _ => trivial) rfl (fun w' hw => ?_) ?_
      · have d1 := (HW5.out w' hw).1
        unfold Oper.quietAtIn
        go_simp
      simp only [Act.put, List.setIfInBounds_toArray, List.set_cons_zero, List.set_cons_succ]
      iterate 2 (refine wpQuietIn_step (fun _ _ _ _ => trivial) (fun K hK => ?_); go_simp; refine ⟨_, fun _ _ => rfl, hK _ ?_⟩; clear hK K)
      refine wpQuietIn_step (fun _ _ _ _ => trivial) (fun K hK => ?_)
      go_simp
      refine ⟨.int .i64 ht, fun w' hw => callsIn_wide.2 (HHD5.out w' hw), hK _ ?_⟩
      clear hK K
      iterate 3 (refine wpQuietIn_step (fun _ _ _ _ => trivial) (fun K hK => ?_); go_simp; refine ⟨_, fun _ _ => rfl, hK _ ?_⟩; clear hK K)
      refine wpQ_readw (.map (some m)) (fun _ _ _ _ => trivial) rfl (fun w' hw => ?_) ?_
      · have d1 := (HW5.out w' hw).2.1
        unfold Oper.quietAtIn
        go_simp
      simp only [Act.put, List.setIfInBounds_toArray, List.set_cons_zero, List.set_cons_succ]
      (refine wpQuietIn_step (fun _ _ _ _ => trivial) (fun K hK => ?_); go_simp; refine ⟨_, fun _ _ => rfl, hK _ ?_⟩; clear hK K)
      refine wpQ_readw (.int .i64 (nn : Int)) (fun _ _ _ _ => trivial) rfl (fun w' hw => ?_) ?_
      · have d2 := (HW5.out w' hw).2.2
        unfold Oper.quietAtIn
        go_simp
      simp only [Act.put, List.setIfInBounds_toArray, List.set_cons_zero, List.set_cons_succ]
      refine wpQuietIn_step (fun _ _ _ _ => trivial) (fun K hK => ?_)
      go_simp
      refine ⟨.int .i64 zz, fun w' hw => callsIn_wide.2 (HAG5.out w' hw), hK _ ?_⟩
      clear hK K
      refine wpQuietIn_nil ?_
      rintro w6 hw6
      have CS6 := Lib.hid (CST.out w6 hw6)
      clear hw6
      gi_wp2
      refine ⟨trivial, callsIn_wide.2 ((CS6.out).mono ?_)⟩
      rintro e w7 ⟨rfl, H7⟩
      gi_wp2
      obtain ⟨A4, C4, hr7⟩ := H7.out
      have HR7 := Lib.hid hr7
      clear hr7
      go_wp2
      go_roundw
      case rel => exact ⟨q + 1, _, A4, C4, HLT.out, by go_num, HR7⟩
      case measure => simp [intOf] <;> (have := HLT.out; omega)
    · obtain rfl : q = n := by omega
      have HDN := Lib.hid (fun w1 => HDONE.out (w1 := w1) HRD.out)
      have hd0 := HDN.out wr (Below.refl _ _)
      obtain ⟨d1, d2, d3⟩ := hd0
      have HD3 := Lib.hid d3
      have m1 : ak + (q : Int) ≤ 65000000 := by omega
      clear d3
      go_wp2
      exact HD3.out
end Go.Proofs.Ytnffngbkidehfaa.Nk
